/-
  NARROWER THAN 'FOR EVERY INPUT', by the rows' own cells (each row's printed sentence says how): FnExactPrintValue: loops · FnExactEncodedLength: loops · FnExactIsValidValue: loops.
  DERIVED. THE GIVEN ROWS OF THIS SEAT. 9 by the template 'for every input the law returns true; each argument reads behind the call as it read before'; 0 by the template 'total and deterministic' (their statements: YtfmnjclnhppghaaTotals.lean).
  GIVEN WITH THE SEED: the statements are not yours to turn. If you find one false, say at which input.
  Laid BY PROGRAM, IN A SANDBOX (cutbox-rows.mjs): the forced cells as the released guide's own fill.sh prints them over the translation 999bfc9dc6150ec3… (all of the seat's roots in one cut). By AI agents, Wed Nov 11 2026. No macro, syntax, notation, axiom, sorry.
-/
import Derived.Test.YtfmnjclnhppghaaChecked
import GoSem.Claim
import GoSem.ClaimJoined
import GoSem.ClaimMapViews
import Derived.JoinedTies
import Derived.KernelRfl
namespace Go.Proofs.Ytfmnjclnhppghaa
/- THE CELL 'sum', in the pinned program and in every row, IS THE sha256 OF THE DUMP (.gsa) THAT YtfmnjclnhppghaaProg.lean LOADS. Nothing in Lean hashes anything: it is a label: what it is worth is what the hold of that sum in a sandbox is worth. -/
noncomputable def Try.pinned : Pinned := { name := "ytfmnjclnhppghaa", sum := "999bfc9dc6150ec39d43964d53ec3e6f316b5d083092ae28ea6765c24ae75964", checked := Try.checked }
namespace Rows
def none {H : Type} : Left H := { results := [], args := [] }

/-- 'laws.FnExactPrintValue': WHATEVER THE INPUT: true; the input reads as it did. -/
def fnExactPrintValueSpec : ChangeSpec := { name := "fnExactPrintValue", fn := fun _ => fun
  | [d1, d2, d3] => { results := [.lit (.bool true)], args := [d1, d2, d3] }
  | _ => none }
def fnExactPrintValueRow : OpenClaim := { program := "ytfmnjclnhppghaa", sum := "999bfc9dc6150ec39d43964d53ec3e6f316b5d083092ae28ea6765c24ae75964", func := "loop.example/g00518/laws.FnExactPrintValue", spec := "fnExactPrintValue", unfollowed := true, recurses := true, loops := true, apart := false }
def FnExactPrintValueSaid : Prop := fnExactPrintValueRow.holds Try.pinned (OpenSpec.ofChange fnExactPrintValueSpec)

/-- ITS FALSE NEIGHBOUR: 'it returns false'. Refute it at one input. -/
def fnExactPrintValueWrong : ChangeSpec := { name := "fnExactPrintValue", fn := fun _ => fun
  | [d1, d2, d3] => { results := [.lit (.bool false)], args := [d1, d2, d3] }
  | _ => none }
def FnExactPrintValueWrongFalsely : Prop := fnExactPrintValueRow.holds Try.pinned (OpenSpec.ofChange fnExactPrintValueWrong)

/-- 'laws.FnExactEncodedLength': WHATEVER THE INPUT: true; the input reads as it did. -/
def fnExactEncodedLengthSpec : ChangeSpec := { name := "fnExactEncodedLength", fn := fun _ => fun
  | [d1, d2, d3] => { results := [.lit (.bool true)], args := [d1, d2, d3] }
  | _ => none }
def fnExactEncodedLengthRow : OpenClaim := { program := "ytfmnjclnhppghaa", sum := "999bfc9dc6150ec39d43964d53ec3e6f316b5d083092ae28ea6765c24ae75964", func := "loop.example/g00518/laws.FnExactEncodedLength", spec := "fnExactEncodedLength", unfollowed := true, recurses := true, loops := true, apart := false }
def FnExactEncodedLengthSaid : Prop := fnExactEncodedLengthRow.holds Try.pinned (OpenSpec.ofChange fnExactEncodedLengthSpec)

/-- ITS FALSE NEIGHBOUR: 'it returns false'. Refute it at one input. -/
def fnExactEncodedLengthWrong : ChangeSpec := { name := "fnExactEncodedLength", fn := fun _ => fun
  | [d1, d2, d3] => { results := [.lit (.bool false)], args := [d1, d2, d3] }
  | _ => none }
def FnExactEncodedLengthWrongFalsely : Prop := fnExactEncodedLengthRow.holds Try.pinned (OpenSpec.ofChange fnExactEncodedLengthWrong)

/-- 'laws.FnExactEscapeBytes': WHATEVER THE INPUT: true; the input reads as it did. -/
def fnExactEscapeBytesSpec : ChangeSpec := { name := "fnExactEscapeBytes", fn := fun _ => fun
  | [d1, d2] => { results := [.lit (.bool true)], args := [d1, d2] }
  | _ => none }
def fnExactEscapeBytesRow : OpenClaim := { program := "ytfmnjclnhppghaa", sum := "999bfc9dc6150ec39d43964d53ec3e6f316b5d083092ae28ea6765c24ae75964", func := "loop.example/g00518/laws.FnExactEscapeBytes", spec := "fnExactEscapeBytes", apart := false }
def FnExactEscapeBytesSaid : Prop := fnExactEscapeBytesRow.holds Try.pinned (OpenSpec.ofChange fnExactEscapeBytesSpec)

/-- ITS FALSE NEIGHBOUR: 'it returns false'. Refute it at one input. -/
def fnExactEscapeBytesWrong : ChangeSpec := { name := "fnExactEscapeBytes", fn := fun _ => fun
  | [d1, d2] => { results := [.lit (.bool false)], args := [d1, d2] }
  | _ => none }
def FnExactEscapeBytesWrongFalsely : Prop := fnExactEscapeBytesRow.holds Try.pinned (OpenSpec.ofChange fnExactEscapeBytesWrong)

/-- 'laws.FnExactPrintInteger': WHATEVER THE INPUT: true; the input reads as it did. -/
def fnExactPrintIntegerSpec : ChangeSpec := { name := "fnExactPrintInteger", fn := fun _ => fun
  | [d1, d2, d3] => { results := [.lit (.bool true)], args := [d1, d2, d3] }
  | _ => none }
def fnExactPrintIntegerRow : OpenClaim := { program := "ytfmnjclnhppghaa", sum := "999bfc9dc6150ec39d43964d53ec3e6f316b5d083092ae28ea6765c24ae75964", func := "loop.example/g00518/laws.FnExactPrintInteger", spec := "fnExactPrintInteger", apart := false }
def FnExactPrintIntegerSaid : Prop := fnExactPrintIntegerRow.holds Try.pinned (OpenSpec.ofChange fnExactPrintIntegerSpec)

/-- ITS FALSE NEIGHBOUR: 'it returns false'. Refute it at one input. -/
def fnExactPrintIntegerWrong : ChangeSpec := { name := "fnExactPrintInteger", fn := fun _ => fun
  | [d1, d2, d3] => { results := [.lit (.bool false)], args := [d1, d2, d3] }
  | _ => none }
def FnExactPrintIntegerWrongFalsely : Prop := fnExactPrintIntegerRow.holds Try.pinned (OpenSpec.ofChange fnExactPrintIntegerWrong)

/-- 'laws.FnValues': WHATEVER THE INPUT: true; the input reads as it did. -/
def fnValuesSpec : ChangeSpec := { name := "fnValues", fn := fun _ => fun
  | [d] => { results := [.lit (.bool true)], args := [d] }
  | _ => none }
def fnValuesRow : OpenClaim := { program := "ytfmnjclnhppghaa", sum := "999bfc9dc6150ec39d43964d53ec3e6f316b5d083092ae28ea6765c24ae75964", func := "loop.example/g00518/laws.FnValues", spec := "fnValues", unfollowed := true, recurses := true, apart := false }
def FnValuesSaid : Prop := fnValuesRow.holds Try.pinned (OpenSpec.ofChange fnValuesSpec)

/-- ITS FALSE NEIGHBOUR: 'it returns false'. Refute it at one input. -/
def fnValuesWrong : ChangeSpec := { name := "fnValues", fn := fun _ => fun
  | [d] => { results := [.lit (.bool false)], args := [d] }
  | _ => none }
def FnValuesWrongFalsely : Prop := fnValuesRow.holds Try.pinned (OpenSpec.ofChange fnValuesWrong)

/-- 'laws.FnExactIsValidValue': WHATEVER THE INPUT: true; the input reads as it did. -/
def fnExactIsValidValueSpec : ChangeSpec := { name := "fnExactIsValidValue", fn := fun _ => fun
  | [d1, d2, d3] => { results := [.lit (.bool true)], args := [d1, d2, d3] }
  | _ => none }
def fnExactIsValidValueRow : OpenClaim := { program := "ytfmnjclnhppghaa", sum := "999bfc9dc6150ec39d43964d53ec3e6f316b5d083092ae28ea6765c24ae75964", func := "loop.example/g00518/laws.FnExactIsValidValue", spec := "fnExactIsValidValue", unfollowed := true, recurses := true, loops := true, apart := false }
def FnExactIsValidValueSaid : Prop := fnExactIsValidValueRow.holds Try.pinned (OpenSpec.ofChange fnExactIsValidValueSpec)

/-- ITS FALSE NEIGHBOUR: 'it returns false'. Refute it at one input. -/
def fnExactIsValidValueWrong : ChangeSpec := { name := "fnExactIsValidValue", fn := fun _ => fun
  | [d1, d2, d3] => { results := [.lit (.bool false)], args := [d1, d2, d3] }
  | _ => none }
def FnExactIsValidValueWrongFalsely : Prop := fnExactIsValidValueRow.holds Try.pinned (OpenSpec.ofChange fnExactIsValidValueWrong)

/-- 'laws.FnSizes': WHATEVER THE INPUT: true; the input reads as it did. -/
def fnSizesSpec : ChangeSpec := { name := "fnSizes", fn := fun _ => fun
  | [d] => { results := [.lit (.bool true)], args := [d] }
  | _ => none }
def fnSizesRow : OpenClaim := { program := "ytfmnjclnhppghaa", sum := "999bfc9dc6150ec39d43964d53ec3e6f316b5d083092ae28ea6765c24ae75964", func := "loop.example/g00518/laws.FnSizes", spec := "fnSizes", unfollowed := true, recurses := true, apart := false }
def FnSizesSaid : Prop := fnSizesRow.holds Try.pinned (OpenSpec.ofChange fnSizesSpec)

/-- ITS FALSE NEIGHBOUR: 'it returns false'. Refute it at one input. -/
def fnSizesWrong : ChangeSpec := { name := "fnSizes", fn := fun _ => fun
  | [d] => { results := [.lit (.bool false)], args := [d] }
  | _ => none }
def FnSizesWrongFalsely : Prop := fnSizesRow.holds Try.pinned (OpenSpec.ofChange fnSizesWrong)

/-- 'laws.FnExactMinSize': WHATEVER THE INPUT: true; the input reads as it did. -/
def fnExactMinSizeSpec : ChangeSpec := { name := "fnExactMinSize", fn := fun _ => fun
  | [d1, d2] => { results := [.lit (.bool true)], args := [d1, d2] }
  | _ => none }
def fnExactMinSizeRow : OpenClaim := { program := "ytfmnjclnhppghaa", sum := "999bfc9dc6150ec39d43964d53ec3e6f316b5d083092ae28ea6765c24ae75964", func := "loop.example/g00518/laws.FnExactMinSize", spec := "fnExactMinSize", unfollowed := true, recurses := true, apart := false }
def FnExactMinSizeSaid : Prop := fnExactMinSizeRow.holds Try.pinned (OpenSpec.ofChange fnExactMinSizeSpec)

/-- ITS FALSE NEIGHBOUR: 'it returns false'. Refute it at one input. -/
def fnExactMinSizeWrong : ChangeSpec := { name := "fnExactMinSize", fn := fun _ => fun
  | [d1, d2] => { results := [.lit (.bool false)], args := [d1, d2] }
  | _ => none }
def FnExactMinSizeWrongFalsely : Prop := fnExactMinSizeRow.holds Try.pinned (OpenSpec.ofChange fnExactMinSizeWrong)

/-- 'laws.FnExactIsFixedSize': WHATEVER THE INPUT: true; the input reads as it did. -/
def fnExactIsFixedSizeSpec : ChangeSpec := { name := "fnExactIsFixedSize", fn := fun _ => fun
  | [d1, d2] => { results := [.lit (.bool true)], args := [d1, d2] }
  | _ => none }
def fnExactIsFixedSizeRow : OpenClaim := { program := "ytfmnjclnhppghaa", sum := "999bfc9dc6150ec39d43964d53ec3e6f316b5d083092ae28ea6765c24ae75964", func := "loop.example/g00518/laws.FnExactIsFixedSize", spec := "fnExactIsFixedSize", unfollowed := true, recurses := true, apart := false }
def FnExactIsFixedSizeSaid : Prop := fnExactIsFixedSizeRow.holds Try.pinned (OpenSpec.ofChange fnExactIsFixedSizeSpec)

/-- ITS FALSE NEIGHBOUR: 'it returns false'. Refute it at one input. -/
def fnExactIsFixedSizeWrong : ChangeSpec := { name := "fnExactIsFixedSize", fn := fun _ => fun
  | [d1, d2] => { results := [.lit (.bool false)], args := [d1, d2] }
  | _ => none }
def FnExactIsFixedSizeWrongFalsely : Prop := fnExactIsFixedSizeRow.holds Try.pinned (OpenSpec.ofChange fnExactIsFixedSizeWrong)

/- THE SECOND FORM. 'bulk': how many values and letters a reading holds, each counted each time it is reached (what is shared counts as often as it is met; a slice's spare places count too). A statement '..UptoSaid' is the law's where the arguments, and the package variables that the reading takes, are together of bulk at most 1048576: NARROWER than '..Said'. Prove '..Said' where nothing that the law and all that it calls make is longer than what came in: it says more and counts as full. Else prove '..UptoSaid'. A law counts once. -/
mutual
def uptoBulk {H : Type} : DataW H → Nat
  | .lit (.string bytes) => bytes.length + 1
  | .lit _ => 1
  | .nil => 1
  | .ptr d => uptoBulk d + 1
  | .slice elems spare => uptoBulkAll elems + uptoBulkAll spare + 1
  | .agg parts => uptoBulkAll parts + 1
  | .iface _ d => uptoBulk d + 1
  | .map entries => uptoBulkEntries entries + 1
  | .held _ => 1
def uptoBulkAll {H : Type} : List (DataW H) → Nat
  | [] => 0
  | d :: r => uptoBulk d + uptoBulkAll r
def uptoBulkEntries {H : Type} : List (Lit × DataW H) → Nat
  | [] => 0
  | x :: r => uptoBulkEntry x + uptoBulkEntries r
def uptoBulkEntry {H : Type} : Lit × DataW H → Nat
  | (.string bytes, d) => bytes.length + uptoBulk d + 1
  | (_, d) => uptoBulk d + 1
 end
def uptoSmall : (H : Type) → List (DataW H) → Bool := fun _ ds => decide (uptoBulkAll ds ≤ 1048576)
def OpenSpec.upto (s : _root_.Go.ChangeSpec) : _root_.Go.OpenSpec := { _root_.Go.OpenSpec.ofChange s with cond := some uptoSmall }

/-- 'laws.FnExactPrintValue', WHERE WHAT IT READS IS OF BULK AT MOST 1048576: true; the input reads as it did. -/
def fnExactPrintValueUptoRow : OpenClaim := { program := "ytfmnjclnhppghaa", sum := "999bfc9dc6150ec39d43964d53ec3e6f316b5d083092ae28ea6765c24ae75964", func := "loop.example/g00518/laws.FnExactPrintValue", spec := "fnExactPrintValue", unfollowed := true, recurses := true, loops := true, apart := false, narrowed := true }
def FnExactPrintValueUptoSaid : Prop := fnExactPrintValueUptoRow.holds Try.pinned (OpenSpec.upto fnExactPrintValueSpec)

/-- 'laws.FnExactEncodedLength', WHERE WHAT IT READS IS OF BULK AT MOST 1048576: true; the input reads as it did. -/
def fnExactEncodedLengthUptoRow : OpenClaim := { program := "ytfmnjclnhppghaa", sum := "999bfc9dc6150ec39d43964d53ec3e6f316b5d083092ae28ea6765c24ae75964", func := "loop.example/g00518/laws.FnExactEncodedLength", spec := "fnExactEncodedLength", unfollowed := true, recurses := true, loops := true, apart := false, narrowed := true }
def FnExactEncodedLengthUptoSaid : Prop := fnExactEncodedLengthUptoRow.holds Try.pinned (OpenSpec.upto fnExactEncodedLengthSpec)

/-- 'laws.FnExactEscapeBytes', WHERE WHAT IT READS IS OF BULK AT MOST 1048576: true; the input reads as it did. -/
def fnExactEscapeBytesUptoRow : OpenClaim := { program := "ytfmnjclnhppghaa", sum := "999bfc9dc6150ec39d43964d53ec3e6f316b5d083092ae28ea6765c24ae75964", func := "loop.example/g00518/laws.FnExactEscapeBytes", spec := "fnExactEscapeBytes", apart := false, narrowed := true }
def FnExactEscapeBytesUptoSaid : Prop := fnExactEscapeBytesUptoRow.holds Try.pinned (OpenSpec.upto fnExactEscapeBytesSpec)

/-- 'laws.FnExactPrintInteger', WHERE WHAT IT READS IS OF BULK AT MOST 1048576: true; the input reads as it did. -/
def fnExactPrintIntegerUptoRow : OpenClaim := { program := "ytfmnjclnhppghaa", sum := "999bfc9dc6150ec39d43964d53ec3e6f316b5d083092ae28ea6765c24ae75964", func := "loop.example/g00518/laws.FnExactPrintInteger", spec := "fnExactPrintInteger", apart := false, narrowed := true }
def FnExactPrintIntegerUptoSaid : Prop := fnExactPrintIntegerUptoRow.holds Try.pinned (OpenSpec.upto fnExactPrintIntegerSpec)

/-- 'laws.FnValues', WHERE WHAT IT READS IS OF BULK AT MOST 1048576: true; the input reads as it did. -/
def fnValuesUptoRow : OpenClaim := { program := "ytfmnjclnhppghaa", sum := "999bfc9dc6150ec39d43964d53ec3e6f316b5d083092ae28ea6765c24ae75964", func := "loop.example/g00518/laws.FnValues", spec := "fnValues", unfollowed := true, recurses := true, apart := false, narrowed := true }
def FnValuesUptoSaid : Prop := fnValuesUptoRow.holds Try.pinned (OpenSpec.upto fnValuesSpec)

/-- 'laws.FnExactIsValidValue', WHERE WHAT IT READS IS OF BULK AT MOST 1048576: true; the input reads as it did. -/
def fnExactIsValidValueUptoRow : OpenClaim := { program := "ytfmnjclnhppghaa", sum := "999bfc9dc6150ec39d43964d53ec3e6f316b5d083092ae28ea6765c24ae75964", func := "loop.example/g00518/laws.FnExactIsValidValue", spec := "fnExactIsValidValue", unfollowed := true, recurses := true, loops := true, apart := false, narrowed := true }
def FnExactIsValidValueUptoSaid : Prop := fnExactIsValidValueUptoRow.holds Try.pinned (OpenSpec.upto fnExactIsValidValueSpec)

/-- 'laws.FnSizes', WHERE WHAT IT READS IS OF BULK AT MOST 1048576: true; the input reads as it did. -/
def fnSizesUptoRow : OpenClaim := { program := "ytfmnjclnhppghaa", sum := "999bfc9dc6150ec39d43964d53ec3e6f316b5d083092ae28ea6765c24ae75964", func := "loop.example/g00518/laws.FnSizes", spec := "fnSizes", unfollowed := true, recurses := true, apart := false, narrowed := true }
def FnSizesUptoSaid : Prop := fnSizesUptoRow.holds Try.pinned (OpenSpec.upto fnSizesSpec)

/-- 'laws.FnExactMinSize', WHERE WHAT IT READS IS OF BULK AT MOST 1048576: true; the input reads as it did. -/
def fnExactMinSizeUptoRow : OpenClaim := { program := "ytfmnjclnhppghaa", sum := "999bfc9dc6150ec39d43964d53ec3e6f316b5d083092ae28ea6765c24ae75964", func := "loop.example/g00518/laws.FnExactMinSize", spec := "fnExactMinSize", unfollowed := true, recurses := true, apart := false, narrowed := true }
def FnExactMinSizeUptoSaid : Prop := fnExactMinSizeUptoRow.holds Try.pinned (OpenSpec.upto fnExactMinSizeSpec)

/-- 'laws.FnExactIsFixedSize', WHERE WHAT IT READS IS OF BULK AT MOST 1048576: true; the input reads as it did. -/
def fnExactIsFixedSizeUptoRow : OpenClaim := { program := "ytfmnjclnhppghaa", sum := "999bfc9dc6150ec39d43964d53ec3e6f316b5d083092ae28ea6765c24ae75964", func := "loop.example/g00518/laws.FnExactIsFixedSize", spec := "fnExactIsFixedSize", unfollowed := true, recurses := true, apart := false, narrowed := true }
def FnExactIsFixedSizeUptoSaid : Prop := fnExactIsFixedSizeUptoRow.holds Try.pinned (OpenSpec.upto fnExactIsFixedSizeSpec)

end Rows
end Go.Proofs.Ytfmnjclnhppghaa
