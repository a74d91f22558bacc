/-
  NARROWER THAN 'FOR EVERY INPUT', by the rows' own cells (each row's printed sentence says how): FnExactIsValidValue: loops · FnExactCountParts: loops · FnExactItemRule: loops · FnExactCopyValue: loops · FnExactEqualValues: loops · FnExactTotalBytes: loops.
  DERIVED. THE GIVEN ROWS OF THIS SEAT. 8 by the template 'for every input the law returns true; each argument reads behind the call as it read before'; 0 by the template 'total and deterministic' (their statements: YtdbpjaeekhgfgaaTotals.lean).
  GIVEN WITH THE SEED: the statements are not yours to turn. If you find one false, say at which input.
  Laid BY PROGRAM, IN A SANDBOX (cutbox-rows.mjs): the forced cells as the released guide's own fill.sh prints them over the translation 373eb5a8fcf33e7d… (all of the seat's roots in one cut). By AI agents, Wed Nov 11 2026. No macro, syntax, notation, axiom, sorry.
-/
import Derived.Test.YtdbpjaeekhgfgaaChecked
import GoSem.Claim
import GoSem.ClaimJoined
import GoSem.ClaimMapViews
import Derived.JoinedTies
import Derived.KernelRfl
namespace Go.Proofs.Ytdbpjaeekhgfgaa
/- THE CELL 'sum', in the pinned program and in every row, IS THE sha256 OF THE DUMP (.gsa) THAT YtdbpjaeekhgfgaaProg.lean LOADS. Nothing in Lean hashes anything: it is a label: what it is worth is what the hold of that sum in a sandbox is worth. -/
noncomputable def Try.pinned : Pinned := { name := "ytdbpjaeekhgfgaa", sum := "373eb5a8fcf33e7d876c7e87342f72098673962fd37667f6ab99561e500c3a76", checked := Try.checked }
namespace Rows
def none {H : Type} : Left H := { results := [], args := [] }

/-- 'laws.FnValues': WHATEVER THE INPUT: true; the input reads as it did. -/
def fnValuesSpec : ChangeSpec := { name := "fnValues", fn := fun _ => fun
  | [d] => { results := [.lit (.bool true)], args := [d] }
  | _ => none }
def fnValuesRow : OpenClaim := { program := "ytdbpjaeekhgfgaa", sum := "373eb5a8fcf33e7d876c7e87342f72098673962fd37667f6ab99561e500c3a76", func := "loop.example/g00518/laws.FnValues", spec := "fnValues", unfollowed := true, recurses := true, apart := false }
def FnValuesSaid : Prop := fnValuesRow.holds Try.pinned (OpenSpec.ofChange fnValuesSpec)

/-- ITS FALSE NEIGHBOUR: 'it returns false'. Refute it at one input. -/
def fnValuesWrong : ChangeSpec := { name := "fnValues", fn := fun _ => fun
  | [d] => { results := [.lit (.bool false)], args := [d] }
  | _ => none }
def FnValuesWrongFalsely : Prop := fnValuesRow.holds Try.pinned (OpenSpec.ofChange fnValuesWrong)

/-- 'laws.FnExactIsValidValue': WHATEVER THE INPUT: true; the input reads as it did. -/
def fnExactIsValidValueSpec : ChangeSpec := { name := "fnExactIsValidValue", fn := fun _ => fun
  | [d1, d2, d3] => { results := [.lit (.bool true)], args := [d1, d2, d3] }
  | _ => none }
def fnExactIsValidValueRow : OpenClaim := { program := "ytdbpjaeekhgfgaa", sum := "373eb5a8fcf33e7d876c7e87342f72098673962fd37667f6ab99561e500c3a76", func := "loop.example/g00518/laws.FnExactIsValidValue", spec := "fnExactIsValidValue", recurses := true, loops := true, apart := false }
def FnExactIsValidValueSaid : Prop := fnExactIsValidValueRow.holds Try.pinned (OpenSpec.ofChange fnExactIsValidValueSpec)

/-- ITS FALSE NEIGHBOUR: 'it returns false'. Refute it at one input. -/
def fnExactIsValidValueWrong : ChangeSpec := { name := "fnExactIsValidValue", fn := fun _ => fun
  | [d1, d2, d3] => { results := [.lit (.bool false)], args := [d1, d2, d3] }
  | _ => none }
def FnExactIsValidValueWrongFalsely : Prop := fnExactIsValidValueRow.holds Try.pinned (OpenSpec.ofChange fnExactIsValidValueWrong)

/-- 'laws.FnExactDefaultValue': WHATEVER THE INPUT: true; the input reads as it did. -/
def fnExactDefaultValueSpec : ChangeSpec := { name := "fnExactDefaultValue", fn := fun _ => fun
  | [d1, d2] => { results := [.lit (.bool true)], args := [d1, d2] }
  | _ => none }
def fnExactDefaultValueRow : OpenClaim := { program := "ytdbpjaeekhgfgaa", sum := "373eb5a8fcf33e7d876c7e87342f72098673962fd37667f6ab99561e500c3a76", func := "loop.example/g00518/laws.FnExactDefaultValue", spec := "fnExactDefaultValue", unfollowed := true, recurses := true, apart := false }
def FnExactDefaultValueSaid : Prop := fnExactDefaultValueRow.holds Try.pinned (OpenSpec.ofChange fnExactDefaultValueSpec)

/-- ITS FALSE NEIGHBOUR: 'it returns false'. Refute it at one input. -/
def fnExactDefaultValueWrong : ChangeSpec := { name := "fnExactDefaultValue", fn := fun _ => fun
  | [d1, d2] => { results := [.lit (.bool false)], args := [d1, d2] }
  | _ => none }
def FnExactDefaultValueWrongFalsely : Prop := fnExactDefaultValueRow.holds Try.pinned (OpenSpec.ofChange fnExactDefaultValueWrong)

/-- 'laws.FnExactCountParts': WHATEVER THE INPUT: true; the input reads as it did. -/
def fnExactCountPartsSpec : ChangeSpec := { name := "fnExactCountParts", fn := fun _ => fun
  | [d] => { results := [.lit (.bool true)], args := [d] }
  | _ => none }
def fnExactCountPartsRow : OpenClaim := { program := "ytdbpjaeekhgfgaa", sum := "373eb5a8fcf33e7d876c7e87342f72098673962fd37667f6ab99561e500c3a76", func := "loop.example/g00518/laws.FnExactCountParts", spec := "fnExactCountParts", unfollowed := true, recurses := true, loops := true, apart := false }
def FnExactCountPartsSaid : Prop := fnExactCountPartsRow.holds Try.pinned (OpenSpec.ofChange fnExactCountPartsSpec)

/-- ITS FALSE NEIGHBOUR: 'it returns false'. Refute it at one input. -/
def fnExactCountPartsWrong : ChangeSpec := { name := "fnExactCountParts", fn := fun _ => fun
  | [d] => { results := [.lit (.bool false)], args := [d] }
  | _ => none }
def FnExactCountPartsWrongFalsely : Prop := fnExactCountPartsRow.holds Try.pinned (OpenSpec.ofChange fnExactCountPartsWrong)

/-- 'laws.FnExactItemRule': WHATEVER THE INPUT: true; the input reads as it did. -/
def fnExactItemRuleSpec : ChangeSpec := { name := "fnExactItemRule", fn := fun _ => fun
  | [d1, d2, d3, d4] => { results := [.lit (.bool true)], args := [d1, d2, d3, d4] }
  | _ => none }
def fnExactItemRuleRow : OpenClaim := { program := "ytdbpjaeekhgfgaa", sum := "373eb5a8fcf33e7d876c7e87342f72098673962fd37667f6ab99561e500c3a76", func := "loop.example/g00518/laws.FnExactItemRule", spec := "fnExactItemRule", recurses := true, loops := true, apart := false }
def FnExactItemRuleSaid : Prop := fnExactItemRuleRow.holds Try.pinned (OpenSpec.ofChange fnExactItemRuleSpec)

/-- ITS FALSE NEIGHBOUR: 'it returns false'. Refute it at one input. -/
def fnExactItemRuleWrong : ChangeSpec := { name := "fnExactItemRule", fn := fun _ => fun
  | [d1, d2, d3, d4] => { results := [.lit (.bool false)], args := [d1, d2, d3, d4] }
  | _ => none }
def FnExactItemRuleWrongFalsely : Prop := fnExactItemRuleRow.holds Try.pinned (OpenSpec.ofChange fnExactItemRuleWrong)

/-- 'laws.FnExactCopyValue': WHATEVER THE INPUT: true; the input reads as it did. -/
def fnExactCopyValueSpec : ChangeSpec := { name := "fnExactCopyValue", fn := fun _ => fun
  | [d] => { results := [.lit (.bool true)], args := [d] }
  | _ => none }
def fnExactCopyValueRow : OpenClaim := { program := "ytdbpjaeekhgfgaa", sum := "373eb5a8fcf33e7d876c7e87342f72098673962fd37667f6ab99561e500c3a76", func := "loop.example/g00518/laws.FnExactCopyValue", spec := "fnExactCopyValue", unfollowed := true, recurses := true, loops := true, apart := false }
def FnExactCopyValueSaid : Prop := fnExactCopyValueRow.holds Try.pinned (OpenSpec.ofChange fnExactCopyValueSpec)

/-- ITS FALSE NEIGHBOUR: 'it returns false'. Refute it at one input. -/
def fnExactCopyValueWrong : ChangeSpec := { name := "fnExactCopyValue", fn := fun _ => fun
  | [d] => { results := [.lit (.bool false)], args := [d] }
  | _ => none }
def FnExactCopyValueWrongFalsely : Prop := fnExactCopyValueRow.holds Try.pinned (OpenSpec.ofChange fnExactCopyValueWrong)

/-- 'laws.FnExactEqualValues': WHATEVER THE INPUT: true; the input reads as it did. -/
def fnExactEqualValuesSpec : ChangeSpec := { name := "fnExactEqualValues", fn := fun _ => fun
  | [d1, d2] => { results := [.lit (.bool true)], args := [d1, d2] }
  | _ => none }
def fnExactEqualValuesRow : OpenClaim := { program := "ytdbpjaeekhgfgaa", sum := "373eb5a8fcf33e7d876c7e87342f72098673962fd37667f6ab99561e500c3a76", func := "loop.example/g00518/laws.FnExactEqualValues", spec := "fnExactEqualValues", recurses := true, loops := true, apart := false }
def FnExactEqualValuesSaid : Prop := fnExactEqualValuesRow.holds Try.pinned (OpenSpec.ofChange fnExactEqualValuesSpec)

/-- ITS FALSE NEIGHBOUR: 'it returns false'. Refute it at one input. -/
def fnExactEqualValuesWrong : ChangeSpec := { name := "fnExactEqualValues", fn := fun _ => fun
  | [d1, d2] => { results := [.lit (.bool false)], args := [d1, d2] }
  | _ => none }
def FnExactEqualValuesWrongFalsely : Prop := fnExactEqualValuesRow.holds Try.pinned (OpenSpec.ofChange fnExactEqualValuesWrong)

/-- 'laws.FnExactTotalBytes': WHATEVER THE INPUT: true; the input reads as it did. -/
def fnExactTotalBytesSpec : ChangeSpec := { name := "fnExactTotalBytes", fn := fun _ => fun
  | [d] => { results := [.lit (.bool true)], args := [d] }
  | _ => none }
def fnExactTotalBytesRow : OpenClaim := { program := "ytdbpjaeekhgfgaa", sum := "373eb5a8fcf33e7d876c7e87342f72098673962fd37667f6ab99561e500c3a76", func := "loop.example/g00518/laws.FnExactTotalBytes", spec := "fnExactTotalBytes", unfollowed := true, recurses := true, loops := true, apart := false }
def FnExactTotalBytesSaid : Prop := fnExactTotalBytesRow.holds Try.pinned (OpenSpec.ofChange fnExactTotalBytesSpec)

/-- ITS FALSE NEIGHBOUR: 'it returns false'. Refute it at one input. -/
def fnExactTotalBytesWrong : ChangeSpec := { name := "fnExactTotalBytes", fn := fun _ => fun
  | [d] => { results := [.lit (.bool false)], args := [d] }
  | _ => none }
def FnExactTotalBytesWrongFalsely : Prop := fnExactTotalBytesRow.holds Try.pinned (OpenSpec.ofChange fnExactTotalBytesWrong)

/- THE SECOND FORM. 'bulk': how many values and letters a reading holds, each counted each time it is reached (what is shared counts as often as it is met; a slice's spare places count too). A statement '..UptoSaid' is the law's where the arguments, and the package variables that the reading takes, are together of bulk at most 1048576: NARROWER than '..Said'. Prove '..Said' where nothing that the law and all that it calls make is longer than what came in: it says more and counts as full. Else prove '..UptoSaid'. A law counts once. -/
mutual
def uptoBulk {H : Type} : DataW H → Nat
  | .lit (.string bytes) => bytes.length + 1
  | .lit _ => 1
  | .nil => 1
  | .ptr d => uptoBulk d + 1
  | .slice elems spare => uptoBulkAll elems + uptoBulkAll spare + 1
  | .agg parts => uptoBulkAll parts + 1
  | .iface _ d => uptoBulk d + 1
  | .map entries => uptoBulkEntries entries + 1
  | .held _ => 1
def uptoBulkAll {H : Type} : List (DataW H) → Nat
  | [] => 0
  | d :: r => uptoBulk d + uptoBulkAll r
def uptoBulkEntries {H : Type} : List (Lit × DataW H) → Nat
  | [] => 0
  | x :: r => uptoBulkEntry x + uptoBulkEntries r
def uptoBulkEntry {H : Type} : Lit × DataW H → Nat
  | (.string bytes, d) => bytes.length + uptoBulk d + 1
  | (_, d) => uptoBulk d + 1
 end
def uptoSmall : (H : Type) → List (DataW H) → Bool := fun _ ds => decide (uptoBulkAll ds ≤ 1048576)
def OpenSpec.upto (s : _root_.Go.ChangeSpec) : _root_.Go.OpenSpec := { _root_.Go.OpenSpec.ofChange s with cond := some uptoSmall }

/-- 'laws.FnValues', WHERE WHAT IT READS IS OF BULK AT MOST 1048576: true; the input reads as it did. -/
def fnValuesUptoRow : OpenClaim := { program := "ytdbpjaeekhgfgaa", sum := "373eb5a8fcf33e7d876c7e87342f72098673962fd37667f6ab99561e500c3a76", func := "loop.example/g00518/laws.FnValues", spec := "fnValues", unfollowed := true, recurses := true, apart := false, narrowed := true }
def FnValuesUptoSaid : Prop := fnValuesUptoRow.holds Try.pinned (OpenSpec.upto fnValuesSpec)

/-- 'laws.FnExactIsValidValue', WHERE WHAT IT READS IS OF BULK AT MOST 1048576: true; the input reads as it did. -/
def fnExactIsValidValueUptoRow : OpenClaim := { program := "ytdbpjaeekhgfgaa", sum := "373eb5a8fcf33e7d876c7e87342f72098673962fd37667f6ab99561e500c3a76", func := "loop.example/g00518/laws.FnExactIsValidValue", spec := "fnExactIsValidValue", recurses := true, loops := true, apart := false, narrowed := true }
def FnExactIsValidValueUptoSaid : Prop := fnExactIsValidValueUptoRow.holds Try.pinned (OpenSpec.upto fnExactIsValidValueSpec)

/-- 'laws.FnExactDefaultValue', WHERE WHAT IT READS IS OF BULK AT MOST 1048576: true; the input reads as it did. -/
def fnExactDefaultValueUptoRow : OpenClaim := { program := "ytdbpjaeekhgfgaa", sum := "373eb5a8fcf33e7d876c7e87342f72098673962fd37667f6ab99561e500c3a76", func := "loop.example/g00518/laws.FnExactDefaultValue", spec := "fnExactDefaultValue", unfollowed := true, recurses := true, apart := false, narrowed := true }
def FnExactDefaultValueUptoSaid : Prop := fnExactDefaultValueUptoRow.holds Try.pinned (OpenSpec.upto fnExactDefaultValueSpec)

/-- 'laws.FnExactCountParts', WHERE WHAT IT READS IS OF BULK AT MOST 1048576: true; the input reads as it did. -/
def fnExactCountPartsUptoRow : OpenClaim := { program := "ytdbpjaeekhgfgaa", sum := "373eb5a8fcf33e7d876c7e87342f72098673962fd37667f6ab99561e500c3a76", func := "loop.example/g00518/laws.FnExactCountParts", spec := "fnExactCountParts", unfollowed := true, recurses := true, loops := true, apart := false, narrowed := true }
def FnExactCountPartsUptoSaid : Prop := fnExactCountPartsUptoRow.holds Try.pinned (OpenSpec.upto fnExactCountPartsSpec)

/-- 'laws.FnExactItemRule', WHERE WHAT IT READS IS OF BULK AT MOST 1048576: true; the input reads as it did. -/
def fnExactItemRuleUptoRow : OpenClaim := { program := "ytdbpjaeekhgfgaa", sum := "373eb5a8fcf33e7d876c7e87342f72098673962fd37667f6ab99561e500c3a76", func := "loop.example/g00518/laws.FnExactItemRule", spec := "fnExactItemRule", recurses := true, loops := true, apart := false, narrowed := true }
def FnExactItemRuleUptoSaid : Prop := fnExactItemRuleUptoRow.holds Try.pinned (OpenSpec.upto fnExactItemRuleSpec)

/-- 'laws.FnExactCopyValue', WHERE WHAT IT READS IS OF BULK AT MOST 1048576: true; the input reads as it did. -/
def fnExactCopyValueUptoRow : OpenClaim := { program := "ytdbpjaeekhgfgaa", sum := "373eb5a8fcf33e7d876c7e87342f72098673962fd37667f6ab99561e500c3a76", func := "loop.example/g00518/laws.FnExactCopyValue", spec := "fnExactCopyValue", unfollowed := true, recurses := true, loops := true, apart := false, narrowed := true }
def FnExactCopyValueUptoSaid : Prop := fnExactCopyValueUptoRow.holds Try.pinned (OpenSpec.upto fnExactCopyValueSpec)

/-- 'laws.FnExactEqualValues', WHERE WHAT IT READS IS OF BULK AT MOST 1048576: true; the input reads as it did. -/
def fnExactEqualValuesUptoRow : OpenClaim := { program := "ytdbpjaeekhgfgaa", sum := "373eb5a8fcf33e7d876c7e87342f72098673962fd37667f6ab99561e500c3a76", func := "loop.example/g00518/laws.FnExactEqualValues", spec := "fnExactEqualValues", recurses := true, loops := true, apart := false, narrowed := true }
def FnExactEqualValuesUptoSaid : Prop := fnExactEqualValuesUptoRow.holds Try.pinned (OpenSpec.upto fnExactEqualValuesSpec)

/-- 'laws.FnExactTotalBytes', WHERE WHAT IT READS IS OF BULK AT MOST 1048576: true; the input reads as it did. -/
def fnExactTotalBytesUptoRow : OpenClaim := { program := "ytdbpjaeekhgfgaa", sum := "373eb5a8fcf33e7d876c7e87342f72098673962fd37667f6ab99561e500c3a76", func := "loop.example/g00518/laws.FnExactTotalBytes", spec := "fnExactTotalBytes", unfollowed := true, recurses := true, loops := true, apart := false, narrowed := true }
def FnExactTotalBytesUptoSaid : Prop := fnExactTotalBytesUptoRow.holds Try.pinned (OpenSpec.upto fnExactTotalBytesSpec)

end Rows
end Go.Proofs.Ytdbpjaeekhgfgaa
