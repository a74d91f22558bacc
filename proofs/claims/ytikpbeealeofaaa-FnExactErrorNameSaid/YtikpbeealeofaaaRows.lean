/-
  No cell of these rows narrows 'for every input' (looked for: loops, veiled, ifaces, maps, wideKeys, modest, calm, conditions, laid).
  DERIVED. THE GIVEN ROWS OF THIS SEAT. 4 by the template 'for every input the law returns true; each argument reads behind the call as it read before'; 0 by the template 'total and deterministic' (their statements: YtikpbeealeofaaaTotals.lean).
  GIVEN WITH THE SEED: the statements are not yours to turn. If you find one false, say at which input.
  Laid BY PROGRAM, IN A SANDBOX (cutbox-rows.mjs): the forced cells as the released guide's own fill.sh prints them over the translation d95d33a95e25981e… (all of the seat's roots in one cut). By AI agents, Wed Nov 11 2026. No macro, syntax, notation, axiom, sorry.
-/
import Derived.Test.YtikpbeealeofaaaChecked
import GoSem.Claim
import GoSem.ClaimJoined
import GoSem.ClaimMapViews
import Derived.JoinedTies
import Derived.KernelRfl
namespace Go.Proofs.Ytikpbeealeofaaa
/- THE CELL 'sum', in the pinned program and in every row, IS THE sha256 OF THE DUMP (.gsa) THAT YtikpbeealeofaaaProg.lean LOADS. Nothing in Lean hashes anything: it is a label: what it is worth is what the hold of that sum in a sandbox is worth. -/
noncomputable def Try.pinned : Pinned := { name := "ytikpbeealeofaaa", sum := "d95d33a95e25981ec7467f136762c3275cda9dcc4071f80540060c74b42131f1", checked := Try.checked }
namespace Rows
def none {H : Type} : Left H := { results := [], args := [] }

/-- 'laws.FnExactErrorName': WHATEVER THE INPUT: true; the input reads as it did. -/
def fnExactErrorNameSpec : ChangeSpec := { name := "fnExactErrorName", fn := fun _ => fun
  | [d] => { results := [.lit (.bool true)], args := [d] }
  | _ => none }
def fnExactErrorNameRow : OpenClaim := { program := "ytikpbeealeofaaa", sum := "d95d33a95e25981ec7467f136762c3275cda9dcc4071f80540060c74b42131f1", func := "loop.example/g00518/laws.FnExactErrorName", spec := "fnExactErrorName", apart := false }
def FnExactErrorNameSaid : Prop := fnExactErrorNameRow.holds Try.pinned (OpenSpec.ofChange fnExactErrorNameSpec)

/-- ITS FALSE NEIGHBOUR: 'it returns false'. Refute it at one input. -/
def fnExactErrorNameWrong : ChangeSpec := { name := "fnExactErrorName", fn := fun _ => fun
  | [d] => { results := [.lit (.bool false)], args := [d] }
  | _ => none }
def FnExactErrorNameWrongFalsely : Prop := fnExactErrorNameRow.holds Try.pinned (OpenSpec.ofChange fnExactErrorNameWrong)

/-- 'laws.FnExactReadTerminated': WHATEVER THE INPUT: true; the input reads as it did. -/
def fnExactReadTerminatedSpec : ChangeSpec := { name := "fnExactReadTerminated", fn := fun _ => fun
  | [d1, d2, d3] => { results := [.lit (.bool true)], args := [d1, d2, d3] }
  | _ => none }
def fnExactReadTerminatedRow : OpenClaim := { program := "ytikpbeealeofaaa", sum := "d95d33a95e25981ec7467f136762c3275cda9dcc4071f80540060c74b42131f1", func := "loop.example/g00518/laws.FnExactReadTerminated", spec := "fnExactReadTerminated", apart := false }
def FnExactReadTerminatedSaid : Prop := fnExactReadTerminatedRow.holds Try.pinned (OpenSpec.ofChange fnExactReadTerminatedSpec)

/-- ITS FALSE NEIGHBOUR: 'it returns false'. Refute it at one input. -/
def fnExactReadTerminatedWrong : ChangeSpec := { name := "fnExactReadTerminated", fn := fun _ => fun
  | [d1, d2, d3] => { results := [.lit (.bool false)], args := [d1, d2, d3] }
  | _ => none }
def FnExactReadTerminatedWrongFalsely : Prop := fnExactReadTerminatedRow.holds Try.pinned (OpenSpec.ofChange fnExactReadTerminatedWrong)

/-- 'laws.FnExactDefaultValue': WHATEVER THE INPUT: true; the input reads as it did. -/
def fnExactDefaultValueSpec : ChangeSpec := { name := "fnExactDefaultValue", fn := fun _ => fun
  | [d1, d2] => { results := [.lit (.bool true)], args := [d1, d2] }
  | _ => none }
def fnExactDefaultValueRow : OpenClaim := { program := "ytikpbeealeofaaa", sum := "d95d33a95e25981ec7467f136762c3275cda9dcc4071f80540060c74b42131f1", func := "loop.example/g00518/laws.FnExactDefaultValue", spec := "fnExactDefaultValue", recurses := true, apart := false }
def FnExactDefaultValueSaid : Prop := fnExactDefaultValueRow.holds Try.pinned (OpenSpec.ofChange fnExactDefaultValueSpec)

/-- ITS FALSE NEIGHBOUR: 'it returns false'. Refute it at one input. -/
def fnExactDefaultValueWrong : ChangeSpec := { name := "fnExactDefaultValue", fn := fun _ => fun
  | [d1, d2] => { results := [.lit (.bool false)], args := [d1, d2] }
  | _ => none }
def FnExactDefaultValueWrongFalsely : Prop := fnExactDefaultValueRow.holds Try.pinned (OpenSpec.ofChange fnExactDefaultValueWrong)

/-- 'laws.FnValues': WHATEVER THE INPUT: true; the input reads as it did. -/
def fnValuesSpec : ChangeSpec := { name := "fnValues", fn := fun _ => fun
  | [d] => { results := [.lit (.bool true)], args := [d] }
  | _ => none }
def fnValuesRow : OpenClaim := { program := "ytikpbeealeofaaa", sum := "d95d33a95e25981ec7467f136762c3275cda9dcc4071f80540060c74b42131f1", func := "loop.example/g00518/laws.FnValues", spec := "fnValues", unfollowed := true, recurses := true, apart := false }
def FnValuesSaid : Prop := fnValuesRow.holds Try.pinned (OpenSpec.ofChange fnValuesSpec)

/-- ITS FALSE NEIGHBOUR: 'it returns false'. Refute it at one input. -/
def fnValuesWrong : ChangeSpec := { name := "fnValues", fn := fun _ => fun
  | [d] => { results := [.lit (.bool false)], args := [d] }
  | _ => none }
def FnValuesWrongFalsely : Prop := fnValuesRow.holds Try.pinned (OpenSpec.ofChange fnValuesWrong)

/- THE SECOND FORM. 'bulk': how many values and letters a reading holds, each counted each time it is reached (what is shared counts as often as it is met; a slice's spare places count too). A statement '..UptoSaid' is the law's where the arguments, and the package variables that the reading takes, are together of bulk at most 1048576: NARROWER than '..Said'. Prove '..Said' where nothing that the law and all that it calls make is longer than what came in: it says more and counts as full. Else prove '..UptoSaid'. A law counts once. -/
mutual
def uptoBulk {H : Type} : DataW H → Nat
  | .lit (.string bytes) => bytes.length + 1
  | .lit _ => 1
  | .nil => 1
  | .ptr d => uptoBulk d + 1
  | .slice elems spare => uptoBulkAll elems + uptoBulkAll spare + 1
  | .agg parts => uptoBulkAll parts + 1
  | .iface _ d => uptoBulk d + 1
  | .map entries => uptoBulkEntries entries + 1
  | .held _ => 1
def uptoBulkAll {H : Type} : List (DataW H) → Nat
  | [] => 0
  | d :: r => uptoBulk d + uptoBulkAll r
def uptoBulkEntries {H : Type} : List (Lit × DataW H) → Nat
  | [] => 0
  | x :: r => uptoBulkEntry x + uptoBulkEntries r
def uptoBulkEntry {H : Type} : Lit × DataW H → Nat
  | (.string bytes, d) => bytes.length + uptoBulk d + 1
  | (_, d) => uptoBulk d + 1
 end
def uptoSmall : (H : Type) → List (DataW H) → Bool := fun _ ds => decide (uptoBulkAll ds ≤ 1048576)
def OpenSpec.upto (s : _root_.Go.ChangeSpec) : _root_.Go.OpenSpec := { _root_.Go.OpenSpec.ofChange s with cond := some uptoSmall }

/-- 'laws.FnExactErrorName', WHERE WHAT IT READS IS OF BULK AT MOST 1048576: true; the input reads as it did. -/
def fnExactErrorNameUptoRow : OpenClaim := { program := "ytikpbeealeofaaa", sum := "d95d33a95e25981ec7467f136762c3275cda9dcc4071f80540060c74b42131f1", func := "loop.example/g00518/laws.FnExactErrorName", spec := "fnExactErrorName", apart := false, narrowed := true }
def FnExactErrorNameUptoSaid : Prop := fnExactErrorNameUptoRow.holds Try.pinned (OpenSpec.upto fnExactErrorNameSpec)

/-- 'laws.FnExactReadTerminated', WHERE WHAT IT READS IS OF BULK AT MOST 1048576: true; the input reads as it did. -/
def fnExactReadTerminatedUptoRow : OpenClaim := { program := "ytikpbeealeofaaa", sum := "d95d33a95e25981ec7467f136762c3275cda9dcc4071f80540060c74b42131f1", func := "loop.example/g00518/laws.FnExactReadTerminated", spec := "fnExactReadTerminated", apart := false, narrowed := true }
def FnExactReadTerminatedUptoSaid : Prop := fnExactReadTerminatedUptoRow.holds Try.pinned (OpenSpec.upto fnExactReadTerminatedSpec)

/-- 'laws.FnExactDefaultValue', WHERE WHAT IT READS IS OF BULK AT MOST 1048576: true; the input reads as it did. -/
def fnExactDefaultValueUptoRow : OpenClaim := { program := "ytikpbeealeofaaa", sum := "d95d33a95e25981ec7467f136762c3275cda9dcc4071f80540060c74b42131f1", func := "loop.example/g00518/laws.FnExactDefaultValue", spec := "fnExactDefaultValue", recurses := true, apart := false, narrowed := true }
def FnExactDefaultValueUptoSaid : Prop := fnExactDefaultValueUptoRow.holds Try.pinned (OpenSpec.upto fnExactDefaultValueSpec)

/-- 'laws.FnValues', WHERE WHAT IT READS IS OF BULK AT MOST 1048576: true; the input reads as it did. -/
def fnValuesUptoRow : OpenClaim := { program := "ytikpbeealeofaaa", sum := "d95d33a95e25981ec7467f136762c3275cda9dcc4071f80540060c74b42131f1", func := "loop.example/g00518/laws.FnValues", spec := "fnValues", unfollowed := true, recurses := true, apart := false, narrowed := true }
def FnValuesUptoSaid : Prop := fnValuesUptoRow.holds Try.pinned (OpenSpec.upto fnValuesSpec)

end Rows
end Go.Proofs.Ytikpbeealeofaaa
