/-
  No cell of these rows narrows 'for every input' (looked for: loops, veiled, ifaces, maps, wideKeys, modest, calm, conditions, laid).
  DERIVED. THE GIVEN ROWS OF THIS SEAT. 4 by the template 'for every input the law returns true; each argument reads behind the call as it read before'; 0 by the template 'total and deterministic' (their statements: YtefkhknfjohnaaaTotals.lean).
  GIVEN WITH THE SEED: the statements are not yours to turn. If you find one false, say at which input.
  Laid BY PROGRAM, IN A SANDBOX (cutbox-rows.mjs): the forced cells as the released guide's own fill.sh prints them over the translation 026fd3a03c8aac4c… (all of the seat's roots in one cut). By AI agents, Wed Nov 11 2026. No macro, syntax, notation, axiom, sorry.
-/
import Derived.Test.YtefkhknfjohnaaaChecked
import GoSem.Claim
import GoSem.ClaimJoined
import GoSem.ClaimMapViews
import Derived.JoinedTies
import Derived.KernelRfl
namespace Go.Proofs.Ytefkhknfjohnaaa
/- THE CELL 'sum', in the pinned program and in every row, IS THE sha256 OF THE DUMP (.gsa) THAT YtefkhknfjohnaaaProg.lean LOADS. Nothing in Lean hashes anything: it is a label: what it is worth is what the hold of that sum in a sandbox is worth. -/
noncomputable def Try.pinned : Pinned := { name := "ytefkhknfjohnaaa", sum := "026fd3a03c8aac4ccae15798559de5f8b16a3415803d1572f5ee8a73f110b258", checked := Try.checked }
namespace Rows
def none {H : Type} : Left H := { results := [], args := [] }

/-- 'laws.FnTerminated': WHATEVER THE INPUT: true; the input reads as it did. -/
def fnTerminatedSpec : ChangeSpec := { name := "fnTerminated", fn := fun _ => fun
  | [d] => { results := [.lit (.bool true)], args := [d] }
  | _ => none }
def fnTerminatedRow : OpenClaim := { program := "ytefkhknfjohnaaa", sum := "026fd3a03c8aac4ccae15798559de5f8b16a3415803d1572f5ee8a73f110b258", func := "loop.example/g00518/laws.FnTerminated", spec := "fnTerminated", apart := false }
def FnTerminatedSaid : Prop := fnTerminatedRow.holds Try.pinned (OpenSpec.ofChange fnTerminatedSpec)

/-- ITS FALSE NEIGHBOUR: 'it returns false'. Refute it at one input. -/
def fnTerminatedWrong : ChangeSpec := { name := "fnTerminated", fn := fun _ => fun
  | [d] => { results := [.lit (.bool false)], args := [d] }
  | _ => none }
def FnTerminatedWrongFalsely : Prop := fnTerminatedRow.holds Try.pinned (OpenSpec.ofChange fnTerminatedWrong)

/-- 'laws.FnExactAllCanonical': WHATEVER THE INPUT: true; the input reads as it did. -/
def fnExactAllCanonicalSpec : ChangeSpec := { name := "fnExactAllCanonical", fn := fun _ => fun
  | [d] => { results := [.lit (.bool true)], args := [d] }
  | _ => none }
def fnExactAllCanonicalRow : OpenClaim := { program := "ytefkhknfjohnaaa", sum := "026fd3a03c8aac4ccae15798559de5f8b16a3415803d1572f5ee8a73f110b258", func := "loop.example/g00518/laws.FnExactAllCanonical", spec := "fnExactAllCanonical", apart := false }
def FnExactAllCanonicalSaid : Prop := fnExactAllCanonicalRow.holds Try.pinned (OpenSpec.ofChange fnExactAllCanonicalSpec)

/-- ITS FALSE NEIGHBOUR: 'it returns false'. Refute it at one input. -/
def fnExactAllCanonicalWrong : ChangeSpec := { name := "fnExactAllCanonical", fn := fun _ => fun
  | [d] => { results := [.lit (.bool false)], args := [d] }
  | _ => none }
def FnExactAllCanonicalWrongFalsely : Prop := fnExactAllCanonicalRow.holds Try.pinned (OpenSpec.ofChange fnExactAllCanonicalWrong)

/-- 'laws.FnExactEscapeAll': WHATEVER THE INPUT: true; the input reads as it did. -/
def fnExactEscapeAllSpec : ChangeSpec := { name := "fnExactEscapeAll", fn := fun _ => fun
  | [d1, d2] => { results := [.lit (.bool true)], args := [d1, d2] }
  | _ => none }
def fnExactEscapeAllRow : OpenClaim := { program := "ytefkhknfjohnaaa", sum := "026fd3a03c8aac4ccae15798559de5f8b16a3415803d1572f5ee8a73f110b258", func := "loop.example/g00518/laws.FnExactEscapeAll", spec := "fnExactEscapeAll", apart := false }
def FnExactEscapeAllSaid : Prop := fnExactEscapeAllRow.holds Try.pinned (OpenSpec.ofChange fnExactEscapeAllSpec)

/-- ITS FALSE NEIGHBOUR: 'it returns false'. Refute it at one input. -/
def fnExactEscapeAllWrong : ChangeSpec := { name := "fnExactEscapeAll", fn := fun _ => fun
  | [d1, d2] => { results := [.lit (.bool false)], args := [d1, d2] }
  | _ => none }
def FnExactEscapeAllWrongFalsely : Prop := fnExactEscapeAllRow.holds Try.pinned (OpenSpec.ofChange fnExactEscapeAllWrong)

/-- 'laws.FnValues': WHATEVER THE INPUT: true; the input reads as it did. -/
def fnValuesSpec : ChangeSpec := { name := "fnValues", fn := fun _ => fun
  | [d] => { results := [.lit (.bool true)], args := [d] }
  | _ => none }
def fnValuesRow : OpenClaim := { program := "ytefkhknfjohnaaa", sum := "026fd3a03c8aac4ccae15798559de5f8b16a3415803d1572f5ee8a73f110b258", func := "loop.example/g00518/laws.FnValues", spec := "fnValues", unfollowed := true, recurses := true, apart := false }
def FnValuesSaid : Prop := fnValuesRow.holds Try.pinned (OpenSpec.ofChange fnValuesSpec)

/-- ITS FALSE NEIGHBOUR: 'it returns false'. Refute it at one input. -/
def fnValuesWrong : ChangeSpec := { name := "fnValues", fn := fun _ => fun
  | [d] => { results := [.lit (.bool false)], args := [d] }
  | _ => none }
def FnValuesWrongFalsely : Prop := fnValuesRow.holds Try.pinned (OpenSpec.ofChange fnValuesWrong)

/- THE SECOND FORM. 'bulk': how many values and letters a reading holds, each counted each time it is reached (what is shared counts as often as it is met; a slice's spare places count too). A statement '..UptoSaid' is the law's where the arguments, and the package variables that the reading takes, are together of bulk at most 1048576: NARROWER than '..Said'. Prove '..Said' where nothing that the law and all that it calls make is longer than what came in: it says more and counts as full. Else prove '..UptoSaid'. A law counts once. -/
mutual
def uptoBulk {H : Type} : DataW H → Nat
  | .lit (.string bytes) => bytes.length + 1
  | .lit _ => 1
  | .nil => 1
  | .ptr d => uptoBulk d + 1
  | .slice elems spare => uptoBulkAll elems + uptoBulkAll spare + 1
  | .agg parts => uptoBulkAll parts + 1
  | .iface _ d => uptoBulk d + 1
  | .map entries => uptoBulkEntries entries + 1
  | .held _ => 1
def uptoBulkAll {H : Type} : List (DataW H) → Nat
  | [] => 0
  | d :: r => uptoBulk d + uptoBulkAll r
def uptoBulkEntries {H : Type} : List (Lit × DataW H) → Nat
  | [] => 0
  | x :: r => uptoBulkEntry x + uptoBulkEntries r
def uptoBulkEntry {H : Type} : Lit × DataW H → Nat
  | (.string bytes, d) => bytes.length + uptoBulk d + 1
  | (_, d) => uptoBulk d + 1
 end
def uptoSmall : (H : Type) → List (DataW H) → Bool := fun _ ds => decide (uptoBulkAll ds ≤ 1048576)
def OpenSpec.upto (s : _root_.Go.ChangeSpec) : _root_.Go.OpenSpec := { _root_.Go.OpenSpec.ofChange s with cond := some uptoSmall }

/-- 'laws.FnTerminated', WHERE WHAT IT READS IS OF BULK AT MOST 1048576: true; the input reads as it did. -/
def fnTerminatedUptoRow : OpenClaim := { program := "ytefkhknfjohnaaa", sum := "026fd3a03c8aac4ccae15798559de5f8b16a3415803d1572f5ee8a73f110b258", func := "loop.example/g00518/laws.FnTerminated", spec := "fnTerminated", apart := false, narrowed := true }
def FnTerminatedUptoSaid : Prop := fnTerminatedUptoRow.holds Try.pinned (OpenSpec.upto fnTerminatedSpec)

/-- 'laws.FnExactAllCanonical', WHERE WHAT IT READS IS OF BULK AT MOST 1048576: true; the input reads as it did. -/
def fnExactAllCanonicalUptoRow : OpenClaim := { program := "ytefkhknfjohnaaa", sum := "026fd3a03c8aac4ccae15798559de5f8b16a3415803d1572f5ee8a73f110b258", func := "loop.example/g00518/laws.FnExactAllCanonical", spec := "fnExactAllCanonical", apart := false, narrowed := true }
def FnExactAllCanonicalUptoSaid : Prop := fnExactAllCanonicalUptoRow.holds Try.pinned (OpenSpec.upto fnExactAllCanonicalSpec)

/-- 'laws.FnExactEscapeAll', WHERE WHAT IT READS IS OF BULK AT MOST 1048576: true; the input reads as it did. -/
def fnExactEscapeAllUptoRow : OpenClaim := { program := "ytefkhknfjohnaaa", sum := "026fd3a03c8aac4ccae15798559de5f8b16a3415803d1572f5ee8a73f110b258", func := "loop.example/g00518/laws.FnExactEscapeAll", spec := "fnExactEscapeAll", apart := false, narrowed := true }
def FnExactEscapeAllUptoSaid : Prop := fnExactEscapeAllUptoRow.holds Try.pinned (OpenSpec.upto fnExactEscapeAllSpec)

/-- 'laws.FnValues', WHERE WHAT IT READS IS OF BULK AT MOST 1048576: true; the input reads as it did. -/
def fnValuesUptoRow : OpenClaim := { program := "ytefkhknfjohnaaa", sum := "026fd3a03c8aac4ccae15798559de5f8b16a3415803d1572f5ee8a73f110b258", func := "loop.example/g00518/laws.FnValues", spec := "fnValues", unfollowed := true, recurses := true, apart := false, narrowed := true }
def FnValuesUptoSaid : Prop := fnValuesUptoRow.holds Try.pinned (OpenSpec.upto fnValuesSpec)

end Rows
end Go.Proofs.Ytefkhknfjohnaaa
