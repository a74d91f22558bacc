/-
  No cell of these rows narrows 'for every input' (looked for: loops, veiled, ifaces, maps, wideKeys, modest, calm, conditions, laid).
  DERIVED. THE GIVEN ROWS OF THIS SEAT. 10 by the template 'for every input the law returns true; each argument reads behind the call as it read before'; 0 by the template 'total and deterministic' (their statements: YtdhfcopfoknokaaTotals.lean).
  GIVEN WITH THE SEED: the statements are not yours to turn. If you find one false, say at which input.
  Laid BY PROGRAM, IN A SANDBOX (cutbox-rows.mjs): the forced cells as the released guide's own fill.sh prints them over the translation ff6a2dc43adc487b… (all of the seat's roots in one cut). By AI agents, Wed Nov 11 2026. No macro, syntax, notation, axiom, sorry.
-/
import Derived.Test.YtdhfcopfoknokaaChecked
import GoSem.Claim
import GoSem.ClaimJoined
import GoSem.ClaimMapViews
import Derived.JoinedTies
import Derived.KernelRfl
namespace Go.Proofs.Ytdhfcopfoknokaa
/- THE CELL 'sum', in the pinned program and in every row, IS THE sha256 OF THE DUMP (.gsa) THAT YtdhfcopfoknokaaProg.lean LOADS. Nothing in Lean hashes anything: it is a label: what it is worth is what the hold of that sum in a sandbox is worth. -/
noncomputable def Try.pinned : Pinned := { name := "ytdhfcopfoknokaa", sum := "ff6a2dc43adc487b1ddfc9a530f9f911f75aa1ed529590f39bbfc4d332e3ca47", checked := Try.checked }
namespace Rows
def none {H : Type} : Left H := { results := [], args := [] }

/-- 'laws.FnNames': WHATEVER THE INPUT: true; the input reads as it did. -/
def fnNamesSpec : ChangeSpec := { name := "fnNames", fn := fun _ => fun
  | [d] => { results := [.lit (.bool true)], args := [d] }
  | _ => none }
def fnNamesRow : OpenClaim := { program := "ytdhfcopfoknokaa", sum := "ff6a2dc43adc487b1ddfc9a530f9f911f75aa1ed529590f39bbfc4d332e3ca47", func := "loop.example/g00518/laws.FnNames", spec := "fnNames", apart := false }
def FnNamesSaid : Prop := fnNamesRow.holds Try.pinned (OpenSpec.ofChange fnNamesSpec)

/-- ITS FALSE NEIGHBOUR: 'it returns false'. Refute it at one input. -/
def fnNamesWrong : ChangeSpec := { name := "fnNames", fn := fun _ => fun
  | [d] => { results := [.lit (.bool false)], args := [d] }
  | _ => none }
def FnNamesWrongFalsely : Prop := fnNamesRow.holds Try.pinned (OpenSpec.ofChange fnNamesWrong)

/-- 'laws.FnDescriptions': WHATEVER THE INPUT: true; the input reads as it did. -/
def fnDescriptionsSpec : ChangeSpec := { name := "fnDescriptions", fn := fun _ => fun
  | [d] => { results := [.lit (.bool true)], args := [d] }
  | _ => none }
def fnDescriptionsRow : OpenClaim := { program := "ytdhfcopfoknokaa", sum := "ff6a2dc43adc487b1ddfc9a530f9f911f75aa1ed529590f39bbfc4d332e3ca47", func := "loop.example/g00518/laws.FnDescriptions", spec := "fnDescriptions", unfollowed := true, recurses := true, apart := false }
def FnDescriptionsSaid : Prop := fnDescriptionsRow.holds Try.pinned (OpenSpec.ofChange fnDescriptionsSpec)

/-- ITS FALSE NEIGHBOUR: 'it returns false'. Refute it at one input. -/
def fnDescriptionsWrong : ChangeSpec := { name := "fnDescriptions", fn := fun _ => fun
  | [d] => { results := [.lit (.bool false)], args := [d] }
  | _ => none }
def FnDescriptionsWrongFalsely : Prop := fnDescriptionsRow.holds Try.pinned (OpenSpec.ofChange fnDescriptionsWrong)

/-- 'laws.FnExactIsValidRule': WHATEVER THE INPUT: true; the input reads as it did. -/
def fnExactIsValidRuleSpec : ChangeSpec := { name := "fnExactIsValidRule", fn := fun _ => fun
  | [d1, d2] => { results := [.lit (.bool true)], args := [d1, d2] }
  | _ => none }
def fnExactIsValidRuleRow : OpenClaim := { program := "ytdhfcopfoknokaa", sum := "ff6a2dc43adc487b1ddfc9a530f9f911f75aa1ed529590f39bbfc4d332e3ca47", func := "loop.example/g00518/laws.FnExactIsValidRule", spec := "fnExactIsValidRule", apart := false }
def FnExactIsValidRuleSaid : Prop := fnExactIsValidRuleRow.holds Try.pinned (OpenSpec.ofChange fnExactIsValidRuleSpec)

/-- ITS FALSE NEIGHBOUR: 'it returns false'. Refute it at one input. -/
def fnExactIsValidRuleWrong : ChangeSpec := { name := "fnExactIsValidRule", fn := fun _ => fun
  | [d1, d2] => { results := [.lit (.bool false)], args := [d1, d2] }
  | _ => none }
def FnExactIsValidRuleWrongFalsely : Prop := fnExactIsValidRuleRow.holds Try.pinned (OpenSpec.ofChange fnExactIsValidRuleWrong)

/-- 'laws.FnExactIsValidDescription': WHATEVER THE INPUT: true; the input reads as it did. -/
def fnExactIsValidDescriptionSpec : ChangeSpec := { name := "fnExactIsValidDescription", fn := fun _ => fun
  | [d] => { results := [.lit (.bool true)], args := [d] }
  | _ => none }
def fnExactIsValidDescriptionRow : OpenClaim := { program := "ytdhfcopfoknokaa", sum := "ff6a2dc43adc487b1ddfc9a530f9f911f75aa1ed529590f39bbfc4d332e3ca47", func := "loop.example/g00518/laws.FnExactIsValidDescription", spec := "fnExactIsValidDescription", apart := false }
def FnExactIsValidDescriptionSaid : Prop := fnExactIsValidDescriptionRow.holds Try.pinned (OpenSpec.ofChange fnExactIsValidDescriptionSpec)

/-- ITS FALSE NEIGHBOUR: 'it returns false'. Refute it at one input. -/
def fnExactIsValidDescriptionWrong : ChangeSpec := { name := "fnExactIsValidDescription", fn := fun _ => fun
  | [d] => { results := [.lit (.bool false)], args := [d] }
  | _ => none }
def FnExactIsValidDescriptionWrongFalsely : Prop := fnExactIsValidDescriptionRow.holds Try.pinned (OpenSpec.ofChange fnExactIsValidDescriptionWrong)

/-- 'laws.FnExactRootOf': WHATEVER THE INPUT: true; the input reads as it did. -/
def fnExactRootOfSpec : ChangeSpec := { name := "fnExactRootOf", fn := fun _ => fun
  | [d] => { results := [.lit (.bool true)], args := [d] }
  | _ => none }
def fnExactRootOfRow : OpenClaim := { program := "ytdhfcopfoknokaa", sum := "ff6a2dc43adc487b1ddfc9a530f9f911f75aa1ed529590f39bbfc4d332e3ca47", func := "loop.example/g00518/laws.FnExactRootOf", spec := "fnExactRootOf", apart := false }
def FnExactRootOfSaid : Prop := fnExactRootOfRow.holds Try.pinned (OpenSpec.ofChange fnExactRootOfSpec)

/-- ITS FALSE NEIGHBOUR: 'it returns false'. Refute it at one input. -/
def fnExactRootOfWrong : ChangeSpec := { name := "fnExactRootOf", fn := fun _ => fun
  | [d] => { results := [.lit (.bool false)], args := [d] }
  | _ => none }
def FnExactRootOfWrongFalsely : Prop := fnExactRootOfRow.holds Try.pinned (OpenSpec.ofChange fnExactRootOfWrong)

/-- 'laws.FnExactFindRule': WHATEVER THE INPUT: true; the input reads as it did. -/
def fnExactFindRuleSpec : ChangeSpec := { name := "fnExactFindRule", fn := fun _ => fun
  | [d1, d2] => { results := [.lit (.bool true)], args := [d1, d2] }
  | _ => none }
def fnExactFindRuleRow : OpenClaim := { program := "ytdhfcopfoknokaa", sum := "ff6a2dc43adc487b1ddfc9a530f9f911f75aa1ed529590f39bbfc4d332e3ca47", func := "loop.example/g00518/laws.FnExactFindRule", spec := "fnExactFindRule", apart := false }
def FnExactFindRuleSaid : Prop := fnExactFindRuleRow.holds Try.pinned (OpenSpec.ofChange fnExactFindRuleSpec)

/-- ITS FALSE NEIGHBOUR: 'it returns false'. Refute it at one input. -/
def fnExactFindRuleWrong : ChangeSpec := { name := "fnExactFindRule", fn := fun _ => fun
  | [d1, d2] => { results := [.lit (.bool false)], args := [d1, d2] }
  | _ => none }
def FnExactFindRuleWrongFalsely : Prop := fnExactFindRuleRow.holds Try.pinned (OpenSpec.ofChange fnExactFindRuleWrong)

/-- 'laws.FnExactKindName': WHATEVER THE INPUT: true; the input reads as it did. -/
def fnExactKindNameSpec : ChangeSpec := { name := "fnExactKindName", fn := fun _ => fun
  | [d] => { results := [.lit (.bool true)], args := [d] }
  | _ => none }
def fnExactKindNameRow : OpenClaim := { program := "ytdhfcopfoknokaa", sum := "ff6a2dc43adc487b1ddfc9a530f9f911f75aa1ed529590f39bbfc4d332e3ca47", func := "loop.example/g00518/laws.FnExactKindName", spec := "fnExactKindName", apart := false }
def FnExactKindNameSaid : Prop := fnExactKindNameRow.holds Try.pinned (OpenSpec.ofChange fnExactKindNameSpec)

/-- ITS FALSE NEIGHBOUR: 'it returns false'. Refute it at one input. -/
def fnExactKindNameWrong : ChangeSpec := { name := "fnExactKindName", fn := fun _ => fun
  | [d] => { results := [.lit (.bool false)], args := [d] }
  | _ => none }
def FnExactKindNameWrongFalsely : Prop := fnExactKindNameRow.holds Try.pinned (OpenSpec.ofChange fnExactKindNameWrong)

/-- 'laws.FnExactIntegerLimit': WHATEVER THE INPUT: true; the input reads as it did. -/
def fnExactIntegerLimitSpec : ChangeSpec := { name := "fnExactIntegerLimit", fn := fun _ => fun
  | [d1, d2] => { results := [.lit (.bool true)], args := [d1, d2] }
  | _ => none }
def fnExactIntegerLimitRow : OpenClaim := { program := "ytdhfcopfoknokaa", sum := "ff6a2dc43adc487b1ddfc9a530f9f911f75aa1ed529590f39bbfc4d332e3ca47", func := "loop.example/g00518/laws.FnExactIntegerLimit", spec := "fnExactIntegerLimit", apart := false }
def FnExactIntegerLimitSaid : Prop := fnExactIntegerLimitRow.holds Try.pinned (OpenSpec.ofChange fnExactIntegerLimitSpec)

/-- ITS FALSE NEIGHBOUR: 'it returns false'. Refute it at one input. -/
def fnExactIntegerLimitWrong : ChangeSpec := { name := "fnExactIntegerLimit", fn := fun _ => fun
  | [d1, d2] => { results := [.lit (.bool false)], args := [d1, d2] }
  | _ => none }
def FnExactIntegerLimitWrongFalsely : Prop := fnExactIntegerLimitRow.holds Try.pinned (OpenSpec.ofChange fnExactIntegerLimitWrong)

/-- 'laws.FnExactCopyDescription': WHATEVER THE INPUT: true; the input reads as it did. -/
def fnExactCopyDescriptionSpec : ChangeSpec := { name := "fnExactCopyDescription", fn := fun _ => fun
  | [d] => { results := [.lit (.bool true)], args := [d] }
  | _ => none }
def fnExactCopyDescriptionRow : OpenClaim := { program := "ytdhfcopfoknokaa", sum := "ff6a2dc43adc487b1ddfc9a530f9f911f75aa1ed529590f39bbfc4d332e3ca47", func := "loop.example/g00518/laws.FnExactCopyDescription", spec := "fnExactCopyDescription", apart := false }
def FnExactCopyDescriptionSaid : Prop := fnExactCopyDescriptionRow.holds Try.pinned (OpenSpec.ofChange fnExactCopyDescriptionSpec)

/-- ITS FALSE NEIGHBOUR: 'it returns false'. Refute it at one input. -/
def fnExactCopyDescriptionWrong : ChangeSpec := { name := "fnExactCopyDescription", fn := fun _ => fun
  | [d] => { results := [.lit (.bool false)], args := [d] }
  | _ => none }
def FnExactCopyDescriptionWrongFalsely : Prop := fnExactCopyDescriptionRow.holds Try.pinned (OpenSpec.ofChange fnExactCopyDescriptionWrong)

/-- 'laws.FnExactEqualDescriptions': WHATEVER THE INPUT: true; the input reads as it did. -/
def fnExactEqualDescriptionsSpec : ChangeSpec := { name := "fnExactEqualDescriptions", fn := fun _ => fun
  | [d1, d2] => { results := [.lit (.bool true)], args := [d1, d2] }
  | _ => none }
def fnExactEqualDescriptionsRow : OpenClaim := { program := "ytdhfcopfoknokaa", sum := "ff6a2dc43adc487b1ddfc9a530f9f911f75aa1ed529590f39bbfc4d332e3ca47", func := "loop.example/g00518/laws.FnExactEqualDescriptions", spec := "fnExactEqualDescriptions", unfollowed := true, recurses := true, apart := false }
def FnExactEqualDescriptionsSaid : Prop := fnExactEqualDescriptionsRow.holds Try.pinned (OpenSpec.ofChange fnExactEqualDescriptionsSpec)

/-- ITS FALSE NEIGHBOUR: 'it returns false'. Refute it at one input. -/
def fnExactEqualDescriptionsWrong : ChangeSpec := { name := "fnExactEqualDescriptions", fn := fun _ => fun
  | [d1, d2] => { results := [.lit (.bool false)], args := [d1, d2] }
  | _ => none }
def FnExactEqualDescriptionsWrongFalsely : Prop := fnExactEqualDescriptionsRow.holds Try.pinned (OpenSpec.ofChange fnExactEqualDescriptionsWrong)

/- THE SECOND FORM. 'bulk': how many values and letters a reading holds, each counted each time it is reached (what is shared counts as often as it is met; a slice's spare places count too). A statement '..UptoSaid' is the law's where the arguments, and the package variables that the reading takes, are together of bulk at most 1048576: NARROWER than '..Said'. Prove '..Said' where nothing that the law and all that it calls make is longer than what came in: it says more and counts as full. Else prove '..UptoSaid'. A law counts once. -/
mutual
def uptoBulk {H : Type} : DataW H → Nat
  | .lit (.string bytes) => bytes.length + 1
  | .lit _ => 1
  | .nil => 1
  | .ptr d => uptoBulk d + 1
  | .slice elems spare => uptoBulkAll elems + uptoBulkAll spare + 1
  | .agg parts => uptoBulkAll parts + 1
  | .iface _ d => uptoBulk d + 1
  | .map entries => uptoBulkEntries entries + 1
  | .held _ => 1
def uptoBulkAll {H : Type} : List (DataW H) → Nat
  | [] => 0
  | d :: r => uptoBulk d + uptoBulkAll r
def uptoBulkEntries {H : Type} : List (Lit × DataW H) → Nat
  | [] => 0
  | x :: r => uptoBulkEntry x + uptoBulkEntries r
def uptoBulkEntry {H : Type} : Lit × DataW H → Nat
  | (.string bytes, d) => bytes.length + uptoBulk d + 1
  | (_, d) => uptoBulk d + 1
 end
def uptoSmall : (H : Type) → List (DataW H) → Bool := fun _ ds => decide (uptoBulkAll ds ≤ 1048576)
def OpenSpec.upto (s : _root_.Go.ChangeSpec) : _root_.Go.OpenSpec := { _root_.Go.OpenSpec.ofChange s with cond := some uptoSmall }

/-- 'laws.FnNames', WHERE WHAT IT READS IS OF BULK AT MOST 1048576: true; the input reads as it did. -/
def fnNamesUptoRow : OpenClaim := { program := "ytdhfcopfoknokaa", sum := "ff6a2dc43adc487b1ddfc9a530f9f911f75aa1ed529590f39bbfc4d332e3ca47", func := "loop.example/g00518/laws.FnNames", spec := "fnNames", apart := false, narrowed := true }
def FnNamesUptoSaid : Prop := fnNamesUptoRow.holds Try.pinned (OpenSpec.upto fnNamesSpec)

/-- 'laws.FnDescriptions', WHERE WHAT IT READS IS OF BULK AT MOST 1048576: true; the input reads as it did. -/
def fnDescriptionsUptoRow : OpenClaim := { program := "ytdhfcopfoknokaa", sum := "ff6a2dc43adc487b1ddfc9a530f9f911f75aa1ed529590f39bbfc4d332e3ca47", func := "loop.example/g00518/laws.FnDescriptions", spec := "fnDescriptions", unfollowed := true, recurses := true, apart := false, narrowed := true }
def FnDescriptionsUptoSaid : Prop := fnDescriptionsUptoRow.holds Try.pinned (OpenSpec.upto fnDescriptionsSpec)

/-- 'laws.FnExactIsValidRule', WHERE WHAT IT READS IS OF BULK AT MOST 1048576: true; the input reads as it did. -/
def fnExactIsValidRuleUptoRow : OpenClaim := { program := "ytdhfcopfoknokaa", sum := "ff6a2dc43adc487b1ddfc9a530f9f911f75aa1ed529590f39bbfc4d332e3ca47", func := "loop.example/g00518/laws.FnExactIsValidRule", spec := "fnExactIsValidRule", apart := false, narrowed := true }
def FnExactIsValidRuleUptoSaid : Prop := fnExactIsValidRuleUptoRow.holds Try.pinned (OpenSpec.upto fnExactIsValidRuleSpec)

/-- 'laws.FnExactIsValidDescription', WHERE WHAT IT READS IS OF BULK AT MOST 1048576: true; the input reads as it did. -/
def fnExactIsValidDescriptionUptoRow : OpenClaim := { program := "ytdhfcopfoknokaa", sum := "ff6a2dc43adc487b1ddfc9a530f9f911f75aa1ed529590f39bbfc4d332e3ca47", func := "loop.example/g00518/laws.FnExactIsValidDescription", spec := "fnExactIsValidDescription", apart := false, narrowed := true }
def FnExactIsValidDescriptionUptoSaid : Prop := fnExactIsValidDescriptionUptoRow.holds Try.pinned (OpenSpec.upto fnExactIsValidDescriptionSpec)

/-- 'laws.FnExactRootOf', WHERE WHAT IT READS IS OF BULK AT MOST 1048576: true; the input reads as it did. -/
def fnExactRootOfUptoRow : OpenClaim := { program := "ytdhfcopfoknokaa", sum := "ff6a2dc43adc487b1ddfc9a530f9f911f75aa1ed529590f39bbfc4d332e3ca47", func := "loop.example/g00518/laws.FnExactRootOf", spec := "fnExactRootOf", apart := false, narrowed := true }
def FnExactRootOfUptoSaid : Prop := fnExactRootOfUptoRow.holds Try.pinned (OpenSpec.upto fnExactRootOfSpec)

/-- 'laws.FnExactFindRule', WHERE WHAT IT READS IS OF BULK AT MOST 1048576: true; the input reads as it did. -/
def fnExactFindRuleUptoRow : OpenClaim := { program := "ytdhfcopfoknokaa", sum := "ff6a2dc43adc487b1ddfc9a530f9f911f75aa1ed529590f39bbfc4d332e3ca47", func := "loop.example/g00518/laws.FnExactFindRule", spec := "fnExactFindRule", apart := false, narrowed := true }
def FnExactFindRuleUptoSaid : Prop := fnExactFindRuleUptoRow.holds Try.pinned (OpenSpec.upto fnExactFindRuleSpec)

/-- 'laws.FnExactKindName', WHERE WHAT IT READS IS OF BULK AT MOST 1048576: true; the input reads as it did. -/
def fnExactKindNameUptoRow : OpenClaim := { program := "ytdhfcopfoknokaa", sum := "ff6a2dc43adc487b1ddfc9a530f9f911f75aa1ed529590f39bbfc4d332e3ca47", func := "loop.example/g00518/laws.FnExactKindName", spec := "fnExactKindName", apart := false, narrowed := true }
def FnExactKindNameUptoSaid : Prop := fnExactKindNameUptoRow.holds Try.pinned (OpenSpec.upto fnExactKindNameSpec)

/-- 'laws.FnExactIntegerLimit', WHERE WHAT IT READS IS OF BULK AT MOST 1048576: true; the input reads as it did. -/
def fnExactIntegerLimitUptoRow : OpenClaim := { program := "ytdhfcopfoknokaa", sum := "ff6a2dc43adc487b1ddfc9a530f9f911f75aa1ed529590f39bbfc4d332e3ca47", func := "loop.example/g00518/laws.FnExactIntegerLimit", spec := "fnExactIntegerLimit", apart := false, narrowed := true }
def FnExactIntegerLimitUptoSaid : Prop := fnExactIntegerLimitUptoRow.holds Try.pinned (OpenSpec.upto fnExactIntegerLimitSpec)

/-- 'laws.FnExactCopyDescription', WHERE WHAT IT READS IS OF BULK AT MOST 1048576: true; the input reads as it did. -/
def fnExactCopyDescriptionUptoRow : OpenClaim := { program := "ytdhfcopfoknokaa", sum := "ff6a2dc43adc487b1ddfc9a530f9f911f75aa1ed529590f39bbfc4d332e3ca47", func := "loop.example/g00518/laws.FnExactCopyDescription", spec := "fnExactCopyDescription", apart := false, narrowed := true }
def FnExactCopyDescriptionUptoSaid : Prop := fnExactCopyDescriptionUptoRow.holds Try.pinned (OpenSpec.upto fnExactCopyDescriptionSpec)

/-- 'laws.FnExactEqualDescriptions', WHERE WHAT IT READS IS OF BULK AT MOST 1048576: true; the input reads as it did. -/
def fnExactEqualDescriptionsUptoRow : OpenClaim := { program := "ytdhfcopfoknokaa", sum := "ff6a2dc43adc487b1ddfc9a530f9f911f75aa1ed529590f39bbfc4d332e3ca47", func := "loop.example/g00518/laws.FnExactEqualDescriptions", spec := "fnExactEqualDescriptions", unfollowed := true, recurses := true, apart := false, narrowed := true }
def FnExactEqualDescriptionsUptoSaid : Prop := fnExactEqualDescriptionsUptoRow.holds Try.pinned (OpenSpec.upto fnExactEqualDescriptionsSpec)

end Rows
end Go.Proofs.Ytdhfcopfoknokaa
