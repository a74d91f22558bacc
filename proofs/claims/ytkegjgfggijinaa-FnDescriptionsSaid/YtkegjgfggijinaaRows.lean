/-
  No cell of these rows narrows 'for every input' (looked for: loops, veiled, ifaces, maps, wideKeys, modest, calm, conditions, laid).
  DERIVED. THE GIVEN ROWS OF THIS SEAT. 4 by the template 'for every input the law returns true; each argument reads behind the call as it read before'; 0 by the template 'total and deterministic' (their statements: YtkegjgfggijinaaTotals.lean).
  GIVEN WITH THE SEED: the statements are not yours to turn. If you find one false, say at which input.
  Laid BY PROGRAM, IN A SANDBOX (cutbox-rows.mjs): the forced cells as the released guide's own fill.sh prints them over the translation 9d01e326a46220c0… (all of the seat's roots in one cut). By AI agents, Wed Nov 11 2026. No macro, syntax, notation, axiom, sorry.
-/
import Derived.Test.YtkegjgfggijinaaChecked
import GoSem.Claim
import GoSem.ClaimJoined
import GoSem.ClaimMapViews
import Derived.JoinedTies
import Derived.KernelRfl
namespace Go.Proofs.Ytkegjgfggijinaa
/- THE CELL 'sum', in the pinned program and in every row, IS THE sha256 OF THE DUMP (.gsa) THAT YtkegjgfggijinaaProg.lean LOADS. Nothing in Lean hashes anything: it is a label: what it is worth is what the hold of that sum in a sandbox is worth. -/
noncomputable def Try.pinned : Pinned := { name := "ytkegjgfggijinaa", sum := "9d01e326a46220c022824d6d8f9c9b97448ed96d3afddef6da55e16efe1904d5", checked := Try.checked }
namespace Rows
def none {H : Type} : Left H := { results := [], args := [] }

/-- 'laws.FnDescriptions': WHATEVER THE INPUT: true; the input reads as it did. -/
def fnDescriptionsSpec : ChangeSpec := { name := "fnDescriptions", fn := fun _ => fun
  | [d] => { results := [.lit (.bool true)], args := [d] }
  | _ => none }
def fnDescriptionsRow : OpenClaim := { program := "ytkegjgfggijinaa", sum := "9d01e326a46220c022824d6d8f9c9b97448ed96d3afddef6da55e16efe1904d5", func := "loop.example/g00518/laws.FnDescriptions", spec := "fnDescriptions", unfollowed := true, recurses := true, apart := false }
def FnDescriptionsSaid : Prop := fnDescriptionsRow.holds Try.pinned (OpenSpec.ofChange fnDescriptionsSpec)

/-- ITS FALSE NEIGHBOUR: 'it returns false'. Refute it at one input. -/
def fnDescriptionsWrong : ChangeSpec := { name := "fnDescriptions", fn := fun _ => fun
  | [d] => { results := [.lit (.bool false)], args := [d] }
  | _ => none }
def FnDescriptionsWrongFalsely : Prop := fnDescriptionsRow.holds Try.pinned (OpenSpec.ofChange fnDescriptionsWrong)

/-- 'laws.FnExactParseKid': WHATEVER THE INPUT: true; the input reads as it did. -/
def fnExactParseKidSpec : ChangeSpec := { name := "fnExactParseKid", fn := fun _ => fun
  | [d1, d2] => { results := [.lit (.bool true)], args := [d1, d2] }
  | _ => none }
def fnExactParseKidRow : OpenClaim := { program := "ytkegjgfggijinaa", sum := "9d01e326a46220c022824d6d8f9c9b97448ed96d3afddef6da55e16efe1904d5", func := "loop.example/g00518/laws.FnExactParseKid", spec := "fnExactParseKid", unfollowed := true, recurses := true, apart := false }
def FnExactParseKidSaid : Prop := fnExactParseKidRow.holds Try.pinned (OpenSpec.ofChange fnExactParseKidSpec)

/-- ITS FALSE NEIGHBOUR: 'it returns false'. Refute it at one input. -/
def fnExactParseKidWrong : ChangeSpec := { name := "fnExactParseKid", fn := fun _ => fun
  | [d1, d2] => { results := [.lit (.bool false)], args := [d1, d2] }
  | _ => none }
def FnExactParseKidWrongFalsely : Prop := fnExactParseKidRow.holds Try.pinned (OpenSpec.ofChange fnExactParseKidWrong)

/-- 'laws.FnExactIsComment': WHATEVER THE INPUT: true; the input reads as it did. -/
def fnExactIsCommentSpec : ChangeSpec := { name := "fnExactIsComment", fn := fun _ => fun
  | [d] => { results := [.lit (.bool true)], args := [d] }
  | _ => none }
def fnExactIsCommentRow : OpenClaim := { program := "ytkegjgfggijinaa", sum := "9d01e326a46220c022824d6d8f9c9b97448ed96d3afddef6da55e16efe1904d5", func := "loop.example/g00518/laws.FnExactIsComment", spec := "fnExactIsComment", inPlace := ["internal/bytealg.IndexByteString"], apart := false }
def FnExactIsCommentSaid : Prop := fnExactIsCommentRow.holds Try.pinned (OpenSpec.ofChange fnExactIsCommentSpec)

/-- ITS FALSE NEIGHBOUR: 'it returns false'. Refute it at one input. -/
def fnExactIsCommentWrong : ChangeSpec := { name := "fnExactIsComment", fn := fun _ => fun
  | [d] => { results := [.lit (.bool false)], args := [d] }
  | _ => none }
def FnExactIsCommentWrongFalsely : Prop := fnExactIsCommentRow.holds Try.pinned (OpenSpec.ofChange fnExactIsCommentWrong)

/-- 'laws.FnExactCountRuleLines': WHATEVER THE INPUT: true; the input reads as it did. -/
def fnExactCountRuleLinesSpec : ChangeSpec := { name := "fnExactCountRuleLines", fn := fun _ => fun
  | [d] => { results := [.lit (.bool true)], args := [d] }
  | _ => none }
def fnExactCountRuleLinesRow : OpenClaim := { program := "ytkegjgfggijinaa", sum := "9d01e326a46220c022824d6d8f9c9b97448ed96d3afddef6da55e16efe1904d5", func := "loop.example/g00518/laws.FnExactCountRuleLines", spec := "fnExactCountRuleLines", inPlace := ["internal/bytealg.IndexByteString"], apart := false }
def FnExactCountRuleLinesSaid : Prop := fnExactCountRuleLinesRow.holds Try.pinned (OpenSpec.ofChange fnExactCountRuleLinesSpec)

/-- ITS FALSE NEIGHBOUR: 'it returns false'. Refute it at one input. -/
def fnExactCountRuleLinesWrong : ChangeSpec := { name := "fnExactCountRuleLines", fn := fun _ => fun
  | [d] => { results := [.lit (.bool false)], args := [d] }
  | _ => none }
def FnExactCountRuleLinesWrongFalsely : Prop := fnExactCountRuleLinesRow.holds Try.pinned (OpenSpec.ofChange fnExactCountRuleLinesWrong)

/- THE SECOND FORM. 'bulk': how many values and letters a reading holds, each counted each time it is reached (what is shared counts as often as it is met; a slice's spare places count too). A statement '..UptoSaid' is the law's where the arguments, and the package variables that the reading takes, are together of bulk at most 1048576: NARROWER than '..Said'. Prove '..Said' where nothing that the law and all that it calls make is longer than what came in: it says more and counts as full. Else prove '..UptoSaid'. A law counts once. -/
mutual
def uptoBulk {H : Type} : DataW H → Nat
  | .lit (.string bytes) => bytes.length + 1
  | .lit _ => 1
  | .nil => 1
  | .ptr d => uptoBulk d + 1
  | .slice elems spare => uptoBulkAll elems + uptoBulkAll spare + 1
  | .agg parts => uptoBulkAll parts + 1
  | .iface _ d => uptoBulk d + 1
  | .map entries => uptoBulkEntries entries + 1
  | .held _ => 1
def uptoBulkAll {H : Type} : List (DataW H) → Nat
  | [] => 0
  | d :: r => uptoBulk d + uptoBulkAll r
def uptoBulkEntries {H : Type} : List (Lit × DataW H) → Nat
  | [] => 0
  | x :: r => uptoBulkEntry x + uptoBulkEntries r
def uptoBulkEntry {H : Type} : Lit × DataW H → Nat
  | (.string bytes, d) => bytes.length + uptoBulk d + 1
  | (_, d) => uptoBulk d + 1
 end
def uptoSmall : (H : Type) → List (DataW H) → Bool := fun _ ds => decide (uptoBulkAll ds ≤ 1048576)
def OpenSpec.upto (s : _root_.Go.ChangeSpec) : _root_.Go.OpenSpec := { _root_.Go.OpenSpec.ofChange s with cond := some uptoSmall }

/-- 'laws.FnDescriptions', WHERE WHAT IT READS IS OF BULK AT MOST 1048576: true; the input reads as it did. -/
def fnDescriptionsUptoRow : OpenClaim := { program := "ytkegjgfggijinaa", sum := "9d01e326a46220c022824d6d8f9c9b97448ed96d3afddef6da55e16efe1904d5", func := "loop.example/g00518/laws.FnDescriptions", spec := "fnDescriptions", unfollowed := true, recurses := true, apart := false, narrowed := true }
def FnDescriptionsUptoSaid : Prop := fnDescriptionsUptoRow.holds Try.pinned (OpenSpec.upto fnDescriptionsSpec)

/-- 'laws.FnExactParseKid', WHERE WHAT IT READS IS OF BULK AT MOST 1048576: true; the input reads as it did. -/
def fnExactParseKidUptoRow : OpenClaim := { program := "ytkegjgfggijinaa", sum := "9d01e326a46220c022824d6d8f9c9b97448ed96d3afddef6da55e16efe1904d5", func := "loop.example/g00518/laws.FnExactParseKid", spec := "fnExactParseKid", unfollowed := true, recurses := true, apart := false, narrowed := true }
def FnExactParseKidUptoSaid : Prop := fnExactParseKidUptoRow.holds Try.pinned (OpenSpec.upto fnExactParseKidSpec)

/-- 'laws.FnExactIsComment', WHERE WHAT IT READS IS OF BULK AT MOST 1048576: true; the input reads as it did. -/
def fnExactIsCommentUptoRow : OpenClaim := { program := "ytkegjgfggijinaa", sum := "9d01e326a46220c022824d6d8f9c9b97448ed96d3afddef6da55e16efe1904d5", func := "loop.example/g00518/laws.FnExactIsComment", spec := "fnExactIsComment", inPlace := ["internal/bytealg.IndexByteString"], apart := false, narrowed := true }
def FnExactIsCommentUptoSaid : Prop := fnExactIsCommentUptoRow.holds Try.pinned (OpenSpec.upto fnExactIsCommentSpec)

/-- 'laws.FnExactCountRuleLines', WHERE WHAT IT READS IS OF BULK AT MOST 1048576: true; the input reads as it did. -/
def fnExactCountRuleLinesUptoRow : OpenClaim := { program := "ytkegjgfggijinaa", sum := "9d01e326a46220c022824d6d8f9c9b97448ed96d3afddef6da55e16efe1904d5", func := "loop.example/g00518/laws.FnExactCountRuleLines", spec := "fnExactCountRuleLines", inPlace := ["internal/bytealg.IndexByteString"], apart := false, narrowed := true }
def FnExactCountRuleLinesUptoSaid : Prop := fnExactCountRuleLinesUptoRow.holds Try.pinned (OpenSpec.upto fnExactCountRuleLinesSpec)

end Rows
end Go.Proofs.Ytkegjgfggijinaa
