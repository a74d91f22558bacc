/- The answer of TagBytes. No program is walked here. -/
import Derived.Test.YtekmopoblfknlaaStartP
namespace Go.Proofs.Ytekmopoblfknlaa
open Go Go.RowKit
theorem tagD_no {rs : List RuleV} {k j : Int} (h : ¬ (okAt rs k = true ∧ (ruleAt rs k).kind = 7 ∧ 0 ≤ j ∧ j < ((ruleAt rs k).tags.length : Int))) : tagD rs k j = [] := by unfold tagD; rw [if_neg h]
theorem tagD_yes {rs : List RuleV} {m t : Nat} (hok : okAt rs (m : Int) = true) (hm : m < rs.length) (hk : rs[m].kind = 7) (ht : t < rs[m].tags.length) : tagD rs (m : Int) (t : Int) = tagB rs rs[m] rs[m].tags[t] := by
  unfold tagD
  rw [if_pos ⟨hok, by rw [ruleAt_at hm]; exact hk, by omega, by rw [ruleAt_at hm]; omega⟩, ruleAt_at hm, Int.toNat_natCast, List.getD, List.getElem?_eq_getElem ht, Option.getD_some]
end Go.Proofs.Ytekmopoblfknlaa
