/- Contracts of CountKind and KidName, of the model and of the program. -/
import Derived.Test.YtndjefednfcmmaaGreatDoorGFnd
import Derived.BigQuiet
namespace Go.Proofs.YtndjefednfcmmaaGreatDoor
open Go Go.RowKit
/-- How many of the rules are of a kind. -/
def countK (k : Int) : List RuleV → Nat
  | [] => 0
  | r :: rs => (if r.kind = k then 1 else 0) + countK k rs
theorem countK_take {k : Int} {rs : List RuleV} {j : Nat} (h : j < rs.length) : countK k (rs.take (j + 1)) = countK k (rs.take j) + (if rs[j].kind = k then 1 else 0) := by
  induction rs generalizing j with
  | nil => simp at h
  | cons r rs ih =>
    cases j with
    | zero => simp [countK]
    | succ j =>
      have := ih (j := j) (by simpa using h)
      simp only [List.take_succ_cons, countK, List.getElem_cons_succ]
      omega
theorem countK_le (k : Int) (rs : List RuleV) : countK k rs ≤ rs.length := by
  induction rs with
  | nil => simp [countK]
  | cons r rs ih => simp only [countK, List.length_cons]; split <;> omega
end Go.Proofs.YtndjefednfcmmaaGreatDoor
