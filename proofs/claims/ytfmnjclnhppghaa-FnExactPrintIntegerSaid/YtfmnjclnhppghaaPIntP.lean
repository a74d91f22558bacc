/- What PrintInteger answers, as data. No program is walked here. -/
import Derived.Test.YtfmnjclnhppghaaRuleOk
import Derived.Test.YtfmnjclnhppghaaVal
import Derived.Test.YtfmnjclnhppghaaInt8
namespace Go.Proofs.Ytfmnjclnhppghaa
open Go Go.RowKit
/-- Whether an integer is printed. -/
noncomputable def pintB (rs : List RuleV) (k n : Int) : Bool := okAt rs k && decide (0 ≤ n ∧ n ≤ limitAt rs k)
/-- Its bytes. -/
def pintL (rs : List RuleV) (k n : Int) : List UInt8 := encI (ruleAt rs k).little n (ruleAt rs k).size
theorem pint_same (rs : List RuleV) (k n : Int) : pintB rs k n = (descrB (kindI rs) rs && decide (0 ≤ n ∧ n ≤ limitAt rs k)) := by
  unfold pintB okAt
  by_cases h : 0 ≤ k ∧ k < (rs.length : Int)
  · rw [decide_eq_true h, Bool.true_and]
  · have h2 := limitAt_out h
    rw [decide_eq_false h, Bool.false_and, Bool.false_and]
    rw [show decide (0 ≤ n ∧ n ≤ limitAt rs k) = false from decide_eq_false (by omega), Bool.and_false]
theorem pint_in {rs : List RuleV} {k n : Int} (h : pintB rs k n = true) : 0 ≤ k ∧ k < (rs.length : Int) := by
  unfold pintB at h
  rw [Bool.and_eq_true] at h
  exact (okAt_yes h.1).1
theorem encI_le4 (l : Bool) (n s : Int) : (encI l n s).length ≤ 4 := by
  have h := beOf_length n s
  unfold encI
  cases l <;> simp [h]
theorem pintL_le (rs : List RuleV) (k n : Int) : (pintL rs k n).length ≤ 4 := encI_le4 _ _ _
theorem pint_len (rs : List RuleV) (k n : Int) : (if pintB rs k n = true then pintL rs k n else []).length ≤ 4 := by
  split
  · exact pintL_le _ _ _
  · exact Nat.zero_le _
end Go.Proofs.Ytfmnjclnhppghaa
