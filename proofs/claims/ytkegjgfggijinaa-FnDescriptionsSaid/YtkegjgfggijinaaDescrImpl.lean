/- Contracts of the program's RootOf, FindRule, KindName, IntegerLimit (chapter 4), InRange, hasRule. -/
import Derived.Test.YtkegjgfggijinaaLimit
import Derived.Test.YtkegjgfggijinaaRuleTo
namespace Go.Proofs.Ytkegjgfggijinaa
open Go Go.RowKit
theorem inI_any (x lo hi : Int) (b : Bool) (w : World) (hb : decide (lo ≤ x ∧ x ≤ hi) = b) :
    Calls Try.prog 27 #[.int .i64 x, .int .i64 lo, .int .i64 hi] w fun e w' => e = .returned (.bool b) ∧ w = w' := by
  subst hb
  by_cases ha : lo ≤ x
  · by_cases hc : x ≤ hi
    · go_enter Try.func27, Try.ntmps27
      go_wp2
      go_ret
      exact ⟨ret_bool (decide_eq_true ⟨ha, hc⟩).symm, rfl⟩
    · have hd : decide (x ≤ hi) = false := by simp [hc]
      go_enter Try.func27, Try.ntmps27
      go_wp2
      go_ret
      first | exact ⟨rfl, rfl⟩ | exact ⟨ret_bool (decide_eq_false (by omega)).symm, rfl⟩ | exact ⟨ret_bool (by simp; omega), rfl⟩
  · have hd : decide (lo ≤ x) = false := by simp [ha]
    go_enter Try.func27, Try.ntmps27
    go_wp2
    go_ret
    first | exact ⟨rfl, rfl⟩ | exact ⟨ret_bool (decide_eq_false (by omega)).symm, rfl⟩ | exact ⟨ret_bool (by simp; omega), rfl⟩
theorem root_impl (a : Option Addr) (rs : List RuleV) (cap : Nat) (w : World) (hl : rs.length ≤ 1073741824) (_h : RdR a rs w) :
    Calls Try.prog 10 #[.agg #[.slice a rs.length cap]] w fun e w' => e = .returned (.int .i64 ((rs.length : Int) - 1)) ∧ Below w.heap.size w w' := by
  go_enter Try.func10, Try.ntmps10
  go_wp2
  go_ret
  exact ⟨rfl, (Below.refl _ _).alloc (Nat.le_refl _) _⟩
theorem hasr_impl (a : Option Addr) (n cap : Nat) (k : Int) (w : World) (hl : n ≤ 1073741824) (b : Bool) (hb : decide (0 ≤ k ∧ k < (n : Int)) = b) :
    Calls Try.prog 28 #[.agg #[.slice a n cap], .int .i64 k] w fun e w' => e = .returned (.bool b) ∧ Below w.heap.size w w' := by
  have hb2 : decide (0 ≤ k ∧ k ≤ (n : Int) - 1) = b := by
    rw [← hb]
    by_cases h : 0 ≤ k ∧ k < (n : Int)
    · rw [decide_eq_true h, decide_eq_true (by omega)]
    · rw [decide_eq_false h, decide_eq_false (by omega)]
  clear hb
  go_enter Try.func28, Try.ntmps28
  go_wp2_with fail
  refine (inI_any _ _ _ b _ hb2).mono ?_
  rintro e w1 ⟨rfl, rfl⟩
  go_wp2
  go_ret
  exact ⟨rfl, (Below.refl _ _).alloc (Nat.le_refl _) _⟩
end Go.Proofs.Ytkegjgfggijinaa
