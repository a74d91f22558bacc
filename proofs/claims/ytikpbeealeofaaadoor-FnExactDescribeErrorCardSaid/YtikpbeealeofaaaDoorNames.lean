/- Contracts of IsName, the model's and the program's. -/
import Derived.Test.YtikpbeealeofaaaDoorRowF
import Derived.Test.YtikpbeealeofaaaDoorTxt2
import Derived.Laws.RangeAny
namespace Go.Proofs.YtikpbeealeofaaaDoor
open Go Go.RowKit
theorem in_spec (x : Int) (b : Bool) (w : World) (hb : decide (1 ≤ x ∧ x ≤ 12) = b) :
    Calls Tryd.prog 10 #[.int .i64 x, .int .i64 1, .int .i64 12] w fun e w' => e = .returned (.bool b) ∧ w = w' := by
  subst hb
  by_cases ha : 1 ≤ x
  · by_cases hc : x ≤ 12
    · go_enter Tryd.func10, Tryd.ntmps10
      go_wp2
      go_ret
      exact ⟨ret_bool (decide_eq_true ⟨ha, hc⟩).symm, rfl⟩
    · have hd : decide (x ≤ 12) = false := by simp [hc]
      go_enter Tryd.func10, Tryd.ntmps10
      go_wp2
      go_ret
      exact ⟨rfl, rfl⟩
  · have hd : decide (1 ≤ x) = false := by simp [ha]
    go_enter Tryd.func10, Tryd.ntmps10
    go_wp2
    go_ret
    exact ⟨rfl, rfl⟩
theorem in_impl (x : Int) (b : Bool) (w : World) (hb : decide (1 ≤ x ∧ x ≤ 12) = b) :
    Calls Tryd.prog 11 #[.int .i64 x, .int .i64 1, .int .i64 12] w fun e w' => e = .returned (.bool b) ∧ w = w' := by
  subst hb
  by_cases ha : 1 ≤ x
  · by_cases hc : x ≤ 12
    · go_enter Tryd.func11, Tryd.ntmps11
      go_wp2
      go_ret
      exact ⟨ret_bool (decide_eq_true ⟨ha, hc⟩).symm, rfl⟩
    · have hd : decide (x ≤ 12) = false := by simp [hc]
      go_enter Tryd.func11, Tryd.ntmps11
      go_wp2
      go_ret
      exact ⟨rfl, rfl⟩
  · have hd : decide (1 ≤ x) = false := by simp [ha]
    go_enter Tryd.func11, Tryd.ntmps11
    go_wp2
    go_ret
    exact ⟨rfl, rfl⟩
theorem not_name {x k : Nat} {c : UInt8} (hc : c.toNat = x) (h1 : ¬ (97 ≤ x ∧ x ≤ 122)) (h2 : ¬ (48 ≤ x ∧ x ≤ 57) ∨ k = 0) : ¬ nameAt c k := fun h => by
  unfold nameAt at h
  omega
theorem is_name {x k : Nat} {c : UInt8} (hc : c.toNat = x) (h : (97 ≤ x ∧ x ≤ 122) ∨ ((48 ≤ x ∧ x ≤ 57) ∧ k ≠ 0)) : nameAt c k := by
  unfold nameAt
  omega
/-- The state between two characters of a name. -/
def NameRel (s : ByteArray) (w W : World) : Prop := ∃ pos : Nat, pos ≤ s.size ∧ W = w.iter s pos ∧ nameTo s pos
theorem below_iter (w : World) (s : ByteArray) (pos : Nat) : Below w.heap.size w (w.iter s pos) := (Below.refl _ _).alloc (Nat.le_refl _) _
theorem iter_at (w : World) (s : ByteArray) (pos : Nat) : (w.iter s pos).iterPos w.heap.size = pos := by simp [World.iterPos, World.iter_heap]
end Go.Proofs.YtikpbeealeofaaaDoor
