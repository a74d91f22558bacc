/- The contracts of ReadDigits, the model's and the program's. -/
import Derived.Test.YtikpbeealeofaaaDoorDigP
import Derived.Test.YtikpbeealeofaaaDoorLimit
import Derived.Test.YtikpbeealeofaaaDoorNames
import Derived.IntWalk
namespace Go.Proofs.YtikpbeealeofaaaDoor
open Go Go.RowKit
theorem ret_two {a b c d : Int} (h1 : a = c) (h2 : b = d) : (Ending.returned (.tuple #[.int .i64 a, .int .i64 b]) : Ending) = .returned (.tuple #[.int .i64 c, .int .i64 d]) := by rw [h1, h2]
theorem ten_pow {q : Nat} (h : q < 10) : 10 ^ q ≤ 1000000000 := by
  have := Nat.pow_le_pow_right (n := 10) (by omega) (show q ≤ 9 from by omega)
  omega
/-- What one digit more says. -/
theorem readD_dig {s : ByteArray} {p q x : Nat} {R : Nat × Nat} (hlt : p + q < s.size) (hq : q < 10) (hr : R = ((readD (10 - q) ((lst s).drop (p + q)) x).1, (readD (10 - q) ((lst s).drop (p + q)) x).2 + q)) (h0 : 48 ≤ s[p + q].toNat) (h1 : s[p + q].toNat ≤ 57) :
    R = ((readD (10 - (q + 1)) ((lst s).drop (p + (q + 1))) (x * 10 + (s[p + q].toNat - 48))).1, (readD (10 - (q + 1)) ((lst s).drop (p + (q + 1))) (x * 10 + (s[p + q].toNat - 48))).2 + (q + 1)) := by
  obtain ⟨m, hm⟩ : ∃ m, 10 - q = m + 1 := ⟨9 - q, by omega⟩
  rw [hr, hm, drop_at s (p + q) hlt, readD, if_pos ⟨h0, h1⟩, show 10 - (q + 1) = m from by omega, show p + (q + 1) = p + q + 1 from by omega]
  simp only [Prod.mk.injEq, true_and]
  omega
/-- What no digit more says. -/
theorem readD_fin {s : ByteArray} {p q x : Nat} {R : Nat × Nat} (hp : p + q ≤ s.size) (hr : R = ((readD (10 - q) ((lst s).drop (p + q)) x).1, (readD (10 - q) ((lst s).drop (p + q)) x).2 + q)) (hn : q = 10 ∨ p + q = s.size ∨ ∃ h : p + q < s.size, ¬ (48 ≤ s[p + q].toNat ∧ s[p + q].toNat ≤ 57)) (hq : q ≤ 10) : R = (x, q) := by
  rw [hr]
  rcases hn with rfl | h | ⟨h, hd⟩
  · rw [show 10 - 10 = 0 from rfl, readD, Nat.zero_add]
  · rw [h, drop_end, readD_nil]; simp
  · rw [drop_at s (p + q) h, readD_stop hd]; simp
theorem inR_impl (x lo hi : Int) (b : Bool) (w : World) (hb : decide (lo ≤ x ∧ x ≤ hi) = b) :
    Calls Tryd.prog 11 #[.int .i64 x, .int .i64 lo, .int .i64 hi] w fun e w' => e = .returned (.bool b) ∧ w = w' := by
  subst hb
  by_cases ha : lo ≤ x
  · by_cases hc : x ≤ hi
    · go_enter Tryd.func11, Tryd.ntmps11
      go_wp2
      go_ret
      exact ⟨ret_bool (decide_eq_true ⟨ha, hc⟩).symm, rfl⟩
    · have hd : decide (x ≤ hi) = false := by simp [hc]
      go_enter Tryd.func11, Tryd.ntmps11
      go_wp2
      go_ret
      first | exact ⟨rfl, rfl⟩ | exact ⟨ret_bool (decide_eq_false (by omega)).symm, rfl⟩ | exact ⟨ret_bool (by simp; omega), rfl⟩
  · have hd : decide (lo ≤ x) = false := by simp [ha]
    go_enter Tryd.func11, Tryd.ntmps11
    go_wp2
    go_ret
    first | exact ⟨rfl, rfl⟩ | exact ⟨ret_bool (decide_eq_false (by omega)).symm, rfl⟩ | exact ⟨ret_bool (by simp; omega), rfl⟩
end Go.Proofs.YtikpbeealeofaaaDoor
