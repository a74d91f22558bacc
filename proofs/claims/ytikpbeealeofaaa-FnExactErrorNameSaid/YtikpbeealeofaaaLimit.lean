/- Contracts of the model's RootOf, IntegerLimit, KindName. -/
import Derived.Test.YtikpbeealeofaaaRules
import Derived.Test.YtikpbeealeofaaaDrawPick
namespace Go.Proofs.Ytikpbeealeofaaa
open Go Go.RowKit
theorem in_any (x lo hi : Int) (b : Bool) (w : World) (hb : decide (lo ≤ x ∧ x ≤ hi) = b) :
    Calls Try.prog 33 #[.int .i64 x, .int .i64 lo, .int .i64 hi] w fun e w' => e = .returned (.bool b) ∧ w = w' := by
  subst hb
  by_cases ha : lo ≤ x
  · by_cases hc : x ≤ hi
    · go_enter Try.func33, Try.ntmps33
      go_wp2
      go_ret
      exact ⟨ret_bool (decide_eq_true ⟨ha, hc⟩).symm, rfl⟩
    · have hd : decide (x ≤ hi) = false := by simp [hc]
      go_enter Try.func33, Try.ntmps33
      go_wp2
      go_ret
      first | exact ⟨rfl, rfl⟩ | exact ⟨ret_bool (decide_eq_false (by omega)).symm, rfl⟩ | exact ⟨ret_bool (by simp; omega), rfl⟩
  · have hd : decide (lo ≤ x) = false := by simp [ha]
    go_enter Try.func33, Try.ntmps33
    go_wp2
    go_ret
    first | exact ⟨rfl, rfl⟩ | exact ⟨ret_bool (decide_eq_false (by omega)).symm, rfl⟩ | exact ⟨ret_bool (by simp; omega), rfl⟩
/-- 256 to a small power. -/
def pow256 (n : Int) : Int := if n = 1 then 256 else if n = 2 then 65536 else if n = 3 then 16777216 else 4294967296
theorem pow256_bounds (n : Int) : 256 ≤ pow256 n ∧ pow256 n ≤ 4294967296 := by
  unfold pow256
  by_cases h1 : n = 1
  · rw [if_pos h1]; omega
  · rw [if_neg h1]
    by_cases h2 : n = 2
    · rw [if_pos h2]; omega
    · rw [if_neg h2]
      by_cases h3 : n = 3
      · rw [if_pos h3]; omega
      · rw [if_neg h3]; omega
theorem power_spec (n : Int) (w : World) (h1 : 1 ≤ n) (h2 : n ≤ 4) :
    Calls Try.prog 72 #[.int .i64 n] w fun e w' => e = .returned (.int .i64 (pow256 n)) ∧ w = w' := by
  rcases (by omega : n = 1 ∨ n = 2 ∨ n = 3 ∨ n = 4) with rfl | rfl | rfl | rfl <;>
  · go_enter Try.func72, Try.ntmps72
    go_wp2
    go_ret
    exact ⟨rfl, rfl⟩
/-- The largest number of the integer rule at an index, or -1. -/
def limitAt (rs : List RuleV) (k : Int) : Int :=
  if h : 0 ≤ k ∧ k < rs.length then (let r := rs[k.toNat]'(by omega); if r.kind = 1 ∧ 1 ≤ r.size ∧ r.size ≤ 4 then pow256 r.size - 1 else -1) else -1
theorem limitAt_out {rs : List RuleV} {k : Int} (h : ¬ (0 ≤ k ∧ k < rs.length)) : limitAt rs k = -1 := by unfold limitAt; rw [dif_neg h]
theorem limitAt_in {rs : List RuleV} {k : Nat} (h : k < rs.length) : limitAt rs (k : Int) = if rs[k].kind = 1 ∧ 1 ≤ rs[k].size ∧ rs[k].size ≤ 4 then pow256 rs[k].size - 1 else -1 := by
  unfold limitAt
  rw [dif_pos (by omega)]
  simp only [Int.toNat_natCast]
set_option maxRecDepth 100000 in
set_option maxHeartbeats 1000000 in
theorem limit_spec (a : Option Addr) (rs : List RuleV) (cap : Nat) (k : Int) (w : World) (hl : rs.length ≤ 1073741824) (h : RdR a rs w) :
    Calls Try.prog 105 #[.agg #[.slice a rs.length cap], .int .i64 k] w fun e w' => e = .returned (.int .i64 (limitAt rs k)) ∧ Below w.heap.size w w' := by
  have hB : Below w.heap.size w (w.alloc (.cells #[.slice a rs.length cap] 41)) := (Below.refl _ _).alloc (Nat.le_refl _) _
  have H := Lib.hid (h.below hB)
  have HB := Lib.hid hB
  clear h hB
  by_cases hk : 0 ≤ k ∧ k < rs.length
  · obtain ⟨n, rfl⟩ : ∃ n : Nat, k = (n : Int) := ⟨k.toNat, by omega⟩
    have hlt : n < rs.length := by omega
    have k0 : (0 : Int) ≤ (n : Int) := by omega
    have k1 : (n : Int) < (rs.length : Int) := by omega
    have hr := Lib.hid (limitAt_in hlt)
    obtain ⟨b, off, a4, c4, a5, c5, a6, c6, a7, c7, rfl, ⟨-, d1, d2, -⟩, -⟩ := H.out.at n hlt
    generalize rs[n].kind = kd at d1 hr
    generalize rs[n].size = sz at d2 hr
    by_cases hkd : kd = 1
    · subst hkd
      by_cases hsz : 1 ≤ sz ∧ sz ≤ 4
      · have hp := pow256_bounds sz
        have hres : Hid (limitAt rs (n : Int) = pow256 sz - 1) := by
          show _ = _
          rw [hr.out, if_pos ⟨rfl, hsz⟩]
        clear hr
        go_enter Try.func105, Try.ntmps105
        go_wp2_with (first | (go_at_call 33; refine (in_any _ _ _ true _ (by simp; omega)).mono ?_; rintro e w1 ⟨rfl, rfl⟩) | (go_at_call 72; refine (power_spec _ _ (by omega) (by omega)).mono ?_; rintro e w1 ⟨rfl, rfl⟩))
        go_ret
        exact ⟨ret_int hres.out.symm, HB.out⟩
      · go_enter Try.func105, Try.ntmps105
        go_wp2_with fail
        refine (in_any _ _ _ true _ (by simp; omega)).mono ?_
        rintro e w1 ⟨rfl, rfl⟩
        go_wp2_with fail
        refine (in_any _ _ _ false _ (by simp; omega)).mono ?_
        rintro e w1 ⟨rfl, rfl⟩
        go_wp2
        go_ret
        exact ⟨ret_int (by rw [hr.out, if_neg (fun h => hsz h.2)]), HB.out⟩
    · have g1 : (kd != 1) = true := by simpa using hkd
      go_enter Try.func105, Try.ntmps105
      go_wp2_with fail
      refine (in_any _ _ _ true _ (by simp; omega)).mono ?_
      rintro e w1 ⟨rfl, rfl⟩
      go_wp2
      go_ret
      exact ⟨ret_int (by rw [hr.out, if_neg (fun h => hkd h.1)]), HB.out⟩
  · have hr := Lib.hid (limitAt_out hk)
    go_enter Try.func105, Try.ntmps105
    go_wp2_with fail
    refine (in_any _ _ _ false _ (by simp; omega)).mono ?_
    rintro e w1 ⟨rfl, rfl⟩
    go_wp2
    go_ret
    exact ⟨ret_int hr.out.symm, HB.out⟩
/-- The names of the kinds, from 0 on. -/
def kindNames : List ByteArray := [⟨#[]⟩, ⟨#[105, 110, 116, 101, 103, 101, 114]⟩, ⟨#[99, 111, 110, 115, 116]⟩, ⟨#[102, 105, 120, 101, 100]⟩, ⟨#[115, 105, 122, 101, 100]⟩, ⟨#[97, 114, 114, 97, 121]⟩, ⟨#[115, 101, 113, 117, 101, 110, 99, 101]⟩, ⟨#[99, 104, 111, 105, 99, 101]⟩, ⟨#[111, 112, 116, 105, 111, 110]⟩, ⟨#[99, 104, 101, 99, 107, 101, 100]⟩, ⟨#[116, 101, 114, 109, 105, 110, 97, 116, 101, 100]⟩]
/-- The name of a kind. -/
def kindName (k : Int) : ByteArray := if 1 ≤ k ∧ k ≤ 10 then kindNames.getD k.toNat ⟨#[]⟩ else ⟨#[]⟩
end Go.Proofs.Ytikpbeealeofaaa
