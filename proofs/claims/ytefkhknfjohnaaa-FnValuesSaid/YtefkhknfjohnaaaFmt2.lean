/- The contract of the model's FormatInt. -/
import Derived.Test.YtefkhknfjohnaaaGSz
namespace Go.Proofs.Ytefkhknfjohnaaa
open Go Go.RowKit
set_option maxRecDepth 100000 in
theorem fmt_pos (n : Int) (w : World) (h0 : 0 < n) (h1 : n ≤ 9223372036854775807) :
    Calls Try.prog 94 #[.int .i64 n] w fun e w' => e = .returned (.string ⟨(Lib.itoa n).toArray⟩) ∧ Below w.heap.size w w' := by
  have hn : (n == 0) = false := by simp; omega
  go_enter Try.func94, Try.ntmps94
  go_wp2
  go_loopw [3, 4, 5] (fun s x d W => ∃ (m : Int) (l : List UInt8), 0 ≤ m ∧ m ≤ n ∧ x = .int .i64 m ∧ s = .string ⟨l.toArray⟩ ∧ Hid (digs m.natAbs ++ l = digs n.natAbs) ∧ Below w.heap.size w W) (fun _ x _ _ => (intOf x).toNat)
  case atStart => exact ⟨n, [], by omega, by omega, rfl, rfl, List.append_nil _, Below.refl _ _⟩
  case round =>
    obtain ⟨m, l, hm0, hm1, rfl, rfl, hl, hb⟩ := hrel
    by_cases hz : m = 0
    · subst hz
      have hnn : 0 ≤ n := by omega
      go_wp2
      go_ret
      refine ⟨?_, hb⟩
      rw [itoa_pos h0, ← hl.out]; rfl
    · have hne : (m != 0) = true := by simp; omega
      have hlen : l.length ≤ 20 := rest_length hl.out (by omega)
      have a1 : 0 ≤ m % 10 := by omega
      have a2 : m % 10 < 10 := by omega
      have a3 : 0 ≤ m / 10 := by omega
      have a4 : m / 10 < m := by omega
      have hl' := digs_next (by omega) hl
      have hc := conv_one wr (m % 10)
      have hadd := add_one (wr.alloc (.cells #[.int .u8 (48 + m % 10)] 5)) (dgt (m % 10)) l hlen
      go_wp2
      go_roundw
      case rel => exact ⟨m / 10, dgt (m % 10) :: l, by omega, by omega, rfl, rfl, hl', hb.alloc hb.size _⟩
      case measure => simp [intOf]; omega
theorem digs_next_neg {m : Int} {l : List UInt8} {u : Nat} (h0 : m < 0) (h : Hid (digs m.natAbs ++ l = digs u)) : Hid (digs (m.tdiv 10).natAbs ++ dgt (-m.tmod 10) :: l = digs u) := by
  have h' := h.out
  have e1 : m.tdiv 10 = -(((-m) / 10 : Int)) := by
    rw [show m = -(-m) by omega, Int.neg_tdiv, Int.tdiv_eq_ediv_of_nonneg (by omega), show - -(-m) = -m by omega]
  have e2 : m.tmod 10 = -(((-m) % 10 : Int)) := by
    rw [show m = -(-m) by omega, Int.neg_tmod, Int.tmod_eq_emod_of_nonneg (by omega), show - -(-m) = -m by omega]
  rw [digs_step (by omega)] at h'
  rw [e1, e2]
  rw [show m.natAbs / 10 = (-((-m) / 10)).natAbs by omega, show 48 + m.natAbs % 10 = (48 + - -((-m) % 10)).toNat by omega, List.append_assoc] at h'
  exact h'
theorem tm_bounds {m : Int} (h : m < 0) : -10 < m.tmod 10 ∧ m.tmod 10 ≤ 0 ∧ m < m.tdiv 10 ∧ m.tdiv 10 ≤ 0 := by
  have e1 : m.tdiv 10 = -(((-m) / 10 : Int)) := by
    rw [show m = -(-m) by omega, Int.neg_tdiv, Int.tdiv_eq_ediv_of_nonneg (by omega), show - -(-m) = -m by omega]
  have e2 : m.tmod 10 = -(((-m) % 10 : Int)) := by
    rw [show m = -(-m) by omega, Int.neg_tmod, Int.tmod_eq_emod_of_nonneg (by omega), show - -(-m) = -m by omega]
  rw [e1, e2]; omega
theorem add_sign (W : World) (l : List UInt8) (h : l.length ≤ 20) :
    (Op.stringOp .add ⟨#[45]⟩ ⟨l.toArray⟩).run Try.prog W = .ok (.string ⟨(45 :: l).toArray⟩) W := add_one W 45 l h
set_option maxRecDepth 100000 in
theorem fmt_neg (n : Int) (w : World) (h0 : n < 0) (h1 : -9223372036854775808 ≤ n) :
    Calls Try.prog 94 #[.int .i64 n] w fun e w' => e = .returned (.string ⟨(Lib.itoa n).toArray⟩) ∧ Below w.heap.size w w' := by
  have hn : (n == 0) = false := by simp; omega
  go_enter Try.func94, Try.ntmps94
  go_wp2
  go_loopw [3, 4, 5] (fun s x d W => ∃ (m : Int) (l : List UInt8), m ≤ 0 ∧ n ≤ m ∧ x = .int .i64 m ∧ s = .string ⟨l.toArray⟩ ∧ Hid (digs m.natAbs ++ l = digs n.natAbs) ∧ Below w.heap.size w W) (fun _ x _ _ => (-intOf x).toNat)
  case atStart => exact ⟨n, [], by omega, by omega, rfl, rfl, List.append_nil _, Below.refl _ _⟩
  case round =>
    obtain ⟨m, l, hm0, hm1, rfl, rfl, hl, hb⟩ := hrel
    have hlen : l.length ≤ 20 := rest_length hl.out (by omega)
    by_cases hz : m = 0
    · subst hz
      have hadd := add_sign wr l hlen
      go_wp2
      go_ret
      refine ⟨?_, hb⟩
      rw [itoa_neg h0, ← hl.out]; rfl
    · have hne : (m != 0) = true := by simp; omega
      obtain ⟨a1, a2, a3, a4⟩ := tm_bounds (m := m) (by omega)
      have hl' := digs_next_neg (by omega) hl
      have hc := conv_one wr (-m.tmod 10)
      have hadd := add_one (wr.alloc (.cells #[.int .u8 (48 + -m.tmod 10)] 5)) (dgt (-m.tmod 10)) l hlen
      by_cases hd : m.tmod 10 < 0
      · go_wp2
        go_roundw
        case rel => exact ⟨m.tdiv 10, dgt (-m.tmod 10) :: l, by omega, by omega, rfl, rfl, hl', hb.alloc hb.size _⟩
        case measure => simp [intOf]; omega
      · have hd0 : m.tmod 10 = 0 := by omega
        rw [hd0] at hl'
        clear hc hadd
        have hc : (convert 22 9 (.slice (some ⟨wr.heap.size, 0, none⟩) 1 1)).run Try.prog (wr.alloc (.cells #[.int .u8 48] 5)) = .ok (.string ⟨#[dgt (-0)]⟩) (wr.alloc (.cells #[.int .u8 48] 5)) := conv_one wr 0
        have hadd := add_one (wr.alloc (.cells #[.int .u8 48] 5)) (dgt (-0)) l hlen
        go_wp2
        go_roundw
        case rel => exact ⟨m.tdiv 10, dgt (-0) :: l, by omega, by omega, rfl, rfl, hl', hb.alloc hb.size _⟩
        case measure => simp [intOf]; omega
theorem fmt_zero (w : World) : Calls Try.prog 94 #[.int .i64 0] w fun e w' => e = .returned (.string ⟨(Lib.itoa 0).toArray⟩) ∧ Below w.heap.size w w' := by
  rw [itoa_zero]
  go_enter Try.func94, Try.ntmps94
  go_wp2
  go_ret
  exact ⟨rfl, Below.refl _ _⟩
theorem fmt_spec (n : Int) (w : World) (h0 : -9223372036854775808 ≤ n) (h1 : n ≤ 9223372036854775807) :
    Calls Try.prog 94 #[.int .i64 n] w fun e w' => e = .returned (.string ⟨(Lib.itoa n).toArray⟩) ∧ Below w.heap.size w w' := by
  rcases Int.lt_trichotomy n 0 with h | rfl | h
  · exact fmt_neg n w h h0
  · exact fmt_zero w
  · exact fmt_pos n w h h1
end Go.Proofs.Ytefkhknfjohnaaa
