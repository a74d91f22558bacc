/- Contracts of IsName, the model's and the program's. -/
import Derived.Test.YtikpbeealeofaaaRowF
import Derived.Test.YtikpbeealeofaaaTxt2
import Derived.Laws.RangeAny
namespace Go.Proofs.Ytikpbeealeofaaa
open Go Go.RowKit
theorem in_spec (x : Int) (b : Bool) (w : World) (hb : decide (1 ≤ x ∧ x ≤ 12) = b) :
    Calls Try.prog 33 #[.int .i64 x, .int .i64 1, .int .i64 12] w fun e w' => e = .returned (.bool b) ∧ w = w' := by
  subst hb
  by_cases ha : 1 ≤ x
  · by_cases hc : x ≤ 12
    · go_enter Try.func33, Try.ntmps33
      go_wp2
      go_ret
      exact ⟨ret_bool (decide_eq_true ⟨ha, hc⟩).symm, rfl⟩
    · have hd : decide (x ≤ 12) = false := by simp [hc]
      go_enter Try.func33, Try.ntmps33
      go_wp2
      go_ret
      exact ⟨rfl, rfl⟩
  · have hd : decide (1 ≤ x) = false := by simp [ha]
    go_enter Try.func33, Try.ntmps33
    go_wp2
    go_ret
    exact ⟨rfl, rfl⟩
theorem in_impl (x : Int) (b : Bool) (w : World) (hb : decide (1 ≤ x ∧ x ≤ 12) = b) :
    Calls Try.prog 34 #[.int .i64 x, .int .i64 1, .int .i64 12] w fun e w' => e = .returned (.bool b) ∧ w = w' := by
  subst hb
  by_cases ha : 1 ≤ x
  · by_cases hc : x ≤ 12
    · go_enter Try.func34, Try.ntmps34
      go_wp2
      go_ret
      exact ⟨ret_bool (decide_eq_true ⟨ha, hc⟩).symm, rfl⟩
    · have hd : decide (x ≤ 12) = false := by simp [hc]
      go_enter Try.func34, Try.ntmps34
      go_wp2
      go_ret
      exact ⟨rfl, rfl⟩
  · have hd : decide (1 ≤ x) = false := by simp [ha]
    go_enter Try.func34, Try.ntmps34
    go_wp2
    go_ret
    exact ⟨rfl, rfl⟩
theorem let_impl (x : Int) (b : Bool) (w : World) (hb : decide (97 ≤ x ∧ x ≤ 122) = b) :
    Calls Try.prog 108 #[.int .i32 x] w fun e w' => e = .returned (.bool b) ∧ w = w' := by
  subst hb
  by_cases ha : 97 ≤ x
  · by_cases hc : x ≤ 122
    · go_enter Try.func108, Try.ntmps108
      go_wp2
      go_ret
      exact ⟨ret_bool (decide_eq_true ⟨ha, hc⟩).symm, rfl⟩
    · have hd : decide (x ≤ 122) = false := by simp [hc]
      go_enter Try.func108, Try.ntmps108
      go_wp2
      go_ret
      exact ⟨rfl, rfl⟩
  · have hd : decide (97 ≤ x) = false := by simp [ha]
    go_enter Try.func108, Try.ntmps108
    go_wp2
    go_ret
    exact ⟨rfl, rfl⟩
theorem dig_impl (x : Int) (b : Bool) (w : World) (hb : decide (48 ≤ x ∧ x ≤ 57) = b) :
    Calls Try.prog 109 #[.int .i32 x] w fun e w' => e = .returned (.bool b) ∧ w = w' := by
  subst hb
  by_cases ha : 48 ≤ x
  · by_cases hc : x ≤ 57
    · go_enter Try.func109, Try.ntmps109
      go_wp2
      go_ret
      exact ⟨ret_bool (decide_eq_true ⟨ha, hc⟩).symm, rfl⟩
    · have hd : decide (x ≤ 57) = false := by simp [hc]
      go_enter Try.func109, Try.ntmps109
      go_wp2
      go_ret
      exact ⟨rfl, rfl⟩
  · have hd : decide (48 ≤ x) = false := by simp [ha]
    go_enter Try.func109, Try.ntmps109
    go_wp2
    go_ret
    exact ⟨rfl, rfl⟩
theorem not_name {x k : Nat} {c : UInt8} (hc : c.toNat = x) (h1 : ¬ (97 ≤ x ∧ x ≤ 122)) (h2 : ¬ (48 ≤ x ∧ x ≤ 57) ∨ k = 0) : ¬ nameAt c k := fun h => by
  unfold nameAt at h
  omega
theorem is_name {x k : Nat} {c : UInt8} (hc : c.toNat = x) (h : (97 ≤ x ∧ x ≤ 122) ∨ ((48 ≤ x ∧ x ≤ 57) ∧ k ≠ 0)) : nameAt c k := by
  unfold nameAt
  omega
set_option maxRecDepth 100000 in
set_option maxHeartbeats 1000000 in
theorem name_spec (s : ByteArray) (w : World) (hs : s.size ≤ 1073741824) :
    Calls Try.prog 95 #[.string s] w fun e w' => e = .returned (.bool (nameB s)) ∧ w = w' := by
  go_enter Try.func95, Try.ntmps95
  go_wp2
  go_loop [3, 4, 5] (fun i _ _ => ∃ k : Nat, k ≤ s.size ∧ i = .int .i64 k ∧ Hid (nameTo s k)) (fun i _ _ => s.size - (intOf i).toNat)
  case atStart => exact ⟨0, Nat.zero_le _, rfl, fun i _ h => by omega⟩
  case round =>
    obtain ⟨k, hk, rfl, hn⟩ := hrel
    have k0 : (0 : Int) ≤ (k : Int) := by omega
    by_cases hlt : k < s.size
    · have k1 : (k : Int) < (s.size : Int) := by omega
      have hgood := fun h => Lib.hid (hn.out.next hlt (is_name (k := k) rfl h))
      have hbad := fun h1 h2 => Lib.hid (nameB_bad hlt (not_name (k := k) rfl h1 h2))
      generalize hx : s[k].toNat = x at hgood hbad
      have hcase : x < 48 ∨ (48 ≤ x ∧ x ≤ 57 ∧ k = 0) ∨ (48 ≤ x ∧ x ≤ 57 ∧ k ≠ 0) ∨ (58 ≤ x ∧ x < 97) ∨ (97 ≤ x ∧ x ≤ 122) ∨ 122 < x := by omega
      rcases hcase with h | ⟨h, h', h0⟩ | ⟨h, h', h0⟩ | ⟨h, h'⟩ | ⟨h, h'⟩ | h
      · have hr := hbad (by omega) (.inl (by omega))
        clear hgood hbad
        have p1 : decide ((97 : Int) ≤ (x : Int)) = false := by simp; omega
        have p2 : decide ((48 : Int) ≤ (x : Int)) = false := by simp; omega
        go_wp2
        go_ret
        exact ⟨ret_bool hr.out.symm, rfl⟩
      · have hr := hbad (by omega) (.inr h0)
        clear hgood hbad
        subst h0
        have p1 : decide ((97 : Int) ≤ (x : Int)) = false := by simp; omega
        have p2 : (48 : Int) ≤ (x : Int) := by omega
        have p3 : (x : Int) ≤ 57 := by omega
        go_wp2
        go_ret
        exact ⟨ret_bool hr.out.symm, rfl⟩
      · have hr := hgood (.inr ⟨⟨h, h'⟩, h0⟩)
        clear hgood hbad
        have p1 : decide ((97 : Int) ≤ (x : Int)) = false := by simp; omega
        have p2 : (48 : Int) ≤ (x : Int) := by omega
        have p3 : (x : Int) ≤ 57 := by omega
        have p4 : ((k : Int) == 0) = false := by rw [beq_eq_false_iff_ne]; omega
        go_wp2
        go_round
        case rel => exact ⟨k + 1, by omega, by go_num, hr⟩
        case measure => simp [intOf]; omega
      · have hr := hbad (by omega) (.inl (by omega))
        clear hgood hbad
        have p1 : decide ((97 : Int) ≤ (x : Int)) = false := by simp; omega
        have p2 : (48 : Int) ≤ (x : Int) := by omega
        have p3 : decide ((x : Int) ≤ 57) = false := by simp; omega
        go_wp2
        go_ret
        exact ⟨ret_bool hr.out.symm, rfl⟩
      · have hr := hgood (.inl ⟨h, h'⟩)
        clear hgood hbad
        have p1 : (97 : Int) ≤ (x : Int) := by omega
        have p2 : (48 : Int) ≤ (x : Int) := by omega
        have p3 : decide ((x : Int) ≤ 57) = false := by simp; omega
        have p4 : (x : Int) ≤ 122 := by omega
        go_wp2
        go_round
        case rel => exact ⟨k + 1, by omega, by go_num, hr⟩
        case measure => simp [intOf]; omega
      · have hr := hbad (by omega) (.inl (by omega))
        clear hgood hbad
        have p1 : (97 : Int) ≤ (x : Int) := by omega
        have p2 : (48 : Int) ≤ (x : Int) := by omega
        have p3 : decide ((x : Int) ≤ 57) = false := by simp; omega
        have p4 : decide ((x : Int) ≤ 122) = false := by simp; omega
        go_wp2
        go_ret
        exact ⟨ret_bool hr.out.symm, rfl⟩
    · have k1 : ¬ (k : Int) < (s.size : Int) := by omega
      obtain rfl : k = s.size := by omega
      have hr := Lib.hid (nameB_end hn.out)
      go_wp2_with fail
      refine (in_spec (s.size : Int) (nameB s) _ (by rw [hr.out]; simp only [decide_eq_decide]; omega)).mono ?_
      rintro e w1 ⟨rfl, rfl⟩
      go_wp2
      go_ret
      exact ⟨rfl, rfl⟩
/-- The state between two characters of a name. -/
def NameRel (s : ByteArray) (w W : World) : Prop := ∃ pos : Nat, pos ≤ s.size ∧ W = w.iter s pos ∧ nameTo s pos
theorem below_iter (w : World) (s : ByteArray) (pos : Nat) : Below w.heap.size w (w.iter s pos) := (Below.refl _ _).alloc (Nat.le_refl _) _
theorem iter_at (w : World) (s : ByteArray) (pos : Nat) : (w.iter s pos).iterPos w.heap.size = pos := by simp [World.iterPos, World.iter_heap]
set_option maxRecDepth 100000 in
set_option maxHeartbeats 1000000 in
theorem name_impl (s : ByteArray) (w : World) (hs : s.size ≤ 1073741824) :
    Calls Try.prog 97 #[.string s] w fun e w' => e = .returned (.bool (nameB s)) ∧ Below w.heap.size w w' := by
  by_cases hsz : 1 ≤ s.size ∧ s.size ≤ 12
  · go_enter Try.func97, Try.ntmps97
    go_wp2_with fail
    refine (in_impl (s.size : Int) true _ (by simp; omega)).mono ?_
    rintro e w1 ⟨rfl, rfl⟩
    go_wp2
    go_loopw [3, 4] (fun _ _ W => NameRel s w W) (fun _ _ W => s.size - W.iterPos w.heap.size)
    case atStart => exact ⟨0, Nat.zero_le _, rfl, fun i _ h => by omega⟩
    case round =>
      obtain ⟨pos, hp, rfl, hn⟩ := hrel
      have HN := Lib.hid hn
      clear hn
      by_cases hlt : pos < s.size
      · have hgood := fun h => Lib.hid (HN.out.next hlt (is_name (k := pos) rfl h))
        have hbad := fun h1 h2 => Lib.hid (nameB_bad hlt (not_name (k := pos) rfl h1 h2))
        by_cases ha : s[pos].toNat < 128
        · have hnx := fun ty => run_next_ascii (P := Try.prog) w s pos ty hlt ha
          generalize hx : s[pos].toNat = x at hgood hbad hnx ha
          by_cases hl : 97 ≤ x ∧ x ≤ 122
          · have hr := hgood (.inl hl)
            clear hgood hbad
            go_wp2_with (go_at_call 108; refine (let_impl (x : Int) true _ (by simp; omega)).mono ?_; rintro e w1 ⟨rfl, rfl⟩)
            go_wp2
            go_roundw
            case rel => exact ⟨pos + 1, by omega, rfl, hr.out⟩
            case measure => rw [iter_at, iter_at]; omega
          · by_cases h0 : pos = 0
            · have hr := hbad hl (.inr h0)
              clear hgood hbad
              subst h0
              go_wp2_with (go_at_call 108; refine (let_impl (x : Int) false _ (by simp; omega)).mono ?_; rintro e w1 ⟨rfl, rfl⟩)
              go_wp2
              go_ret
              exact ⟨ret_bool hr.out.symm, below_iter _ _ _⟩
            · have g0 : ((pos : Int) == 0) = false := by rw [beq_eq_false_iff_ne]; omega
              by_cases hd : 48 ≤ x ∧ x ≤ 57
              · have hr := hgood (.inr ⟨hd, h0⟩)
                clear hgood hbad
                go_wp2_with (first | (go_at_call 108; refine (let_impl (x : Int) false _ (by simp; omega)).mono ?_; rintro e w1 ⟨rfl, rfl⟩) | (go_at_call 109; refine (dig_impl (x : Int) true _ (by simp; omega)).mono ?_; rintro e w1 ⟨rfl, rfl⟩))
                go_wp2
                go_roundw
                case rel => exact ⟨pos + 1, by omega, rfl, hr.out⟩
                case measure => rw [iter_at, iter_at]; omega
              · have hr := hbad hl (.inl hd)
                clear hgood hbad
                go_wp2_with (first | (go_at_call 108; refine (let_impl (x : Int) false _ (by simp; omega)).mono ?_; rintro e w1 ⟨rfl, rfl⟩) | (go_at_call 109; refine (dig_impl (x : Int) false _ (by simp; omega)).mono ?_; rintro e w1 ⟨rfl, rfl⟩))
                go_wp2
                go_ret
                exact ⟨ret_bool hr.out.symm, below_iter _ _ _⟩
        · have hr := hbad (by omega) (.inl (by omega))
          have hnx := fun ty => run_next_any (P := Try.prog) w s pos ty hlt
          have hhi := (decode_high s pos hlt (by omega)).1
          clear hgood hbad
          generalize (Utf8.decode s pos).1 = x at hnx hhi
          generalize (Utf8.decode s pos).2 = y at hnx
          by_cases h0 : pos = 0
          · subst h0
            go_wp2_with (go_at_call 108; refine (let_impl (x : Int) false _ (by simp; omega)).mono ?_; rintro e w1 ⟨rfl, rfl⟩)
            go_wp2
            go_ret
            exact ⟨ret_bool hr.out.symm, below_iter _ _ _⟩
          · have g0 : ((pos : Int) == 0) = false := by rw [beq_eq_false_iff_ne]; omega
            go_wp2_with (first | (go_at_call 108; refine (let_impl (x : Int) false _ (by simp; omega)).mono ?_; rintro e w1 ⟨rfl, rfl⟩) | (go_at_call 109; refine (dig_impl (x : Int) false _ (by simp; omega)).mono ?_; rintro e w1 ⟨rfl, rfl⟩))
            go_wp2
            go_ret
            exact ⟨ret_bool hr.out.symm, below_iter _ _ _⟩
      · have hnx := fun ty => run_next_end (P := Try.prog) w s pos ty hlt
        obtain rfl : pos = s.size := by omega
        have hr : Hid (nameB s = true) := by
          show _ = _
          rw [nameB_end HN.out]
          exact decide_eq_true hsz
        go_wp2
        go_ret
        exact ⟨ret_bool hr.out.symm, below_iter _ _ _⟩
  · have hr := Lib.hid (nameB_size hsz)
    go_enter Try.func97, Try.ntmps97
    go_wp2_with fail
    refine (in_impl (s.size : Int) false _ (by simp; omega)).mono ?_
    rintro e w1 ⟨rfl, rfl⟩
    go_wp2
    go_ret
    exact ⟨ret_bool hr.out.symm, Below.refl _ _⟩
end Go.Proofs.Ytikpbeealeofaaa
