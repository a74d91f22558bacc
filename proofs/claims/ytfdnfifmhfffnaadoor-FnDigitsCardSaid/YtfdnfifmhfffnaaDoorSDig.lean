/- The contracts of ReadDigits, the model's and the program's. -/
import Derived.Test.YtfdnfifmhfffnaaDoorDigP
import Derived.Test.YtfdnfifmhfffnaaDoorLimit
import Derived.Test.YtfdnfifmhfffnaaDoorNames
import Derived.IntWalk
namespace Go.Proofs.YtfdnfifmhfffnaaDoor
open Go Go.RowKit
theorem ret_two {a b c d : Int} (h1 : a = c) (h2 : b = d) : (Ending.returned (.tuple #[.int .i64 a, .int .i64 b]) : Ending) = .returned (.tuple #[.int .i64 c, .int .i64 d]) := by rw [h1, h2]
theorem ten_pow {q : Nat} (h : q < 10) : 10 ^ q ≤ 1000000000 := by
  have := Nat.pow_le_pow_right (n := 10) (by omega) (show q ≤ 9 from by omega)
  omega
/-- What one digit more says. -/
theorem readD_dig {s : ByteArray} {p q x : Nat} {R : Nat × Nat} (hlt : p + q < s.size) (hq : q < 10) (hr : R = ((readD (10 - q) ((lst s).drop (p + q)) x).1, (readD (10 - q) ((lst s).drop (p + q)) x).2 + q)) (h0 : 48 ≤ s[p + q].toNat) (h1 : s[p + q].toNat ≤ 57) :
    R = ((readD (10 - (q + 1)) ((lst s).drop (p + (q + 1))) (x * 10 + (s[p + q].toNat - 48))).1, (readD (10 - (q + 1)) ((lst s).drop (p + (q + 1))) (x * 10 + (s[p + q].toNat - 48))).2 + (q + 1)) := by
  obtain ⟨m, hm⟩ : ∃ m, 10 - q = m + 1 := ⟨9 - q, by omega⟩
  rw [hr, hm, drop_at s (p + q) hlt, readD, if_pos ⟨h0, h1⟩, show 10 - (q + 1) = m from by omega, show p + (q + 1) = p + q + 1 from by omega]
  simp only [Prod.mk.injEq, true_and]
  omega
/-- What no digit more says. -/
theorem readD_fin {s : ByteArray} {p q x : Nat} {R : Nat × Nat} (hp : p + q ≤ s.size) (hr : R = ((readD (10 - q) ((lst s).drop (p + q)) x).1, (readD (10 - q) ((lst s).drop (p + q)) x).2 + q)) (hn : q = 10 ∨ p + q = s.size ∨ ∃ h : p + q < s.size, ¬ (48 ≤ s[p + q].toNat ∧ s[p + q].toNat ≤ 57)) (hq : q ≤ 10) : R = (x, q) := by
  rw [hr]
  rcases hn with rfl | h | ⟨h, hd⟩
  · rw [show 10 - 10 = 0 from rfl, readD, Nat.zero_add]
  · rw [h, drop_end, readD_nil]; simp
  · rw [drop_at s (p + q) h, readD_stop hd]; simp
theorem inR_impl (x lo hi : Int) (b : Bool) (w : World) (hb : decide (lo ≤ x ∧ x ≤ hi) = b) :
    Calls Tryd.prog 19 #[.int .i64 x, .int .i64 lo, .int .i64 hi] w fun e w' => e = .returned (.bool b) ∧ w = w' := by
  subst hb
  by_cases ha : lo ≤ x
  · by_cases hc : x ≤ hi
    · go_enter Tryd.func19, Tryd.ntmps19
      go_wp2
      go_ret
      exact ⟨ret_bool (decide_eq_true ⟨ha, hc⟩).symm, rfl⟩
    · have hd : decide (x ≤ hi) = false := by simp [hc]
      go_enter Tryd.func19, Tryd.ntmps19
      go_wp2
      go_ret
      first | exact ⟨rfl, rfl⟩ | exact ⟨ret_bool (decide_eq_false (by omega)).symm, rfl⟩ | exact ⟨ret_bool (by simp; omega), rfl⟩
  · have hd : decide (lo ≤ x) = false := by simp [ha]
    go_enter Tryd.func19, Tryd.ntmps19
    go_wp2
    go_ret
    first | exact ⟨rfl, rfl⟩ | exact ⟨ret_bool (decide_eq_false (by omega)).symm, rfl⟩ | exact ⟨ret_bool (by simp; omega), rfl⟩
set_option maxRecDepth 100000 in
set_option maxHeartbeats 2000000 in
theorem digits_specN (s : ByteArray) (p : Nat) (w : World) (hp : p ≤ s.size) (hs : s.size ≤ 4398046511104) :
    Calls Tryd.prog 8 #[.string s, .int .i64 (p : Int)] w fun e w' => e = .returned (.tuple #[.int .i64 ((readD 10 ((lst s).drop p) 0).1 : Int), .int .i64 ((p + (readD 10 ((lst s).drop p) 0).2 : Nat) : Int)]) ∧ w' = w := by
  obtain ⟨R, hR⟩ : ∃ R, R = readD 10 ((lst s).drop p) 0 := ⟨_, rfl⟩
  rw [← hR]
  have HR : Hid (R = ((readD (10 - 0) ((lst s).drop (p + 0)) 0).1, (readD (10 - 0) ((lst s).drop (p + 0)) 0).2 + 0)) := by show _ = _; rw [hR]; rfl
  clear hR
  go_enter Tryd.func8, Tryd.ntmps8
  go_wp2
  go_loopw [6, 7] (fun a i W => ∃ q x : Nat, q ≤ 10 ∧ p + q ≤ s.size ∧ a = .int .i64 (x : Int) ∧ i = .int .i64 ((p : Int) + (q : Int)) ∧ x + 1 ≤ 10 ^ q ∧ Hid (R = ((readD (10 - q) ((lst s).drop (p + q)) x).1, (readD (10 - q) ((lst s).drop (p + q)) x).2 + q)) ∧ W = w) (fun _ i _ => s.size - (intOf i).toNat)
  case atStart => exact ⟨0, 0, by omega, by omega, by go_num, by go_num, by omega, HR, rfl⟩
  case round =>
    clear HR
    obtain ⟨q, x, hq, hpq, rfl, rfl, hx, HR, rfl⟩ := hrel
    have p0 : (0 : Int) ≤ (p : Int) + (q : Int) := by omega
    by_cases hlt : p + q < s.size
    · have p1 : (p : Int) + (q : Int) < (s.size : Int) := by omega
      have p2 : (p : Int) + (q : Int) ≤ (s.size : Int) - 1 := by omega
      have hin : decide ((0 : Int) ≤ (p : Int) + (q : Int) ∧ (p : Int) + (q : Int) ≤ (s.size : Int) - 1) = true := decide_eq_true ⟨p0, p2⟩
      by_cases hq10 : q < 10
      · have q1 : (p : Int) + (q : Int) < (p : Int) + 10 := by omega
        have h9 := ten_pow hq10
        have hdig := fun h0 h1 => Lib.hid (readD_dig hlt hq10 HR.out h0 h1)
        have hfin := fun h => Lib.hid (readD_fin hpq HR.out (.inr (.inr ⟨hlt, h⟩)) hq)
        have hidx : ((p : Int) + (q : Int)).toNat = p + q := by omega
        have hx10 : (x + 1) * 10 ≤ 10 ^ (q + 1) := by rw [Nat.pow_succ]; omega
        generalize hc : s[p + q].toNat = c at hdig hfin
        have hc2 : c < 256 := by rw [← hc]; exact s[p + q].toNat_lt
        have hci : (s[p + q].toNat : Int) = (c : Int) := by omega
        by_cases h0 : 48 ≤ c
        · have g0 : (48 : Int) ≤ (s[p + q].toNat : Int) := by omega
          by_cases h1 : c ≤ 57
          · have g1 : (s[p + q].toNat : Int) ≤ 57 := by omega
            have HN := hdig h0 h1
            clear hdig hfin
            go_wp2_with (first | (go_at_call 21; refine (in_any _ _ _ true _ hin).mono ?_; rintro e wx ⟨rfl, rfl⟩))
            try go_wp2
            try go_roundw
            try refine And.intro ?rel ?measure
            case rel => exact ⟨q + 1, x * 10 + (c - 48), by omega, by omega, by go_num, by go_num, by omega, HN, trivial⟩
            case measure => show s.size - ((p : Int) + (q : Int) + 1).toNat < s.size - ((p : Int) + (q : Int)).toNat; omega
          · have g1 : ¬ (s[p + q].toNat : Int) ≤ 57 := by omega
            have hr := hfin (by omega)
            clear hdig hfin
            go_wp2_with (first | (go_at_call 21; refine (in_any _ _ _ true _ hin).mono ?_; rintro e wx ⟨rfl, rfl⟩))
            try go_wp2
            go_ret2
            exact ⟨ret_two (by rw [hr.out]) (by first | (rw [hr.out]; done) | (rw [hr.out]; exact (Int.natCast_add p q).symm)), rfl⟩
        · have g0 : ¬ (48 : Int) ≤ (s[p + q].toNat : Int) := by omega
          have hr := hfin (by omega)
          clear hdig hfin
          go_wp2_with (first | (go_at_call 21; refine (in_any _ _ _ true _ hin).mono ?_; rintro e wx ⟨rfl, rfl⟩))
          try go_wp2
          go_ret2
          exact ⟨ret_two (by rw [hr.out]) (by first | (rw [hr.out]; done) | (rw [hr.out]; exact (Int.natCast_add p q).symm)), rfl⟩
      · have q1 : ¬ (p : Int) + (q : Int) < (p : Int) + 10 := by omega
        have hr := Lib.hid (readD_fin hpq HR.out (.inl (by omega)) hq)
        go_wp2_with (first | (go_at_call 21; refine (in_any _ _ _ true _ hin).mono ?_; rintro e wx ⟨rfl, rfl⟩))
        try go_wp2
        go_ret2
        exact ⟨ret_two (by rw [hr.out]) (by first | (rw [hr.out]; done) | (rw [hr.out]; exact (Int.natCast_add p q).symm)), rfl⟩
    · have hin : decide ((0 : Int) ≤ (p : Int) + (q : Int) ∧ (p : Int) + (q : Int) ≤ (s.size : Int) - 1) = false := decide_eq_false (by omega)
      have hr := Lib.hid (readD_fin hpq HR.out (.inr (.inl (by omega))) hq)
      go_wp2_with (first | (go_at_call 21; refine (in_any _ _ _ false _ hin).mono ?_; rintro e wx ⟨rfl, rfl⟩))
      try go_wp2
      go_ret2
      exact ⟨ret_two (by rw [hr.out]) (by first | (rw [hr.out]; done) | (rw [hr.out]; exact (Int.natCast_add p q).symm)), rfl⟩
set_option maxRecDepth 100000 in
set_option maxHeartbeats 2000000 in
theorem digits_spec (s : ByteArray) (n : Int) (w : World) (hs : s.size ≤ 4398046511104) :
    Calls Tryd.prog 8 #[.string s, .int .i64 n] w fun e w' => e = .returned (.tuple #[.int .i64 (digN s n), .int .i64 (digE s n)]) ∧ w' = w := by
  by_cases hn : 0 ≤ n ∧ n < (s.size : Int)
  · obtain ⟨p, rfl⟩ : ∃ p : Nat, n = (p : Int) := ⟨n.toNat, by omega⟩
    obtain ⟨e1, e2⟩ := dig_at (s := s) (p := p) (by omega)
    rw [e1, e2]
    exact digits_specN s p w (by omega) hs
  · have e1 : digN s n = 0 := by unfold digN; rw [if_neg hn]
    have e2 : digE s n = n := by unfold digE; rw [if_neg hn]
    have hin : decide ((0 : Int) ≤ n ∧ n ≤ (s.size : Int) - 1) = false := decide_eq_false (by omega)
    rw [e1, e2]
    go_enter Tryd.func8, Tryd.ntmps8
    go_wp2
    go_loopw [6, 7] (fun a i W => a = .int .i64 0 ∧ i = .int .i64 n ∧ W = w) (fun _ _ _ => 0)
    case atStart => exact ⟨by go_num, rfl, rfl⟩
    case round =>
      obtain ⟨rfl, rfl, rfl⟩ := hrel
      go_wp2_with ((go_at_call 21; refine (in_any _ _ _ false _ hin).mono ?_; rintro e wx ⟨rfl, rfl⟩))
      try go_wp2
      go_ret2
      exact ⟨rfl, rfl⟩
set_option maxRecDepth 100000 in
set_option maxHeartbeats 2000000 in
theorem digits_implN (s : ByteArray) (p : Nat) (w : World) (hp : p ≤ s.size) (hs : s.size ≤ 4398046511104) :
    Calls Tryd.prog 7 #[.string s, .int .i64 (p : Int)] w fun e w' => e = .returned (.tuple #[.int .i64 ((readD 10 ((lst s).drop p) 0).1 : Int), .int .i64 ((p + (readD 10 ((lst s).drop p) 0).2 : Nat) : Int)]) ∧ w' = w := by
  obtain ⟨R, hR⟩ : ∃ R, R = readD 10 ((lst s).drop p) 0 := ⟨_, rfl⟩
  rw [← hR]
  have HR : Hid (R = ((readD (10 - 0) ((lst s).drop (p + 0)) 0).1, (readD (10 - 0) ((lst s).drop (p + 0)) 0).2 + 0)) := by show _ = _; rw [hR]; rfl
  clear hR
  go_enter Tryd.func7, Tryd.ntmps7
  go_wp2
  go_loopw [6, 7] (fun a i W => ∃ q x : Nat, q ≤ 10 ∧ p + q ≤ s.size ∧ a = .int .i64 (x : Int) ∧ i = .int .i64 ((p : Int) + (q : Int)) ∧ x + 1 ≤ 10 ^ q ∧ Hid (R = ((readD (10 - q) ((lst s).drop (p + q)) x).1, (readD (10 - q) ((lst s).drop (p + q)) x).2 + q)) ∧ W = w) (fun _ i _ => s.size - (intOf i).toNat)
  case atStart => exact ⟨0, 0, by omega, by omega, by go_num, by go_num, by omega, HR, rfl⟩
  case round =>
    clear HR
    obtain ⟨q, x, hq, hpq, rfl, rfl, hx, HR, rfl⟩ := hrel
    have p0 : (0 : Int) ≤ (p : Int) + (q : Int) := by omega
    by_cases hlt : p + q < s.size
    · have p1 : (p : Int) + (q : Int) < (s.size : Int) := by omega
      have p2 : (p : Int) + (q : Int) ≤ (s.size : Int) - 1 := by omega
      have hin : decide ((0 : Int) ≤ (p : Int) + (q : Int) ∧ (p : Int) + (q : Int) ≤ (s.size : Int) - 1) = true := decide_eq_true ⟨p0, p2⟩
      by_cases hq10 : q < 10
      · have q1 : (p : Int) + (q : Int) - (p : Int) < 10 := by omega
        have h9 := ten_pow hq10
        have hdig := fun h0 h1 => Lib.hid (readD_dig hlt hq10 HR.out h0 h1)
        have hfin := fun h => Lib.hid (readD_fin hpq HR.out (.inr (.inr ⟨hlt, h⟩)) hq)
        have hidx : ((p : Int) + (q : Int)).toNat = p + q := by omega
        have hx10 : (x + 1) * 10 ≤ 10 ^ (q + 1) := by rw [Nat.pow_succ]; omega
        generalize hc : s[p + q].toNat = c at hdig hfin
        have hc2 : c < 256 := by rw [← hc]; exact s[p + q].toNat_lt
        have hci : (s[p + q].toNat : Int) = (c : Int) := by omega
        by_cases h0 : 48 ≤ c
        · have g0 : (48 : Int) ≤ (s[p + q].toNat : Int) := by omega
          by_cases h1 : c ≤ 57
          · have g1 : (s[p + q].toNat : Int) ≤ 57 := by omega
            have HN := hdig h0 h1
            clear hdig hfin
            go_wp2_with (first | (go_at_call 19; refine (inR_impl _ _ _ true _ hin).mono ?_; rintro e wx ⟨rfl, rfl⟩) | (go_at_call 20; rw [hci]; refine (dig_impl (c : Int) true _ (by simp; omega)).mono ?_; rintro e wx ⟨rfl, rfl⟩))
            try go_wp2
            try go_roundw
            try refine And.intro ?rel ?measure
            case rel => exact ⟨q + 1, x * 10 + (c - 48), by omega, by omega, by go_num, by go_num, by omega, HN, trivial⟩
            case measure => show s.size - ((p : Int) + (q : Int) + 1).toNat < s.size - ((p : Int) + (q : Int)).toNat; omega
          · have g1 : ¬ (s[p + q].toNat : Int) ≤ 57 := by omega
            have hr := hfin (by omega)
            clear hdig hfin
            go_wp2_with (first | (go_at_call 19; refine (inR_impl _ _ _ true _ hin).mono ?_; rintro e wx ⟨rfl, rfl⟩) | (go_at_call 20; rw [hci]; refine (dig_impl (c : Int) false _ (by simp; omega)).mono ?_; rintro e wx ⟨rfl, rfl⟩))
            try go_wp2
            go_ret2
            exact ⟨ret_two (by rw [hr.out]) (by first | (rw [hr.out]; done) | (rw [hr.out]; exact (Int.natCast_add p q).symm)), rfl⟩
        · have g0 : ¬ (48 : Int) ≤ (s[p + q].toNat : Int) := by omega
          have hr := hfin (by omega)
          clear hdig hfin
          go_wp2_with (first | (go_at_call 19; refine (inR_impl _ _ _ true _ hin).mono ?_; rintro e wx ⟨rfl, rfl⟩) | (go_at_call 20; rw [hci]; refine (dig_impl (c : Int) false _ (by simp; omega)).mono ?_; rintro e wx ⟨rfl, rfl⟩))
          try go_wp2
          go_ret2
          exact ⟨ret_two (by rw [hr.out]) (by first | (rw [hr.out]; done) | (rw [hr.out]; exact (Int.natCast_add p q).symm)), rfl⟩
      · have q1 : ¬ (p : Int) + (q : Int) - (p : Int) < 10 := by omega
        have hr := Lib.hid (readD_fin hpq HR.out (.inl (by omega)) hq)
        go_wp2_with (first | (go_at_call 19; refine (inR_impl _ _ _ true _ hin).mono ?_; rintro e wx ⟨rfl, rfl⟩) | (go_at_call 20; rw [hci]; refine (dig_impl (c : Int) false _ (by simp; omega)).mono ?_; rintro e wx ⟨rfl, rfl⟩))
        try go_wp2
        go_ret2
        exact ⟨ret_two (by rw [hr.out]) (by first | (rw [hr.out]; done) | (rw [hr.out]; exact (Int.natCast_add p q).symm)), rfl⟩
    · have hin : decide ((0 : Int) ≤ (p : Int) + (q : Int) ∧ (p : Int) + (q : Int) ≤ (s.size : Int) - 1) = false := decide_eq_false (by omega)
      have hr := Lib.hid (readD_fin hpq HR.out (.inr (.inl (by omega))) hq)
      go_wp2_with (first | (go_at_call 19; refine (inR_impl _ _ _ false _ hin).mono ?_; rintro e wx ⟨rfl, rfl⟩) | (go_at_call 20; rw [hci]; refine (dig_impl (c : Int) false _ (by simp; omega)).mono ?_; rintro e wx ⟨rfl, rfl⟩))
      try go_wp2
      go_ret2
      exact ⟨ret_two (by rw [hr.out]) (by first | (rw [hr.out]; done) | (rw [hr.out]; exact (Int.natCast_add p q).symm)), rfl⟩
set_option maxRecDepth 100000 in
set_option maxHeartbeats 2000000 in
theorem digits_impl (s : ByteArray) (n : Int) (w : World) (hs : s.size ≤ 4398046511104) :
    Calls Tryd.prog 7 #[.string s, .int .i64 n] w fun e w' => e = .returned (.tuple #[.int .i64 (digN s n), .int .i64 (digE s n)]) ∧ w' = w := by
  by_cases hn : 0 ≤ n ∧ n < (s.size : Int)
  · obtain ⟨p, rfl⟩ : ∃ p : Nat, n = (p : Int) := ⟨n.toNat, by omega⟩
    obtain ⟨e1, e2⟩ := dig_at (s := s) (p := p) (by omega)
    rw [e1, e2]
    exact digits_implN s p w (by omega) hs
  · have e1 : digN s n = 0 := by unfold digN; rw [if_neg hn]
    have e2 : digE s n = n := by unfold digE; rw [if_neg hn]
    have hin : decide ((0 : Int) ≤ n ∧ n ≤ (s.size : Int) - 1) = false := decide_eq_false (by omega)
    rw [e1, e2]
    go_enter Tryd.func7, Tryd.ntmps7
    go_wp2
    go_loopw [6, 7] (fun a i W => a = .int .i64 0 ∧ i = .int .i64 n ∧ W = w) (fun _ _ _ => 0)
    case atStart => exact ⟨by go_num, rfl, rfl⟩
    case round =>
      obtain ⟨rfl, rfl, rfl⟩ := hrel
      go_wp2_with ((go_at_call 19; refine (inR_impl _ _ _ false _ hin).mono ?_; rintro e wx ⟨rfl, rfl⟩))
      try go_wp2
      go_ret2
      exact ⟨rfl, rfl⟩
end Go.Proofs.YtfdnfifmhfffnaaDoor
