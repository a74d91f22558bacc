/- It is proved that the law FnByteOrders returns true at every input of its parameter types and leaves its arguments as they were (statement Rows.FnByteOrdersSaid), with no condition. -/
import Derived.Test.YthgcfdhndmgjlaaISum
import Derived.Test.YthgcfdhndmgjlaaIEndian
import Derived.Test.YthgcfdhndmgjlaaDrawBytes
import Derived.Test.YthgcfdhndmgjlaaArg
namespace Go.Proofs.Ythgcfdhndmgjlaa
open Go Go.ChangeShapes Go.WideShapes Go.ChangeAt Go.RowKit
namespace fnByteOrders
theorem readB_beB (m : Nat) : ∀ (S k : Nat), readB (beB m S) k = k * 256 ^ S + m % 256 ^ S
  | 0, k => by simp [beB, readB, Nat.mod_one]
  | S + 1, k => by
    have e0 : m % 256 ^ (S + 1) = m % 256 ^ S + 256 ^ S * (m / 256 ^ S % 256) := by rw [Nat.pow_succ, Nat.mod_mul]
    have e1 : k * 256 ^ (S + 1) = k * 256 * 256 ^ S := by rw [Nat.pow_succ, Nat.mul_comm (256 ^ S) 256, Nat.mul_assoc]
    rw [beB, readB, readB_beB m S, UInt8.toNat_ofNat', e0, e1, Nat.add_mul, show (2 : Nat) ^ 8 = 256 from rfl, Nat.mul_comm (m / 256 ^ S % 256)]
    omega
/-- What the two orders give where n fits. -/
def Orders (m S : Nat) (bs cs : List UInt8) : Prop := bs.length = S ∧ cs.length = S ∧ readI bs false = m ∧ readI cs true = m ∧ ∀ (k j : Nat) (h : k < bs.length) (h2 : j < cs.length), k + j + 1 = S → cs[j].toNat = bs[k].toNat
theorem orders_ok (m S : Nat) (h4 : S ≤ 4) (hm : m < 256 ^ S) : Orders m S (beB m S) (leB m S) := by
  have hr : readB (beB m S) 0 = m := by rw [readB_beB, Nat.zero_mul, Nat.zero_add, Nat.mod_eq_of_lt hm]
  refine ⟨beB_length m S, leB_length m S, ?_, ?_, fun k j h h2 hs => ?_⟩
  · unfold readI orderB
    rw [if_neg (by rw [beB_length]; omega)]
    exact hr
  · unfold readI orderB
    rw [if_neg (by rw [leB_length]; omega)]
    show readB (leB m S).reverse 0 = m
    unfold leB
    rw [List.reverse_reverse]
    exact hr
  · rw [leB_get, beB_get, show S - 1 - k = j by omega]
theorem of_ok (n s : Int) (m S : Nat) (hn : n = (m : Int)) (hs : s = (S : Int)) (h1 : 1 ≤ S) (h4 : S ≤ 4) (hm : m < 256 ^ S) : beOf n s = beB m S ∧ leOf n s = leB m S := by
  subst hn hs
  have hc : 1 ≤ (S : Int) ∧ (S : Int) ≤ 4 ∧ 0 ≤ (m : Int) ∧ (m : Int) < 256 ^ (S : Int).toNat := by
    refine ⟨by omega, by omega, by omega, ?_⟩
    rw [Int.toNat_natCast]
    have h2 := Int.ofNat_lt.2 hm
    rw [Int.natCast_pow] at h2
    exact h2
  have e : beOf (m : Int) (S : Int) = beB m S := by
    unfold beOf
    rw [if_pos hc, Int.toNat_natCast, Int.toNat_natCast]
  exact ⟨e, by unfold leOf leB; rw [e]⟩
theorem of_bad (n s : Int) (h : ¬ (1 ≤ s ∧ s ≤ 4 ∧ 0 ≤ n ∧ n < 256 ^ s.toNat)) : beOf n s = [] ∧ leOf n s = [] := by
  have e : beOf n s = [] := by unfold beOf; rw [if_neg h]
  exact ⟨e, by unfold leOf; rw [e]; rfl⟩
theorem big_no (a : Option Addr) (n cap : Nat) (w : World) (h : n ≤ 1048576) : Calls Try.prog 14 #[.slice a n cap] w fun e w' => e = .returned (.bool false) ∧ w = w' := by
  have g : ¬ (1048576 : Int) < (n : Int) := by omega
  go_enter Try.func14, Try.ntmps14
  go_wp2
  go_ret
  exact ⟨rfl, rfl⟩
theorem big_yes (a : Option Addr) (n cap : Nat) (w : World) (h : 1048576 < n) (_hm : n ≤ 9223372036854775807) : Calls Try.prog 14 #[.slice a n cap] w fun e w' => e = .returned (.bool true) ∧ w = w' := by
  have g : (1048576 : Int) < (n : Int) := by omega
  go_enter Try.func14, Try.ntmps14
  go_wp2
  go_ret
  exact ⟨rfl, rfl⟩
theorem max_zero (s : Int) (w : World) (h : 0 < s) : Calls Try.prog 24 #[.int .i64 0, .int .i64 s] w fun e w' => e = .returned (.int .i64 s) ∧ w = w' := by
  go_enter Try.func24, Try.ntmps24
  go_wp2
  go_ret
  exact ⟨rfl, rfl⟩
theorem walk_long (a0 : Option Addr) (bs0 : List UInt8) (cap0 : Nat) (w : World) (h : 1048576 < bs0.length) (hm : bs0.length ≤ 9223372036854775807) :
    Calls Try.prog 4 #[.slice a0 bs0.length cap0] w fun e w' => e = .returned (.bool true) ∧ Below w.heap.size w w' := by
  go_enter Try.func4, Try.ntmps4
  go_wp2_with fail
  refine (big_yes a0 bs0.length cap0 w h hm).mono ?_
  rintro e w1 ⟨rfl, rfl⟩
  go_wp2_with fail
  go_ret
  exact ⟨rfl, Below.refl _ _⟩
set_option maxRecDepth 100000 in
set_option maxHeartbeats 8000000 in
theorem walk_short (a0 : Option Addr) (bs0 : List UInt8) (cap0 : Nat) (w : World) (h : bs0.length ≤ 1048576) (hs : Code a0 bs0.length w) :
    Calls Try.prog 4 #[.slice a0 bs0.length cap0] w fun e w' => e = .returned (.bool true) ∧ Below w.heap.size w w' := by
  have HS := Lib.hid hs
  clear hs
  go_enter Try.func4, Try.ntmps4
  go_wp2_with fail
  refine (big_no a0 bs0.length cap0 w h).mono ?_
  rintro e w1 ⟨rfl, rfl⟩
  go_wp2_with fail
  refine (drawBigEndian a0 bs0.length cap0 w (by omega) HS.out).mono ?_
  rintro e w1 ⟨n, s, hn, s0, s1, rfl, hb1⟩
  have HB1 := Lib.hid hb1
  have HN := Lib.hid hn
  clear hb1 hn
  go_wp2_with fail
  refine (be_impl n s w1).mono ?_
  rintro e w2 ⟨a2, c2, rfl, hr2, hb2⟩
  have HR2 := Lib.hid hr2
  have HB2 := Lib.hid (HB1.out.trans (hb2.mono HB1.out.size))
  clear hr2 hb2 HB1
  go_wp2_with fail
  refine (le_impl n s w2).mono ?_
  rintro e w3 ⟨a3, c3, rfl, hr3, hb3⟩
  have HA3 := Lib.hid (HR2.out.below hb3).rd
  have HL3 := Lib.hid hr3.rd
  have HB3 := Lib.hid (HB2.out.trans (hb3.mono HB2.out.size))
  clear hr3 hb3 HB2 HR2
  by_cases hbad : ¬ (1 ≤ s ∧ s ≤ 4 ∧ 0 ≤ n ∧ n < 256 ^ s.toNat)
  · obtain ⟨e1, e2⟩ := of_bad n s hbad
    rw [e1, e2]
    clear e1 e2 HA3 HL3
    obtain rfl | rfl | rfl | rfl | rfl | rfl : s = 0 ∨ s = 1 ∨ s = 2 ∨ s = 3 ∨ s = 4 ∨ s = 5 := by omega
    · go_wp2_with fail
      go_ret
      exact ⟨rfl, HB3.out⟩
    · by_cases h1 : n < 0
      · go_wp2_with fail
        go_ret
        exact ⟨rfl, HB3.out⟩
      · have g1 : decide (n < 0) = false := by simp; omega
        have g2 : (256 : Int) ≤ n := by
          have h2 : ¬ n < 256 := fun h2 => hbad ⟨by omega, by omega, by omega, h2⟩
          omega
        clear hbad h1
        go_wp2_with fail
        refine (max_zero 1 w3 (by omega)).mono ?_
        rintro e w4 ⟨rfl, rfl⟩
        go_wp2_with fail
        go_ret
        exact ⟨rfl, HB3.out⟩
    · by_cases h1 : n < 0
      · go_wp2_with fail
        go_ret
        exact ⟨rfl, HB3.out⟩
      · have g1 : decide (n < 0) = false := by simp; omega
        have g2 : (65536 : Int) ≤ n := by
          have h2 : ¬ n < 65536 := fun h2 => hbad ⟨by omega, by omega, by omega, h2⟩
          omega
        clear hbad h1
        go_wp2_with fail
        refine (max_zero 2 w3 (by omega)).mono ?_
        rintro e w4 ⟨rfl, rfl⟩
        go_wp2_with fail
        go_ret
        exact ⟨rfl, HB3.out⟩
    · by_cases h1 : n < 0
      · go_wp2_with fail
        go_ret
        exact ⟨rfl, HB3.out⟩
      · have g1 : decide (n < 0) = false := by simp; omega
        have g2 : (16777216 : Int) ≤ n := by
          have h2 : ¬ n < 16777216 := fun h2 => hbad ⟨by omega, by omega, by omega, h2⟩
          omega
        clear hbad h1
        go_wp2_with fail
        refine (max_zero 3 w3 (by omega)).mono ?_
        rintro e w4 ⟨rfl, rfl⟩
        go_wp2_with fail
        go_ret
        exact ⟨rfl, HB3.out⟩
    · by_cases h1 : n < 0
      · go_wp2_with fail
        go_ret
        exact ⟨rfl, HB3.out⟩
      · have g1 : decide (n < 0) = false := by simp; omega
        have g2 : (4294967296 : Int) ≤ n := by
          have h2 : ¬ n < 4294967296 := fun h2 => hbad ⟨by omega, by omega, by omega, h2⟩
          omega
        clear hbad h1
        go_wp2_with fail
        refine (max_zero 4 w3 (by omega)).mono ?_
        rintro e w4 ⟨rfl, rfl⟩
        go_wp2_with fail
        go_ret
        exact ⟨rfl, HB3.out⟩
    · go_wp2_with fail
      go_ret
      exact ⟨rfl, HB3.out⟩
  · obtain ⟨h1, h4, n0, n1⟩ := Classical.not_not.1 hbad
    obtain ⟨m, rfl⟩ : ∃ m : Nat, n = (m : Int) := ⟨n.toNat, by omega⟩
    clear hbad
    obtain rfl | rfl | rfl | rfl : s = 1 ∨ s = 2 ∨ s = 3 ∨ s = 4 := by omega
    · have hm : m < 256 := by
        have : (m : Int) < 256 := n1
        omega
      obtain ⟨e1, e2⟩ := of_ok (m : Int) 1 m 1 rfl rfl (by omega) (by omega) hm
      obtain ⟨l1, l2, r1, r2, hk⟩ := orders_ok m 1 (by omega) hm
      rw [e1, e2]
      have HA := HA3.out
      have HL := HL3.out
      rw [e1] at HA
      rw [e2] at HL
      clear e1 e2 HA3 HL3 n1
      generalize beB m 1 = bs at *
      generalize leB m 1 = cs at *
      have HA3 := Lib.hid HA
      have HL3 := Lib.hid HL
      have HK := Lib.hid hk
      have RA := read_impl a2 bs c2 false
      have RL := read_impl a3 cs c3 true
      rw [r1] at RA
      rw [r2] at RL
      have HRA := Lib.hid RA
      have HRL := Lib.hid RL
      have L1 := Lib.hid l1
      have L2 := Lib.hid l2
      rw [l1, l2]
      rw [l1] at RA
      rw [l2] at RL
      have g0 : decide ((m : Int) < 0) = false := by simp
      have g2 : decide ((256 : Int) ≤ (m : Int)) = false := by simp; omega
      have g3 : (m : Int) < 256 := by omega
      clear HA HL hk RA RL l1 l2 r1 r2 hm
      go_wp2_with fail
      refine (max_zero 1 w3 (by omega)).mono ?_
      rintro e w4 ⟨rfl, rfl⟩
      go_wp2_with fail
      clear g2 g3
      go_loopw [7] (fun i W => ∃ k q : Nat, k ≤ 1 ∧ i = .int .i64 (k : Int) ∧ W = w3.drewN q) (fun i _ => 1 - (intOf i).toNat)
      case atStart => exact ⟨0, 0, by omega, rfl, rfl⟩
      case round =>
        obtain ⟨k, q, hk, rfl, rfl⟩ := hrel
        obtain rfl | rfl : k = 0 ∨ k = 1 := by omega
        · have hk1 : 0 < bs.length := by rw [L1.out]; omega
          have hj1 : 0 < cs.length := by rw [L2.out]; omega
          obtain ⟨b1, o1, rfl, d1⟩ := HA3.out 0 hk1
          obtain ⟨b2, o2, rfl, d2⟩ := HL3.out 0 hj1
          rw [HK.out 0 0 hk1 hj1 (by omega)] at d2
          generalize bs[0].toNat = x at d1 d2
          rw [Nat.add_zero] at d1
          rw [Nat.add_zero] at d2
          clear hk1 hj1
          go_wp2
          go_quiet (fail)
          go_wp2
          go_roundw
          case rel => exact ⟨1, _, by omega, by go_num, rfl⟩
          case measure => simp [intOf]
        · have Q1 := HRA.out (w3.drewN q) (by rw [L1.out]; omega) HA3.out
          rw [L1.out] at Q1
          have HQ1 := Lib.hid Q1
          clear Q1
          go_wp2_with fail
          refine HQ1.out.mono ?_
          rintro e w5 ⟨rfl, hb5⟩
          have HB5 := Lib.hid ((below_drewN HB3.out q).trans (hb5.mono (below_drewN HB3.out q).size))
          have Q2 := HRL.out w5 (by rw [L2.out]; omega) (HL3.out.below ((below_drewN (Below.refl _ w3) q).trans hb5))
          rw [L2.out] at Q2
          have HQ2 := Lib.hid Q2
          clear Q2 hb5
          go_wp2_with fail
          refine HQ2.out.mono ?_
          rintro e w6 ⟨rfl, hb6⟩
          have HB6 := Lib.hid (HB5.out.trans (hb6.mono HB5.out.size))
          clear hb6
          go_wp2_with fail
          go_ret
          exact ⟨rfl, HB6.out⟩
    · have hm : m < 65536 := by
        have : (m : Int) < 65536 := n1
        omega
      obtain ⟨e1, e2⟩ := of_ok (m : Int) 2 m 2 rfl rfl (by omega) (by omega) hm
      obtain ⟨l1, l2, r1, r2, hk⟩ := orders_ok m 2 (by omega) hm
      rw [e1, e2]
      have HA := HA3.out
      have HL := HL3.out
      rw [e1] at HA
      rw [e2] at HL
      clear e1 e2 HA3 HL3 n1
      generalize beB m 2 = bs at *
      generalize leB m 2 = cs at *
      have HA3 := Lib.hid HA
      have HL3 := Lib.hid HL
      have HK := Lib.hid hk
      have RA := read_impl a2 bs c2 false
      have RL := read_impl a3 cs c3 true
      rw [r1] at RA
      rw [r2] at RL
      have HRA := Lib.hid RA
      have HRL := Lib.hid RL
      have L1 := Lib.hid l1
      have L2 := Lib.hid l2
      rw [l1, l2]
      rw [l1] at RA
      rw [l2] at RL
      have g0 : decide ((m : Int) < 0) = false := by simp
      have g2 : decide ((65536 : Int) ≤ (m : Int)) = false := by simp; omega
      have g3 : (m : Int) < 65536 := by omega
      clear HA HL hk RA RL l1 l2 r1 r2 hm
      go_wp2_with fail
      refine (max_zero 2 w3 (by omega)).mono ?_
      rintro e w4 ⟨rfl, rfl⟩
      go_wp2_with fail
      clear g2 g3
      go_loopw [7] (fun i W => ∃ k q : Nat, k ≤ 2 ∧ i = .int .i64 (k : Int) ∧ W = w3.drewN q) (fun i _ => 2 - (intOf i).toNat)
      case atStart => exact ⟨0, 0, by omega, rfl, rfl⟩
      case round =>
        obtain ⟨k, q, hk, rfl, rfl⟩ := hrel
        obtain rfl | rfl | rfl : k = 0 ∨ k = 1 ∨ k = 2 := by omega
        · have hk1 : 0 < bs.length := by rw [L1.out]; omega
          have hj1 : 1 < cs.length := by rw [L2.out]; omega
          obtain ⟨b1, o1, rfl, d1⟩ := HA3.out 0 hk1
          obtain ⟨b2, o2, rfl, d2⟩ := HL3.out 1 hj1
          rw [HK.out 0 1 hk1 hj1 (by omega)] at d2
          generalize bs[0].toNat = x at d1 d2
          rw [Nat.add_zero] at d1
          clear hk1 hj1
          go_wp2
          go_quiet (fail)
          go_wp2
          go_roundw
          case rel => exact ⟨1, _, by omega, by go_num, rfl⟩
          case measure => simp [intOf]
        · have hk1 : 1 < bs.length := by rw [L1.out]; omega
          have hj1 : 0 < cs.length := by rw [L2.out]; omega
          obtain ⟨b1, o1, rfl, d1⟩ := HA3.out 1 hk1
          obtain ⟨b2, o2, rfl, d2⟩ := HL3.out 0 hj1
          rw [HK.out 1 0 hk1 hj1 (by omega)] at d2
          generalize bs[1].toNat = x at d1 d2
          rw [Nat.add_zero] at d2
          clear hk1 hj1
          go_wp2
          go_quiet (fail)
          go_wp2
          go_roundw
          case rel => exact ⟨2, _, by omega, by go_num, rfl⟩
          case measure => simp [intOf]
        · have Q1 := HRA.out (w3.drewN q) (by rw [L1.out]; omega) HA3.out
          rw [L1.out] at Q1
          have HQ1 := Lib.hid Q1
          clear Q1
          go_wp2_with fail
          refine HQ1.out.mono ?_
          rintro e w5 ⟨rfl, hb5⟩
          have HB5 := Lib.hid ((below_drewN HB3.out q).trans (hb5.mono (below_drewN HB3.out q).size))
          have Q2 := HRL.out w5 (by rw [L2.out]; omega) (HL3.out.below ((below_drewN (Below.refl _ w3) q).trans hb5))
          rw [L2.out] at Q2
          have HQ2 := Lib.hid Q2
          clear Q2 hb5
          go_wp2_with fail
          refine HQ2.out.mono ?_
          rintro e w6 ⟨rfl, hb6⟩
          have HB6 := Lib.hid (HB5.out.trans (hb6.mono HB5.out.size))
          clear hb6
          go_wp2_with fail
          go_ret
          exact ⟨rfl, HB6.out⟩
    · have hm : m < 16777216 := by
        have : (m : Int) < 16777216 := n1
        omega
      obtain ⟨e1, e2⟩ := of_ok (m : Int) 3 m 3 rfl rfl (by omega) (by omega) hm
      obtain ⟨l1, l2, r1, r2, hk⟩ := orders_ok m 3 (by omega) hm
      rw [e1, e2]
      have HA := HA3.out
      have HL := HL3.out
      rw [e1] at HA
      rw [e2] at HL
      clear e1 e2 HA3 HL3 n1
      generalize beB m 3 = bs at *
      generalize leB m 3 = cs at *
      have HA3 := Lib.hid HA
      have HL3 := Lib.hid HL
      have HK := Lib.hid hk
      have RA := read_impl a2 bs c2 false
      have RL := read_impl a3 cs c3 true
      rw [r1] at RA
      rw [r2] at RL
      have HRA := Lib.hid RA
      have HRL := Lib.hid RL
      have L1 := Lib.hid l1
      have L2 := Lib.hid l2
      rw [l1, l2]
      rw [l1] at RA
      rw [l2] at RL
      have g0 : decide ((m : Int) < 0) = false := by simp
      have g2 : decide ((16777216 : Int) ≤ (m : Int)) = false := by simp; omega
      have g3 : (m : Int) < 16777216 := by omega
      clear HA HL hk RA RL l1 l2 r1 r2 hm
      go_wp2_with fail
      refine (max_zero 3 w3 (by omega)).mono ?_
      rintro e w4 ⟨rfl, rfl⟩
      go_wp2_with fail
      clear g2 g3
      go_loopw [7] (fun i W => ∃ k q : Nat, k ≤ 3 ∧ i = .int .i64 (k : Int) ∧ W = w3.drewN q) (fun i _ => 3 - (intOf i).toNat)
      case atStart => exact ⟨0, 0, by omega, rfl, rfl⟩
      case round =>
        obtain ⟨k, q, hk, rfl, rfl⟩ := hrel
        obtain rfl | rfl | rfl | rfl : k = 0 ∨ k = 1 ∨ k = 2 ∨ k = 3 := by omega
        · have hk1 : 0 < bs.length := by rw [L1.out]; omega
          have hj1 : 2 < cs.length := by rw [L2.out]; omega
          obtain ⟨b1, o1, rfl, d1⟩ := HA3.out 0 hk1
          obtain ⟨b2, o2, rfl, d2⟩ := HL3.out 2 hj1
          rw [HK.out 0 2 hk1 hj1 (by omega)] at d2
          generalize bs[0].toNat = x at d1 d2
          rw [Nat.add_zero] at d1
          clear hk1 hj1
          go_wp2
          go_quiet (fail)
          go_wp2
          go_roundw
          case rel => exact ⟨1, _, by omega, by go_num, rfl⟩
          case measure => simp [intOf]
        · have hk1 : 1 < bs.length := by rw [L1.out]; omega
          have hj1 : 1 < cs.length := by rw [L2.out]; omega
          obtain ⟨b1, o1, rfl, d1⟩ := HA3.out 1 hk1
          obtain ⟨b2, o2, rfl, d2⟩ := HL3.out 1 hj1
          rw [HK.out 1 1 hk1 hj1 (by omega)] at d2
          generalize bs[1].toNat = x at d1 d2
          clear hk1 hj1
          go_wp2
          go_quiet (fail)
          go_wp2
          go_roundw
          case rel => exact ⟨2, _, by omega, by go_num, rfl⟩
          case measure => simp [intOf]
        · have hk1 : 2 < bs.length := by rw [L1.out]; omega
          have hj1 : 0 < cs.length := by rw [L2.out]; omega
          obtain ⟨b1, o1, rfl, d1⟩ := HA3.out 2 hk1
          obtain ⟨b2, o2, rfl, d2⟩ := HL3.out 0 hj1
          rw [HK.out 2 0 hk1 hj1 (by omega)] at d2
          generalize bs[2].toNat = x at d1 d2
          rw [Nat.add_zero] at d2
          clear hk1 hj1
          go_wp2
          go_quiet (fail)
          go_wp2
          go_roundw
          case rel => exact ⟨3, _, by omega, by go_num, rfl⟩
          case measure => simp [intOf]
        · have Q1 := HRA.out (w3.drewN q) (by rw [L1.out]; omega) HA3.out
          rw [L1.out] at Q1
          have HQ1 := Lib.hid Q1
          clear Q1
          go_wp2_with fail
          refine HQ1.out.mono ?_
          rintro e w5 ⟨rfl, hb5⟩
          have HB5 := Lib.hid ((below_drewN HB3.out q).trans (hb5.mono (below_drewN HB3.out q).size))
          have Q2 := HRL.out w5 (by rw [L2.out]; omega) (HL3.out.below ((below_drewN (Below.refl _ w3) q).trans hb5))
          rw [L2.out] at Q2
          have HQ2 := Lib.hid Q2
          clear Q2 hb5
          go_wp2_with fail
          refine HQ2.out.mono ?_
          rintro e w6 ⟨rfl, hb6⟩
          have HB6 := Lib.hid (HB5.out.trans (hb6.mono HB5.out.size))
          clear hb6
          go_wp2_with fail
          go_ret
          exact ⟨rfl, HB6.out⟩
    · have hm : m < 4294967296 := by
        have : (m : Int) < 4294967296 := n1
        omega
      obtain ⟨e1, e2⟩ := of_ok (m : Int) 4 m 4 rfl rfl (by omega) (by omega) hm
      obtain ⟨l1, l2, r1, r2, hk⟩ := orders_ok m 4 (by omega) hm
      rw [e1, e2]
      have HA := HA3.out
      have HL := HL3.out
      rw [e1] at HA
      rw [e2] at HL
      clear e1 e2 HA3 HL3 n1
      generalize beB m 4 = bs at *
      generalize leB m 4 = cs at *
      have HA3 := Lib.hid HA
      have HL3 := Lib.hid HL
      have HK := Lib.hid hk
      have RA := read_impl a2 bs c2 false
      have RL := read_impl a3 cs c3 true
      rw [r1] at RA
      rw [r2] at RL
      have HRA := Lib.hid RA
      have HRL := Lib.hid RL
      have L1 := Lib.hid l1
      have L2 := Lib.hid l2
      rw [l1, l2]
      rw [l1] at RA
      rw [l2] at RL
      have g0 : decide ((m : Int) < 0) = false := by simp
      have g2 : decide ((4294967296 : Int) ≤ (m : Int)) = false := by simp; omega
      have g3 : (m : Int) < 4294967296 := by omega
      clear HA HL hk RA RL l1 l2 r1 r2 hm
      go_wp2_with fail
      refine (max_zero 4 w3 (by omega)).mono ?_
      rintro e w4 ⟨rfl, rfl⟩
      go_wp2_with fail
      clear g2 g3
      go_loopw [7] (fun i W => ∃ k q : Nat, k ≤ 4 ∧ i = .int .i64 (k : Int) ∧ W = w3.drewN q) (fun i _ => 4 - (intOf i).toNat)
      case atStart => exact ⟨0, 0, by omega, rfl, rfl⟩
      case round =>
        obtain ⟨k, q, hk, rfl, rfl⟩ := hrel
        obtain rfl | rfl | rfl | rfl | rfl : k = 0 ∨ k = 1 ∨ k = 2 ∨ k = 3 ∨ k = 4 := by omega
        · have hk1 : 0 < bs.length := by rw [L1.out]; omega
          have hj1 : 3 < cs.length := by rw [L2.out]; omega
          obtain ⟨b1, o1, rfl, d1⟩ := HA3.out 0 hk1
          obtain ⟨b2, o2, rfl, d2⟩ := HL3.out 3 hj1
          rw [HK.out 0 3 hk1 hj1 (by omega)] at d2
          generalize bs[0].toNat = x at d1 d2
          rw [Nat.add_zero] at d1
          clear hk1 hj1
          go_wp2
          go_quiet (fail)
          go_wp2
          go_roundw
          case rel => exact ⟨1, _, by omega, by go_num, rfl⟩
          case measure => simp [intOf]
        · have hk1 : 1 < bs.length := by rw [L1.out]; omega
          have hj1 : 2 < cs.length := by rw [L2.out]; omega
          obtain ⟨b1, o1, rfl, d1⟩ := HA3.out 1 hk1
          obtain ⟨b2, o2, rfl, d2⟩ := HL3.out 2 hj1
          rw [HK.out 1 2 hk1 hj1 (by omega)] at d2
          generalize bs[1].toNat = x at d1 d2
          clear hk1 hj1
          go_wp2
          go_quiet (fail)
          go_wp2
          go_roundw
          case rel => exact ⟨2, _, by omega, by go_num, rfl⟩
          case measure => simp [intOf]
        · have hk1 : 2 < bs.length := by rw [L1.out]; omega
          have hj1 : 1 < cs.length := by rw [L2.out]; omega
          obtain ⟨b1, o1, rfl, d1⟩ := HA3.out 2 hk1
          obtain ⟨b2, o2, rfl, d2⟩ := HL3.out 1 hj1
          rw [HK.out 2 1 hk1 hj1 (by omega)] at d2
          generalize bs[2].toNat = x at d1 d2
          clear hk1 hj1
          go_wp2
          go_quiet (fail)
          go_wp2
          go_roundw
          case rel => exact ⟨3, _, by omega, by go_num, rfl⟩
          case measure => simp [intOf]
        · have hk1 : 3 < bs.length := by rw [L1.out]; omega
          have hj1 : 0 < cs.length := by rw [L2.out]; omega
          obtain ⟨b1, o1, rfl, d1⟩ := HA3.out 3 hk1
          obtain ⟨b2, o2, rfl, d2⟩ := HL3.out 0 hj1
          rw [HK.out 3 0 hk1 hj1 (by omega)] at d2
          generalize bs[3].toNat = x at d1 d2
          rw [Nat.add_zero] at d2
          clear hk1 hj1
          go_wp2
          go_quiet (fail)
          go_wp2
          go_roundw
          case rel => exact ⟨4, _, by omega, by go_num, rfl⟩
          case measure => simp [intOf]
        · have Q1 := HRA.out (w3.drewN q) (by rw [L1.out]; omega) HA3.out
          rw [L1.out] at Q1
          have HQ1 := Lib.hid Q1
          clear Q1
          go_wp2_with fail
          refine HQ1.out.mono ?_
          rintro e w5 ⟨rfl, hb5⟩
          have HB5 := Lib.hid ((below_drewN HB3.out q).trans (hb5.mono (below_drewN HB3.out q).size))
          have Q2 := HRL.out w5 (by rw [L2.out]; omega) (HL3.out.below ((below_drewN (Below.refl _ w3) q).trans hb5))
          rw [L2.out] at Q2
          have HQ2 := Lib.hid Q2
          clear Q2 hb5
          go_wp2_with fail
          refine HQ2.out.mono ?_
          rintro e w6 ⟨rfl, hb6⟩
          have HB6 := Lib.hid (HB5.out.trans (hb6.mono HB5.out.size))
          clear hb6
          go_wp2_with fail
          go_ret
          exact ⟨rfl, HB6.out⟩
theorem walk (a0 : Option Addr) (bs0 : List UInt8) (cap0 : Nat) (w : World) (r0 : Arg a0 bs0 cap0 w) :
    Calls Try.prog 4 #[.slice a0 bs0.length cap0] w fun e w' => e = .returned (.bool true) ∧ Below w.heap.size w w' := by
  by_cases h0 : 1048576 < bs0.length
  · exact walk_long a0 bs0 cap0 w h0 (by have q1 := r0.2.1; have q2 := r0.2.2.2; omega)
  · exact walk_short a0 bs0 cap0 w (by omega) r0.code
set_option maxRecDepth 100000 in
theorem lifted (os : Os) (started : os.Started) (H : Type) (enc : TypeId × Value → H) :
    ReturnsInHanded {} Try.checked os 4 .any (Rows.fnByteOrdersSpec.pre6 enc Try.prog Try.f4 Rows.fnByteOrdersRow.domain false) (Rows.fnByteOrdersSpec.post enc Try.prog Try.f4 false true false false) := by
  refine returnsInHanded_of_change (C := Try.checked) own started (by kernel_rfl) Try.func4
    (ChangeSpec.witness6 (enc := enc) (C := Try.checked) false ⟨#[], #[.slice none 0 0], []⟩ 8 (by kernel_rfl) (by kernel_rfl) (by kernel_rfl) (by kernel_rfl)) ?_
  intro W base args ds gs before hval0 hW hcnd _
  have hval : ∀ (j : Nat) t v, Try.f4.params[j]? = some t → args[j]? = some v → Value.okWide Try.prog W .any base t v := hval0
  have hW' := hW
  obtain ⟨p, q, hA0, hV, rfl, hfz, hnd⟩ := hW
  have hA : DataW.TrodAll enc Try.prog W 0 (fun _ => true) true Try.f4.params.toList args.toList ds p := hA0
  rw [Try.params4] at hA hval
  obtain ⟨v0, vs0, d0, ds0, p0, q0, hargs, rfl, rfl, h0, r0⟩ := trodAll_cons hA
  obtain ⟨rfl, rfl, rfl⟩ := trodAll_nil r0
  obtain rfl : args = #[v0] := by cases args; simp_all
  obtain ⟨rfl, rfl⟩ := trodVars_none hV
  simp only [List.append_nil] at hW'
  have hlt : ∀ x ∈ p0, x.block < W.heap.size := fun x hx => hW'.lt x (by simpa using hx)
  obtain ⟨a0, len0, cap0, rfl⟩ := okWide_slice Try.underlying22 (hval 0 22 v0 rfl rfl)
  obtain ⟨bs0, rfl, hb0⟩ := bytes_arg h0
  have m0 : ∀ (W' : World), Below W.heap.size W W' → DataW.Trod enc Try.prog W' 0 (fun b => decide (b < W.heap.size)) true 22 (.slice a0 bs0.length cap0) d0 p0 := fun W' hn => Below.trod laidOut (by kernel_rfl) (of_decide_eq_true (by kernel_rfl)) h0 hn (fun x hx => hlt x (by simp [hx]))
  clear hA0 hval0
  refine (walk a0 bs0 cap0 W hb0).mono fun e W' ⟨he, hb⟩ => ?_
  subst he
  exact ⟨_, rfl, _, _, _, [], _, [], hW', trodAll_cons_mk (shut_bool Try.underlying4 _) trodAll_mk0, (trodAll_cons_mk (m0 _ hb) trodAll_mk0), rfl, hb.frame _, fun h => by cases h⟩
theorem over : Rows.fnByteOrdersRow.holds Try.pinned (OpenSpec.ofChange Rows.fnByteOrdersSpec) :=
  OpenClaim.holds_of_wide 4 Try.f4 rfl rfl rfl rfl rfl rfl rfl ⟨rfl, rfl, rfl, rfl, rfl⟩ rfl rfl rfl rfl rfl (by kernel_rfl) Try.func4 (by kernel_rfl)
    (of_decide_eq_true (by kernel_rfl)) (by unfold Func.isWrapper; first | (rw [if_pos (by decide +kernel)]; kernel_rfl) | (rw [if_neg (by decide +kernel)]; exact ⟨rfl, rfl⟩))
    (fun os started H enc _ => lifted os started H enc)
/-- THE STATEMENT -/
theorem proved : Rows.FnByteOrdersSaid := over
end fnByteOrders
#print axioms fnByteOrders.proved
end Go.Proofs.Ythgcfdhndmgjlaa
