/- Comparisons of slices: the model's EqualBytes, l4Texts, l4Ints; slices.Equal; the program's EqualBytes. -/
import Derived.Test.YtkegjgfggijinaaGreatDoorBytes
import Derived.Test.YtkegjgfggijinaaGreatDoorStrs
import Derived.Test.YtkegjgfggijinaaGreatDoorInts
import Derived.Test.YtkegjgfggijinaaGreatDoorShelf
import Derived.BigQuiet
namespace Go.Proofs.YtkegjgfggijinaaGreatDoor
open Go Go.RowKit
set_option maxRecDepth 100000 in
theorem eqt_lib (a b : Option Addr) (bs cs : List ByteArray) (ca cb : Nat) (w : World) (hl : bs.length ≤ 1099511627776) (ha : RdS a bs w) (hb : RdS b cs w) :
    Calls Tryz.prog 92 #[.slice a bs.length ca, .slice b cs.length cb] w (EqOutS bs cs w) := by
  have HA := Lib.hid ha
  have HB := Lib.hid hb
  clear ha hb
  by_cases hlen : bs.length = cs.length
  · have h1 : ((bs.length : Int) != (cs.length : Int)) = false := by simp [hlen]
    have HL := Lib.hid hlen
    have hle : cs.length ≤ bs.length := by omega
    have hge : bs.length ≤ cs.length := by omega
    clear hlen
    go_enter Tryz.func92, Tryz.ntmps92
    go_wp2
    clear h1
    go_loopw [13] (fun i W => ∃ k n : Nat, k ≤ bs.length ∧ i = .int .i64 k ∧ W = w.drewN n ∧ Hid (bs.take k = cs.take k)) (fun i _ => bs.length - (intOf i).toNat)
    case atStart => exact ⟨0, 0, Nat.zero_le _, rfl, rfl, rfl⟩
    case round =>
      obtain ⟨k, n, hk, rfl, rfl, ht⟩ := hrel
      have k0 : (0 : Int) ≤ (k : Int) := by omega
      by_cases hlt : k < bs.length
      · obtain ⟨b1, o1, rfl, c1⟩ := HA.out k hlt
        obtain ⟨b2, o2, rfl, c2⟩ := HB.out k (by omega)
        have k1 : (k : Int) < (bs.length : Int) := by omega
        have k2 : (k : Int) < (cs.length : Int) := by omega
        by_cases he : bs[k] = cs[k]
        · have ht' := Lib.hid (takeNext ht.out hlt (by omega) he)
          rw [← he] at c2
          clear he
          generalize bs[k] = x at c1 c2
          go_wp2
          go_quiet (fail)
          go_wp2
          go_roundw
          case rel => exact ⟨k + 1, _, by omega, by go_num, rfl, ht'⟩
          case measure => simp [intOf]; omega
        · have hne := Lib.hid (takeNot hlt (by omega) he)
          have he' : Hid (bs[k] ≠ cs[k]) := he
          clear he
          generalize bs[k] = x at c1 he'
          generalize cs[k] = y at c2 he'
          have e1 := str_ne he'.out
          go_wp2
          go_quiet (fail)
          go_wp2
          go_ret
          exact ⟨ret_bool (decide_eq_false hne.out).symm, _, by rw [World.drewN_drewN]⟩
      · have k1 : ¬ (k : Int) < (bs.length : Int) := by omega
        have heq : Hid (bs = cs) := by
          have h2 := ht.out
          rw [List.take_of_length_le (by omega), List.take_of_length_le (by omega)] at h2
          exact h2
        go_wp2
        go_ret
        exact ⟨ret_bool (decide_eq_true heq.out).symm, _, rfl⟩
  · have h1 : ((bs.length : Int) != (cs.length : Int)) = true := by simp; omega
    have hne : Hid (bs ≠ cs) := fun h => hlen (by rw [h])
    clear hlen
    go_enter Tryz.func92, Tryz.ntmps92
    go_wp2
    go_ret
    exact ⟨ret_bool (decide_eq_false hne.out).symm, 0, rfl⟩
set_option maxRecDepth 100000 in
theorem eqi_lib (a b : Option Addr) (bs cs : List Int) (ca cb : Nat) (w : World) (hl : bs.length ≤ 1099511627776) (ha : RdI a bs w) (hb : RdI b cs w) :
    Calls Tryz.prog 93 #[.slice a bs.length ca, .slice b cs.length cb] w (EqOutI bs cs w) := by
  have HA := Lib.hid ha
  have HB := Lib.hid hb
  clear ha hb
  by_cases hlen : bs.length = cs.length
  · have h1 : ((bs.length : Int) != (cs.length : Int)) = false := by simp [hlen]
    have HL := Lib.hid hlen
    have hle : cs.length ≤ bs.length := by omega
    have hge : bs.length ≤ cs.length := by omega
    clear hlen
    go_enter Tryz.func93, Tryz.ntmps93
    go_wp2
    clear h1
    go_loopw [13] (fun i W => ∃ k n : Nat, k ≤ bs.length ∧ i = .int .i64 k ∧ W = w.drewN n ∧ Hid (bs.take k = cs.take k)) (fun i _ => bs.length - (intOf i).toNat)
    case atStart => exact ⟨0, 0, Nat.zero_le _, rfl, rfl, rfl⟩
    case round =>
      obtain ⟨k, n, hk, rfl, rfl, ht⟩ := hrel
      have k0 : (0 : Int) ≤ (k : Int) := by omega
      by_cases hlt : k < bs.length
      · obtain ⟨b1, o1, rfl, c1⟩ := HA.out k hlt
        obtain ⟨b2, o2, rfl, c2⟩ := HB.out k (by omega)
        have k1 : (k : Int) < (bs.length : Int) := by omega
        have k2 : (k : Int) < (cs.length : Int) := by omega
        by_cases he : bs[k] = cs[k]
        · have ht' := Lib.hid (takeNext ht.out hlt (by omega) he)
          rw [← he] at c2
          clear he
          generalize bs[k] = x at c1 c2
          go_wp2
          go_quiet (fail)
          go_wp2
          go_roundw
          case rel => exact ⟨k + 1, _, by omega, by go_num, rfl, ht'⟩
          case measure => simp [intOf]; omega
        · have hne := Lib.hid (takeNot hlt (by omega) he)
          have he' : Hid (bs[k] ≠ cs[k]) := he
          clear he
          generalize bs[k] = x at c1 he'
          generalize cs[k] = y at c2 he'
          have e1 : (x != y) = true := by simpa using he'.out
          go_wp2
          go_quiet (fail)
          go_wp2
          go_ret
          exact ⟨ret_bool (decide_eq_false hne.out).symm, _, by rw [World.drewN_drewN]⟩
      · have k1 : ¬ (k : Int) < (bs.length : Int) := by omega
        have heq : Hid (bs = cs) := by
          have h2 := ht.out
          rw [List.take_of_length_le (by omega), List.take_of_length_le (by omega)] at h2
          exact h2
        go_wp2
        go_ret
        exact ⟨ret_bool (decide_eq_true heq.out).symm, _, rfl⟩
  · have h1 : ((bs.length : Int) != (cs.length : Int)) = true := by simp; omega
    have hne : Hid (bs ≠ cs) := fun h => hlen (by rw [h])
    clear hlen
    go_enter Tryz.func93, Tryz.ntmps93
    go_wp2
    go_ret
    exact ⟨ret_bool (decide_eq_false hne.out).symm, 0, rfl⟩
theorem Rd.bytesIn {a : Option Addr} {bs : List UInt8} {w : World} (h : Rd a bs w) : Lib.BytesIn w a bs.length (bs.map fun b => (b.toNat : Int)) := fun h0 => by
  obtain ⟨b, off, ha, _⟩ := h 0 h0
  refine ⟨b, off, ha, fun i hi => ?_⟩
  obtain ⟨b2, off2, ha2, hc⟩ := h i hi
  rw [ha] at ha2
  injection ha2 with ha2
  injection ha2 with e1 e2
  subst e1 e2
  rw [hc]
  simp [List.getD, hi]
theorem bytesOf_map (bs : List UInt8) : Lib.bytesOf (bs.map fun b => (b.toNat : Int)) = bs := by
  unfold Lib.bytesOf
  rw [List.map_map]
  conv => rhs; rw [← List.map_id bs]
  apply List.map_congr_left
  intro b _
  simp
theorem eqb_impl (a : Option Addr) (bs : List UInt8) (ca : Nat) (b : Option Addr) (cs : List UInt8) (cb : Nat) (w : World) (_hl : bs.length ≤ 1099511627776) (ha : Rd a bs w) (_hm : cs.length ≤ 1099511627776) (hb : Rd b cs w) :
    Calls Tryz.prog 91 #[.slice a bs.length ca, .slice b cs.length cb] w fun e w' => e = .returned (.bool (decide (bs = cs))) ∧ Below w.heap.size w w' := by
  have HA := Lib.hid ha.bytesIn
  have HB := Lib.hid hb.bytesIn
  clear ha hb
  go_enter Tryz.func91, Tryz.ntmps91
  go_wp2_with fail
  refine (Tryz.bytes_Equal_all a b bs.length ca cs.length cb _ _ w (by simp) (by simp) HA.out HB.out).mono ?_
  rintro e w1 ⟨rfl, rfl⟩
  rw [bytesOf_map, bytesOf_map]
  have hd := Lib.hid (show (bs == cs) = decide (bs = cs) by by_cases h : bs = cs <;> simp [h])
  generalize (bs == cs) = q at *
  go_wp2_with fail
  go_ret
  exact ⟨ret_bool hd.out, Below.refl _ _⟩
end Go.Proofs.YtkegjgfggijinaaGreatDoor
