/- Contracts of the program's EqualBytes and FormatHex. -/
import Derived.Test.YthgcfdhndmgjlaaIBuilder
import Derived.Test.YthgcfdhndmgjlaaHex
import Derived.Laws.BitsLemmas
namespace Go.Proofs.Ythgcfdhndmgjlaa
open Go Go.RowKit
theorem Rd.bytesIn {a : Option Addr} {bs : List UInt8} {w : World} (h : Rd a bs w) : Lib.BytesIn w a bs.length (bs.map fun b => (b.toNat : Int)) := fun h0 => by
  obtain ⟨b, off, ha, _⟩ := h 0 h0
  refine ⟨b, off, ha, fun i hi => ?_⟩
  obtain ⟨b2, off2, ha2, hc⟩ := h i hi
  rw [ha] at ha2
  injection ha2 with ha2
  injection ha2 with e1 e2
  subst e1 e2
  rw [hc]
  simp [List.getD, hi]
theorem bytesOf_map (bs : List UInt8) : Lib.bytesOf (bs.map fun b => (b.toNat : Int)) = bs := by
  unfold Lib.bytesOf
  rw [List.map_map]
  conv => rhs; rw [← List.map_id bs]
  apply List.map_congr_left
  intro b _
  simp
theorem eqb_impl (a : Option Addr) (bs : List UInt8) (ca : Nat) (b : Option Addr) (cs : List UInt8) (cb : Nat) (w : World) (_hl : bs.length ≤ 1099511627776) (ha : Rd a bs w) (_hm : cs.length ≤ 1099511627776) (hb : Rd b cs w) :
    Calls Try.prog 20 #[.slice a bs.length ca, .slice b cs.length cb] w fun e w' => e = .returned (.bool (decide (bs = cs))) ∧ Below w.heap.size w w' := by
  have HA := Lib.hid ha.bytesIn
  have HB := Lib.hid hb.bytesIn
  clear ha hb
  go_enter Try.func20, Try.ntmps20
  go_wp2_with fail
  refine (Try.bytes_Equal_all a b bs.length ca cs.length cb _ _ w (by simp) (by simp) HA.out HB.out).mono ?_
  rintro e w1 ⟨rfl, rfl⟩
  rw [bytesOf_map, bytesOf_map]
  have hd := Lib.hid (show (bs == cs) = decide (bs = cs) by by_cases h : bs = cs <;> simp [h])
  generalize (bs == cs) = q at *
  go_wp2_with fail
  go_ret
  exact ⟨ret_bool hd.out, Below.refl _ _⟩
theorem eqb_specc (a : Option Addr) (bs : List UInt8) (ca : Nat) (b : Option Addr) (cs : List UInt8) (cb : Nat) (w : World) (hl : bs.length ≤ 1099511627776) (ha : Rd a bs w) (_hm : cs.length ≤ 1099511627776) (hb : Rd b cs w) :
    Calls Try.prog 30 #[.slice a bs.length ca, .slice b cs.length cb] w (EqOut bs cs w) := eqb_spec a b bs cs ca cb w hl ha hb
/-- What holds at the head of a round of FormatHex. -/
def RelF (bs : List UInt8) (w : World) (i : Value) (W : World) : Prop :=
  ∃ k : Nat, k ≤ bs.length ∧ i = .int .i64 k ∧ Hid (Bld w.heap.size w.heap.size (hexL (bs.take k)) W) ∧ Hid (Below w.heap.size w W)
theorem hexAt_fin : ∀ p : Fin 16, hexText.data[p.val]! = hexD p.val := by decide +kernel
theorem hexT_at (p : Nat) (h : p < (⟨#[48, 49, 50, 51, 52, 53, 54, 55, 56, 57, 97, 98, 99, 100, 101, 102]⟩ : ByteArray).size) : (⟨#[48, 49, 50, 51, 52, 53, 54, 55, 56, 57, 97, 98, 99, 100, 101, 102]⟩ : ByteArray)[p] = hexD p := by
  have h2 : p < 16 := h
  have h3 := hexAt_fin ⟨p, h2⟩
  rw [← h3]
  exact (getElem!_pos hexText.data p h).symm
set_option maxRecDepth 100000 in
set_option maxHeartbeats 1000000 in
theorem fmthex_impl (a : Option Addr) (bs : List UInt8) (cap : Nat) (w : World) (hl : bs.length ≤ 1099511627776) (h : Rd a bs w) :
    Calls Try.prog 18 #[.slice a bs.length cap] w fun e w' => e = .returned (.string ⟨(hexL bs).toArray⟩) ∧ Below w.heap.size w w' := by
  have H := Lib.hid h
  clear h
  go_enter Try.func18, Try.ntmps18
  go_wp2_with fail
  go_loopw [5, 8] (fun _ i W => RelF bs w i W) (fun _ i _ => bs.length - (intOf i).toNat)
  case atStart => exact ⟨0, Nat.zero_le _, rfl, Lib.fresh_isBuilder _ _ w, (Below.refl _ _).alloc (Nat.le_refl _) _⟩
  case round =>
    obtain ⟨k, hk, rfl, hB, hb⟩ := hrel
    have k0 : (0 : Int) ≤ (k : Int) := by omega
    by_cases hlt : k < bs.length
    · obtain ⟨b, off, rfl, hc0⟩ := H.out k hlt
      have hc : wr.cell? ⟨b, off + k, none⟩ = some (.int .u8 (bs[k].toNat : Int)) := (hb.out.cell (cell_lt hc0)).trans hc0
      clear hc0
      have k1 : (k : Int) < (bs.length : Int) := by omega
      have hx := bs[k].toNat_lt
      have HN := Lib.hid (hexL_take bs k hlt)
      have hlen : (hexL (bs.take k)).length ≤ 4398046511104 := by rw [hexL_length, List.length_take]; omega
      generalize bs[k].toNat = c at *
      have ha := u8_and15 (c : Int) (by omega) (by omega)
      go_wp2_with fail
      rw [hexT_at]
      refine (writeByte w.heap.size w.heap.size _ (hexD (c / 16)) _ hB.out (by omega) hb.out.size).mono ?_
      rintro e w1 ⟨rfl, hB1, hb1⟩
      have HB1 := Lib.hid hB1
      have Hb1 := Lib.hid (hb.out.trans hb1)
      clear hB1 hb1 hB hb
      go_wp2_with fail
      rw [hexT_at]
      refine (writeByte w.heap.size w.heap.size _ (hexD (c % 16)) _ HB1.out (by simp; omega) Hb1.out.size).mono ?_
      rintro e w2 ⟨rfl, hB2, hb2⟩
      have HB2 := Lib.hid hB2
      have Hb2 := Lib.hid (Hb1.out.trans hb2)
      clear hB2 hb2 HB1 Hb1
      go_wp2_with fail
      go_roundw
      case rel => exact ⟨k + 1, by omega, by go_num, by rw [HN.out]; have h2 := HB2.out; rw [List.append_assoc] at h2; exact h2, Hb2.out⟩
      case measure => simp [intOf]; omega
    · have k1 : ¬ (k : Int) < (bs.length : Int) := by omega
      obtain rfl : k = bs.length := by omega
      have hb2 := hB.out
      rw [List.take_of_length_le (Nat.le_refl _)] at hb2
      have HB2 := Lib.hid hb2
      clear hB hb2
      go_wp2_with fail
      refine (Try.Builder_String_any w.heap.size w.heap.size (hexL bs) _ HB2.out hb.out.size).mono ?_
      rintro e w1 ⟨rfl, hb1⟩
      have HB3 := Lib.hid (hb.out.trans hb1)
      clear hb1
      go_wp2_with fail
      go_ret
      exact ⟨rfl, HB3.out⟩
end Go.Proofs.Ythgcfdhndmgjlaa
