/- The contract of the program's FormatHex. -/
import Derived.Test.YtfdnfifmhfffnaaDoorIBuilder
import Derived.Test.YtfdnfifmhfffnaaDoorHex
import Derived.Laws.BitsLemmas
namespace Go.Proofs.YtfdnfifmhfffnaaDoor
open Go Go.RowKit
/-- What holds at the head of a round of FormatHex. -/
def RelF (bs : List UInt8) (w : World) (i : Value) (W : World) : Prop :=
  ∃ k : Nat, k ≤ bs.length ∧ i = .int .i64 k ∧ Hid (Bld w.heap.size w.heap.size (hexL (bs.take k)) W) ∧ Hid (Below w.heap.size w W)
theorem hexAt_fin : ∀ p : Fin 16, hexText.data[p.val]! = hexD p.val := by decide +kernel
theorem hexT_at (p : Nat) (h : p < (⟨#[48, 49, 50, 51, 52, 53, 54, 55, 56, 57, 97, 98, 99, 100, 101, 102]⟩ : ByteArray).size) : (⟨#[48, 49, 50, 51, 52, 53, 54, 55, 56, 57, 97, 98, 99, 100, 101, 102]⟩ : ByteArray)[p] = hexD p := by
  have h2 : p < 16 := h
  have h3 := hexAt_fin ⟨p, h2⟩
  rw [← h3]
  exact (getElem!_pos hexText.data p h).symm
set_option maxRecDepth 100000 in
set_option maxHeartbeats 1000000 in
theorem fmthex_impl (a : Option Addr) (bs : List UInt8) (cap : Nat) (w : World) (hl : bs.length ≤ 1099511627776) (h : Rd a bs w) :
    Calls Tryd.prog 10 #[.slice a bs.length cap] w fun e w' => e = .returned (.string ⟨(hexL bs).toArray⟩) ∧ Below w.heap.size w w' := by
  have H := Lib.hid h
  clear h
  go_enter Tryd.func10, Tryd.ntmps10
  go_wp2_with fail
  go_loopw [5, 8] (fun _ i W => RelF bs w i W) (fun _ i _ => bs.length - (intOf i).toNat)
  case atStart => exact ⟨0, Nat.zero_le _, rfl, Lib.fresh_isBuilder _ _ w, (Below.refl _ _).alloc (Nat.le_refl _) _⟩
  case round =>
    obtain ⟨k, hk, rfl, hB, hb⟩ := hrel
    have k0 : (0 : Int) ≤ (k : Int) := by omega
    by_cases hlt : k < bs.length
    · obtain ⟨b, off, rfl, hc0⟩ := H.out k hlt
      have hc : wr.cell? ⟨b, off + k, none⟩ = some (.int .u8 (bs[k].toNat : Int)) := (hb.out.cell (cell_lt hc0)).trans hc0
      clear hc0
      have k1 : (k : Int) < (bs.length : Int) := by omega
      have hx := bs[k].toNat_lt
      have HN := Lib.hid (hexL_take bs k hlt)
      have hlen : (hexL (bs.take k)).length ≤ 4398046511104 := by rw [hexL_length, List.length_take]; omega
      generalize bs[k].toNat = c at *
      have ha := u8_and15 (c : Int) (by omega) (by omega)
      go_wp2_with fail
      rw [hexT_at]
      refine (writeByte w.heap.size w.heap.size _ (hexD (c / 16)) _ hB.out (by omega) hb.out.size).mono ?_
      rintro e w1 ⟨rfl, hB1, hb1⟩
      have HB1 := Lib.hid hB1
      have Hb1 := Lib.hid (hb.out.trans hb1)
      clear hB1 hb1 hB hb
      go_wp2_with fail
      rw [hexT_at]
      refine (writeByte w.heap.size w.heap.size _ (hexD (c % 16)) _ HB1.out (by simp; omega) Hb1.out.size).mono ?_
      rintro e w2 ⟨rfl, hB2, hb2⟩
      have HB2 := Lib.hid hB2
      have Hb2 := Lib.hid (Hb1.out.trans hb2)
      clear hB2 hb2 HB1 Hb1
      go_wp2_with fail
      go_roundw
      case rel => exact ⟨k + 1, by omega, by go_num, by rw [HN.out]; have h2 := HB2.out; rw [List.append_assoc] at h2; exact h2, Hb2.out⟩
      case measure => simp [intOf]; omega
    · have k1 : ¬ (k : Int) < (bs.length : Int) := by omega
      obtain rfl : k = bs.length := by omega
      have hb2 := hB.out
      rw [List.take_of_length_le (Nat.le_refl _)] at hb2
      have HB2 := Lib.hid hb2
      clear hB hb2
      go_wp2_with fail
      refine (Tryd.Builder_String_any w.heap.size w.heap.size (hexL bs) _ HB2.out hb.out.size).mono ?_
      rintro e w1 ⟨rfl, hb1⟩
      have HB3 := Lib.hid (hb.out.trans hb1)
      clear hb1
      go_wp2_with fail
      go_ret
      exact ⟨rfl, HB3.out⟩
end Go.Proofs.YtfdnfifmhfffnaaDoor
