/- The contract of the laws' markText: the letter m and the decimal digits of a number above 0; only new memory is written. -/
import Derived.Test.YtndjefednfcmmaaGreatDoorRowF
import Derived.Test.YtndjefednfcmmaaGreatDoorGNum
import Derived.Laws.BytesArg
namespace Go.Proofs.YtndjefednfcmmaaGreatDoor
open Go Go.RowKit
theorem cons_bytes (c : UInt8) (l : List UInt8) : (⟨#[c]⟩ : ByteArray) ++ ⟨l.toArray⟩ = ⟨(c :: l).toArray⟩ := by
  rw [show (⟨#[c]⟩ : ByteArray) = ⟨[c].toArray⟩ from rfl, ByteArray.mk_append_mk]; rfl
theorem bytes_size (l : List UInt8) : (⟨l.toArray⟩ : ByteArray).size = l.length := by simp [ByteArray.size]
/-- The byte of the digit k. -/
def dgt (k : Int) : UInt8 := UInt8.ofNat (48 + k).toNat
theorem conv_one (W : World) (k : Int) :
    (convert 22 9 (.slice (some ⟨W.heap.size, 0, none⟩) 1 1)).run Tryz.prog (W.alloc (.cells #[.int .u8 (48 + k)] 5)) = .ok (.string ⟨#[dgt k]⟩) (W.alloc (.cells #[.int .u8 (48 + k)] 5)) := by
  have h := run_convert_bytes_arg (P := Tryz.prog) (W.alloc (.cells #[.int .u8 (48 + k)] 5)) 22 5 Tryz.underlying22 Tryz.underlying5 W.heap.size 0 1 1 [48 + k] rfl
    (fun i hi => by obtain rfl : i = 0 := by omega
                    simp) 9 Tryz.underlying9
  exact h
theorem add_one (W : World) (c : UInt8) (l : List UInt8) (h : l.length ≤ 20) :
    (Op.stringOp .add ⟨#[c]⟩ ⟨l.toArray⟩).run Tryz.prog W = .ok (.string ⟨(c :: l).toArray⟩) W := by
  rw [run_string_add_sum W _ _ (by have e1 := bytes_size l; have e2 : (⟨#[c]⟩ : ByteArray).size = 1 := rfl; omega), cons_bytes]
theorem digs_next {m : Int} {l : List UInt8} {u : Nat} (h0 : 0 < m) (h : Hid (digs m.natAbs ++ l = digs u)) : Hid (digs (m / 10).natAbs ++ dgt (m % 10) :: l = digs u) := by
  have h' := h.out
  rw [digs_step (by omega), show m.natAbs / 10 = (m / 10).natAbs by omega, show 48 + m.natAbs % 10 = (48 + m % 10).toNat by omega, List.append_assoc] at h'
  exact h'
/-- The mark of k. -/
def markT (k : Nat) : ByteArray := ⟨(109 :: digs k).toArray⟩
set_option maxRecDepth 100000 in
theorem mark_text (k : Nat) (w : World) (h0 : 0 < k) (h1 : k ≤ 1099511627776) :
    Calls Tryz.prog 63 #[.int .i64 (k : Int)] w fun e w' => e = .returned (.string (markT k)) ∧ Below w.heap.size w w' := by
  have hn : ¬ ((k : Int) ≤ 0) := by omega
  go_enter Tryz.func63, Tryz.ntmps63
  go_wp2
  clear hn
  go_loopw [0, 3] (fun x s W => ∃ (m : Int) (l : List UInt8), 0 ≤ m ∧ m ≤ k ∧ x = .int .i64 m ∧ s = .string ⟨l.toArray⟩ ∧ Hid (digs m.natAbs ++ l = digs k) ∧ Below w.heap.size w W) (fun x _ _ => (intOf x).toNat)
  case atStart => exact ⟨k, [], by omega, by omega, rfl, rfl, List.append_nil _, Below.refl _ _⟩
  case round =>
    obtain ⟨m, l, hm0, hm1, rfl, rfl, hl, hb⟩ := hrel
    have hlen : l.length ≤ 20 := rest_length hl.out (by omega)
    by_cases hz : m = 0
    · subst hz
      have hadd := add_one wr 109 l hlen
      go_wp2
      go_ret
      refine ⟨?_, hb⟩
      unfold markT
      rw [← hl.out]; rfl
    · have hpos : 0 < m := by omega
      have a1 : 0 ≤ m % 10 := by omega
      have a2 : m % 10 < 10 := by omega
      have a3 : 0 ≤ m / 10 := by omega
      have a4 : m / 10 < m := by omega
      have hl' := digs_next (by omega) hl
      have hc := conv_one wr (m % 10)
      have hadd := add_one (wr.alloc (.cells #[.int .u8 (48 + m % 10)] 5)) (dgt (m % 10)) l hlen
      go_wp2
      go_roundw
      case rel => exact ⟨m / 10, dgt (m % 10) :: l, by omega, by omega, rfl, rfl, hl', hb.alloc hb.size _⟩
      case measure => simp [intOf]; omega
end Go.Proofs.YtndjefednfcmmaaGreatDoor
