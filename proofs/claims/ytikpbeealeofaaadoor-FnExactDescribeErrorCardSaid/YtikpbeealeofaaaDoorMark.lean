/- The contract of the laws' markText: the letter m and the decimal digits of a number above 0; only new memory is written. -/
import Derived.Test.YtikpbeealeofaaaDoorRowF
import Derived.Test.YtikpbeealeofaaaDoorNum
import Derived.Test.YtikpbeealeofaaaDoorTxt
import Derived.Laws.BytesArg
namespace Go.Proofs.YtikpbeealeofaaaDoor
open Go Go.RowKit
theorem cons_bytes (c : UInt8) (l : List UInt8) : (⟨#[c]⟩ : ByteArray) ++ ⟨l.toArray⟩ = ⟨(c :: l).toArray⟩ := by
  rw [show (⟨#[c]⟩ : ByteArray) = ⟨[c].toArray⟩ from rfl, ByteArray.mk_append_mk]; rfl
theorem bytes_size (l : List UInt8) : (⟨l.toArray⟩ : ByteArray).size = l.length := by simp [ByteArray.size]
/-- The byte of the digit k. -/
def dgt (k : Int) : UInt8 := UInt8.ofNat (48 + k).toNat
theorem conv_one (W : World) (k : Int) :
    (convert 27 9 (.slice (some ⟨W.heap.size, 0, none⟩) 1 1)).run Tryd.prog (W.alloc (.cells #[.int .u8 (48 + k)] 5)) = .ok (.string ⟨#[dgt k]⟩) (W.alloc (.cells #[.int .u8 (48 + k)] 5)) := by
  have h := run_convert_bytes_arg (P := Tryd.prog) (W.alloc (.cells #[.int .u8 (48 + k)] 5)) 27 5 Tryd.underlying27 Tryd.underlying5 W.heap.size 0 1 1 [48 + k] rfl
    (fun i hi => by obtain rfl : i = 0 := by omega
                    simp) 9 Tryd.underlying9
  exact h
theorem add_one (W : World) (c : UInt8) (l : List UInt8) (h : l.length ≤ 20) :
    (Op.stringOp .add ⟨#[c]⟩ ⟨l.toArray⟩).run Tryd.prog W = .ok (.string ⟨(c :: l).toArray⟩) W := by
  rw [run_string_add_sum W _ _ (by have e1 := bytes_size l; have e2 : (⟨#[c]⟩ : ByteArray).size = 1 := rfl; omega), cons_bytes]
theorem digs_next {m : Int} {l : List UInt8} {u : Nat} (h0 : 0 < m) (h : Hid (digs m.natAbs ++ l = digs u)) : Hid (digs (m / 10).natAbs ++ dgt (m % 10) :: l = digs u) := by
  have h' := h.out
  rw [digs_step (by omega), show m.natAbs / 10 = (m / 10).natAbs by omega, show 48 + m.natAbs % 10 = (48 + m % 10).toNat by omega, List.append_assoc] at h'
  exact h'
/-- The mark of k. -/
def markT (k : Nat) : ByteArray := ⟨(109 :: digs k).toArray⟩
end Go.Proofs.YtikpbeealeofaaaDoor
