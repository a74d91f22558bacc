/- Contracts of the model's functions on hexadecimal digits. -/
import Derived.Test.YtikpbeealeofaaaDoorBytesSpec
import Derived.IntWalk
namespace Go.Proofs.YtikpbeealeofaaaDoor
open Go Go.RowKit
/-- A hexadecimal digit. -/
def hexD (n : Nat) : UInt8 := if n < 10 then UInt8.ofNat (48 + n) else UInt8.ofNat (87 + n)
/-- Two digits for every byte. -/
def hexL : List UInt8 → List UInt8
  | [] => []
  | b :: r => hexD (b.toNat / 16) :: hexD (b.toNat % 16) :: hexL r
theorem hexL_length : ∀ bs : List UInt8, (hexL bs).length = 2 * bs.length
  | [] => rfl
  | b :: r => by simp [hexL, hexL_length r]; omega
theorem hexL_take (bs : List UInt8) : ∀ (k : Nat) (h : k < bs.length), hexL (bs.take (k + 1)) = hexL (bs.take k) ++ [hexD (bs[k].toNat / 16), hexD (bs[k].toNat % 16)] := by
  induction bs with
  | nil => intro k h; simp at h
  | cons b r ih =>
    intro k h
    cases k with
    | zero => simp [hexL]
    | succ k =>
      simp only [List.take_succ_cons, hexL, List.getElem_cons_succ, List.cons_append]
      rw [ih k (by simpa using h)]
/-- The text of the sixteen digits. -/
def hexText : ByteArray := ⟨#[48, 49, 50, 51, 52, 53, 54, 55, 56, 57, 97, 98, 99, 100, 101, 102]⟩
theorem hexText_at : ∀ p : Fin 16, hexText.extract p.val (p.val + 1) = ⟨#[hexD p.val]⟩ := by decide +kernel
theorem run_digit (p : Nat) (h : p < 16) (W : World) :
    (Instr.slice 9 (.string ⟨#[48, 49, 50, 51, 52, 53, 54, 55, 56, 57, 97, 98, 99, 100, 101, 102]⟩) (some (.int .i64 (p : Int))) (some (.int .i64 ((p : Int) + 1))) none).run Tryd.prog W = .ok (.string ⟨#[hexD p]⟩) W := by
  have e : (⟨#[48, 49, 50, 51, 52, 53, 54, 55, 56, 57, 97, 98, 99, 100, 101, 102]⟩ : ByteArray) = hexText := rfl
  have hz : hexText.size = 16 := rfl
  rw [e, run_slice_string _ _ _ _ _ _ _ Tryd.underlying9 (by omega) (by omega) (by rw [hz]; omega)]
  have h1 := hexText_at ⟨p, h⟩
  rw [show ((p : Int)).toNat = p by omega, show ((p : Int) + 1).toNat = p + 1 by omega, h1]
theorem add_last (W : World) (l : List UInt8) (c : UInt8) (h : l.length ≤ 4611686018427387904) :
    (Op.stringOp .add ⟨l.toArray⟩ ⟨#[c]⟩).run Tryd.prog W = .ok (.string ⟨(l ++ [c]).toArray⟩) W := by
  have e1 : (⟨l.toArray⟩ : ByteArray).size = l.length := by simp [ByteArray.size]
  have e2 : (⟨#[c]⟩ : ByteArray).size = 1 := rfl
  rw [run_string_add_sum W _ _ (by omega), show (⟨#[c]⟩ : ByteArray) = ⟨[c].toArray⟩ from rfl, ByteArray.mk_append_mk]
end Go.Proofs.YtikpbeealeofaaaDoor
