/- Contracts of the model's functions on hexadecimal digits. -/
import Derived.Test.YtfmnjclnhppghabGreatDoorGEnd
import Derived.IntWalk
namespace Go.Proofs.YtfmnjclnhppghabGreatDoor
open Go Go.RowKit
/-- A hexadecimal digit. -/
def hexD (n : Nat) : UInt8 := if n < 10 then UInt8.ofNat (48 + n) else UInt8.ofNat (87 + n)
/-- Two digits for every byte. -/
def hexL : List UInt8 → List UInt8
  | [] => []
  | b :: r => hexD (b.toNat / 16) :: hexD (b.toNat % 16) :: hexL r
theorem hexL_length : ∀ bs : List UInt8, (hexL bs).length = 2 * bs.length
  | [] => rfl
  | b :: r => by simp [hexL, hexL_length r]; omega
theorem hexL_take (bs : List UInt8) : ∀ (k : Nat) (h : k < bs.length), hexL (bs.take (k + 1)) = hexL (bs.take k) ++ [hexD (bs[k].toNat / 16), hexD (bs[k].toNat % 16)] := by
  induction bs with
  | nil => intro k h; simp at h
  | cons b r ih =>
    intro k h
    cases k with
    | zero => simp [hexL]
    | succ k =>
      simp only [List.take_succ_cons, hexL, List.getElem_cons_succ, List.cons_append]
      rw [ih k (by simpa using h)]
/-- The text of the sixteen digits. -/
def hexText : ByteArray := ⟨#[48, 49, 50, 51, 52, 53, 54, 55, 56, 57, 97, 98, 99, 100, 101, 102]⟩
theorem hexText_at : ∀ p : Fin 16, hexText.extract p.val (p.val + 1) = ⟨#[hexD p.val]⟩ := by decide +kernel
theorem run_digit (p : Nat) (h : p < 16) (W : World) :
    (Instr.slice 9 (.string ⟨#[48, 49, 50, 51, 52, 53, 54, 55, 56, 57, 97, 98, 99, 100, 101, 102]⟩) (some (.int .i64 (p : Int))) (some (.int .i64 ((p : Int) + 1))) none).run Tryz.prog W = .ok (.string ⟨#[hexD p]⟩) W := by
  have e : (⟨#[48, 49, 50, 51, 52, 53, 54, 55, 56, 57, 97, 98, 99, 100, 101, 102]⟩ : ByteArray) = hexText := rfl
  have hz : hexText.size = 16 := rfl
  rw [e, run_slice_string _ _ _ _ _ _ _ Tryz.underlying9 (by omega) (by omega) (by rw [hz]; omega)]
  have h1 := hexText_at ⟨p, h⟩
  rw [show ((p : Int)).toNat = p by omega, show ((p : Int) + 1).toNat = p + 1 by omega, h1]
theorem add_last (W : World) (l : List UInt8) (c : UInt8) (h : l.length ≤ 4611686018427387904) :
    (Op.stringOp .add ⟨l.toArray⟩ ⟨#[c]⟩).run Tryz.prog W = .ok (.string ⟨(l ++ [c]).toArray⟩) W := by
  have e1 : (⟨l.toArray⟩ : ByteArray).size = l.length := by simp [ByteArray.size]
  have e2 : (⟨#[c]⟩ : ByteArray).size = 1 := rfl
  rw [run_string_add_sum W _ _ (by omega), show (⟨#[c]⟩ : ByteArray) = ⟨[c].toArray⟩ from rfl, ByteArray.mk_append_mk]
set_option maxRecDepth 100000 in
theorem fmthex_spec (a : Option Addr) (bs : List UInt8) (cap : Nat) (w : World) (hl : bs.length ≤ 1099511627776) (h : Rd a bs w) :
    Calls Tryz.prog 41 #[.slice a bs.length cap] w fun e w' => e = .returned (.string ⟨(hexL bs).toArray⟩) ∧ ∃ n, w' = w.drewN n := by
  have H := Lib.hid h
  clear h
  go_enter Tryz.func41, Tryz.ntmps41
  go_wp2
  go_loopw [4, 5, 6, 7] (fun s i _ _ W => ∃ k n : Nat, k ≤ bs.length ∧ i = .int .i64 k ∧ s = .string ⟨(hexL (bs.take k)).toArray⟩ ∧ W = w.drewN n) (fun _ i _ _ _ => bs.length - (intOf i).toNat)
  case atStart => exact ⟨0, 0, Nat.zero_le _, rfl, rfl, rfl⟩
  case round =>
    obtain ⟨k, n, hk, rfl, rfl, rfl⟩ := hrel
    have k0 : (0 : Int) ≤ (k : Int) := by omega
    by_cases hlt : k < bs.length
    · obtain ⟨b, off, rfl, hc⟩ := H.out k hlt
      have k1 : (k : Int) < (bs.length : Int) := by omega
      have hx := bs[k].toNat_lt
      have HN := Lib.hid (hexL_take bs k hlt)
      have hlen : (hexL (bs.take k)).length ≤ 4398046511104 := by rw [hexL_length, List.length_take]; omega
      obtain ⟨p, hp⟩ : ∃ p : Nat, (bs[k].toNat : Int) / 16 = (p : Int) := ⟨bs[k].toNat / 16, by omega⟩
      obtain ⟨q, hq⟩ : ∃ q : Nat, (bs[k].toNat : Int) % 16 = (q : Int) := ⟨bs[k].toNat % 16, by omega⟩
      have HP := Lib.hid (show bs[k].toNat / 16 = p by omega)
      have HQ := Lib.hid (show bs[k].toNat % 16 = q by omega)
      have p1 : p < 16 := by omega
      have q1 : q < 16 := by omega
      have hw1 : IntKind.i64.wrap ((p : Int) + 1) = (p : Int) + 1 := IntWalk.i64_in _ (by omega)
      have hw2 : IntKind.i64.wrap ((q : Int) + 1) = (q : Int) + 1 := IntWalk.i64_in _ (by omega)
      have hd1 := run_digit p p1
      have hd2 := run_digit q q1
      have ha1 := fun W => add_last W (hexL (bs.take k)) (hexD p) (by omega)
      have ha2 := fun W => add_last W (hexL (bs.take k) ++ [hexD p]) (hexD q) (by simp; omega)
      go_wp2
      go_quiet (fail)
      clear hw1 hw2 hd1 hd2 ha1 ha2
      go_wp2
      go_roundw
      case rel => exact ⟨k + 1, _, by omega, by go_num, by rw [HN.out, HP.out, HQ.out], rfl⟩
      case measure => simp [intOf]; omega
    · have k1 : ¬ (k : Int) < (bs.length : Int) := by omega
      go_wp2
      go_ret
      exact ⟨ret_str (by rw [List.take_of_length_le (by omega)]), _, rfl⟩
end Go.Proofs.YtfmnjclnhppghabGreatDoor
