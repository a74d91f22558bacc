/- Contracts of the model's BigEndian and LittleEndian. Contracts of the model's functions of chapter 2. -/
import Derived.Test.YtefkhknfjohnaaaGreatDoorFGPu
import Derived.Test.YtefkhknfjohnaaaGreatDoorFGBase
namespace Go.Proofs.YtefkhknfjohnaaaGreatDoor
open Go Go.RowKit
end Go.Proofs.YtefkhknfjohnaaaGreatDoor
namespace Go.Proofs.YtefkhknfjohnaaaGreatDoor
open Go Go.RowKit
/-- The sum of bytes modulo 256. -/
def sumB : List UInt8 → Nat → Nat
  | [], n => n
  | b :: r, n => sumB r ((n + b.toNat) % 256)
theorem sumB_take (bs : List UInt8) : ∀ (n k : Nat) (h : k < bs.length), sumB (bs.take (k + 1)) n = (sumB (bs.take k) n + bs[k].toNat) % 256 := by
  induction bs with
  | nil => intro n k h; simp at h
  | cons b r ih =>
    intro n k h
    cases k with
    | zero => simp [sumB]
    | succ k =>
      simp only [List.take_succ_cons, sumB, List.getElem_cons_succ]
      exact ih _ k (by simpa using h)
theorem sumB_lt : ∀ (bs : List UInt8) (n : Nat), n < 256 → sumB bs n < 256
  | [], n, h => h
  | b :: r, n, h => sumB_lt r _ (Nat.mod_lt _ (by omega))
set_option maxRecDepth 100000 in
theorem sum_spec (a : Option Addr) (bs : List UInt8) (cap : Nat) (w : World) (hl : bs.length ≤ 1099511627776) (h : Rd a bs w) :
    Calls Tryz.prog 188 #[.slice a bs.length cap] w fun e w' => e = .returned (.int .i64 (sumB bs 0 : Nat)) ∧ w = w' := by
  have H := Lib.hid h
  clear h
  go_enter Tryz.func188, Tryz.ntmps188
  go_wp2
  go_loop [3, 4] (fun q i => ∃ k : Nat, k ≤ bs.length ∧ i = .int .i64 k ∧ q = .int .i64 ((sumB (bs.take k) 0 : Nat) : Int)) (fun _ i => bs.length - (intOf i).toNat)
  case atStart => exact ⟨0, Nat.zero_le _, rfl, rfl⟩
  case round =>
    obtain ⟨k, hk, rfl, rfl⟩ := hrel
    have hs := sumB_lt (bs.take k) 0 (by omega)
    have k0 : (0 : Int) ≤ (k : Int) := by omega
    by_cases hlt : k < bs.length
    · obtain ⟨b, off, rfl, hc⟩ := H.out k hlt
      have hx := bs[k].toNat_lt
      have hn := Lib.hid (sumB_take bs 0 k hlt)
      have k1 : (k : Int) < (bs.length : Int) := by omega
      go_wp2
      go_round
      case rel => exact ⟨k + 1, by omega, by go_num, by rw [hn.out]; go_num⟩
      case measure => simp [intOf]; omega
    · have k1 : ¬ (k : Int) < (bs.length : Int) := by omega
      go_wp2
      go_ret
      exact ⟨ret_int (by rw [List.take_of_length_le (by omega)]), rfl⟩
/-- The number of these bytes, the most significant one first. -/
def readB : List UInt8 → Nat → Nat
  | [], n => n
  | b :: r, n => readB r (n * 256 + b.toNat)
theorem readB_take (bs : List UInt8) : ∀ (n k : Nat) (h : k < bs.length), readB (bs.take (k + 1)) n = readB (bs.take k) n * 256 + bs[k].toNat := by
  induction bs with
  | nil => intro n k h; simp at h
  | cons b r ih =>
    intro n k h
    cases k with
    | zero => simp [readB]
    | succ k =>
      simp only [List.take_succ_cons, readB, List.getElem_cons_succ]
      exact ih _ k (by simpa using h)
theorem readB_lt : ∀ (bs : List UInt8) (n : Nat), readB bs n < (n + 1) * 256 ^ bs.length
  | [], n => by simp [readB]
  | b :: r, n => by
    have h := readB_lt r (n * 256 + b.toNat)
    have hb := b.toNat_lt
    simp only [readB, List.length_cons]
    refine Nat.lt_of_lt_of_le h ?_
    rw [Nat.pow_succ, Nat.mul_comm (256 ^ r.length) 256, ← Nat.mul_assoc]
    exact Nat.mul_le_mul_right _ (by omega)
theorem readB_le (bs : List UInt8) (k : Nat) (h : k ≤ 4) : readB (bs.take k) 0 < 4294967296 := by
  have h1 := readB_lt (bs.take k) 0
  have h2 : (bs.take k).length ≤ 4 := by rw [List.length_take]; omega
  have h3 := Nat.pow_le_pow_right (n := 256) (by omega) h2
  omega
/-- The bytes in the order in which ReadInteger takes them. -/
def orderB (bs : List UInt8) (little : Bool) : List UInt8 := if little then bs.reverse else bs
theorem order_next (bs : List UInt8) (k m : Nat) (h : m < bs.length) (hm : m + k + 1 = bs.length) : readB ((orderB bs true).take (k + 1)) 0 = readB ((orderB bs true).take k) 0 * 256 + bs[m].toNat := by
  have h1 := readB_take bs.reverse 0 k (by simp; omega)
  have e : bs.reverse[k]'(by simp; omega) = bs[m] := by
    rw [List.getElem_reverse]
    congr 1; omega
  rw [e] at h1
  exact h1
def readI (bs : List UInt8) (little : Bool) : Nat := if 4 < bs.length then 0 else readB (orderB bs little) 0
set_option maxRecDepth 100000 in
theorem read_spec (a : Option Addr) (bs : List UInt8) (cap : Nat) (little : Bool) (w : World) (hl : bs.length ≤ 1099511627776) (h : Rd a bs w) :
    Calls Tryz.prog 217 #[.slice a bs.length cap, .bool little] w fun e w' => e = .returned (.int .i64 (readI bs little : Nat)) ∧ w = w' := by
  have H := Lib.hid h
  clear h
  by_cases h4 : 4 < bs.length
  · have g4 : (4 : Int) < (bs.length : Int) := by omega
    have e := Lib.hid (show 0 = readI bs little by unfold readI; rw [if_pos h4])
    go_enter Tryz.func217, Tryz.ntmps217
    go_wp2
    go_ret
    exact ⟨ret_int (by rw [← e.out]; rfl), rfl⟩
  · have g4 : ¬ (4 : Int) < (bs.length : Int) := by omega
    have e := Lib.hid (show readB (orderB bs little) 0 = readI bs little by unfold readI; rw [if_neg h4])
    have ol : (orderB bs little).length = bs.length := by unfold orderB; cases little <;> simp
    have OL := Lib.hid ol
    clear ol
    cases little
    · go_enter Tryz.func217, Tryz.ntmps217
      go_wp2
      go_loop [5, 6, 7] (fun q i _ => ∃ k : Nat, k ≤ bs.length ∧ i = .int .i64 k ∧ q = .int .i64 ((readB ((orderB bs false).take k) 0 : Nat) : Int)) (fun _ i _ => bs.length - (intOf i).toNat)
      case atStart => exact ⟨0, Nat.zero_le _, rfl, rfl⟩
      case round =>
        obtain ⟨k, hk, rfl, rfl⟩ := hrel
        have hs := readB_le (orderB bs false) k (by omega)
        have k0 : (0 : Int) ≤ (k : Int) := by omega
        by_cases hlt : k < bs.length
        · obtain ⟨b, off, rfl, hc⟩ := H.out k hlt
          have hx := bs[k].toNat_lt
          have hn := Lib.hid (readB_take (orderB bs false) 0 k hlt)
          have k1 : (k : Int) < (bs.length : Int) := by omega
          go_wp2
          go_round
          case rel => exact ⟨k + 1, by omega, by go_num, by rw [hn.out]; show _ = Value.int _ (((readB _ 0 * 256 + bs[k].toNat : Nat)) : Int); go_num⟩
          case measure => simp [intOf]; omega
        · have k1 : ¬ (k : Int) < (bs.length : Int) := by omega
          go_wp2
          go_ret
          exact ⟨ret_int (by rw [← e.out, List.take_of_length_le (by have := OL.out; omega)]), rfl⟩
    · go_enter Tryz.func217, Tryz.ntmps217
      go_wp2
      go_loop [5, 6, 7] (fun q i _ => ∃ k : Nat, k ≤ bs.length ∧ i = .int .i64 k ∧ q = .int .i64 ((readB ((orderB bs true).take k) 0 : Nat) : Int)) (fun _ i _ => bs.length - (intOf i).toNat)
      case atStart => exact ⟨0, Nat.zero_le _, rfl, rfl⟩
      case round =>
        obtain ⟨k, hk, rfl, rfl⟩ := hrel
        have hs := readB_le (orderB bs true) k (by omega)
        have k0 : (0 : Int) ≤ (k : Int) := by omega
        by_cases hlt : k < bs.length
        · obtain ⟨m, hm⟩ : ∃ m : Nat, (m : Int) = (bs.length : Int) - 1 - (k : Int) := ⟨bs.length - 1 - k, by omega⟩
          have hml : m < bs.length := by omega
          obtain ⟨b, off, rfl, hc⟩ := H.out m hml
          have hx := bs[m].toNat_lt
          have hn := Lib.hid (order_next bs k m hml (by omega))
          have k1 : (k : Int) < (bs.length : Int) := by omega
          have m0 : (bs.length : Int) - 1 - (k : Int) = (m : Int) := hm.symm
          clear hm
          go_wp2
          go_round
          case rel => exact ⟨k + 1, by omega, by go_num, by rw [hn.out]; go_num⟩
          case measure => simp [intOf]; omega
        · have k1 : ¬ (k : Int) < (bs.length : Int) := by omega
          go_wp2
          go_ret
          exact ⟨ret_int (by rw [← e.out, List.take_of_length_le (by have := OL.out; omega)]), rfl⟩
end Go.Proofs.YtefkhknfjohnaaaGreatDoor
