/- Contracts of the model's functions of chapter 2. -/
import Derived.Test.YtikpbeealeofaaaDoorBytes
namespace Go.Proofs.YtikpbeealeofaaaDoor
open Go Go.RowKit
/-- The sum of bytes modulo 256. -/
def sumB : List UInt8 → Nat → Nat
  | [], n => n
  | b :: r, n => sumB r ((n + b.toNat) % 256)
theorem sumB_take (bs : List UInt8) : ∀ (n k : Nat) (h : k < bs.length), sumB (bs.take (k + 1)) n = (sumB (bs.take k) n + bs[k].toNat) % 256 := by
  induction bs with
  | nil => intro n k h; simp at h
  | cons b r ih =>
    intro n k h
    cases k with
    | zero => simp [sumB]
    | succ k =>
      simp only [List.take_succ_cons, sumB, List.getElem_cons_succ]
      exact ih _ k (by simpa using h)
theorem sumB_lt : ∀ (bs : List UInt8) (n : Nat), n < 256 → sumB bs n < 256
  | [], n, h => h
  | b :: r, n, h => sumB_lt r _ (Nat.mod_lt _ (by omega))
/-- The number of these bytes, the most significant one first. -/
def readB : List UInt8 → Nat → Nat
  | [], n => n
  | b :: r, n => readB r (n * 256 + b.toNat)
theorem readB_take (bs : List UInt8) : ∀ (n k : Nat) (h : k < bs.length), readB (bs.take (k + 1)) n = readB (bs.take k) n * 256 + bs[k].toNat := by
  induction bs with
  | nil => intro n k h; simp at h
  | cons b r ih =>
    intro n k h
    cases k with
    | zero => simp [readB]
    | succ k =>
      simp only [List.take_succ_cons, readB, List.getElem_cons_succ]
      exact ih _ k (by simpa using h)
theorem readB_lt : ∀ (bs : List UInt8) (n : Nat), readB bs n < (n + 1) * 256 ^ bs.length
  | [], n => by simp [readB]
  | b :: r, n => by
    have h := readB_lt r (n * 256 + b.toNat)
    have hb := b.toNat_lt
    simp only [readB, List.length_cons]
    refine Nat.lt_of_lt_of_le h ?_
    rw [Nat.pow_succ, Nat.mul_comm (256 ^ r.length) 256, ← Nat.mul_assoc]
    exact Nat.mul_le_mul_right _ (by omega)
theorem readB_le (bs : List UInt8) (k : Nat) (h : k ≤ 4) : readB (bs.take k) 0 < 4294967296 := by
  have h1 := readB_lt (bs.take k) 0
  have h2 : (bs.take k).length ≤ 4 := by rw [List.length_take]; omega
  have h3 := Nat.pow_le_pow_right (n := 256) (by omega) h2
  omega
/-- The bytes in the order in which ReadInteger takes them. -/
def orderB (bs : List UInt8) (little : Bool) : List UInt8 := if little then bs.reverse else bs
theorem order_next (bs : List UInt8) (k m : Nat) (h : m < bs.length) (hm : m + k + 1 = bs.length) : readB ((orderB bs true).take (k + 1)) 0 = readB ((orderB bs true).take k) 0 * 256 + bs[m].toNat := by
  have h1 := readB_take bs.reverse 0 k (by simp; omega)
  have e : bs.reverse[k]'(by simp; omega) = bs[m] := by
    rw [List.getElem_reverse]
    congr 1; omega
  rw [e] at h1
  exact h1
def readI (bs : List UInt8) (little : Bool) : Nat := if 4 < bs.length then 0 else readB (orderB bs little) 0
end Go.Proofs.YtikpbeealeofaaaDoor
