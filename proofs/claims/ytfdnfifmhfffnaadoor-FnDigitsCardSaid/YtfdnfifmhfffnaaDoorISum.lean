/- Contracts of the program's SumOfBytes and ReadInteger. -/
import Derived.Test.YtfdnfifmhfffnaaDoorBytesSpec
import Derived.IntWalk
import Derived.Laws.BitsLemmas
namespace Go.Proofs.YtfdnfifmhfffnaaDoor
open Go Go.RowKit
theorem or_hi (x y : Int) (i : Nat) (hx0 : 0 ≤ x) (hx : x % 2 ^ i = 0) (hx1 : x < 4611686018427387904) (hy0 : 0 ≤ y) (hy : y < 2 ^ i) (hy1 : y < 4611686018427387904) : bits .or .i64 x y = x + y :=
  bits_join .i64 62 (by decide) (fun n h0 h1 => by rw [IntKind.wrap_i64]; omega) i x y hx0 hx (by omega) hy0 hy (by omega)
theorem or_comm64 (x y : Int) : bits .or .i64 x y = bits .or .i64 y x := by
  simp only [bits, BitVec.or_comm]
theorem or_lo (x y : Int) (i : Nat) (hx0 : 0 ≤ x) (hx : x % 2 ^ i = 0) (hx1 : x < 4611686018427387904) (hy0 : 0 ≤ y) (hy : y < 2 ^ i) (hy1 : y < 4611686018427387904) : bits .or .i64 y x = x + y := by
  rw [or_comm64]; exact or_hi x y i hx0 hx hx1 hy0 hy hy1
theorem readB_add : ∀ (bs : List UInt8) (n : Nat), readB bs n = n * 256 ^ bs.length + readB bs 0
  | [], n => by simp [readB]
  | b :: r, n => by
    simp only [readB, List.length_cons]
    rw [readB_add r (n * 256 + b.toNat), readB_add r (0 * 256 + b.toNat), Nat.pow_succ]
    have e : n * (256 ^ r.length * 256) = n * 256 * 256 ^ r.length := by rw [Nat.mul_comm (256 ^ r.length), ← Nat.mul_assoc]
    rw [e, Nat.add_mul, Nat.zero_mul, Nat.zero_add]
    omega
/-- The number so far, the most significant byte first, in its place. -/
def hiB (bs : List UInt8) (k : Nat) : Nat := readB (bs.take k) 0 * 256 ^ (bs.length - k)
/-- The number so far, the least significant byte first. -/
def loB (bs : List UInt8) (k : Nat) : Nat := readB (bs.take k).reverse 0
theorem hiB_step (bs : List UInt8) (k m : Nat) (h : k < bs.length) (hm : m + k + 1 = bs.length) : hiB bs (k + 1) = hiB bs k + bs[k].toNat * 256 ^ m := by
  unfold hiB
  rw [readB_take bs 0 k h, show bs.length - (k + 1) = m by omega, show bs.length - k = m + 1 by omega, Nat.pow_succ, Nat.add_mul, Nat.mul_comm (256 ^ m) 256, ← Nat.mul_assoc]
theorem hiB_mod (bs : List UInt8) (k m : Nat) (hm : m + k + 1 = bs.length) : hiB bs k % 256 ^ (m + 1) = 0 := by
  unfold hiB
  rw [show bs.length - k = m + 1 by omega, Nat.mul_mod_left]
theorem hiB_lt (bs : List UInt8) (k : Nat) (hk : k ≤ bs.length) (h : bs.length ≤ 4) : hiB bs k < 4294967296 := by
  unfold hiB
  have h1 := readB_lt (bs.take k) 0
  rw [Nat.zero_add, Nat.one_mul, List.length_take, Nat.min_eq_left hk] at h1
  have h2 : readB (bs.take k) 0 * 256 ^ (bs.length - k) < 256 ^ k * 256 ^ (bs.length - k) := Nat.mul_lt_mul_of_pos_right h1 (Nat.pow_pos (by omega))
  rw [← Nat.pow_add, show k + (bs.length - k) = bs.length by omega] at h2
  have h3 := Nat.pow_le_pow_right (n := 256) (by omega) h
  omega
theorem loB_step (bs : List UInt8) (k : Nat) (h : k < bs.length) : loB bs (k + 1) = loB bs k + bs[k].toNat * 256 ^ k := by
  unfold loB
  rw [List.take_succ_eq_append_getElem h, List.reverse_append, List.reverse_singleton, List.singleton_append, readB, readB_add, List.length_reverse, List.length_take, Nat.min_eq_left (by omega)]
  simp
  omega
theorem loB_lt (bs : List UInt8) (k : Nat) (hk : k ≤ bs.length) : loB bs k < 256 ^ k := by
  unfold loB
  have h1 := readB_lt (bs.take k).reverse 0
  rw [Nat.zero_add, Nat.one_mul, List.length_reverse, List.length_take, Nat.min_eq_left hk] at h1
  exact h1
theorem hiB_end (bs : List UInt8) : hiB bs bs.length = readB (orderB bs false) 0 := by
  unfold hiB orderB
  simp
theorem loB_end (bs : List UInt8) : loB bs bs.length = readB (orderB bs true) 0 := by
  unfold loB orderB
  simp
end Go.Proofs.YtfdnfifmhfffnaaDoor
