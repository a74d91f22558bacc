/- Contracts of the model's functions of chapter 2. -/
import Derived.Test.YtfdnfifmhfffnaaDoorBytes
namespace Go.Proofs.YtfdnfifmhfffnaaDoor
open Go Go.RowKit
set_option maxRecDepth 100000 in
theorem same_any (a b : Option Addr) (bs cs : List UInt8) (ca cb : Nat) (w : World) (hl : bs.length ≤ 1099511627776) (ha : Rd a bs w) (hb : Rd b cs w) :
    Calls Tryd.prog 12 #[.slice a bs.length ca, .slice b cs.length cb] w (EqOut bs cs w) := by
  have HA := Lib.hid ha
  have HB := Lib.hid hb
  clear ha hb
  by_cases hlen : bs.length = cs.length
  · have h1 : ((bs.length : Int) != (cs.length : Int)) = false := by simp [hlen]
    have HL := Lib.hid hlen
    have hle : cs.length ≤ bs.length := by omega
    have hge : bs.length ≤ cs.length := by omega
    clear hlen
    go_enter Tryd.func12, Tryd.ntmps12
    go_wp2
    clear h1
    go_loopw [5] (fun i W => ∃ k n : Nat, k ≤ bs.length ∧ i = .int .i64 k ∧ W = w.drewN n ∧ Hid (bs.take k = cs.take k)) (fun i _ => bs.length - (intOf i).toNat)
    case atStart => exact ⟨0, 0, Nat.zero_le _, rfl, rfl, rfl⟩
    case round =>
      obtain ⟨k, n, hk, rfl, rfl, ht⟩ := hrel
      have k0 : (0 : Int) ≤ (k : Int) := by omega
      by_cases hlt : k < bs.length
      · obtain ⟨b1, o1, rfl, c1⟩ := HA.out k hlt
        obtain ⟨b2, o2, rfl, c2⟩ := HB.out k (by omega)
        have k1 : (k : Int) < (bs.length : Int) := by omega
        have k2 : (k : Int) < (cs.length : Int) := by omega
        by_cases he : bs[k] = cs[k]
        · have ht' := Lib.hid (take_next ht.out hlt (by omega) he)
          have e1 : ((bs[k].toNat : Int) != ((cs[k]'(by omega)).toNat : Int)) = false := by simp [he]
          clear he
          go_wp2
          go_quiet (fail)
          go_wp2
          go_roundw
          case rel => exact ⟨k + 1, _, by omega, by go_num, rfl, ht'⟩
          case measure => simp [intOf]; omega
        · have hne := Lib.hid (take_not hlt (by omega) he)
          have e1 := byte_ne he
          clear he
          go_wp2
          go_quiet (fail)
          go_wp2
          go_ret
          exact ⟨ret_bool (decide_eq_false hne.out).symm, _, by rw [World.drewN_drewN]⟩
      · have k1 : ¬ (k : Int) < (bs.length : Int) := by omega
        have heq : Hid (bs = cs) := by
          have h2 := ht.out
          rw [List.take_of_length_le (by omega), List.take_of_length_le (by omega)] at h2
          exact h2
        go_wp2
        go_ret
        exact ⟨ret_bool (decide_eq_true heq.out).symm, _, rfl⟩
  · have h1 : ((bs.length : Int) != (cs.length : Int)) = true := by simp; omega
    have hne : Hid (bs ≠ cs) := fun h => hlen (by rw [h])
    clear hlen
    go_enter Tryd.func12, Tryd.ntmps12
    go_wp2
    go_ret
    exact ⟨ret_bool (decide_eq_false hne.out).symm, 0, rfl⟩
/-- The sum of bytes modulo 256. -/
def sumB : List UInt8 → Nat → Nat
  | [], n => n
  | b :: r, n => sumB r ((n + b.toNat) % 256)
theorem sumB_take (bs : List UInt8) : ∀ (n k : Nat) (h : k < bs.length), sumB (bs.take (k + 1)) n = (sumB (bs.take k) n + bs[k].toNat) % 256 := by
  induction bs with
  | nil => intro n k h; simp at h
  | cons b r ih =>
    intro n k h
    cases k with
    | zero => simp [sumB]
    | succ k =>
      simp only [List.take_succ_cons, sumB, List.getElem_cons_succ]
      exact ih _ k (by simpa using h)
theorem sumB_lt : ∀ (bs : List UInt8) (n : Nat), n < 256 → sumB bs n < 256
  | [], n, h => h
  | b :: r, n, h => sumB_lt r _ (Nat.mod_lt _ (by omega))
/-- The number of these bytes, the most significant one first. -/
def readB : List UInt8 → Nat → Nat
  | [], n => n
  | b :: r, n => readB r (n * 256 + b.toNat)
theorem readB_take (bs : List UInt8) : ∀ (n k : Nat) (h : k < bs.length), readB (bs.take (k + 1)) n = readB (bs.take k) n * 256 + bs[k].toNat := by
  induction bs with
  | nil => intro n k h; simp at h
  | cons b r ih =>
    intro n k h
    cases k with
    | zero => simp [readB]
    | succ k =>
      simp only [List.take_succ_cons, readB, List.getElem_cons_succ]
      exact ih _ k (by simpa using h)
theorem readB_lt : ∀ (bs : List UInt8) (n : Nat), readB bs n < (n + 1) * 256 ^ bs.length
  | [], n => by simp [readB]
  | b :: r, n => by
    have h := readB_lt r (n * 256 + b.toNat)
    have hb := b.toNat_lt
    simp only [readB, List.length_cons]
    refine Nat.lt_of_lt_of_le h ?_
    rw [Nat.pow_succ, Nat.mul_comm (256 ^ r.length) 256, ← Nat.mul_assoc]
    exact Nat.mul_le_mul_right _ (by omega)
theorem readB_le (bs : List UInt8) (k : Nat) (h : k ≤ 4) : readB (bs.take k) 0 < 4294967296 := by
  have h1 := readB_lt (bs.take k) 0
  have h2 : (bs.take k).length ≤ 4 := by rw [List.length_take]; omega
  have h3 := Nat.pow_le_pow_right (n := 256) (by omega) h2
  omega
/-- The bytes in the order in which ReadInteger takes them. -/
def orderB (bs : List UInt8) (little : Bool) : List UInt8 := if little then bs.reverse else bs
theorem order_next (bs : List UInt8) (k m : Nat) (h : m < bs.length) (hm : m + k + 1 = bs.length) : readB ((orderB bs true).take (k + 1)) 0 = readB ((orderB bs true).take k) 0 * 256 + bs[m].toNat := by
  have h1 := readB_take bs.reverse 0 k (by simp; omega)
  have e : bs.reverse[k]'(by simp; omega) = bs[m] := by
    rw [List.getElem_reverse]
    congr 1; omega
  rw [e] at h1
  exact h1
def readI (bs : List UInt8) (little : Bool) : Nat := if 4 < bs.length then 0 else readB (orderB bs little) 0
end Go.Proofs.YtfdnfifmhfffnaaDoor
