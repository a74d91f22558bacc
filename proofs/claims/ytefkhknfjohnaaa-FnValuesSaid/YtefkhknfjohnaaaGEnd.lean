/- Contracts of the model's BigEndian and LittleEndian. Contracts of the model's functions of chapter 2. -/
import Derived.Test.YtefkhknfjohnaaaGPu
import Derived.Test.YtefkhknfjohnaaaGBase
namespace Go.Proofs.Ytefkhknfjohnaaa
open Go Go.RowKit
/-- The size bytes of m, the most significant one first. -/
def beB (m : Nat) : Nat → List UInt8
  | 0 => []
  | k + 1 => UInt8.ofNat (m / 256 ^ k) :: beB m k
theorem beB_length (m : Nat) : ∀ k, (beB m k).length = k
  | 0 => rfl
  | k + 1 => by simp [beB, beB_length m k]
def OkBE (n size : Int) : Prop := 1 ≤ size ∧ size ≤ 4 ∧ 0 ≤ n ∧ n < 256 ^ size.toNat
/-- Gathered so far, and what is still to come. -/
def MidB (todo all : List UInt8) (v : Value) (w W : World) : Prop := ∃ acc, acc ++ todo = all ∧ OwnB w.heap.size v acc W ∧ Below w.heap.size w W
theorem midB_start (all : List UInt8) (w : World) : MidB all all (.slice (some ⟨w.heap.size, 0, none⟩) 0 0) w (w.alloc (.cells #[] 5)) :=
  ⟨[], rfl, OwnB.start w, (Below.refl _ _).alloc (Nat.le_refl _) _⟩
theorem midB_next {x : UInt8} {todo all acc : List UInt8} {v v' : Value} {w W W2 : World} {o : Obj} (he : acc ++ x :: todo = all) (hown : OwnB w.heap.size v acc W) (hb : Below w.heap.size w W)
    (hown' : W2.ownsRow w.heap.size 5 1 v' (acc.length + 1) (acc.map bv ++ [bv x])) (hg : (W.alloc o).grownBy W2 v.ownBlock) : MidB todo all v' w W2 := by
  refine ⟨acc ++ [x], by rw [← he, List.append_assoc]; rfl, ?_, ?_⟩
  · unfold OwnB; simpa using hown'
  · exact (hb.alloc hb.size o).grown hg (by have := hb.size; simp; omega) fun k hk => (World.ownsRow.lt (w := W) hown k hk).1
theorem midB_end {all : List UInt8} {v : Value} {w W : World} (h : MidB [] all v w W) : BytesOut all w (.returned v) W := by
  obtain ⟨acc, he, hown, hb⟩ := h
  rw [List.append_nil] at he
  subst he
  obtain ⟨a, cap, rfl, hf⟩ := hown.row
  exact ⟨a, cap, rfl, hf, hb⟩
/-- What holds at the head of a round. -/
def RelB (m S : Nat) (w : World) (v i : Value) (W : World) : Prop := ∃ (k : Nat) (z : Int), z = (k : Int) - 1 ∧ k ≤ S ∧ i = .int .i64 z ∧ Hid (MidB (beB m k) (beB m S) v w W)
theorem bv_of (y : Nat) (z : Int) (h : z = ((y % 256 : Nat) : Int)) : Value.int .u8 z = bv (UInt8.ofNat y) := by
  unfold bv; rw [UInt8.toNat_ofNat', h]
theorem empty_out (w : World) : BytesOut [] w (.returned (.slice (some ⟨w.heap.size, 0, none⟩) 0 0)) (w.alloc (.cells #[] 5)) := midB_end (midB_start [] w)
/-- The bytes that BigEndian gives, whatever the arguments. -/
def beOf (n s : Int) : List UInt8 := if 1 ≤ s ∧ s ≤ 4 ∧ 0 ≤ n ∧ n < 256 ^ s.toNat then beB n.toNat s.toNat else []
theorem beOf_length (n s : Int) : (beOf n s).length ≤ 4 := by
  unfold beOf
  by_cases h : 1 ≤ s ∧ s ≤ 4 ∧ 0 ≤ n ∧ n < 256 ^ s.toNat
  · rw [if_pos h, beB_length]; omega
  · rw [if_neg h]; simp
/-- What holds at the head of a round of LittleEndian. -/
def RelL (bs : List UInt8) (w : World) (v i : Value) (W : World) : Prop := ∃ (k : Nat) (z : Int), z = (k : Int) - 1 ∧ k ≤ bs.length ∧ i = .int .i64 z ∧ Hid (MidB (bs.take k).reverse bs.reverse v w W)
theorem take_rev (bs : List UInt8) (k : Nat) (h : k < bs.length) : (bs.take (k + 1)).reverse = bs[k] :: (bs.take k).reverse := by
  rw [List.take_succ_eq_append_getElem h, List.reverse_append]; rfl
theorem bytesOut_below {bs : List UInt8} {w w1 : World} {e : Ending} {w2 : World} (hb : Below w.heap.size w w1) (h : BytesOut bs w1 e w2) : BytesOut bs w e w2 := by
  obtain ⟨a, cap, he, hf, hb2⟩ := h
  exact ⟨a, cap, he, hf.more hb.size, hb.trans (hb2.mono hb.size)⟩
/-- The bytes that LittleEndian gives, under a name that the walk does not open. -/
def leOf (n s : Int) : List UInt8 := (beOf n s).reverse
theorem leOf_length (n s : Int) : (leOf n s).length ≤ 4 := by
  unfold leOf; rw [List.length_reverse]; exact beOf_length n s
end Go.Proofs.Ytefkhknfjohnaaa
namespace Go.Proofs.Ytefkhknfjohnaaa
open Go Go.RowKit
set_option maxRecDepth 100000 in
theorem same_any (a b : Option Addr) (bs cs : List UInt8) (ca cb : Nat) (w : World) (hl : bs.length ≤ 1099511627776) (ha : Rd a bs w) (hb : Rd b cs w) :
    Calls Try.prog 13 #[.slice a bs.length ca, .slice b cs.length cb] w (EqOut bs cs w) := by
  have HA := Lib.hid ha
  have HB := Lib.hid hb
  clear ha hb
  by_cases hlen : bs.length = cs.length
  · have h1 : ((bs.length : Int) != (cs.length : Int)) = false := by simp [hlen]
    have HL := Lib.hid hlen
    have hle : cs.length ≤ bs.length := by omega
    have hge : bs.length ≤ cs.length := by omega
    clear hlen
    go_enter Try.func13, Try.ntmps13
    go_wp2
    clear h1
    go_loopw [5] (fun i W => ∃ k n : Nat, k ≤ bs.length ∧ i = .int .i64 k ∧ W = w.drewN n ∧ Hid (bs.take k = cs.take k)) (fun i _ => bs.length - (intOf i).toNat)
    case atStart => exact ⟨0, 0, Nat.zero_le _, rfl, rfl, rfl⟩
    case round =>
      obtain ⟨k, n, hk, rfl, rfl, ht⟩ := hrel
      have k0 : (0 : Int) ≤ (k : Int) := by omega
      by_cases hlt : k < bs.length
      · obtain ⟨b1, o1, rfl, c1⟩ := HA.out k hlt
        obtain ⟨b2, o2, rfl, c2⟩ := HB.out k (by omega)
        have k1 : (k : Int) < (bs.length : Int) := by omega
        have k2 : (k : Int) < (cs.length : Int) := by omega
        by_cases he : bs[k] = cs[k]
        · have ht' := Lib.hid (take_next ht.out hlt (by omega) he)
          have e1 : ((bs[k].toNat : Int) != ((cs[k]'(by omega)).toNat : Int)) = false := by simp [he]
          clear he
          go_wp2
          go_quiet (fail)
          go_wp2
          go_roundw
          case rel => exact ⟨k + 1, _, by omega, by go_num, rfl, ht'⟩
          case measure => simp [intOf]; omega
        · have hne := Lib.hid (take_not hlt (by omega) he)
          have e1 := byte_ne he
          clear he
          go_wp2
          go_quiet (fail)
          go_wp2
          go_ret
          exact ⟨ret_bool (decide_eq_false hne.out).symm, _, by rw [World.drewN_drewN]⟩
      · have k1 : ¬ (k : Int) < (bs.length : Int) := by omega
        have heq : Hid (bs = cs) := by
          have h2 := ht.out
          rw [List.take_of_length_le (by omega), List.take_of_length_le (by omega)] at h2
          exact h2
        go_wp2
        go_ret
        exact ⟨ret_bool (decide_eq_true heq.out).symm, _, rfl⟩
  · have h1 : ((bs.length : Int) != (cs.length : Int)) = true := by simp; omega
    have hne : Hid (bs ≠ cs) := fun h => hlen (by rw [h])
    clear hlen
    go_enter Try.func13, Try.ntmps13
    go_wp2
    go_ret
    exact ⟨ret_bool (decide_eq_false hne.out).symm, 0, rfl⟩
/-- The sum of bytes modulo 256. -/
def sumB : List UInt8 → Nat → Nat
  | [], n => n
  | b :: r, n => sumB r ((n + b.toNat) % 256)
theorem sumB_take (bs : List UInt8) : ∀ (n k : Nat) (h : k < bs.length), sumB (bs.take (k + 1)) n = (sumB (bs.take k) n + bs[k].toNat) % 256 := by
  induction bs with
  | nil => intro n k h; simp at h
  | cons b r ih =>
    intro n k h
    cases k with
    | zero => simp [sumB]
    | succ k =>
      simp only [List.take_succ_cons, sumB, List.getElem_cons_succ]
      exact ih _ k (by simpa using h)
theorem sumB_lt : ∀ (bs : List UInt8) (n : Nat), n < 256 → sumB bs n < 256
  | [], n, h => h
  | b :: r, n, h => sumB_lt r _ (Nat.mod_lt _ (by omega))
/-- The number of these bytes, the most significant one first. -/
def readB : List UInt8 → Nat → Nat
  | [], n => n
  | b :: r, n => readB r (n * 256 + b.toNat)
theorem readB_take (bs : List UInt8) : ∀ (n k : Nat) (h : k < bs.length), readB (bs.take (k + 1)) n = readB (bs.take k) n * 256 + bs[k].toNat := by
  induction bs with
  | nil => intro n k h; simp at h
  | cons b r ih =>
    intro n k h
    cases k with
    | zero => simp [readB]
    | succ k =>
      simp only [List.take_succ_cons, readB, List.getElem_cons_succ]
      exact ih _ k (by simpa using h)
theorem readB_lt : ∀ (bs : List UInt8) (n : Nat), readB bs n < (n + 1) * 256 ^ bs.length
  | [], n => by simp [readB]
  | b :: r, n => by
    have h := readB_lt r (n * 256 + b.toNat)
    have hb := b.toNat_lt
    simp only [readB, List.length_cons]
    refine Nat.lt_of_lt_of_le h ?_
    rw [Nat.pow_succ, Nat.mul_comm (256 ^ r.length) 256, ← Nat.mul_assoc]
    exact Nat.mul_le_mul_right _ (by omega)
theorem readB_le (bs : List UInt8) (k : Nat) (h : k ≤ 4) : readB (bs.take k) 0 < 4294967296 := by
  have h1 := readB_lt (bs.take k) 0
  have h2 : (bs.take k).length ≤ 4 := by rw [List.length_take]; omega
  have h3 := Nat.pow_le_pow_right (n := 256) (by omega) h2
  omega
/-- The bytes in the order in which ReadInteger takes them. -/
def orderB (bs : List UInt8) (little : Bool) : List UInt8 := if little then bs.reverse else bs
theorem order_next (bs : List UInt8) (k m : Nat) (h : m < bs.length) (hm : m + k + 1 = bs.length) : readB ((orderB bs true).take (k + 1)) 0 = readB ((orderB bs true).take k) 0 * 256 + bs[m].toNat := by
  have h1 := readB_take bs.reverse 0 k (by simp; omega)
  have e : bs.reverse[k]'(by simp; omega) = bs[m] := by
    rw [List.getElem_reverse]
    congr 1; omega
  rw [e] at h1
  exact h1
def readI (bs : List UInt8) (little : Bool) : Nat := if 4 < bs.length then 0 else readB (orderB bs little) 0
end Go.Proofs.Ytefkhknfjohnaaa
