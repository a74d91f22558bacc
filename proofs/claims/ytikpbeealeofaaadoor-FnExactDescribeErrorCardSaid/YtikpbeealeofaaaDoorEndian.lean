/- Contracts of the model's BigEndian and LittleEndian. -/
import Derived.Test.YtikpbeealeofaaaDoorPush
namespace Go.Proofs.YtikpbeealeofaaaDoor
open Go Go.RowKit
/-- The size bytes of m, the most significant one first. -/
def beB (m : Nat) : Nat → List UInt8
  | 0 => []
  | k + 1 => UInt8.ofNat (m / 256 ^ k) :: beB m k
theorem beB_length (m : Nat) : ∀ k, (beB m k).length = k
  | 0 => rfl
  | k + 1 => by simp [beB, beB_length m k]
def OkBE (n size : Int) : Prop := 1 ≤ size ∧ size ≤ 4 ∧ 0 ≤ n ∧ n < 256 ^ size.toNat
/-- Gathered so far, and what is still to come. -/
def MidB (todo all : List UInt8) (v : Value) (w W : World) : Prop := ∃ acc, acc ++ todo = all ∧ OwnB w.heap.size v acc W ∧ Below w.heap.size w W
theorem midB_start (all : List UInt8) (w : World) : MidB all all (.slice (some ⟨w.heap.size, 0, none⟩) 0 0) w (w.alloc (.cells #[] 5)) :=
  ⟨[], rfl, OwnB.start w, (Below.refl _ _).alloc (Nat.le_refl _) _⟩
theorem midB_next {x : UInt8} {todo all acc : List UInt8} {v v' : Value} {w W W2 : World} {o : Obj} (he : acc ++ x :: todo = all) (hown : OwnB w.heap.size v acc W) (hb : Below w.heap.size w W)
    (hown' : W2.ownsRow w.heap.size 5 1 v' (acc.length + 1) (acc.map bv ++ [bv x])) (hg : (W.alloc o).grownBy W2 v.ownBlock) : MidB todo all v' w W2 := by
  refine ⟨acc ++ [x], by rw [← he, List.append_assoc]; rfl, ?_, ?_⟩
  · unfold OwnB; simpa using hown'
  · exact (hb.alloc hb.size o).grown hg (by have := hb.size; simp; omega) fun k hk => (World.ownsRow.lt (w := W) hown k hk).1
theorem midB_end {all : List UInt8} {v : Value} {w W : World} (h : MidB [] all v w W) : BytesOut all w (.returned v) W := by
  obtain ⟨acc, he, hown, hb⟩ := h
  rw [List.append_nil] at he
  subst he
  obtain ⟨a, cap, rfl, hf⟩ := hown.row
  exact ⟨a, cap, rfl, hf, hb⟩
/-- What holds at the head of a round. -/
def RelB (m S : Nat) (w : World) (v i : Value) (W : World) : Prop := ∃ (k : Nat) (z : Int), z = (k : Int) - 1 ∧ k ≤ S ∧ i = .int .i64 z ∧ Hid (MidB (beB m k) (beB m S) v w W)
theorem bv_of (y : Nat) (z : Int) (h : z = ((y % 256 : Nat) : Int)) : Value.int .u8 z = bv (UInt8.ofNat y) := by
  unfold bv; rw [UInt8.toNat_ofNat', h]
theorem empty_out (w : World) : BytesOut [] w (.returned (.slice (some ⟨w.heap.size, 0, none⟩) 0 0)) (w.alloc (.cells #[] 5)) := midB_end (midB_start [] w)
/-- The bytes that BigEndian gives, whatever the arguments. -/
def beOf (n s : Int) : List UInt8 := if 1 ≤ s ∧ s ≤ 4 ∧ 0 ≤ n ∧ n < 256 ^ s.toNat then beB n.toNat s.toNat else []
theorem beOf_length (n s : Int) : (beOf n s).length ≤ 4 := by
  unfold beOf
  by_cases h : 1 ≤ s ∧ s ≤ 4 ∧ 0 ≤ n ∧ n < 256 ^ s.toNat
  · rw [if_pos h, beB_length]; omega
  · rw [if_neg h]; simp
/-- What holds at the head of a round of LittleEndian. -/
def RelL (bs : List UInt8) (w : World) (v i : Value) (W : World) : Prop := ∃ (k : Nat) (z : Int), z = (k : Int) - 1 ∧ k ≤ bs.length ∧ i = .int .i64 z ∧ Hid (MidB (bs.take k).reverse bs.reverse v w W)
theorem take_rev (bs : List UInt8) (k : Nat) (h : k < bs.length) : (bs.take (k + 1)).reverse = bs[k] :: (bs.take k).reverse := by
  rw [List.take_succ_eq_append_getElem h, List.reverse_append]; rfl
theorem bytesOut_below {bs : List UInt8} {w w1 : World} {e : Ending} {w2 : World} (hb : Below w.heap.size w w1) (h : BytesOut bs w1 e w2) : BytesOut bs w e w2 := by
  obtain ⟨a, cap, he, hf, hb2⟩ := h
  exact ⟨a, cap, he, hf.more hb.size, hb.trans (hb2.mono hb.size)⟩
/-- The bytes that LittleEndian gives, under a name that the walk does not open. -/
def leOf (n s : Int) : List UInt8 := (beOf n s).reverse
theorem leOf_length (n s : Int) : (leOf n s).length ≤ 4 := by
  unfold leOf; rw [List.length_reverse]; exact beOf_length n s
end Go.Proofs.YtikpbeealeofaaaDoor
