/- Contracts of the model's SplitText and CutAt. -/
import Derived.Test.YtfmnjclnhppghabGreatDoorGBase
namespace Go.Proofs.YtfmnjclnhppghabGreatDoor
open Go Go.RowKit
/-- The slice v owns these strings, in a block from base on. -/
def OwnS (base : Nat) (v : Value) (ss : List ByteArray) (w : World) : Prop := w.ownsRow base 9 1 v ss.length (ss.map Value.string)
theorem OwnS.row {base : Nat} {v : Value} {ss : List ByteArray} {w : World} (h : OwnS base v ss w) : ∃ a cap, v = .slice a ss.length cap ∧ RowS base a ss cap w := own_row h
theorem OwnS.start (w : World) : OwnS w.heap.size (.slice (some ⟨w.heap.size, 0, none⟩) 0 0) [] (w.alloc (.cells #[] 9)) :=
  World.ownsRow_made w #[] 0 (Nat.le_refl _) (by unfold maxLen; omega) rfl
theorem OwnS.out {v : Value} {ss : List ByteArray} {w W : World} (h : OwnS w.heap.size v ss W) (hb : Below w.heap.size w W) : StrsOut ss w (.returned v) W := by
  obtain ⟨a, cap, rfl, hr⟩ := h.row
  exact ⟨a, cap, rfl, hr, hb⟩
theorem OwnS.drewN {base : Nat} {v : Value} {ss : List ByteArray} {w : World} (h : OwnS base v ss w) (n : Nat) : OwnS base v ss (w.drewN n) := h
/-- The state between two bytes: what has been divided, and from where on there is no separator; or the end. -/
def SplitRel (s : ByteArray) (c : UInt8) (w : World) (v f i : Value) (W : World) : Prop :=
  ∃ (k a : Nat) (acc : List ByteArray), i = .int .i64 k ∧ f = .int .i64 a ∧ OwnS w.heap.size v acc W ∧ Below w.heap.size w W ∧
    (k ≤ s.size ∧ a ≤ k ∧ Divd c s acc a ∧ NoC c (lst s) a k ∨ k = s.size + 1 ∧ a ≤ k ∧ acc = parts c s)
theorem byte_eq_true {x y : UInt8} (h : x = y) : ((x.toNat : Int) == (y.toNat : Int)) = true := by simp [h]
theorem byte_eq_false {x y : UInt8} (h : x ≠ y) : ((x.toNat : Int) == (y.toNat : Int)) = false := by
  rw [beq_eq_false_iff_ne]
  exact fun e => h (UInt8.toNat_inj.1 (by omega))
end Go.Proofs.YtfmnjclnhppghabGreatDoor
