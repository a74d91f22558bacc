/- The contract of the model's l4Names. -/
import Derived.Test.YtkegjgfggijinaaHas
import Derived.Test.YtkegjgfggijinaaNames
import Derived.Test.YtkegjgfggijinaaLimit
namespace Go.Proofs.Ytkegjgfggijinaa
open Go Go.RowKit
/-- The first k strings are names, each not among those ahead of it. -/
def namesTo (ss : List ByteArray) (k : Nat) : Prop := ∀ i (h : i < ss.length), i < k → nameB ss[i] = true ∧ hasS (ss.take i) ss[i] = false
open Classical in
/-- Whether the strings are names of parts. -/
noncomputable def namesB (ss : List ByteArray) : Bool := decide (namesTo ss ss.length ∧ 1 ≤ ss.length ∧ ss.length ≤ 8)
theorem namesTo.next {ss : List ByteArray} {k : Nat} (h : namesTo ss k) (hk : k < ss.length) (h1 : nameB ss[k] = true) (h2 : hasS (ss.take k) ss[k] = false) : namesTo ss (k + 1) := fun i hi hik => by
  by_cases e : i = k
  · subst e; exact ⟨h1, h2⟩
  · exact h i hi (by omega)
open Classical in
theorem namesB_bad {ss : List ByteArray} {k : Nat} (hk : k < ss.length) (h : ¬ (nameB ss[k] = true ∧ hasS (ss.take k) ss[k] = false)) : namesB ss = false := by
  unfold namesB
  exact decide_eq_false fun h' => h (h'.1 k hk hk)
open Classical in
theorem namesB_end {ss : List ByteArray} (h : namesTo ss ss.length) : namesB ss = decide (1 ≤ ss.length ∧ ss.length ≤ 8) := by
  unfold namesB
  simp [h]
theorem RdF.take {α : Type} {f : α → Value} {a : Option Addr} {xs : List α} {w : World} (h : RdF f a xs w) (n : Nat) : RdF f a (xs.take n) w := fun j hj => by
  have hj2 : j < xs.length := by simp at hj; omega
  obtain ⟨b, off, ha, hc⟩ := h j hj2
  exact ⟨b, off, ha, by rw [List.getElem_take]; exact hc⟩
end Go.Proofs.Ytkegjgfggijinaa
