/- The contract of the model's EqualValues, at any two values. -/
import Derived.Test.YtefkhknfjohnaaaGV
import Derived.Test.YtefkhknfjohnaaaGRul
import Derived.Deep.RegionHeld3
import Derived.Deep.CutRange
namespace Go.Proofs.Ytefkhknfjohnaaa
open Go Go.RowKit
theorem IsVal.upE : ∀ {n m : Nat} {v : ValueV} {cs : List Value} {w : World}, IsVal n v cs w → n ≤ m → IsVal m v cs w
  | 0, _, _, _, _, h, _ => h.elim
  | n + 1, m, v, cs, w, h, hm => by
    obtain ⟨m, rfl⟩ : ∃ m', m = m' + 1 := ⟨m - 1, by omega⟩
    obtain ⟨ab, cb, ai, ci, e, h1, h2⟩ := h
    exact ⟨ab, cb, ai, ci, e, h1, fun j hj => by obtain ⟨b, off, cs', e2, h3, h4⟩ := h2 j hj; exact ⟨b, off, cs', e2, h3.upE (by omega), h4⟩⟩
theorem valueV_ext : ∀ {v u : ValueV}, v.number = u.number → v.bytes = u.bytes → v.items = u.items → v = u
  | .mk _ _ _, .mk _ _ _, h1, h2, h3 => by
    simp only [ValueV.number, ValueV.bytes, ValueV.items] at h1 h2 h3
    subst h1 h2 h3
    rfl
/-- A Boolean comes back: whether both are the same. -/
def SameOut (v u : ValueV) (e : Ending) : Prop := ∃ r : Bool, e = .returned (.bool r) ∧ (r = true ↔ v = u)
theorem SameOut.no {v u : ValueV} (h : v ≠ u) : SameOut v u (.returned (.bool false)) := ⟨false, rfl, by simp; exact h⟩
theorem SameOut.yes {v u : ValueV} (h : v = u) : SameOut v u (.returned (.bool true)) := ⟨true, rfl, by simp; exact h⟩
end Go.Proofs.Ytefkhknfjohnaaa
