/- Used rules, as plain functions. No program is walked here. -/
import Derived.Test.YthjogcknphjilaaSizeP
namespace Go.Proofs.Ythjogcknphjilaa
open Go Go.RowKit
theorem kid_nat {ks : List Int} {j n : Nat} (h : ∀ k ∈ ks, 0 ≤ k ∧ k < (n : Int)) (hj : j < ks.length) : ∃ m : Nat, ks[j] = (m : Int) ∧ m < n := by
 have := h _ (List.getElem_mem hj)
 exact ⟨ks[j].toNat, by omega, by omega⟩
theorem RdF.cellAt {α : Type} {f : α → Value} {a : Option Addr} {xs : List α} {w : World} (h : RdF f a xs w) {j : Nat} (hj : j < xs.length) : ∃ b off, a = some ⟨b, off, none⟩ ∧ w.cell? ⟨b, off + j, none⟩ = some (f xs[j]) := h j hj
theorem getD_at {ks : List Int} {j : Nat} (h : j < ks.length) : ks.getD j 0 = ks[j] := by simp [List.getD, List.getElem?_eq_getElem h]
end Go.Proofs.Ythjogcknphjilaa
