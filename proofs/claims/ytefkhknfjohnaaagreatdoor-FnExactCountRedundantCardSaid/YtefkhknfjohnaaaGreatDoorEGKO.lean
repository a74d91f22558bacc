/- What only some blocks' turning leaves; what comes back of the two readers, in one form. -/
import Derived.Test.YtefkhknfjohnaaaGreatDoorEGMk
import Derived.Test.YtefkhknfjohnaaaGreatDoorEGV
import Derived.Test.YtefkhknfjohnaaaGreatDoorEGKG
import Derived.Test.YtefkhknfjohnaaaGreatDoorEGSz
import Derived.Test.YtefkhknfjohnaaaGreatDoorEGK
namespace Go.Proofs.YtefkhknfjohnaaaGreatDoor
open Go Go.RowKit
theorem ko_sumW (rs : List RuleV) : ∀ k,k ≤ rs.length → sumW rs k ≤ 4 * k + sumR rs k
 | 0,_ => by simp [sumW]
 | k + 1,h => by
  have ih:=ko_sumW rs k (by omega)
  have h1:=sumW_next rs k (by omega)
  have h2:=sumR_next rs k (by omega)
  rw [h1,h2]
  unfold widthR ruleSize sizeS
  omega
theorem ko_sumW_of {rs : List RuleV} (h : sizeR rs ≤ 1048576) : 1 + sumW rs rs.length ≤ 1073741824:=by
 have h1:=ko_sumW rs rs.length (Nat.le_refl _)
 unfold sizeR at h
 omega
theorem ko_cells {b : Nat} {vs : List Value} {bl : List Nat} {w w' : World} (h : CellsAt b vs w) (g : Only bl w w') (hn : b ∉ bl) : CellsAt b vs w':=fun i u hu => g.cell hn (h i u hu)
theorem ko_row {B cap : Nat} {a : Option Addr} {xs : List UInt8} {bl : List Nat} {w w' : World} (h : Row B a xs cap w) (g : Only bl w w') (hb : ∀ b off,a = some ⟨b,off,none⟩ → xs.length ≠ 0 → b ∉ bl) : Row B a xs cap w':=by
 refine ⟨?_,h.2⟩
 rcases h.1 with e | ⟨b,off,e,hB,hc⟩
 ·exact .inl e
 ·by_cases h0 : xs.length = 0
  ·exact .inl (by simpa using h0)
  ·exact .inr ⟨b,off,e,hB,fun j hj => g.cell (hb b off e h0) (hc j hj)⟩
theorem ko_blk {B cap : Nat} {a : Option Addr} {xs : List UInt8} {w : World} (h : Row B a xs cap w) : ∀ b off,a = some ⟨b,off,none⟩ → xs.length ≠ 0 → B ≤ b ∧ b < w.heap.size:=fun b off e hn => by
 rcases h.1 with h | ⟨b',off',e',hB,hc⟩
 ·rw [h] at hn; exact absurd rfl hn
 ·rw [e] at e'
  injection e' with e'
  injection e' with e1 e2
  subst e1 e2
  exact ⟨hB,cell_lt (hc 0 (by omega)).1⟩
theorem ko_apart {lo hi : Nat} {w w' : World} (h : Apart lo hi w w') : ∃ bl,(∀ b ∈ bl,lo ≤ b ∧ b < hi) ∧ Only bl w w' :=
 ⟨(List.range hi).filter fun b => decide (lo ≤ b),fun b hb => by simp at hb; omega,h.os,h.tape,h.output,h.size,fun k hk hn => h.block k hk (by simp at hn; omega)⟩
theorem ko_touch {B n K : Nat} {a : Option Addr} {w w' : World} (h : Touch B a n w w') (hK : ∀ b off,a = some ⟨b,off,none⟩ → n ≠ 0 → b < K) : ∃ bl,(∀ b ∈ bl,B ≤ b ∧ b < K) ∧ Only bl w w':=by
 rcases h with rfl | ⟨hn,c,off,e,hc,hg⟩
 ·exact ⟨[],fun b hb => by simp at hb,Only.refl _ _⟩
 ·exact ⟨[c],fun b hb => by simp at hb; subst hb; exact ⟨hc,hK _ _ e hn⟩,Only.of_grown hg (by simp)⟩
end Go.Proofs.YtefkhknfjohnaaaGreatDoor
