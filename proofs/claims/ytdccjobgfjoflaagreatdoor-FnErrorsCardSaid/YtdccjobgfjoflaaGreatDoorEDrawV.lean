/- The contracts of the model's l9Make (every rule) and DrawValue. -/
import Derived.Test.YtdccjobgfjoflaaGreatDoorEMvA
import Derived.Test.YtdccjobgfjoflaaGreatDoorEM3
import Derived.Test.YtdccjobgfjoflaaGreatDoorEM4
import Derived.IntWalk
import Derived.Deep.RegionLaw
namespace Go.Proofs.YtdccjobgfjoflaaGreatDoor
open Go Go.RowKit
theorem mv_all (a : Option Addr) (len cap c base : Nat) (ad : Option Addr) (rs : List RuleV) (capd : Nat) (hl : len ≤ 140737488355328) (hrs : rs.length ≤ 9) (hall : allV (kindI rs) rs) (hcb : c < base) : ∀ k, k < rs.length → MvC a len cap c base ad rs capd k := by
 intro k
 induction k using Nat.strongRecOn with
 | _ k ih =>
  intro hk
  have ih2 : ∀ m, m < k → MvC a len cap c base ad rs capd m := fun m hm => ih m hm (by omega)
  have hkn := kindI_known (allV_kind hall hk)
  rcases (by omega : rs[k].kind = 1 ∨ rs[k].kind = 2 ∨ rs[k].kind = 3 ∨ rs[k].kind = 4 ∨ rs[k].kind = 5 ∨ rs[k].kind = 6 ∨ rs[k].kind = 7 ∨ rs[k].kind = 8 ∨ rs[k].kind = 9 ∨ rs[k].kind = 10) with e | e | e | e | e | e | e | e | e | e
  ·exact mv_H0 1 (by simp) a len cap c base ad rs capd k hl hrs hall hcb hk e ih2
  ·exact mv_H0 2 (by simp) a len cap c base ad rs capd k hl hrs hall hcb hk e ih2
  ·exact mv_H0 3 (by simp) a len cap c base ad rs capd k hl hrs hall hcb hk e ih2
  ·exact mv_H0 4 (by simp) a len cap c base ad rs capd k hl hrs hall hcb hk e ih2
  ·exact mv_G0 5 (by simp) a len cap c base ad rs capd k hl hrs hall hcb hk e ih2
  ·exact mv_G0 6 (by simp) a len cap c base ad rs capd k hl hrs hall hcb hk e ih2
  ·exact mv_H0 7 (by simp) a len cap c base ad rs capd k hl hrs hall hcb hk e ih2
  ·exact mv_H0 8 (by simp) a len cap c base ad rs capd k hl hrs hall hcb hk e ih2
  ·exact mv_H0 9 (by simp) a len cap c base ad rs capd k hl hrs hall hcb hk e ih2
  ·exact mv_H0 10 (by simp) a len cap c base ad rs capd k hl hrs hall hcb hk e ih2
theorem RowR.room {base : Nat} {v : Value} {rs : List RuleV} {w : World} (h : RowR base v rs w) (h0 : 0 < rs.length) : base ≤ w.heap.size := by
 obtain ⟨css, hl, ho, hr⟩ := h
 have h1 := ho
 rcases ho.2 with ⟨_, hn⟩ | ⟨g, cap, cur, rfl, hb, hg, _⟩
 ·omega
 ·have := World.ownsRow.lt (w := w) h1 g rfl
  omega
def DvP (base n : Nat) (D : Value) (rs : List RuleV) (v : ValueV) (cs : List Value) (w W : World) : Prop := RowR base D rs W ∧ OwnV (fun b => w.heap.size + 2 ≤ b) n v cs W ∧ Below w.heap.size w W
theorem DvP.put {base n j : Nat} {D : Value} {rs : List RuleV} {v : ValueV} {cs : List Value} {w W : World} (h : DvP base n D rs v cs w W) (hj : w.heap.size ≤ j) (hj2 : j < w.heap.size + 2) (hb : w.heap.size + 2 ≤ base) (i : Nat) (u : Value) : DvP base n D rs v cs w (W.setCell ⟨j, i, none⟩ u) :=
 ⟨h.1.grown (grown_set (grown_refl W j) i u) (by omega), h.2.1.grown (grown_set (grown_refl W j) i u) (fun b _ hb => ⟨hb, fun e => by injection e with e; omega⟩), h.2.2.setCell (p := ⟨j, i, none⟩) hj u⟩
end Go.Proofs.YtdccjobgfjoflaaGreatDoor
