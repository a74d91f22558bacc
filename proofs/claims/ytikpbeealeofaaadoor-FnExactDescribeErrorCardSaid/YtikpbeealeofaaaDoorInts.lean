/- Contracts of the laws' helpers on slices of ints: copying, comparing, marking, looking for the marks, the size. -/
import Derived.Test.YtikpbeealeofaaaDoorRowF
namespace Go.Proofs.YtikpbeealeofaaaDoor
open Go Go.RowKit
theorem infoInt : (Tryd.prog.info? 3).map (fun i => (i.zero, i.size, i.bytes)) = some (some (.int .i64 0), 1, 8) := by kernel_rfl
theorem infoPartsI : ∃ i, Tryd.prog.info? 3 = some i ∧ i.zero = some (.int .i64 0) ∧ i.size = 1 ∧ i.bytes = 8 := by
  obtain ⟨i, hi, h⟩ := Option.map_eq_some_iff.1 infoInt
  simp only [Prod.mk.injEq] at h
  exact ⟨i, hi, h.1, h.2.1, h.2.2⟩
abbrev RdI := RdF (Value.int .i64)
abbrev RowI := RowF (Value.int .i64)
abbrev IntsOut := ListOut (Value.int .i64)
/-- Whether two slices hold the same ints; only draws. -/
def EqOutI (bs cs : List Int) (w : World) (e : Ending) (w' : World) : Prop := e = .returned (.bool (decide (bs = cs))) ∧ ∃ n, w' = w.drewN n
/-- The marks k, k + 1, .. as ints. -/
def marksI (k n : Nat) : List Int := (List.range n).map fun j => ((k + j : Nat) : Int)
theorem marksI_length (k n : Nat) : (marksI k n).length = n := by simp [marksI]
theorem marksI_at (k n j : Nat) (h : j < (marksI k n).length) : (marksI k n)[j] = ((k + j : Nat) : Int) := by simp [marksI]
/-- The first i cells are marked. -/
def MarkedI (b off n k i : Nat) (w W : World) : Prop :=
  w.grownBy W (some b) ∧ ∀ j, j < n → (∃ x : Int, W.cell? ⟨b, off + j, none⟩ = some (.int .i64 x) ∧ (j < i → x = ((k + j : Nat) : Int))) ∧ W.frozen? ⟨b, off + j, none⟩ = false
theorem MarkedI.next {b off n k i : Nat} {w W : World} (h : MarkedI b off n k i w W) (hi : i < n) : MarkedI b off n k (i + 1) w (W.setCell ⟨b, off + i, none⟩ (.int .i64 ((k + i : Nat) : Int))) := by
  refine ⟨grown_set h.1 (off + i) _, fun j hj => ⟨?_, by simpa using (h.2 j hj).2⟩⟩
  obtain ⟨⟨x, hx, hxi⟩, _⟩ := h.2 j hj
  by_cases e : j = i
  · subst e
    exact ⟨_, World.cell?_setCell_same _ _ _ hx, fun _ => rfl⟩
  · refine ⟨x, (World.cell?_setCell_other _ _ _ _ (fun he => e (by have := congrArg Addr.off he; simp at this; omega))).trans hx, fun hlt => hxi (by omega)⟩
/-- A row is marked: only its block has turned. -/
def MarkOutI (B : Nat) (a : Option Addr) (n cap k : Nat) (w : World) (e : Ending) (w' : World) : Prop :=
  e = .returned (.int .i64 ((k + n : Nat) : Int)) ∧ RowI B a (marksI k n) cap w' ∧ Touch B a n w w'
end Go.Proofs.YtikpbeealeofaaaDoor
