/- Contracts of the laws' comparisons of values, where both are the same. -/
import Derived.Test.YtfmnjclnhppghaaGreatEQV
import Derived.Deep.RegionHeld3
import Derived.Deep.CutRange
import Derived.Test.YtfmnjclnhppghaaGreatEGRul
import Derived.Test.YtfmnjclnhppghaaGreatEGSz
namespace Go.Proofs.YtfmnjclnhppghaaGreat
open Go Go.RowKit
def zeroVal : List Value := [.int .i64 0, .slice none 0 0, .slice none 0 0]
theorem make_vals (n : Nat) (hn : n ≤ 1073741824) (W : World) : (Instr.makeSlice 27 (.int .i64 (n : Int)) (.int .i64 (n : Int))).run Tryz.prog W = .ok (.slice (some ⟨W.heap.size, 0, none⟩) n n) (W.alloc (.cells (madeCells #[.int .i64 0, .slice none 0 0, .slice none 0 0] (n * 3)) 29)) := by
 obtain ⟨i0, hi, h⟩ := Option.map_eq_some_iff.1 infoVal
 simp only [Prod.mk.injEq] at h
 obtain ⟨hz0, hz1, hz2⟩ := h
 have hr := run_make (P := Tryz.prog) W 27 29 i0 _ Tryz.underlying27 hi hz0 .i64 .i64 (n : Int) (n : Int) (by omega) (by omega) (by rw [hz2]; omega) (by omega)
 rw [hr, hz1]
 simp [Value.cells]
def HalfT (n : Nat) (vs : List ValueV) (k N : Nat) (bls : List (List Nat)) (w W : World) : Prop :=
 Below w.heap.size w W ∧ N < W.heap.size ∧ bls.length = k ∧ (∀ j (h : j < vs.length) (h' : j < bls.length), ∃ cs', OwnT n bls[j] vs[j] cs' W ∧ ∀ i u, cs'[i]? = some u → W.cell? ⟨N, j * 3 + i, none⟩ = some u) ∧
  (∀ c, c < vs.length * 3 → W.frozen? ⟨N, c, none⟩ = false) ∧ (∀ j, k ≤ j → j < vs.length → ∀ i v, zeroVal[i]? = some v → W.cell? ⟨N, j * 3 + i, none⟩ = some v) ∧ bls.flatten.Nodup ∧ ∀ b ∈ bls.flatten, N < b ∧ b < W.heap.size
def ValsOut (n : Nat) (vs : List ValueV) (w : World) (e : Ending) (w' : World) : Prop :=
 ∃ x cp b0 bls, e = .returned (.slice x vs.length cp) ∧ OwnL n b0 bls x vs w' ∧ (b0 ++ bls.flatten).Nodup ∧ (∀ b ∈ b0 ++ bls.flatten, w.heap.size ≤ b) ∧ Below w.heap.size w w'
theorem HalfT.end {n : Nat} {vs : List ValueV} {bls : List (List Nat)} {w W : World} (h : HalfT n vs vs.length w.heap.size bls w W) : ValsOut n vs w (.returned (.slice (some ⟨w.heap.size, 0, none⟩) vs.length vs.length)) W := by
 obtain ⟨h1, h2, hl, ho, hf, hz, hn, hlt⟩ := h
 by_cases hv : vs = []
 ·subst hv
  have : bls = [] := List.eq_nil_of_length_eq_zero (by simpa using hl)
  subst this
  exact ⟨_, _, [], [], rfl, ⟨fun _ => rfl, rfl, fun j hj => by simp at hj⟩, by simp, fun b hb => by simp at hb, h1⟩
 ·refine ⟨_, _, [w.heap.size], bls, rfl, ⟨fun e => absurd e hv, hl, fun j hj hj' => ?_⟩, ?_, fun b hb => ?_, h1⟩
  ·obtain ⟨cs', ho', hc'⟩ := ho j hj hj'
   refine ⟨_, 0, cs', rfl, rfl, ho', fun i u hu => ?_⟩
   have hi3 : i < 3 := by
    have := ho'.length
    rcases Nat.lt_or_ge i 3 with h | h
    ·exact h
    ·rw [List.getElem?_eq_none (by omega)] at hu; cases hu
   rw [Nat.zero_add]
   exact ⟨hc' i u hu, hf _ (by omega)⟩
  ·refine List.nodup_append.2 ⟨by simp, hn, fun a ha b hb e => ?_⟩
   simp at ha
   have := (hlt b hb).1
   omega
  ·rcases List.mem_append.1 hb with hb | hb
   ·simp at hb; omega
   ·have := (hlt b hb).1; omega
end Go.Proofs.YtfmnjclnhppghaaGreat
namespace Go.Proofs.YtfmnjclnhppghaaGreat
open Go Go.ChangeShapes Go.WideShapes Go.ChangeAt Go.RowKit Go.Deep
section
variable {H : Type} {enc : TypeId × Value → H} {W : World}
end
end Go.Proofs.YtfmnjclnhppghaaGreat
