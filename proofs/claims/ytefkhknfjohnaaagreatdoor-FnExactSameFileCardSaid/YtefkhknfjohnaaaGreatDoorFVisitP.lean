/- Lists of pointers to parts of values, and what a visit of each does. No function of the program is walked here. -/
import Derived.Test.YtefkhknfjohnaaaGreatDoorFCnt
import Derived.Test.YtefkhknfjohnaaaGreatDoorFGPu
import Derived.WalkSmall
import Derived.Deep.AppendLies
namespace Go.Proofs.YtefkhknfjohnaaaGreatDoor
open Go Go.RowKit
/-- A part: where it lies, and what it holds. -/
abbrev Node := Nat × Nat × ValueV
def ptrN (p : Node) : Value := .pointer (some ⟨p.1, p.2.1, none⟩)
/-- The items of a part as parts. -/
def kidsAt (b : Nat) : Nat → List ValueV → List Node
  | _, [] => []
  | o, v :: vs => (b, o, v) :: kidsAt b (o + 3) vs
theorem kidsAt_length : ∀ (b o : Nat) (vs : List ValueV), (kidsAt b o vs).length = vs.length
  | _, _, [] => rfl
  | b, o, v :: vs => by rw [kidsAt, List.length_cons, List.length_cons, kidsAt_length]
theorem kidsAt_at : ∀ (b o : Nat) (vs : List ValueV) (j : Nat) (h : j < vs.length), (kidsAt b o vs)[j]? = some (b, o + j * 3, vs[j])
  | _, _, [], _, h => by simp at h
  | b, o, v :: vs, 0, _ => by simp [kidsAt]
  | b, o, v :: vs, j + 1, h => by
    rw [kidsAt, List.getElem?_cons_succ, kidsAt_at b (o + 3) vs j (by simpa using h), show o + 3 + j * 3 = o + (j + 1) * 3 from by omega]
    rfl
theorem kidsAt_mem {b o : Nat} {vs : List ValueV} {p : Node} (h : p ∈ kidsAt b o vs) : ∃ (j : Nat) (hj : j < vs.length), p = (b, o + j * 3, vs[j]) := by
  obtain ⟨j, hj, rfl⟩ := List.getElem_of_mem h
  have hj2 : j < vs.length := by rw [kidsAt_length] at hj; exact hj
  refine ⟨j, hj2, ?_⟩
  have := kidsAt_at b o vs j hj2
  rw [List.getElem?_eq_getElem hj] at this
  injection this
/-- How many parts are still to come. -/
def cntP : List Node → Nat
  | [] => 0
  | p :: ps => cntV p.2.2 + cntP ps
theorem cntP_append : ∀ (ps qs : List Node), cntP (ps ++ qs) = cntP ps + cntP qs
  | [], qs => by simp [cntP]
  | p :: ps, qs => by rw [List.cons_append, cntP, cntP, cntP_append ps qs]; omega
theorem cntP_kids : ∀ (b o : Nat) (vs : List ValueV), cntP (kidsAt b o vs) = cntL vs
  | _, _, [] => rfl
  | b, o, v :: vs => by rw [kidsAt, cntP, cntL, cntP_kids]
theorem cntP_len : ∀ (ps : List Node), ps.length ≤ cntP ps
  | [] => by simp
  | p :: ps => by
    have h1 := cntP_len ps
    have h2 := cnt_pos p.2.2
    rw [List.length_cons, cntP]
    omega
/-- After a part has been visited its items are still to come. -/
theorem cntP_step (ps : List Node) (b o b' o' : Nat) (v : ValueV) : cntP (ps ++ kidsAt b' o' v.items) + 1 = cntP (ps ++ [(b, o, v)]) := by
  rw [cntP_append, cntP_append, cntP_kids]
  have := cntV_eq v
  simp only [cntP]
  omega
end Go.Proofs.YtefkhknfjohnaaaGreatDoor
