/- Lists of pointers to parts of values, and what a visit of each does. No function of the program is walked here. -/
import Derived.Test.YtefkhknfjohnaaaCnt
import Derived.Test.YtefkhknfjohnaaaGPu
import Derived.WalkSmall
import Derived.Deep.AppendLies
namespace Go.Proofs.Ytefkhknfjohnaaa
open Go Go.RowKit
/-- A part: where it lies, and what it holds. -/
abbrev Node := Nat × Nat × ValueV
def ptrN (p : Node) : Value := .pointer (some ⟨p.1, p.2.1, none⟩)
/-- The items of a part as parts. -/
def kidsAt (b : Nat) : Nat → List ValueV → List Node
  | _, [] => []
  | o, v :: vs => (b, o, v) :: kidsAt b (o + 3) vs
theorem kidsAt_length : ∀ (b o : Nat) (vs : List ValueV), (kidsAt b o vs).length = vs.length
  | _, _, [] => rfl
  | b, o, v :: vs => by rw [kidsAt, List.length_cons, List.length_cons, kidsAt_length]
theorem kidsAt_at : ∀ (b o : Nat) (vs : List ValueV) (j : Nat) (h : j < vs.length), (kidsAt b o vs)[j]? = some (b, o + j * 3, vs[j])
  | _, _, [], _, h => by simp at h
  | b, o, v :: vs, 0, _ => by simp [kidsAt]
  | b, o, v :: vs, j + 1, h => by
    rw [kidsAt, List.getElem?_cons_succ, kidsAt_at b (o + 3) vs j (by simpa using h), show o + 3 + j * 3 = o + (j + 1) * 3 from by omega]
    rfl
theorem kidsAt_next (b o : Nat) (vs : List ValueV) (j : Nat) (h : j < vs.length) : (kidsAt b o vs).take (j + 1) = (kidsAt b o vs).take j ++ [(b, o + j * 3, vs[j])] := by
  rw [List.take_add_one, kidsAt_at b o vs j h]
  rfl
theorem kidsAt_all (b o : Nat) (vs : List ValueV) : (kidsAt b o vs).take vs.length = kidsAt b o vs := List.take_of_length_le (by rw [kidsAt_length]; exact Nat.le_refl _)
theorem kidsAt_mem {b o : Nat} {vs : List ValueV} {p : Node} (h : p ∈ kidsAt b o vs) : ∃ (j : Nat) (hj : j < vs.length), p = (b, o + j * 3, vs[j]) := by
  obtain ⟨j, hj, rfl⟩ := List.getElem_of_mem h
  have hj2 : j < vs.length := by rw [kidsAt_length] at hj; exact hj
  refine ⟨j, hj2, ?_⟩
  have := kidsAt_at b o vs j hj2
  rw [List.getElem?_eq_getElem hj] at this
  injection this
/-- How many parts are still to come. -/
def cntP : List Node → Nat
  | [] => 0
  | p :: ps => cntV p.2.2 + cntP ps
theorem cntP_append : ∀ (ps qs : List Node), cntP (ps ++ qs) = cntP ps + cntP qs
  | [], qs => by simp [cntP]
  | p :: ps, qs => by rw [List.cons_append, cntP, cntP, cntP_append ps qs]; omega
theorem cntP_kids : ∀ (b o : Nat) (vs : List ValueV), cntP (kidsAt b o vs) = cntL vs
  | _, _, [] => rfl
  | b, o, v :: vs => by rw [kidsAt, cntP, cntL, cntP_kids]
theorem cntP_len : ∀ (ps : List Node), ps.length ≤ cntP ps
  | [] => by simp
  | p :: ps => by
    have h1 := cntP_len ps
    have h2 := cnt_pos p.2.2
    rw [List.length_cons, cntP]
    omega
/-- After a part has been visited its items are still to come. -/
theorem cntP_step (ps : List Node) (b o b' o' : Nat) (v : ValueV) : cntP (ps ++ kidsAt b' o' v.items) + 1 = cntP (ps ++ [(b, o, v)]) := by
  rw [cntP_append, cntP_append, cntP_kids]
  have := cntV_eq v
  simp only [cntP]
  omega
/-- The row of pointers. -/
def PtrRow (base : Nat) (q : Value) (ps : List Node) (w : World) : Prop := w.ownsRow base 67 1 q ps.length (ps.map ptrN)
theorem PtrRow.only {base : Nat} {q : Value} {ps : List Node} {w w' : World} {bl : List Nat} (h : PtrRow base q ps w) (hg : Only bl w w') (hn : ∀ k, q.ownBlock = some k → k ∉ bl) : PtrRow base q ps w' := by
  obtain ⟨h1, h2⟩ := h
  refine ⟨h1, ?_⟩
  rcases h2 with h2 | ⟨g, cap, cur, rfl, hb, hh, hr⟩
  · exact .inl h2
  · have hlt : g < w.heap.size := by
      rcases Nat.lt_or_ge g w.heap.size with h | h
      · exact h
      · rw [Array.getElem?_eq_none (by omega)] at hh; cases hh
    exact .inr ⟨g, cap, cur, rfl, hb, (hg.block g hlt (hn g rfl)).trans hh, hr⟩
theorem PtrRow.pop {base : Nat} {g np cap : Nat} {ps : List Node} {p : Node} {w : World} (hn : np = ps.length) (h : PtrRow base (.slice (some ⟨g, 0, none⟩) (np + 1) cap) (ps ++ [p]) w) :
    PtrRow base (.slice (some ⟨g, 0, none⟩) np cap) ps w ∧ w.cell? ⟨g, np, none⟩ = some (ptrN p) ∧ np + 1 ≤ cap ∧ base ≤ g ∧ g < w.heap.size := by
  unfold PtrRow at h
  rw [List.length_append, List.length_singleton, List.map_append, ← hn] at h
  have hc := World.ownsRow.cellAt h np (by omega)
  rw [List.getElem?_append_right (by simp [hn])] at hc
  simp [hn] at hc
  refine ⟨?_, by rw [hn]; exact hc, ?_⟩
  · unfold PtrRow
    rw [← hn]
    exact ownsRow_pop (by simp [hn]) h
  · rcases h.2 with ⟨h0, _⟩ | ⟨g', cap', cur, hv, hb, hh, hc2, _⟩
    · cases h0
    · cases hv
      refine ⟨hc2, hb, ?_⟩
      rcases Nat.lt_or_ge g w.heap.size with h | h
      · exact h
      · rw [Array.getElem?_eq_none (by omega)] at hh; cases hh
theorem PtrRow.form {base : Nat} {q : Value} {ps : List Node} {w : World} (h : PtrRow base q ps w) : ∃ a cap, q = .slice a ps.length cap ∧ (0 < ps.length → ∃ g, a = some ⟨g, 0, none⟩) := by
  rcases h.2 with ⟨rfl, hn⟩ | ⟨g, cap, cur, rfl, _⟩
  · exact ⟨none, 0, by rw [hn], fun h => by omega⟩
  · exact ⟨_, cap, rfl, fun _ => ⟨g, rfl⟩⟩
theorem PtrRow.start (base b o : Nat) (v : ValueV) (w : World) (hb : base ≤ w.heap.size) : PtrRow base (.slice (some ⟨w.heap.size, 0, none⟩) 1 1) [(b, o, v)] (w.alloc (.cells #[.pointer (some ⟨b, o, none⟩)] 67)) :=
  ⟨rfl, .inr ⟨w.heap.size, 1, #[.pointer (some ⟨b, o, none⟩)], rfl, hb, heap_alloc_new w _, Nat.le_refl _, by unfold maxLen; omega, rfl, rfl⟩⟩
theorem infoPtr : (Try.prog.info? 67).map (fun i => (i.zero, i.size, i.bytes)) = some (some (.pointer none), 1, 8) := by kernel_rfl
/-- What a relation over the parts that are still to come has to keep: it lives in the blocks bt. -/
structure Keeps (base : Nat) (I : List Nat → List Node → World → Prop) : Prop where
  stay : ∀ bt ps w w' row, I bt ps w → w.grownBy w' row → (∀ k, row = some k → k ∉ bt ∧ base ≤ k) → I bt ps w'
  lt : ∀ bt ps w, I bt ps w → ∀ b ∈ bt, b < w.heap.size
/-- What a visit does: the part's items are still to come behind the others. -/
def Visited (base : Nat) (I : List Nat → List Node → World → Prop) (bt : List Nat) (ps : List Node) (b o : Nat) (v : ValueV) (w : World) (e : Ending) (w' : World) : Prop :=
  e = .returned (.tuple #[]) ∧ ∃ bt' ai ci b' o', Only bt w w' ∧ (∀ x ∈ bt', x ∈ bt ∨ w.heap.size ≤ x) ∧ (b ∈ bt' ∨ b < base) ∧ b < w'.heap.size ∧ w'.cell? ⟨b, o + 2, none⟩ = some (.slice ai v.items.length ci) ∧ (v.items ≠ [] → ai = some ⟨b', o', none⟩) ∧ I bt' (ps ++ kidsAt b' o' v.items) w'
end Go.Proofs.Ytefkhknfjohnaaa
