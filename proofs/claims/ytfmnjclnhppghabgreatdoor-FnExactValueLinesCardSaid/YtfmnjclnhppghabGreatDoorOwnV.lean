/- A value in new memory, and a slice of values that a call builds by append. -/
import Derived.Test.YtfmnjclnhppghabGreatDoorVal
import Derived.Test.YtfmnjclnhppghabGreatDoorGPu
namespace Go.Proofs.YtfmnjclnhppghabGreatDoor
open Go Go.RowKit
/-- Three cells hold this value, at most n levels deep; f holds of every block that it reaches. -/
def OwnV (f : Nat → Prop) : Nat → ValueV → List Value → World → Prop
  | 0, _, _, _ => False
  | n + 1, v, cs, w => ∃ ab cb ai ci, cs = [.int .i64 v.number, .slice ab v.bytes.length cb, .slice ai v.items.length ci] ∧ RdN ab v.bytes cb w ∧ (∀ b off, ab = some ⟨b, off, none⟩ → v.bytes.length ≠ 0 → f b) ∧
      ∀ j (h : j < v.items.length), ∃ b off cs', ai = some ⟨b, off, none⟩ ∧ f b ∧ OwnV f n v.items[j] cs' w ∧ ∀ i u, cs'[i]? = some u → w.cell? ⟨b, off + j * 3 + i, none⟩ = some u
theorem OwnV.is {f : Nat → Prop} : ∀ {n : Nat} {v : ValueV} {cs : List Value} {w : World}, OwnV f n v cs w → IsVal n v cs w
  | 0, _, _, _, h => h
  | n + 1, v, cs, w, h => by
    obtain ⟨ab, cb, ai, ci, e, h1, _, h2⟩ := h
    exact ⟨ab, cb, ai, ci, e, h1, fun j hj => by obtain ⟨b, off, cs', e2, _, h3, h4⟩ := h2 j hj; exact ⟨b, off, cs', e2, h3.is, h4⟩⟩
theorem OwnV.cells {f : Nat → Prop} {n : Nat} {v : ValueV} {cs : List Value} {w : World} (h : OwnV f n v cs w) : ∃ ab cb ai ci, cs = [.int .i64 v.number, .slice ab v.bytes.length cb, .slice ai v.items.length ci] := by
  cases n with
  | zero => exact h.elim
  | succ n => obtain ⟨ab, cb, ai, ci, e, _⟩ := h; exact ⟨ab, cb, ai, ci, e⟩
theorem OwnV.length {f : Nat → Prop} {n : Nat} {v : ValueV} {cs : List Value} {w : World} (h : OwnV f n v cs w) : cs.length = 3 := by
  obtain ⟨ab, cb, ai, ci, rfl⟩ := h.cells
  rfl
theorem OwnV.one {f : Nat → Prop} {n : Nat} {v : ValueV} {cs : List Value} {w : World} (h : OwnV f n v cs w) : ∀ u ∈ cs, u.oneCell' = true := by
  obtain ⟨ab, cb, ai, ci, rfl⟩ := h.cells
  intro u hu
  simp at hu
  rcases hu with rfl | rfl | rfl <;> rfl
/-- What is there stays: only a block has turned that the value does not reach. -/
theorem OwnV.grown {f g : Nat → Prop} : ∀ {n : Nat} {v : ValueV} {cs : List Value} {w w' : World} {row : Option Nat}, OwnV f n v cs w → w.grownBy w' row → (∀ b, b < w.heap.size → f b → g b ∧ some b ≠ row) → OwnV g n v cs w'
  | 0, _, _, _, _, _, h, _, _ => h.elim
  | n + 1, v, cs, w, w', row, h, hg, hf => by
    obtain ⟨ab, cb, ai, ci, e, ⟨h1, h1n⟩, hb, h2⟩ := h
    have hlt : ∀ b off, ab = some ⟨b, off, none⟩ → v.bytes.length ≠ 0 → b < w.heap.size := fun b off ha hn => by
      obtain ⟨b', off', ha', hc⟩ := h1 0 (by omega)
      rw [ha] at ha'
      injection ha' with ha'
      injection ha' with e1
      subst e1
      exact cell_lt hc
    refine ⟨ab, cb, ai, ci, e, ⟨h1.grown hg fun b off ha hn => (hf b (hlt b off ha hn) (hb b off ha hn)).2, h1n⟩, fun b off ha hn => (hf b (hlt b off ha hn) (hb b off ha hn)).1, fun j hj => ?_⟩
    obtain ⟨b, off, cs', e2, hfb, h3, h4⟩ := h2 j hj
    have hbl : b < w.heap.size := by
      have h5 := h3.length
      exact cell_lt (h4 0 cs'[0] (by rw [List.getElem?_eq_getElem (by omega)]))
    exact ⟨b, off, cs', e2, (hf b hbl hfb).1, h3.grown hg hf, fun i u hi => hg.cell (h4 i u hi) (hf b hbl hfb).2⟩
theorem OwnV.below {f g : Nat → Prop} {n : Nat} {v : ValueV} {cs : List Value} {w w' : World} (h : OwnV f n v cs w) (hb : Below w.heap.size w w') (hf : ∀ b, b < w.heap.size → f b → g b) : OwnV g n v cs w' :=
  h.grown (row := none) ⟨hb.os, hb.tape, hb.output, hb.size, fun k hk _ => hb.block k hk⟩ (fun b hl h => ⟨hf b hl h, by simp⟩)
theorem OwnV.mono {f g : Nat → Prop} {n : Nat} {v : ValueV} {cs : List Value} {w : World} (h : OwnV f n v cs w) (hf : ∀ b, b < w.heap.size → f b → g b) : OwnV g n v cs w := h.below (Below.refl _ _) hf
/-- A value is also one of a greater height. -/
theorem OwnV.up {f : Nat → Prop} : ∀ {n : Nat} {v : ValueV} {cs : List Value} {w : World} {m : Nat}, OwnV f n v cs w → n ≤ m → OwnV f m v cs w
  | 0, _, _, _, _, h, _ => h.elim
  | n + 1, v, cs, w, m, h, hm => by
    obtain ⟨m, rfl⟩ : ∃ m', m = m' + 1 := ⟨m - 1, by omega⟩
    obtain ⟨ab, cb, ai, ci, e, h1, hb, h2⟩ := h
    exact ⟨ab, cb, ai, ci, e, h1, hb, fun j hj => by obtain ⟨b, off, cs', e2, hfb, h3, h4⟩ := h2 j hj; exact ⟨b, off, cs', e2, hfb, h3.up (by omega), h4⟩⟩
/-- A slice of values that the call owns. -/
def RowV (n base : Nat) (v : Value) (vs : List ValueV) (w : World) : Prop :=
  ∃ css : List (List Value), css.length = vs.length ∧ w.ownsRow base 39 3 v vs.length css.flatten ∧
    ∀ j (h : j < vs.length) (h' : j < css.length), OwnV (fun b => base ≤ b ∧ some b ≠ v.ownBlock) n vs[j] css[j] w
theorem RowV.start (n base : Nat) (w : World) : RowV n base (.slice none 0 0) [] w := ⟨[], rfl, ⟨rfl, .inl ⟨rfl, rfl⟩⟩, fun j h => by simp at h⟩
theorem flat3_at {css : List (List Value)} (h3 : ∀ cs ∈ css, cs.length = 3) : ∀ (j i : Nat) (hj : j < css.length), i < 3 → css.flatten[j * 3 + i]? = css[j][i]? := by
  induction css with
  | nil => intro j i hj; simp at hj
  | cons cs css ih =>
    intro j i hj hi
    have hl := h3 cs (by simp)
    cases j with
    | zero => rw [List.flatten_cons, List.getElem?_append_left (by omega)]; simp
    | succ j =>
      rw [List.flatten_cons, List.getElem?_append_right (by omega), hl, show (j + 1) * 3 + i - 3 = j * 3 + i from by omega]
      exact ih (fun c hc => h3 c (by simp [hc])) j i (by simpa using hj) hi
theorem RowV.own {n base : Nat} {v : Value} {vs : List ValueV} {w : World} (h : RowV n base v vs w) : ∀ g, v.ownBlock = some g → base ≤ g ∧ g < w.heap.size := fun g hg => by
  obtain ⟨css, hl, ho, hr⟩ := h
  exact World.ownsRow.lt (w := w) ho g hg
theorem RowV.slice {n base : Nat} {v : Value} {vs : List ValueV} {w : World} (h : RowV n base v vs w) : ∃ a cap, v = .slice a vs.length cap := by
  obtain ⟨css, hl, ho, hr⟩ := h
  rcases ho.2 with ⟨rfl, hn⟩ | ⟨g, cap, cur, rfl, _⟩
  · exact ⟨none, 0, by rw [hn]⟩
  · exact ⟨_, cap, rfl⟩
/-- The items of a value, out of the row that was built. -/
theorem RowV.items {n base : Nat} {v : Value} {vs : List ValueV} {w : World} (h : RowV n base v vs w) : ∃ a cap, v = .slice a vs.length cap ∧ ∀ j (h : j < vs.length), ∃ b off cs', a = some ⟨b, off, none⟩ ∧ base ≤ b ∧ OwnV (fun b => base ≤ b) n vs[j] cs' w ∧ ∀ i u, cs'[i]? = some u → w.cell? ⟨b, off + j * 3 + i, none⟩ = some u := by
  obtain ⟨css, hl, ho, hr⟩ := h
  have h3 : ∀ cs ∈ css, cs.length = 3 := fun cs hc => by
    obtain ⟨j, hj, rfl⟩ := List.getElem_of_mem hc
    exact (hr j (by omega) hj).length
  have h0 := ho
  rcases ho.2 with ⟨rfl, hn⟩ | ⟨g, cap, cur, rfl, hb, hg, hnc, hcm, hcs, ht⟩
  · have : vs = [] := List.eq_nil_of_length_eq_zero hn
    subst this
    exact ⟨none, 0, rfl, fun j hj => by simp at hj⟩
  · refine ⟨_, cap, rfl, fun j hj => ?_⟩
    have hj' : j < css.length := by omega
    refine ⟨g, 0, css[j], rfl, hb, (hr j hj hj').mono (fun b _ h => h.1), fun i u hu => ?_⟩
    have hi : i < 3 := by
      have := h3 _ (List.getElem_mem hj')
      rcases Nat.lt_or_ge i 3 with h | h
      · exact h
      · rw [List.getElem?_eq_none (by omega)] at hu; cases hu
    rw [Nat.zero_add, h0.cellAt (j * 3 + i) (by
      have : (j + 1) * 3 ≤ vs.length * 3 := Nat.mul_le_mul_right 3 (by omega)
      omega), flat3_at h3 j i hj' hi]
    exact hu
theorem RowV.grown {n base : Nat} {v : Value} {vs : List ValueV} {w w' : World} {row : Option Nat} (h : RowV n base v vs w) (hg : w.grownBy w' row) (hc : ∀ k, row = some k → k < base ∨ w.heap.size ≤ k) : RowV n base v vs w' := by
  obtain ⟨css, hl, ho, hr⟩ := h
  refine ⟨css, hl, World.ownsRow.kept (w := w) ho hg ?_, fun j h1 h2 => (hr j h1 h2).grown hg fun b hbl hb => ⟨hb, fun e => by have := hc b e.symm; omega⟩⟩
  cases hv : v.ownBlock with
  | none => exact .inl rfl
  | some g =>
    have := (World.ownsRow.lt (w := w) ho g hv)
    exact .inr (fun e => by have := hc g e.symm; omega)
theorem RowV.below {n base : Nat} {v : Value} {vs : List ValueV} {w w' : World} (h : RowV n base v vs w) (hb : Below w.heap.size w w') : RowV n base v vs w' :=
  h.grown (row := none) ⟨hb.os, hb.tape, hb.output, hb.size, fun k hk _ => hb.block k hk⟩ (fun k e => by cases e)
theorem infoVal : (Tryz.prog.info? 39).map (fun i => (i.zero, i.size, i.bytes)) = some (some (.agg #[.int .i64 0, .slice none 0 0, .slice none 0 0]), 3, 56) := by kernel_rfl
/-- One value more. -/
theorem run_pushV (ty : TypeId) (n base : Nat) (v : Value) (vs : List ValueV) (x : ValueV) (cs : List Value) (w : World) (hrow : RowV n base v vs w) (hx : OwnV (fun b => base ≤ b ∧ some b ≠ v.ownBlock) n x cs w) (hl : vs.length ≤ 1048576) (hbase : base ≤ w.heap.size) :
    ∃ v' w', (Builtin.append_ #[37, 37] ty #[v, .slice (some ⟨w.heap.size, 0, none⟩) 1 1]).run Tryz.prog (w.alloc (.cells cs.toArray 39)) = .ok v' w' ∧ RowV n base v' (vs ++ [x]) w' ∧ w.grownBy w' v.ownBlock ∧
      (v'.ownBlock = v.ownBlock ∨ ∃ g, v'.ownBlock = some g ∧ w.heap.size ≤ g) := by
  obtain ⟨css, hcl, ho, hrs⟩ := hrow
  obtain ⟨i, hi, h⟩ := Option.map_eq_some_iff.1 infoVal
  simp only [Prod.mk.injEq] at h
  obtain ⟨hz, hsz, hby⟩ := h
  have h3 := hx.length
  obtain ⟨v', w', hrun, ho', hg, hw⟩ := run_append_where (P := Tryz.prog) (w.alloc (.cells cs.toArray 39)) base 37 ty 39 i _ 3 56 Tryz.underlying37 hi hz hsz hby rfl (by omega) v vs.length css.flatten (World.ownsRow.alloc ho _) ⟨w.heap.size, 0, none⟩ 1 1 cs (by omega)
    (fun j u hj => by
      rw [Addr.add_lit, Nat.zero_add]
      refine (World.cell?_alloc_mark w cs.toArray _ (0, 0) j).trans ?_
      simpa using hj)
    hx.one (by omega) (by unfold maxLen; omega) (by omega) (by simp; omega)
  have hgw : w.grownBy w' v.ownBlock := Lib.grownBy_trans (World.grownBy_alloc w _ _) hg
  have hown' : v'.ownBlock = v.ownBlock ∨ ∃ g, v'.ownBlock = some g ∧ w.heap.size ≤ g := by
    rcases hw with h | h
    · exact .inl h
    · exact .inr ⟨_, h, by simp⟩
  have hblk : ∀ b, b < w.heap.size → some b ≠ v.ownBlock → some b ≠ v'.ownBlock := fun b hb hn => by
    rcases hown' with h | ⟨g, h, hg⟩
    · rw [h]; exact hn
    · rw [h]; intro e; injection e with e; omega
  refine ⟨v', w', hrun, ⟨css ++ [cs], by simp [hcl], by simpa using ho', fun j h1 h2 => ?_⟩, hgw, hown'⟩
  by_cases hj : j < vs.length
  · have hj2 : j < css.length := by omega
    rw [List.getElem_append_left hj, List.getElem_append_left hj2]
    exact (hrs j hj hj2).grown hgw fun b hb h => ⟨⟨h.1, hblk b hb h.2⟩, h.2⟩
  · have e1 : j = vs.length := by simp at h1; omega
    have a1 : (vs ++ [x])[j] = x := by subst e1; simp
    have a2 : (css ++ [cs])[j] = cs := by
      have e2 : j = css.length := by omega
      subst e2; simp
    rw [a1, a2]
    exact hx.grown hgw fun b hb h => ⟨⟨h.1, hblk b hb h.2⟩, h.2⟩
/-- .. as a step of a region that draws its order. -/
theorem step_pushV {ops : Array Oper} {o : Oper} {A : Act} {K : Act → World → Prop} {Q : Exit → Act → World → Prop} {E : Prop} (hgd : o.guard = none) (s x : Operand)
    (ho : o.op = .call { callee := .builtin .append, args := #[s, x], argTypes := #[37, 37] })
    (n base : Nat) (v : Value) (vs : List ValueV) (y : ValueV) (cs : List Value) (w : World) (hsv : A.eval s = v) (hxv : A.eval x = .slice (some ⟨w.heap.size, 0, none⟩) 1 1)
    (hrow : RowV n base v vs w) (hy : OwnV (fun b => base ≤ b ∧ some b ≠ v.ownBlock) n y cs w) (hl : vs.length ≤ 1048576) (hbase : base ≤ w.heap.size)
    (h : ∀ v' w', RowV n base v' (vs ++ [y]) w' → w.grownBy w' v.ownBlock → K (A.put o.dst v') w') :
    if Region.wanted o (yielded ops A.tmps) = true then Oper.wp Tryz.prog o A (w.alloc (.cells cs.toArray 39)) K Q else E := by
  have hw : Region.wanted o (yielded ops A.tmps) = true := by simp [Region.wanted, hgd]
  rw [if_pos hw]
  obtain ⟨v', w', hrun, h2, h3, _⟩ := run_pushV o.type n base v vs y cs w hrow hy hl hbase
  unfold Oper.wp
  simp [execOp, ho, resolve, invoke, builtin, hsv, hxv, hrun, Result.andThen]
  exact h v' w' h2 h3
end Go.Proofs.YtfmnjclnhppghabGreatDoor
