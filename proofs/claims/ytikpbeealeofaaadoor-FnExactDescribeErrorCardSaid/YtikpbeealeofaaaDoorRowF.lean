/- Rows of values of one cell each: what a slice reads, what lies in new memory, what a call touches. No function of the program is named here. -/
import Derived.Test.YtikpbeealeofaaaDoorDraw
import Derived.Deep.AppendLies
import Derived.Deep.OwnRows
namespace Go.Proofs.YtikpbeealeofaaaDoor
open Go Go.RowKit
section
variable {α : Type} {f : α → Value}
/-- The slice at a reads as these values. -/
def RdF (f : α → Value) (a : Option Addr) (xs : List α) (w : World) : Prop := ∀ j (h : j < xs.length), ∃ b off, a = some ⟨b, off, none⟩ ∧ w.cell? ⟨b, off + j, none⟩ = some (f xs[j])
/-- A row that may be written, in a block from B on, holds these values. -/
def FreshF (f : α → Value) (B : Nat) (a : Option Addr) (xs : List α) (w : World) : Prop :=
  xs = [] ∨ ∃ b off, a = some ⟨b, off, none⟩ ∧ B ≤ b ∧ ∀ j (h : j < xs.length), w.cell? ⟨b, off + j, none⟩ = some (f xs[j]) ∧ w.frozen? ⟨b, off + j, none⟩ = false
theorem FreshF.rd {B : Nat} {a : Option Addr} {xs : List α} {w : World} (h : FreshF f B a xs w) : RdF f a xs w := fun j hj => by
  rcases h with rfl | ⟨b, off, ha, _, hc⟩
  · simp at hj
  · exact ⟨b, off, ha, (hc j hj).1⟩
theorem RdF.below {a : Option Addr} {xs : List α} {w w' : World} (h : RdF f a xs w) (hb : Below w.heap.size w w') : RdF f a xs w' := fun j hj => by
  obtain ⟨b, off, ha, hc⟩ := h j hj
  exact ⟨b, off, ha, (hb.cell (cell_lt hc)).trans hc⟩
theorem FreshF.below {B : Nat} {a : Option Addr} {xs : List α} {w w' : World} (h : FreshF f B a xs w) (hb : Below w.heap.size w w') : FreshF f B a xs w' := by
  rcases h with rfl | ⟨b, off, ha, hB, hc⟩
  · exact .inl rfl
  · exact .inr ⟨b, off, ha, hB, fun j hj => ⟨(hb.cell (cell_lt (hc j hj).1)).trans (hc j hj).1, (hb.frozen (p := ⟨b, off + j, none⟩) (cell_lt (hc j hj).1)).trans (hc j hj).2⟩⟩
theorem FreshF.more {B B' : Nat} {a : Option Addr} {xs : List α} {w : World} (h : FreshF f B a xs w) (hB : B' ≤ B) : FreshF f B' a xs w := by
  rcases h with rfl | ⟨b, off, ha, hb, hc⟩
  · exact .inl rfl
  · exact .inr ⟨b, off, ha, Nat.le_trans hB hb, hc⟩
/-- A slice of these values in new memory: where it lies and how much it may hold. -/
def RowF (f : α → Value) (B : Nat) (a : Option Addr) (xs : List α) (cap : Nat) (w : World) : Prop := FreshF f B a xs w ∧ xs.length ≤ cap ∧ (a = none → cap = 0)
theorem RowF.rd {B cap : Nat} {a : Option Addr} {xs : List α} {w : World} (h : RowF f B a xs cap w) : RdF f a xs w := h.1.rd
theorem RowF.below {B cap : Nat} {a : Option Addr} {xs : List α} {w w' : World} (h : RowF f B a xs cap w) (hb : Below w.heap.size w w') : RowF f B a xs cap w' := ⟨h.1.below hb, h.2⟩
theorem RowF.more {B B' cap : Nat} {a : Option Addr} {xs : List α} {w : World} (h : RowF f B a xs cap w) (hB : B' ≤ B) : RowF f B' a xs cap w := ⟨h.1.more hB, h.2⟩
/-- The first values of a row are a row. -/
theorem FreshF.take {B : Nat} {a : Option Addr} {xs : List α} {w : World} (h : FreshF f B a xs w) (n : Nat) : FreshF f B a (xs.take n) w := by
  rcases h with rfl | ⟨b, off, ha, hB, hc⟩
  · exact .inl (by simp)
  · exact .inr ⟨b, off, ha, hB, fun j hj => by
      have hj2 : j < xs.length := by simp at hj; omega
      have := hc j hj2
      rw [List.getElem_take]
      exact this⟩
/-- New values come back in a slice; what was there is as it was. -/
def ListOut (f : α → Value) (xs : List α) (w : World) (e : Ending) (w' : World) : Prop :=
  ∃ a cap, e = .returned (.slice a xs.length cap) ∧ RowF f w.heap.size a xs cap w' ∧ Below w.heap.size w w'
/-- The first k values copied, the rest z. -/
def HalfF (f : α → Value) (z : Value) (xs : List α) (k N : Nat) (w W : World) : Prop :=
  Below w.heap.size w W ∧ ∀ j (h : j < xs.length), W.cell? ⟨N, j, none⟩ = some (if j < k then f xs[j] else z) ∧ W.frozen? ⟨N, j, none⟩ = false
theorem HalfF.next {z : Value} {xs : List α} {k N : Nat} {w W : World} (h : HalfF f z xs k N w W) (hN : w.heap.size ≤ N) (hk : k < xs.length) : HalfF f z xs (k + 1) N w (W.setCell ⟨N, k, none⟩ (f xs[k])) := by
  refine ⟨h.1.setCell (p := ⟨N, k, none⟩) hN _, fun j hj => ⟨?_, by simpa using (h.2 j hj).2⟩⟩
  by_cases e : j = k
  · subst e
    rw [World.cell?_setCell_same _ _ _ (h.2 j hj).1, if_pos (by omega)]
  · rw [World.cell?_setCell_other _ _ _ _ (fun he => e (by have := congrArg Addr.off he; simpa using this.symm)), (h.2 j hj).1]
    by_cases hlt : j < k
    · rw [if_pos hlt, if_pos (by omega)]
    · rw [if_neg hlt, if_neg (by omega)]
theorem HalfF.start (z : Value) (xs : List α) (t : TypeId) (w : World) : HalfF f z xs 0 w.heap.size w (w.alloc (.cells (madeCells #[z] xs.length) t)) := by
  have hr := World.rowIs_made w z xs.length t
  exact ⟨(Below.refl _ _).alloc (Nat.le_refl _) _, fun j hj => ⟨by rw [hr.cell hj, if_neg (by omega)], hr.frozen j⟩⟩
theorem HalfF.end {z : Value} {xs : List α} {w W : World} (h : HalfF f z xs xs.length w.heap.size w W) : FreshF f w.heap.size (some ⟨w.heap.size, 0, none⟩) xs W := by
  refine .inr ⟨w.heap.size, 0, rfl, Nat.le_refl _, fun j hj => ?_⟩
  have := h.2 j hj
  rw [if_pos hj] at this
  simpa using this
theorem takeNext {bs cs : List α} {k : Nat} (h : bs.take k = cs.take k) (hb : k < bs.length) (hc : k < cs.length) (e : bs[k] = cs[k]) : bs.take (k + 1) = cs.take (k + 1) := by
  rw [List.take_succ_eq_append_getElem hb, List.take_succ_eq_append_getElem hc, h, e]
theorem takeNot {bs cs : List α} {k : Nat} (hb : k < bs.length) (hc : k < cs.length) (e : bs[k] ≠ cs[k]) : bs ≠ cs := fun h => e (by subst h; rfl)
end
theorem ret_int {k : IntKind} {x y : Int} (h : x = y) : Ending.returned (.int k x) = .returned (.int k y) := by rw [h]
theorem ret_str {x y : ByteArray} (h : x = y) : Ending.returned (.string x) = .returned (.string y) := by rw [h]
theorem ret_bool {x y : Bool} (h : x = y) : Ending.returned (.bool x) = .returned (.bool y) := by rw [h]
theorem below_drewN {B : Nat} {a w : World} (h : Below B a w) (n : Nat) : Below B a (w.drewN n) := ⟨h.os, h.tape, h.output, h.size, h.block⟩
theorem grown_below {w W W' : World} {row : Option Nat} (hg : w.grownBy W row) (hb : Below W.heap.size W W') : w.grownBy W' row :=
  ⟨hb.os.trans hg.os, hb.tape.trans hg.tape, hb.output.trans hg.output, Nat.le_trans hg.size hb.size, fun k hk hr => (hb.block k (Nat.lt_of_lt_of_le hk hg.size)).trans (hg.block k hk hr)⟩
/-- Only the block of this row has turned, if anything. -/
def Touch (B : Nat) (a : Option Addr) (n : Nat) (w w' : World) : Prop := w' = w ∨ (n ≠ 0 ∧ ∃ b off, a = some ⟨b, off, none⟩ ∧ B ≤ b ∧ w.grownBy w' (some b))
/-- The row lies below block B, if it holds anything. -/
def Old (B : Nat) (a : Option Addr) (n : Nat) : Prop := n = 0 ∨ ∃ b off, a = some ⟨b, off, none⟩ ∧ b < B
theorem Touch.below {B0 B : Nat} {a : Option Addr} {n : Nat} {w0 w w' : World} (ht : Touch B a n w w') (hb : Below B0 w0 w) (hs : B0 ≤ w.heap.size) (hB : B0 ≤ B) : Below B0 w0 w' := by
  rcases ht with rfl | ⟨_, c, off, _, hc, hg⟩
  · exact hb
  · exact hb.grown hg hs fun k hk => by injection hk with hk; omega
theorem Touch.size {B : Nat} {a : Option Addr} {n : Nat} {w w' : World} (ht : Touch B a n w w') : w.heap.size ≤ w'.heap.size := by
  rcases ht with rfl | ⟨_, c, off, _, hc, hg⟩
  · exact Nat.le_refl _
  · exact hg.size
section
variable {α : Type} {f : α → Value}
theorem FreshF.old {B : Nat} {a : Option Addr} {xs : List α} {w : World} (h : FreshF f B a xs w) : Old w.heap.size a xs.length := by
  cases xs with
  | nil => exact .inl rfl
  | cons x r =>
    rcases h with h | ⟨b, off, ha, _, hc⟩
    · cases h
    · exact .inr ⟨b, off, ha, cell_lt (hc 0 (by simp)).1⟩
theorem FreshF.grown {B : Nat} {a : Option Addr} {xs : List α} {w w' : World} {c : Nat} (h : FreshF f B a xs w) (hg : w.grownBy w' (some c)) (hne : ∀ b off, a = some ⟨b, off, none⟩ → xs ≠ [] → b ≠ c) : FreshF f B a xs w' := by
  rcases h with rfl | ⟨b, off, ha, hB, hc⟩
  · exact .inl rfl
  · by_cases hbs : xs = []
    · exact .inl hbs
    · have hb := hne b off ha hbs
      refine .inr ⟨b, off, ha, hB, fun j hj => ⟨hg.cell (hc j hj).1 (by simpa using hb), ?_⟩⟩
      exact (World.frozen?_of_block (a := ⟨b, off + j, none⟩) (hg.block b (cell_lt (hc j hj).1) (by simpa using hb))).trans (hc j hj).2
/-- An older row stays when a newer one is touched. -/
theorem FreshF.keepOld {BX BY : Nat} {aX aY : Option Addr} {xs : List α} {n : Nat} {w w' : World} (h : FreshF f BX aX xs w) (ho : Old BY aX xs.length) (ht : Touch BY aY n w w') : FreshF f BX aX xs w' := by
  rcases ht with rfl | ⟨_, c, off, _, hB, hg⟩
  · exact h
  · refine h.grown hg fun b off ha hbs => ?_
    rcases ho with h0 | ⟨b', off', ha', hlt⟩
    · exact absurd (List.eq_nil_of_length_eq_zero h0) hbs
    · rw [ha] at ha'
      injection ha' with ha'
      injection ha' with h1
      omega
/-- A newer row stays when an older one is touched. -/
theorem FreshF.keepNew {BX BY : Nat} {aX aY : Option Addr} {xs : List α} {n : Nat} {w w' : World} (h : FreshF f BX aX xs w) (ho : Old BX aY n) (ht : Touch BY aY n w w') : FreshF f BX aX xs w' := by
  rcases ht with rfl | ⟨hn, c, off, hc, hB, hg⟩
  · exact h
  · rcases ho with h0 | ⟨b', off', ha', hlt⟩
    · exact absurd h0 hn
    · rw [hc] at ha'
      injection ha' with ha'
      injection ha' with h1
      subst h1
      rcases h with rfl | ⟨b, off2, ha, hBX, hcell⟩
      · exact .inl rfl
      · exact (show FreshF f BX aX xs w from .inr ⟨b, off2, ha, hBX, hcell⟩).grown hg fun b2 off3 ha2 _ => by
          rw [ha] at ha2
          injection ha2 with ha2
          injection ha2 with h2
          omega
theorem RowF.old {B cap : Nat} {a : Option Addr} {xs : List α} {w : World} (h : RowF f B a xs cap w) : Old w.heap.size a xs.length := h.1.old
theorem RowF.keepOld {BX BY cap : Nat} {aX aY : Option Addr} {xs : List α} {n : Nat} {w w' : World} (h : RowF f BX aX xs cap w) (ho : Old BY aX xs.length) (ht : Touch BY aY n w w') : RowF f BX aX xs cap w' := ⟨h.1.keepOld ho ht, h.2⟩
theorem RowF.keepNew {BX BY cap : Nat} {aX aY : Option Addr} {xs : List α} {n : Nat} {w w' : World} (h : RowF f BX aX xs cap w) (ho : Old BX aY n) (ht : Touch BY aY n w w') : RowF f BX aX xs cap w' := ⟨h.1.keepNew ho ht, h.2⟩
/-- A row that a call owns, as a slice of values. -/
theorem own_row {base : Nat} {t : TypeId} {v : Value} {xs : List α} {w : World} (h : w.ownsRow base t 1 v xs.length (xs.map f)) : ∃ a cap, v = .slice a xs.length cap ∧ RowF f base a xs cap w := by
  have h0 := h
  rcases h.2 with ⟨rfl, hn⟩ | ⟨g, cap, cur, rfl, hb, hg, hnc, hcm, hcs, ht⟩
  · have : xs = [] := List.eq_nil_of_length_eq_zero hn
    subst this
    exact ⟨none, 0, rfl, .inl rfl, Nat.le_refl _, fun _ => rfl⟩
  · refine ⟨_, cap, rfl, .inr ⟨g, 0, rfl, hb, fun j hj => ⟨?_, ?_⟩⟩, hnc, fun e => by cases e⟩
    · rw [Nat.zero_add, h0.cellAt j (by omega)]
      simp [hj]
    · rw [Nat.zero_add]; exact h0.frozenAt j
/-- The row that a call owns stays through a change elsewhere below. -/
theorem own_far {base c : Nat} {t : TypeId} {n : Nat} {v : Value} {vs : List Value} {w w' : World} (h : w.ownsRow base t 1 v n vs) (hc : c < base) (hg : w.grownBy w' (some c)) : w'.ownsRow base t 1 v n vs := by
  refine World.ownsRow.kept (w := w) h hg ?_
  cases hv : v.ownBlock with
  | none => exact .inl rfl
  | some g =>
    have := (World.ownsRow.lt (w := w) h g hv).1
    exact .inr (by intro e; injection e with e; omega)
/-- One value more is appended to a row that a call owns. -/
theorem own_push {base : Nat} {t : TypeId} {v v' : Value} {xs : List α} {x : α} {w0 w1 w2 : World} {o : Obj} (ho : w1.ownsRow base t 1 v xs.length (xs.map f)) (hb : Below base w0 w1) (hs : base ≤ w1.heap.size)
    (ho' : w2.ownsRow base t 1 v' (xs.length + 1) (xs.map f ++ [f x])) (hg : (w1.alloc o).grownBy w2 v.ownBlock) :
    w2.ownsRow base t 1 v' (xs ++ [x]).length ((xs ++ [x]).map f) ∧ Below base w0 w2 := by
  refine ⟨by simpa using ho', ?_⟩
  exact (hb.alloc hs o).grown hg (by simp; omega) (fun k hk => (World.ownsRow.lt (w := w1) ho k hk).1)
end
/-- The slice at a reads as these bytes. -/
def Rd (a : Option Addr) (bs : List UInt8) (w : World) : Prop := ∀ j (h : j < bs.length), ∃ b off, a = some ⟨b, off, none⟩ ∧ w.cell? ⟨b, off + j, none⟩ = some (.int .u8 (bs[j].toNat : Int))
theorem Rd.below {a : Option Addr} {bs : List UInt8} {w w' : World} (h : Rd a bs w) (hb : Below w.heap.size w w') : Rd a bs w' := fun j hj => by
  obtain ⟨b, off, ha, hc⟩ := h j hj
  exact ⟨b, off, ha, (hb.cell (cell_lt hc)).trans hc⟩
/-- The cells of a block, from its beginning; they may be written. -/
def CellsAt (b : Nat) (vs : List Value) (w : World) : Prop := ∀ i v, vs[i]? = some v → w.cell? ⟨b, i, none⟩ = some v ∧ w.frozen? ⟨b, i, none⟩ = false
theorem CellsAt.new (w : World) (vs : List Value) (t : TypeId) : CellsAt w.heap.size vs (w.alloc (.cells vs.toArray t)) := fun i v hv => by
  have h1 := World.cell?_alloc_mark w vs.toArray t (0, 0) i
  refine ⟨h1.trans (by simpa using hv), ?_⟩
  simp
theorem CellsAt.below {b : Nat} {vs : List Value} {w w' : World} (h : CellsAt b vs w) (hb : Below w.heap.size w w') : CellsAt b vs w' := fun i v hv => by
  obtain ⟨h1, h2⟩ := h i v hv
  exact ⟨(hb.cell (cell_lt h1)).trans h1, (hb.frozen (p := ⟨b, i, none⟩) (cell_lt h1)).trans h2⟩
theorem CellsAt.set {b : Nat} {vs : List Value} {w : World} (h : CellsAt b vs w) (i : Nat) (v : Value) (hi : i < vs.length) : CellsAt b (vs.set i v) (w.setCell ⟨b, i, none⟩ v) := fun j u hu => by
  rw [List.getElem?_set] at hu
  by_cases e : i = j
  · subst e
    rw [if_pos rfl, if_pos hi] at hu
    injection hu with hu
    subst hu
    obtain ⟨h1, h2⟩ := h i _ (List.getElem?_eq_getElem hi)
    exact ⟨World.cell?_setCell_same _ _ _ h1, by simpa using h2⟩
  · rw [if_neg e] at hu
    obtain ⟨h1, h2⟩ := h j u hu
    exact ⟨(World.cell?_setCell_other _ _ _ _ (fun he => e (by have := congrArg Addr.off he; simpa using this))).trans h1, by simpa using h2⟩
theorem CellsAt.far {b b' j : Nat} {vs : List Value} {w : World} {v : Value} (h : CellsAt b vs w) (hne : b' ≠ b) : CellsAt b vs (w.setCell ⟨b', j, none⟩ v) := fun i u hu => by
  obtain ⟨h1, h2⟩ := h i u hu
  exact ⟨(World.cell?_setCell_other _ _ _ _ (fun he => hne (by have := congrArg Addr.block he; simpa using this))).trans h1, by simpa using h2⟩
end Go.Proofs.YtikpbeealeofaaaDoor
