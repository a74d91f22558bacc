/- A description in new memory while it is marked: what stays and what turns. No function of the program is named here. -/
import Derived.Test.YtpeldhediaodjaaRuleTo
import Derived.Test.YtpeldhediaodjaaRowR
namespace Go.Proofs.Ytpeldhediaodjaa
open Go Go.RowKit
/-- Only blocks from lo on and below hi may have turned. -/
structure Apart (lo hi : Nat) (w w' : World) : Prop where
  os : w'.os = w.os
  tape : w'.tape = w.tape
  output : w'.output = w.output
  size : w.heap.size ≤ w'.heap.size
  block : ∀ k, k < w.heap.size → (k < lo ∨ hi ≤ k) → w'.heap[k]? = w.heap[k]?
theorem Apart.refl (lo hi : Nat) (w : World) : Apart lo hi w w := ⟨rfl, rfl, rfl, Nat.le_refl _, fun _ _ _ => rfl⟩
theorem Apart.trans {lo hi : Nat} {a b c : World} (h : Apart lo hi a b) (k : Apart lo hi b c) : Apart lo hi a c :=
  ⟨k.os.trans h.os, k.tape.trans h.tape, k.output.trans h.output, Nat.le_trans h.size k.size, fun i hi ho => (k.block i (Nat.lt_of_lt_of_le hi h.size) ho).trans (h.block i hi ho)⟩
theorem Apart.ofBelow {lo hi : Nat} {w w' : World} (h : Below w.heap.size w w') : Apart lo hi w w' := ⟨h.os, h.tape, h.output, h.size, fun k hk _ => h.block k hk⟩
theorem Apart.ofGrown {lo hi c : Nat} {w w' : World} (h : w.grownBy w' (some c)) (h1 : lo ≤ c) (h2 : c < hi) : Apart lo hi w w' :=
  ⟨h.os, h.tape, h.output, h.size, fun k hk ho => h.block k hk (by intro e; injection e with e; omega)⟩
theorem Apart.toBelow {lo hi B : Nat} {w w' : World} (h : Apart lo hi w w') (hB : B ≤ lo) (hs : B ≤ w.heap.size) : Below B w w' := ⟨h.os, h.tape, h.output, h.size, fun k hk => h.block k (by omega) (.inl (by omega))⟩
theorem Apart.cell {lo hi : Nat} {w w' : World} (h : Apart lo hi w w') {q : Addr} {v : Value} (hc : w.cell? q = some v) (ho : q.block < lo ∨ hi ≤ q.block) : w'.cell? q = some v := (World.cell?_of_block (h.block q.block (cell_lt hc) ho)).trans hc
theorem CellsAt.apart {lo hi b : Nat} {vs : List Value} {w w' : World} (h : CellsAt b vs w) (ha : Apart lo hi w w') (ho : b < lo ∨ hi ≤ b) : CellsAt b vs w' := fun i v hv => by
  obtain ⟨q1, q2⟩ := h i v hv
  exact ⟨ha.cell q1 ho, (World.frozen?_of_block (a := ⟨b, i, none⟩) (ha.block b (cell_lt q1) ho)).trans q2⟩
theorem Fresh.apart {lo hi B : Nat} {a : Option Addr} {xs : List UInt8} {w w' : World} (h : Fresh B a xs w) (ha : Apart lo hi w w') (ho : ∀ b off, a = some ⟨b, off, none⟩ → xs ≠ [] → b < lo ∨ hi ≤ b) : Fresh B a xs w' := by
  rcases h with rfl | ⟨b, off, rfl, hB, hc⟩
  · exact .inl rfl
  · by_cases hx : xs = []
    · exact .inl hx
    · have hb := ho b off rfl hx
      exact .inr ⟨b, off, rfl, hB, fun j hj => ⟨ha.cell (hc j hj).1 hb, (World.frozen?_of_block (a := ⟨b, off + j, none⟩) (ha.block b (cell_lt (hc j hj).1) hb)).trans (hc j hj).2⟩⟩
theorem FreshF.apart {α : Type} {f : α → Value} {lo hi B : Nat} {a : Option Addr} {xs : List α} {w w' : World} (h : FreshF f B a xs w) (ha : Apart lo hi w w') (ho : ∀ b off, a = some ⟨b, off, none⟩ → xs ≠ [] → b < lo ∨ hi ≤ b) : FreshF f B a xs w' := by
  rcases h with rfl | ⟨b, off, rfl, hB, hc⟩
  · exact .inl rfl
  · by_cases hx : xs = []
    · exact .inl hx
    · have hb := ho b off rfl hx
      exact .inr ⟨b, off, rfl, hB, fun j hj => ⟨ha.cell (hc j hj).1 hb, (World.frozen?_of_block (a := ⟨b, off + j, none⟩) (ha.block b (cell_lt (hc j hj).1) hb)).trans (hc j hj).2⟩⟩
theorem len_ne {α : Type} {xs : List α} (h : xs ≠ []) : xs.length ≠ 0 := fun e => h (List.eq_nil_of_length_eq_zero e)
theorem OwnRule.apart {lo hi lo2 hi2 : Nat} {r : RuleV} {cs : List Value} {w w' : World} (h : OwnRule lo2 hi2 r cs w) (ha : Apart lo hi w w') (ho : hi2 ≤ lo ∨ hi ≤ lo2) : OwnRule lo2 hi2 r cs w' := by
  obtain ⟨a4, c4, a5, c5, a6, c6, a7, c7, rfl, h4, h5, h6, h7, hnd, hrg⟩ := h
  have hout : ∀ v ∈ ([.slice a4 r.bytes.length c4, .slice a5 r.names.length c5, .slice a6 r.tags.length c6, .slice a7 r.kids.length c7] : List Value), ∀ b ∈ sliceBlk v, b < lo ∨ hi ≤ b := fun v hv b hb => by
    have := hrg b (List.mem_flatMap.2 ⟨v, List.mem_cons_of_mem _ (List.mem_cons_of_mem _ (List.mem_cons_of_mem _ (List.mem_cons_of_mem _ hv))), hb⟩)
    omega
  exact ⟨a4, c4, a5, c5, a6, c6, a7, c7, rfl,
    ⟨h4.1.apart ha fun b off e hx => hout (.slice a4 r.bytes.length c4) (by simp) b (by subst e; exact blk_of (len_ne hx)), h4.2⟩,
    ⟨h5.1.apart ha fun b off e hx => hout (.slice a5 r.names.length c5) (by simp) b (by subst e; exact blk_of (len_ne hx)), h5.2⟩,
    ⟨h6.1.apart ha fun b off e hx => hout (.slice a6 r.tags.length c6) (by simp) b (by subst e; exact blk_of (len_ne hx)), h6.2⟩,
    ⟨h7.1.apart ha fun b off e hx => hout (.slice a7 r.kids.length c7) (by simp) b (by subst e; exact blk_of (len_ne hx)), h7.2⟩, hnd, hrg⟩
theorem OwnR.apart {lo hi lo2 hi2 : Nat} {a : Option Addr} {rs : List RuleV} {cap : Nat} {w w' : World} (h : OwnR lo2 hi2 a rs cap w) (ha : Apart lo hi w w') (ho : hi2 ≤ lo ∨ hi ≤ lo2) : OwnR lo2 hi2 a rs cap w' := by
  obtain ⟨css, hl, hr, hrow, hcap⟩ := h
  refine ⟨css, hl, fun j h1 h2 => (hr j h1 h2).apart ha ho, ?_, hcap⟩
  rcases hrow with hrow | ⟨b, off, e, h1, h2, hc, hn⟩
  · exact .inl hrow
  · refine .inr ⟨b, off, e, h1, h2, fun j hj i v hv => ?_, hn⟩
    obtain ⟨q1, q2⟩ := hc j hj i v hv
    exact ⟨ha.cell q1 (by show b < lo ∨ hi ≤ b; omega), (World.frozen?_of_block (a := ⟨b, off + j * 8 + i, none⟩) (ha.block b (cell_lt q1) (by omega))).trans q2⟩
/-- A description in new memory, its cells written out. -/
def OwnS (lo hi b off : Nat) (css : List (List Value)) (L : List RuleV) (w : World) : Prop :=
  css.length = L.length ∧ (∀ j (h : j < L.length) (h' : j < css.length), OwnRule lo hi L[j] css[j] w) ∧ (lo ≤ b ∧ b < hi) ∧
    (∀ j (h : j < css.length) i v, css[j][i]? = some v → w.cell? ⟨b, off + j * 8 + i, none⟩ = some v ∧ w.frozen? ⟨b, off + j * 8 + i, none⟩ = false) ∧ (b :: css.flatMap fun cs => cs.flatMap sliceBlk).Nodup
theorem OwnS.below {lo hi b off : Nat} {css : List (List Value)} {L : List RuleV} {w w' : World} (h : OwnS lo hi b off css L w) (hb : Below w.heap.size w w') : OwnS lo hi b off css L w' := by
  obtain ⟨h1, h2, h3, h4, h5⟩ := h
  exact ⟨h1, fun j q1 q2 => (h2 j q1 q2).below hb, h3, fun j hj i v hv => ⟨(hb.cell (cell_lt (h4 j hj i v hv).1)).trans (h4 j hj i v hv).1, (hb.frozen (p := ⟨b, off + j * 8 + i, none⟩) (cell_lt (h4 j hj i v hv).1)).trans (h4 j hj i v hv).2⟩, h5⟩
theorem mem_flat {css : List (List Value)} {j b : Nat} (hj : j < css.length) (hb : b ∈ css[j].flatMap sliceBlk) : b ∈ css.flatMap fun cs => cs.flatMap sliceBlk := List.mem_flatMap.2 ⟨_, List.getElem_mem hj, hb⟩
/-- Blocks of different rules differ. -/
theorem flat_ne : ∀ {css : List (List Value)}, (css.flatMap fun cs => cs.flatMap sliceBlk).Nodup → ∀ {i j : Nat} (hi : i < css.length) (hj : j < css.length), i ≠ j → ∀ x ∈ css[i].flatMap sliceBlk, x ∉ css[j].flatMap sliceBlk
  | [], _, _, _, hi, _, _, _, _ => by simp at hi
  | cs :: css, hn, i, j, hi, hj, hij, x, hx => by
    rw [List.flatMap_cons] at hn
    obtain ⟨n1, n2, n3⟩ := List.nodup_append.1 hn
    cases i with
    | zero =>
      cases j with
      | zero => exact absurd rfl hij
      | succ j =>
        intro hy
        exact n3 x hx x (mem_flat (css := css) (by simpa using hj) hy) rfl
    | succ i =>
      cases j with
      | zero =>
        intro hy
        exact n3 x hy x (mem_flat (css := css) (by simpa using hi) hx) rfl
      | succ j => exact flat_ne n2 (by simpa using hi) (by simpa using hj) (by omega) x hx
theorem OwnRule.grownNe {lo hi c : Nat} {r : RuleV} {cs : List Value} {w w' : World} (h : OwnRule lo hi r cs w) (hg : w.grownBy w' (some c)) (hc : c ∉ cs.flatMap sliceBlk) : OwnRule lo hi r cs w' := by
  obtain ⟨a4, c4, a5, c5, a6, c6, a7, c7, rfl, h4, h5, h6, h7, hnd, hrg⟩ := h
  have hout : ∀ v ∈ ([.slice a4 r.bytes.length c4, .slice a5 r.names.length c5, .slice a6 r.tags.length c6, .slice a7 r.kids.length c7] : List Value), ∀ b ∈ sliceBlk v, b ≠ c := fun v hv b hb e => by
    subst e
    exact hc (List.mem_flatMap.2 ⟨v, List.mem_cons_of_mem _ (List.mem_cons_of_mem _ (List.mem_cons_of_mem _ (List.mem_cons_of_mem _ hv))), hb⟩)
  exact ⟨a4, c4, a5, c5, a6, c6, a7, c7, rfl,
    ⟨h4.1.grown hg fun b off e hx => hout (.slice a4 r.bytes.length c4) (by simp) b (by subst e; exact blk_of (len_ne hx)), h4.2⟩,
    ⟨h5.1.grown hg fun b off e hx => hout (.slice a5 r.names.length c5) (by simp) b (by subst e; exact blk_of (len_ne hx)), h5.2⟩,
    ⟨h6.1.grown hg fun b off e hx => hout (.slice a6 r.tags.length c6) (by simp) b (by subst e; exact blk_of (len_ne hx)), h6.2⟩,
    ⟨h7.1.grown hg fun b off e hx => hout (.slice a7 r.kids.length c7) (by simp) b (by subst e; exact blk_of (len_ne hx)), h7.2⟩, hnd, hrg⟩
/-- One of the first four cells of a rule is written. -/
theorem OwnS.put {lo hi b off : Nat} {css : List (List Value)} {L : List RuleV} {w : World} (h : OwnS lo hi b off css L w) (i : Nat) (il : i < L.length) (ic : i < css.length) (f : Nat) (hf : f < 4) (v : Value) (r' : RuleV)
    (hr' : ∀ a4 c4 a5 c5 a6 c6 a7 c7, css[i] = [.string L[i].name, .int .i64 L[i].kind, .int .i64 L[i].size, .bool L[i].little, .slice a4 L[i].bytes.length c4, .slice a5 L[i].names.length c5, .slice a6 L[i].tags.length c6, .slice a7 L[i].kids.length c7] →
      css[i].set f v = [.string r'.name, .int .i64 r'.kind, .int .i64 r'.size, .bool r'.little, .slice a4 r'.bytes.length c4, .slice a5 r'.names.length c5, .slice a6 r'.tags.length c6, .slice a7 r'.kids.length c7] ∧ r'.bytes = L[i].bytes ∧ r'.names = L[i].names ∧ r'.tags = L[i].tags ∧ r'.kids = L[i].kids) :
    OwnS lo hi b off (css.set i (css[i].set f v)) (L.set i r') (w.setCell ⟨b, off + i * 8 + f, none⟩ v) := by
  obtain ⟨h1, h2, h3, h4, h5⟩ := h
  have hg : w.grownBy (w.setCell ⟨b, off + i * 8 + f, none⟩ v) (some b) := grown_set (grown_refl w b) _ v
  have hb : b ∉ css.flatMap fun cs => cs.flatMap sliceBlk := (List.nodup_cons.1 h5).1
  have hflat : (css[i].set f v).flatMap sliceBlk = css[i].flatMap sliceBlk := by
    obtain ⟨a4, c4, a5, c5, a6, c6, a7, c7, e, q4, q5, q6, q7, hnd, hrg⟩ := h2 i il ic
    obtain ⟨e', b4, b5, b6, b7⟩ := hr' a4 c4 a5 c5 a6 c6 a7 c7 e
    rw [e', e, b4, b5, b6, b7]
    rfl
  have h8 := (h2 i il ic).length
  have hmap : ((css.set i (css[i].set f v)).flatMap fun cs => cs.flatMap sliceBlk) = css.flatMap fun cs => cs.flatMap sliceBlk := by
    rw [List.flatMap_def, List.flatMap_def, List.map_set, hflat]
    congr 1
    apply List.ext_getElem (by simp)
    intro n n1 n2
    rw [List.getElem_set]
    split
    · rename_i en
      subst en
      simp
    · rfl
  refine ⟨by simp [h1], fun j hj hj' => ?_, h3, fun j hj q u hu => ?_, by rw [hmap]; exact h5⟩
  · have hj1 : j < L.length := by simpa using hj
    have hj2 : j < css.length := by simpa using hj'
    have hn : b ∉ css[j].flatMap sliceBlk := fun hx => hb (mem_flat hj2 hx)
    by_cases e : i = j
    · subst e
      rw [List.getElem_set_self, List.getElem_set_self]
      obtain ⟨a4, c4, a5, c5, a6, c6, a7, c7, e, q4, q5, q6, q7, hnd, hrg⟩ := (h2 i il ic).grownNe hg hn
      obtain ⟨e', b4, b5, b6, b7⟩ := hr' a4 c4 a5 c5 a6 c6 a7 c7 e
      refine ⟨a4, c4, a5, c5, a6, c6, a7, c7, e', by rw [b4]; exact q4, by rw [b5]; exact q5, by rw [b6]; exact q6, by rw [b7]; exact q7, by rw [hflat]; exact hnd, by rw [hflat]; exact hrg⟩
    · rw [List.getElem_set_ne e, List.getElem_set_ne e]
      exact (h2 j hj1 hj2).grownNe hg hn
  · have hj2 : j < css.length := by simpa using hj
    by_cases e : i = j
    · subst e
      rw [List.getElem_set_self] at hu
      by_cases eq : q = f
      · subst eq
        rw [List.getElem?_set_self (by omega)] at hu
        injection hu with hu
        subst hu
        obtain ⟨u0, hu0⟩ : ∃ u0, css[i][q]? = some u0 := ⟨css[i][q]'(by omega), List.getElem?_eq_getElem _⟩
        exact ⟨World.cell?_setCell_same _ _ _ (h4 i ic q u0 hu0).1, by simpa using (h4 i ic q u0 hu0).2⟩
      · rw [List.getElem?_set_ne (by omega)] at hu
        obtain ⟨c1, c2⟩ := h4 i ic q u hu
        exact ⟨(World.cell?_setCell_other _ _ _ _ (fun he => by have := congrArg Addr.off he; simp at this; omega)).trans c1, by simpa using c2⟩
    · rw [List.getElem_set_ne e] at hu
      obtain ⟨c1, c2⟩ := h4 j hj2 q u hu
      have hq : q < 8 := by
        have h8j := (h2 j (by omega) hj2).length
        rcases Nat.lt_or_ge q 8 with hh | hh
        · exact hh
        · rw [List.getElem?_eq_none (by omega)] at hu; cases hu
      exact ⟨(World.cell?_setCell_other _ _ _ _ (fun he => by have := congrArg Addr.off he; simp at this; omega)).trans c1, by simpa using c2⟩
/-- The bytes of a rule turn. -/
theorem OwnS.turn4 {lo hi b off : Nat} {css : List (List Value)} {L : List RuleV} {w w' : World} (h : OwnS lo hi b off css L w) (i : Nat) (il : i < L.length) (ic : i < css.length) {a4 a5 a6 a7 : Option Addr} {c4 c5 c6 c7 : Nat} (e : css[i] = [.string L[i].name, .int .i64 L[i].kind, .int .i64 L[i].size, .bool L[i].little, .slice a4 L[i].bytes.length c4, .slice a5 L[i].names.length c5, .slice a6 L[i].tags.length c6, .slice a7 L[i].kids.length c7])
    (xs : List UInt8) (hlen : xs.length = L[i].bytes.length) (ht : Touch lo a4 L[i].bytes.length w w') (hrow : Row lo a4 xs c4 w') : OwnS lo hi b off css (L.set i { L[i] with bytes := xs }) w' ∧ Apart lo hi w w' := by
  obtain ⟨h1, h2, h3, h4, h5⟩ := h
  have hi2 := h2 i il ic
  obtain ⟨b4, d4, b5, d5, b6, d6, b7, d7, e', q4, q5, q6, q7, hnd, hrg⟩ := h2 i il ic
  rw [e] at e'
  simp only [List.cons.injEq, Value.slice.injEq, true_and, and_true] at e'
  obtain ⟨⟨rfl, rfl⟩, ⟨rfl, rfl⟩, ⟨rfl, rfl⟩, rfl, rfl⟩ := e'
  have hfl : css[i].flatMap sliceBlk = sliceBlk (.slice a4 L[i].bytes.length c4) ++ (sliceBlk (.slice a5 L[i].names.length c5) ++ (sliceBlk (.slice a6 L[i].tags.length c6) ++ sliceBlk (.slice a7 L[i].kids.length c7))) := by
    rw [e]
    simp only [List.flatMap_cons, List.flatMap_nil, List.append_nil]
    rfl
  have fin : ∀ w'' : World, (∀ j (h : j < L.length) (h' : j < css.length), j ≠ i → OwnRule lo hi L[j] css[j] w'') → RowF Value.string lo a5 L[i].names c5 w'' → RowF (Value.int .i64) lo a6 L[i].tags c6 w'' → RowF (Value.int .i64) lo a7 L[i].kids c7 w'' → Row lo a4 xs c4 w'' → (∀ j (h : j < css.length) i v, css[j][i]? = some v → w''.cell? ⟨b, off + j * 8 + i, none⟩ = some v ∧ w''.frozen? ⟨b, off + j * 8 + i, none⟩ = false) → OwnS lo hi b off css (L.set i { L[i] with bytes := xs }) w'' := fun w'' g1 g5' g6' g7' gn g4 => by
    refine ⟨by simp [h1], fun j hj hj' => ?_, h3, g4, h5⟩
    have hj1 : j < L.length := by simpa using hj
    by_cases ej : i = j
    · subst ej
      rw [List.getElem_set_self]
      exact ⟨a4, c4, a5, c5, a6, c6, a7, c7, by rw [e]; simp [hlen], gn, g5', g6', g7', hnd, hrg⟩
    · rw [List.getElem_set_ne ej]
      exact g1 j hj1 hj' (fun e => ej e.symm)
  rcases ht with rfl | ⟨hn, bs, os, ea, hlo, hg⟩
  · exact ⟨fin w' (fun j q1 q2 _ => h2 j q1 q2) q5 q6 q7 hrow h4, Apart.refl _ _ _⟩
  · have hin : bs ∈ css[i].flatMap sliceBlk := by
      rw [hfl]
      subst ea
      exact List.mem_append_left _ (blk_of hn)
    have hbs : bs < hi := (hrg bs hin).2
    have hnb : bs ≠ b := fun e => (List.nodup_cons.1 h5).1 (by rw [← e]; exact mem_flat ic hin)
    rw [hfl] at hnd
    have o5 : ∀ x off', a5 = some ⟨x, off', none⟩ → L[i].names.length ≠ 0 → x ≠ bs := fun x off' e1 e2 e3 => by
      subst e1 e3
      subst ea
      have ms := blk_of (off := os) (c := c4) (b := x) hn
      have mm := blk_of (off := off') (c := c5) (b := x) e2
      have n0 := List.nodup_append.1 hnd
      exact n0.2.2 x (ms) x (List.mem_append_left _ (mm)) rfl
    have o6 : ∀ x off', a6 = some ⟨x, off', none⟩ → L[i].tags.length ≠ 0 → x ≠ bs := fun x off' e1 e2 e3 => by
      subst e1 e3
      subst ea
      have ms := blk_of (off := os) (c := c4) (b := x) hn
      have mm := blk_of (off := off') (c := c6) (b := x) e2
      have n0 := List.nodup_append.1 hnd
      exact n0.2.2 x (ms) x (List.mem_append_right _ (List.mem_append_left _ (mm))) rfl
    have o7 : ∀ x off', a7 = some ⟨x, off', none⟩ → L[i].kids.length ≠ 0 → x ≠ bs := fun x off' e1 e2 e3 => by
      subst e1 e3
      subst ea
      have ms := blk_of (off := os) (c := c4) (b := x) hn
      have mm := blk_of (off := off') (c := c7) (b := x) e2
      have n0 := List.nodup_append.1 hnd
      exact n0.2.2 x (ms) x (List.mem_append_right _ (List.mem_append_right _ (mm))) rfl
    refine ⟨fin w' (fun j q1 q2 hne => (h2 j q1 q2).grownNe hg (flat_ne (List.nodup_cons.1 h5).2 ic q2 (fun e => hne e.symm) bs hin)) ⟨q5.1.grown hg fun x off' e1 hx => o5 x off' e1 (len_ne hx), q5.2⟩ ⟨q6.1.grown hg fun x off' e1 hx => o6 x off' e1 (len_ne hx), q6.2⟩ ⟨q7.1.grown hg fun x off' e1 hx => o7 x off' e1 (len_ne hx), q7.2⟩ hrow (fun j hj q v hv => ?_), Apart.ofGrown hg hlo hbs⟩
    obtain ⟨c1, c2⟩ := h4 j hj q v hv
    have hne2 : some b ≠ some bs := fun e => by injection e with e; exact hnb e.symm
    exact ⟨hg.cell c1 hne2, (World.frozen?_of_block (a := ⟨b, off + j * 8 + q, none⟩) (hg.block b (cell_lt c1) hne2)).trans c2⟩
/-- The names of a rule turn. -/
theorem OwnS.turn5 {lo hi b off : Nat} {css : List (List Value)} {L : List RuleV} {w w' : World} (h : OwnS lo hi b off css L w) (i : Nat) (il : i < L.length) (ic : i < css.length) {a4 a5 a6 a7 : Option Addr} {c4 c5 c6 c7 : Nat} (e : css[i] = [.string L[i].name, .int .i64 L[i].kind, .int .i64 L[i].size, .bool L[i].little, .slice a4 L[i].bytes.length c4, .slice a5 L[i].names.length c5, .slice a6 L[i].tags.length c6, .slice a7 L[i].kids.length c7])
    (xs : List ByteArray) (hlen : xs.length = L[i].names.length) (ht : Touch lo a5 L[i].names.length w w') (hrow : RowF Value.string lo a5 xs c5 w') : OwnS lo hi b off css (L.set i { L[i] with names := xs }) w' ∧ Apart lo hi w w' := by
  obtain ⟨h1, h2, h3, h4, h5⟩ := h
  have hi2 := h2 i il ic
  obtain ⟨b4, d4, b5, d5, b6, d6, b7, d7, e', q4, q5, q6, q7, hnd, hrg⟩ := h2 i il ic
  rw [e] at e'
  simp only [List.cons.injEq, Value.slice.injEq, true_and, and_true] at e'
  obtain ⟨⟨rfl, rfl⟩, ⟨rfl, rfl⟩, ⟨rfl, rfl⟩, rfl, rfl⟩ := e'
  have hfl : css[i].flatMap sliceBlk = sliceBlk (.slice a4 L[i].bytes.length c4) ++ (sliceBlk (.slice a5 L[i].names.length c5) ++ (sliceBlk (.slice a6 L[i].tags.length c6) ++ sliceBlk (.slice a7 L[i].kids.length c7))) := by
    rw [e]
    simp only [List.flatMap_cons, List.flatMap_nil, List.append_nil]
    rfl
  have fin : ∀ w'' : World, (∀ j (h : j < L.length) (h' : j < css.length), j ≠ i → OwnRule lo hi L[j] css[j] w'') → Row lo a4 L[i].bytes c4 w'' → RowF (Value.int .i64) lo a6 L[i].tags c6 w'' → RowF (Value.int .i64) lo a7 L[i].kids c7 w'' → RowF Value.string lo a5 xs c5 w'' → (∀ j (h : j < css.length) i v, css[j][i]? = some v → w''.cell? ⟨b, off + j * 8 + i, none⟩ = some v ∧ w''.frozen? ⟨b, off + j * 8 + i, none⟩ = false) → OwnS lo hi b off css (L.set i { L[i] with names := xs }) w'' := fun w'' g1 g4' g6' g7' gn g4 => by
    refine ⟨by simp [h1], fun j hj hj' => ?_, h3, g4, h5⟩
    have hj1 : j < L.length := by simpa using hj
    by_cases ej : i = j
    · subst ej
      rw [List.getElem_set_self]
      exact ⟨a4, c4, a5, c5, a6, c6, a7, c7, by rw [e]; simp [hlen], g4', gn, g6', g7', hnd, hrg⟩
    · rw [List.getElem_set_ne ej]
      exact g1 j hj1 hj' (fun e => ej e.symm)
  rcases ht with rfl | ⟨hn, bs, os, ea, hlo, hg⟩
  · exact ⟨fin w' (fun j q1 q2 _ => h2 j q1 q2) q4 q6 q7 hrow h4, Apart.refl _ _ _⟩
  · have hin : bs ∈ css[i].flatMap sliceBlk := by
      rw [hfl]
      subst ea
      exact List.mem_append_right _ (List.mem_append_left _ (blk_of hn))
    have hbs : bs < hi := (hrg bs hin).2
    have hnb : bs ≠ b := fun e => (List.nodup_cons.1 h5).1 (by rw [← e]; exact mem_flat ic hin)
    rw [hfl] at hnd
    have o4 : ∀ x off', a4 = some ⟨x, off', none⟩ → L[i].bytes.length ≠ 0 → x ≠ bs := fun x off' e1 e2 e3 => by
      subst e1 e3
      subst ea
      have ms := blk_of (off := os) (c := c5) (b := x) hn
      have mm := blk_of (off := off') (c := c4) (b := x) e2
      have n0 := List.nodup_append.1 hnd
      exact n0.2.2 x (mm) x (List.mem_append_left _ (ms)) rfl
    have o6 : ∀ x off', a6 = some ⟨x, off', none⟩ → L[i].tags.length ≠ 0 → x ≠ bs := fun x off' e1 e2 e3 => by
      subst e1 e3
      subst ea
      have ms := blk_of (off := os) (c := c5) (b := x) hn
      have mm := blk_of (off := off') (c := c6) (b := x) e2
      have n0 := List.nodup_append.1 hnd
      have n1 := List.nodup_append.1 n0.2.1
      exact n1.2.2 x (ms) x (List.mem_append_left _ (mm)) rfl
    have o7 : ∀ x off', a7 = some ⟨x, off', none⟩ → L[i].kids.length ≠ 0 → x ≠ bs := fun x off' e1 e2 e3 => by
      subst e1 e3
      subst ea
      have ms := blk_of (off := os) (c := c5) (b := x) hn
      have mm := blk_of (off := off') (c := c7) (b := x) e2
      have n0 := List.nodup_append.1 hnd
      have n1 := List.nodup_append.1 n0.2.1
      exact n1.2.2 x (ms) x (List.mem_append_right _ (mm)) rfl
    refine ⟨fin w' (fun j q1 q2 hne => (h2 j q1 q2).grownNe hg (flat_ne (List.nodup_cons.1 h5).2 ic q2 (fun e => hne e.symm) bs hin)) ⟨q4.1.grown hg fun x off' e1 hx => o4 x off' e1 (len_ne hx), q4.2⟩ ⟨q6.1.grown hg fun x off' e1 hx => o6 x off' e1 (len_ne hx), q6.2⟩ ⟨q7.1.grown hg fun x off' e1 hx => o7 x off' e1 (len_ne hx), q7.2⟩ hrow (fun j hj q v hv => ?_), Apart.ofGrown hg hlo hbs⟩
    obtain ⟨c1, c2⟩ := h4 j hj q v hv
    have hne2 : some b ≠ some bs := fun e => by injection e with e; exact hnb e.symm
    exact ⟨hg.cell c1 hne2, (World.frozen?_of_block (a := ⟨b, off + j * 8 + q, none⟩) (hg.block b (cell_lt c1) hne2)).trans c2⟩
/-- The tags of a rule turn. -/
theorem OwnS.turn6 {lo hi b off : Nat} {css : List (List Value)} {L : List RuleV} {w w' : World} (h : OwnS lo hi b off css L w) (i : Nat) (il : i < L.length) (ic : i < css.length) {a4 a5 a6 a7 : Option Addr} {c4 c5 c6 c7 : Nat} (e : css[i] = [.string L[i].name, .int .i64 L[i].kind, .int .i64 L[i].size, .bool L[i].little, .slice a4 L[i].bytes.length c4, .slice a5 L[i].names.length c5, .slice a6 L[i].tags.length c6, .slice a7 L[i].kids.length c7])
    (xs : List Int) (hlen : xs.length = L[i].tags.length) (ht : Touch lo a6 L[i].tags.length w w') (hrow : RowF (Value.int .i64) lo a6 xs c6 w') : OwnS lo hi b off css (L.set i { L[i] with tags := xs }) w' ∧ Apart lo hi w w' := by
  obtain ⟨h1, h2, h3, h4, h5⟩ := h
  have hi2 := h2 i il ic
  obtain ⟨b4, d4, b5, d5, b6, d6, b7, d7, e', q4, q5, q6, q7, hnd, hrg⟩ := h2 i il ic
  rw [e] at e'
  simp only [List.cons.injEq, Value.slice.injEq, true_and, and_true] at e'
  obtain ⟨⟨rfl, rfl⟩, ⟨rfl, rfl⟩, ⟨rfl, rfl⟩, rfl, rfl⟩ := e'
  have hfl : css[i].flatMap sliceBlk = sliceBlk (.slice a4 L[i].bytes.length c4) ++ (sliceBlk (.slice a5 L[i].names.length c5) ++ (sliceBlk (.slice a6 L[i].tags.length c6) ++ sliceBlk (.slice a7 L[i].kids.length c7))) := by
    rw [e]
    simp only [List.flatMap_cons, List.flatMap_nil, List.append_nil]
    rfl
  have fin : ∀ w'' : World, (∀ j (h : j < L.length) (h' : j < css.length), j ≠ i → OwnRule lo hi L[j] css[j] w'') → Row lo a4 L[i].bytes c4 w'' → RowF Value.string lo a5 L[i].names c5 w'' → RowF (Value.int .i64) lo a7 L[i].kids c7 w'' → RowF (Value.int .i64) lo a6 xs c6 w'' → (∀ j (h : j < css.length) i v, css[j][i]? = some v → w''.cell? ⟨b, off + j * 8 + i, none⟩ = some v ∧ w''.frozen? ⟨b, off + j * 8 + i, none⟩ = false) → OwnS lo hi b off css (L.set i { L[i] with tags := xs }) w'' := fun w'' g1 g4' g5' g7' gn g4 => by
    refine ⟨by simp [h1], fun j hj hj' => ?_, h3, g4, h5⟩
    have hj1 : j < L.length := by simpa using hj
    by_cases ej : i = j
    · subst ej
      rw [List.getElem_set_self]
      exact ⟨a4, c4, a5, c5, a6, c6, a7, c7, by rw [e]; simp [hlen], g4', g5', gn, g7', hnd, hrg⟩
    · rw [List.getElem_set_ne ej]
      exact g1 j hj1 hj' (fun e => ej e.symm)
  rcases ht with rfl | ⟨hn, bs, os, ea, hlo, hg⟩
  · exact ⟨fin w' (fun j q1 q2 _ => h2 j q1 q2) q4 q5 q7 hrow h4, Apart.refl _ _ _⟩
  · have hin : bs ∈ css[i].flatMap sliceBlk := by
      rw [hfl]
      subst ea
      exact List.mem_append_right _ (List.mem_append_right _ (List.mem_append_left _ (blk_of hn)))
    have hbs : bs < hi := (hrg bs hin).2
    have hnb : bs ≠ b := fun e => (List.nodup_cons.1 h5).1 (by rw [← e]; exact mem_flat ic hin)
    rw [hfl] at hnd
    have o4 : ∀ x off', a4 = some ⟨x, off', none⟩ → L[i].bytes.length ≠ 0 → x ≠ bs := fun x off' e1 e2 e3 => by
      subst e1 e3
      subst ea
      have ms := blk_of (off := os) (c := c6) (b := x) hn
      have mm := blk_of (off := off') (c := c4) (b := x) e2
      have n0 := List.nodup_append.1 hnd
      exact n0.2.2 x (mm) x (List.mem_append_right _ (List.mem_append_left _ (ms))) rfl
    have o5 : ∀ x off', a5 = some ⟨x, off', none⟩ → L[i].names.length ≠ 0 → x ≠ bs := fun x off' e1 e2 e3 => by
      subst e1 e3
      subst ea
      have ms := blk_of (off := os) (c := c6) (b := x) hn
      have mm := blk_of (off := off') (c := c5) (b := x) e2
      have n0 := List.nodup_append.1 hnd
      have n1 := List.nodup_append.1 n0.2.1
      exact n1.2.2 x (mm) x (List.mem_append_left _ (ms)) rfl
    have o7 : ∀ x off', a7 = some ⟨x, off', none⟩ → L[i].kids.length ≠ 0 → x ≠ bs := fun x off' e1 e2 e3 => by
      subst e1 e3
      subst ea
      have ms := blk_of (off := os) (c := c6) (b := x) hn
      have mm := blk_of (off := off') (c := c7) (b := x) e2
      have n0 := List.nodup_append.1 hnd
      have n1 := List.nodup_append.1 n0.2.1
      have n2 := List.nodup_append.1 n1.2.1
      exact n2.2.2 x (ms) x (mm) rfl
    refine ⟨fin w' (fun j q1 q2 hne => (h2 j q1 q2).grownNe hg (flat_ne (List.nodup_cons.1 h5).2 ic q2 (fun e => hne e.symm) bs hin)) ⟨q4.1.grown hg fun x off' e1 hx => o4 x off' e1 (len_ne hx), q4.2⟩ ⟨q5.1.grown hg fun x off' e1 hx => o5 x off' e1 (len_ne hx), q5.2⟩ ⟨q7.1.grown hg fun x off' e1 hx => o7 x off' e1 (len_ne hx), q7.2⟩ hrow (fun j hj q v hv => ?_), Apart.ofGrown hg hlo hbs⟩
    obtain ⟨c1, c2⟩ := h4 j hj q v hv
    have hne2 : some b ≠ some bs := fun e => by injection e with e; exact hnb e.symm
    exact ⟨hg.cell c1 hne2, (World.frozen?_of_block (a := ⟨b, off + j * 8 + q, none⟩) (hg.block b (cell_lt c1) hne2)).trans c2⟩
/-- The kids of a rule turn. -/
theorem OwnS.turn7 {lo hi b off : Nat} {css : List (List Value)} {L : List RuleV} {w w' : World} (h : OwnS lo hi b off css L w) (i : Nat) (il : i < L.length) (ic : i < css.length) {a4 a5 a6 a7 : Option Addr} {c4 c5 c6 c7 : Nat} (e : css[i] = [.string L[i].name, .int .i64 L[i].kind, .int .i64 L[i].size, .bool L[i].little, .slice a4 L[i].bytes.length c4, .slice a5 L[i].names.length c5, .slice a6 L[i].tags.length c6, .slice a7 L[i].kids.length c7])
    (xs : List Int) (hlen : xs.length = L[i].kids.length) (ht : Touch lo a7 L[i].kids.length w w') (hrow : RowF (Value.int .i64) lo a7 xs c7 w') : OwnS lo hi b off css (L.set i { L[i] with kids := xs }) w' ∧ Apart lo hi w w' := by
  obtain ⟨h1, h2, h3, h4, h5⟩ := h
  have hi2 := h2 i il ic
  obtain ⟨b4, d4, b5, d5, b6, d6, b7, d7, e', q4, q5, q6, q7, hnd, hrg⟩ := h2 i il ic
  rw [e] at e'
  simp only [List.cons.injEq, Value.slice.injEq, true_and, and_true] at e'
  obtain ⟨⟨rfl, rfl⟩, ⟨rfl, rfl⟩, ⟨rfl, rfl⟩, rfl, rfl⟩ := e'
  have hfl : css[i].flatMap sliceBlk = sliceBlk (.slice a4 L[i].bytes.length c4) ++ (sliceBlk (.slice a5 L[i].names.length c5) ++ (sliceBlk (.slice a6 L[i].tags.length c6) ++ sliceBlk (.slice a7 L[i].kids.length c7))) := by
    rw [e]
    simp only [List.flatMap_cons, List.flatMap_nil, List.append_nil]
    rfl
  have fin : ∀ w'' : World, (∀ j (h : j < L.length) (h' : j < css.length), j ≠ i → OwnRule lo hi L[j] css[j] w'') → Row lo a4 L[i].bytes c4 w'' → RowF Value.string lo a5 L[i].names c5 w'' → RowF (Value.int .i64) lo a6 L[i].tags c6 w'' → RowF (Value.int .i64) lo a7 xs c7 w'' → (∀ j (h : j < css.length) i v, css[j][i]? = some v → w''.cell? ⟨b, off + j * 8 + i, none⟩ = some v ∧ w''.frozen? ⟨b, off + j * 8 + i, none⟩ = false) → OwnS lo hi b off css (L.set i { L[i] with kids := xs }) w'' := fun w'' g1 g4' g5' g6' gn g4 => by
    refine ⟨by simp [h1], fun j hj hj' => ?_, h3, g4, h5⟩
    have hj1 : j < L.length := by simpa using hj
    by_cases ej : i = j
    · subst ej
      rw [List.getElem_set_self]
      exact ⟨a4, c4, a5, c5, a6, c6, a7, c7, by rw [e]; simp [hlen], g4', g5', g6', gn, hnd, hrg⟩
    · rw [List.getElem_set_ne ej]
      exact g1 j hj1 hj' (fun e => ej e.symm)
  rcases ht with rfl | ⟨hn, bs, os, ea, hlo, hg⟩
  · exact ⟨fin w' (fun j q1 q2 _ => h2 j q1 q2) q4 q5 q6 hrow h4, Apart.refl _ _ _⟩
  · have hin : bs ∈ css[i].flatMap sliceBlk := by
      rw [hfl]
      subst ea
      exact List.mem_append_right _ (List.mem_append_right _ (List.mem_append_right _ (blk_of hn)))
    have hbs : bs < hi := (hrg bs hin).2
    have hnb : bs ≠ b := fun e => (List.nodup_cons.1 h5).1 (by rw [← e]; exact mem_flat ic hin)
    rw [hfl] at hnd
    have o4 : ∀ x off', a4 = some ⟨x, off', none⟩ → L[i].bytes.length ≠ 0 → x ≠ bs := fun x off' e1 e2 e3 => by
      subst e1 e3
      subst ea
      have ms := blk_of (off := os) (c := c7) (b := x) hn
      have mm := blk_of (off := off') (c := c4) (b := x) e2
      have n0 := List.nodup_append.1 hnd
      exact n0.2.2 x (mm) x (List.mem_append_right _ (List.mem_append_right _ (ms))) rfl
    have o5 : ∀ x off', a5 = some ⟨x, off', none⟩ → L[i].names.length ≠ 0 → x ≠ bs := fun x off' e1 e2 e3 => by
      subst e1 e3
      subst ea
      have ms := blk_of (off := os) (c := c7) (b := x) hn
      have mm := blk_of (off := off') (c := c5) (b := x) e2
      have n0 := List.nodup_append.1 hnd
      have n1 := List.nodup_append.1 n0.2.1
      exact n1.2.2 x (mm) x (List.mem_append_right _ (ms)) rfl
    have o6 : ∀ x off', a6 = some ⟨x, off', none⟩ → L[i].tags.length ≠ 0 → x ≠ bs := fun x off' e1 e2 e3 => by
      subst e1 e3
      subst ea
      have ms := blk_of (off := os) (c := c7) (b := x) hn
      have mm := blk_of (off := off') (c := c6) (b := x) e2
      have n0 := List.nodup_append.1 hnd
      have n1 := List.nodup_append.1 n0.2.1
      have n2 := List.nodup_append.1 n1.2.1
      exact n2.2.2 x (mm) x (ms) rfl
    refine ⟨fin w' (fun j q1 q2 hne => (h2 j q1 q2).grownNe hg (flat_ne (List.nodup_cons.1 h5).2 ic q2 (fun e => hne e.symm) bs hin)) ⟨q4.1.grown hg fun x off' e1 hx => o4 x off' e1 (len_ne hx), q4.2⟩ ⟨q5.1.grown hg fun x off' e1 hx => o5 x off' e1 (len_ne hx), q5.2⟩ ⟨q6.1.grown hg fun x off' e1 hx => o6 x off' e1 (len_ne hx), q6.2⟩ hrow (fun j hj q v hv => ?_), Apart.ofGrown hg hlo hbs⟩
    obtain ⟨c1, c2⟩ := h4 j hj q v hv
    have hne2 : some b ≠ some bs := fun e => by injection e with e; exact hnb e.symm
    exact ⟨hg.cell c1 hne2, (World.frozen?_of_block (a := ⟨b, off + j * 8 + q, none⟩) (hg.block b (cell_lt c1) hne2)).trans c2⟩
end Go.Proofs.Ytpeldhediaodjaa
