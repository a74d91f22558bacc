/- One field of one rule of an owned description is bent: what the description then holds. -/
import Derived.Test.YtekmopoblfknlaaOwnedR
namespace Go.Proofs.Ytekmopoblfknlaa
open Go Go.RowKit
theorem own_set {w : World} {base g n cap size j : Nat} {e : TypeId} {xs : List Value} {u : Value} (h : w.ownsRow base e size (.slice (some ⟨g, 0, none⟩) n cap) n xs) : (w.setCell ⟨g, j, none⟩ u).ownsRow base e size (.slice (some ⟨g, 0, none⟩) n cap) n (xs.set j u) := by
  obtain ⟨h1, h2⟩ := h
  refine ⟨by rw [List.length_set]; exact h1, ?_⟩
  rcases h2 with ⟨h, _⟩ | ⟨g', cap', cur, e1, hb, hg, hn, hm, hs, ht⟩
  · cases h
  · injection e1 with e1 e2 e3
    injection e1 with e1
    injection e1 with e1
    subst e1 e3
    refine .inr ⟨g, cap, cur.setIfInBounds j u, rfl, hb, heap_setCell_same w g j cur e u hg, hn, hm, by simpa using hs, ?_⟩
    rw [← ht, Array.toList_setIfInBounds, List.take_set]
theorem flat_set {css : List (List Value)} (h8 : ∀ cs ∈ css, cs.length = 8) : ∀ (k i : Nat) (u : Value) (hk : k < css.length), i < 8 → (css.set k (css[k].set i u)).flatten = css.flatten.set (k * 8 + i) u := by
  induction css with
  | nil => intro k i u hk; simp at hk
  | cons cs css ih =>
    intro k i u hk hi
    have hl := h8 cs (by simp)
    cases k with
    | zero => simp [hl, hi]
    | succ k =>
      have := ih (fun c hc => h8 c (by simp [hc])) k i u (by simpa using hk) hi
      simp only [List.set_cons_succ, List.flatten_cons, List.getElem_cons_succ, this]
      rw [List.set_append_right _ _ (by omega), hl, show (k + 1) * 8 + i - 8 = k * 8 + i from by omega]
theorem RowO.parts {base hi : Nat} {g n cap : Nat} {o : Nat} {rs : List RuleV} {w : World} (h : RowO base hi (.slice (some ⟨g, o, none⟩) n cap) rs w) {k : Nat} (hk : k < rs.length) : ∃ cs, OwnedR base rs[k] cs w ∧ (∀ i u, cs[i]? = some u → w.cell? ⟨g, o + k * 8 + i, none⟩ = some u ∧ w.frozen? ⟨g, o + k * 8 + i, none⟩ = false) ∧ (∀ b ∈ cs.flatMap blkO, b ≠ g ∧ b < hi) ∧ (base ≤ g ∧ g < hi) ∧ o = 0 := by
  obtain ⟨css, hl, ho, hr, hn, hb⟩ := h
  have hk2 : k < css.length := by omega
  have h8 : ∀ cs ∈ css, cs.length = 8 := fun cs hc => by
    obtain ⟨j, hj, rfl⟩ := List.getElem_of_mem hc
    exact (hr j (by omega) hj).is.1.length
  obtain ⟨h1, h2⟩ := ho
  rcases h2 with ⟨h, _⟩ | ⟨g', cap', cur, e1, hb2, hg, hn2, hm, hs, ht⟩
  · cases h
  · injection e1 with e1 e2 e3
    injection e1 with e1
    injection e1 with e1 e4 e5
    subst e1 e4
    refine ⟨css[k], hr k hk hk2, fun i u hu => ?_, fun b hbb => ⟨fun e => ?_, hb b (List.mem_append_right _ (mem_flat hk2 hbb))⟩, ⟨hb2, hb g (List.mem_append_left _ (by simp [Value.ownBlock]))⟩, rfl⟩
    · have hi : i < 8 := by
        have := h8 _ (List.getElem_mem hk2)
        rcases Nat.lt_or_ge i 8 with h | h
        · exact h
        · rw [List.getElem?_eq_none (by omega)] at hu; cases hu
      have hlt : k * 8 + i < rs.length * 8 := by
        have : (k + 1) * 8 ≤ rs.length * 8 := Nat.mul_le_mul_right 8 (by omega)
        omega
      rw [Nat.zero_add, frozen_of_row w g _ cur _ hg, cell_of_row w g _ cur _ (0, 0) hg]
      refine ⟨?_, rfl⟩
      have h3 := flat_at h8 k i hk2 hi
      rw [← ht, List.getElem?_take, if_pos (by omega)] at h3
      rw [← hu, ← h3]
      simp
    · exact own_ne hn (mem_flat hk2 hbb) (by rw [e]; rfl)
theorem flat_blks : ∀ css : List (List Value), css.flatten.flatMap blkO = (css.map (fun cs => cs.flatMap blkO)).flatten
  | [] => rfl
  | cs :: css => by rw [List.flatten_cons, List.flatMap_append, flat_blks css, List.map_cons, List.flatten_cons]
theorem apart_blks {css : List (List Value)} (h : (css.flatten.flatMap blkO).Nodup) {j k : Nat} (hj : j < css.length) (hk : k < css.length) (hne : j ≠ k) {b : Nat} (hb : b ∈ css[j].flatMap blkO) : b ∉ css[k].flatMap blkO := by
  rw [flat_blks] at h
  have h2 := (List.pairwise_flatten.1 h).2
  intro hb2
  rcases Nat.lt_or_gt_of_ne hne with hlt | hlt
  · have h3 := List.pairwise_iff_getElem.1 h2 j k (by simpa using hj) (by simpa using hk) hlt
    simp only [List.getElem_map] at h3
    exact h3 b hb b hb2 rfl
  · have h3 := List.pairwise_iff_getElem.1 h2 k j (by simpa using hk) (by simpa using hj) hlt
    simp only [List.getElem_map] at h3
    exact h3 b hb2 b hb rfl
/-- .. one cell of rule k is stored anew behind an append to one of its slices (or behind nothing). -/
theorem RowO.bend {base hi : Nat} {g n cap o : Nat} {rs : List RuleV} {r' : RuleV} {w w1 : World} {row : Option Nat} {k i : Nat} {u : Value} {cs : List Value} (h : RowO base hi (.slice (some ⟨g, o, none⟩) n cap) rs w) (hk : k < rs.length) (hi8 : i < 8)
    (hc8 : cs.length = 8) (hcs : ∀ i u, cs[i]? = some u → w.cell? ⟨g, o + k * 8 + i, none⟩ = some u) (hg : w.grownBy w1 row) (hrow : ∀ b, row = some b → b ∈ cs.flatMap blkO)
    (hnew : IsRule r' (cs.set i u) w1 ∧ CapK (cs.set i u) ∧ ∀ b ∈ (cs.set i u).flatMap sliceBlk, base ≤ b ∧ b ≠ g) :
    RowR base (.slice (some ⟨g, o, none⟩) n cap) (rs.set k r') (w1.setCell ⟨g, o + k * 8 + i, none⟩ u) := by
  obtain ⟨cs2, _, hc2, hne2, _, rfl⟩ := h.parts hk
  obtain ⟨css, hl, ho, hr, hnd, hlt⟩ := h
  have hk2 : k < css.length := by omega
  have h8 : ∀ cs ∈ css, cs.length = 8 := fun cs hc => by
    obtain ⟨j, hj, rfl⟩ := List.getElem_of_mem hc
    exact (hr j (by omega) hj).is.1.length
  have hn : n = rs.length := by
    obtain ⟨_, h2⟩ := ho
    rcases h2 with ⟨h, _⟩ | ⟨g', cap', cur, e1, _⟩
    · cases h
    · injection e1
  subst hn
  have hcell : ∀ i u, css[k][i]? = some u → w.cell? ⟨g, k * 8 + i, none⟩ = some u := fun i u hu => by
    have hi : i < 8 := by
      have := h8 _ (List.getElem_mem hk2)
      rcases Nat.lt_or_ge i 8 with h | h
      · exact h
      · rw [List.getElem?_eq_none (by omega)] at hu; cases hu
    have hlt : k * 8 + i < css.flatten.length := by rw [ho.1]; have : (k + 1) * 8 ≤ rs.length * 8 := Nat.mul_le_mul_right 8 (by omega)
                                                    omega
    have h3 := flat_at h8 k i hk2 hi
    rw [hu] at h3
    have h4 := World.ownsRow.cells (w := w) ho (g := g) rfl (k * 8 + i) u h3
    rw [Addr.add_lit, Nat.zero_add] at h4
    exact h4
  have hcc : cs = css[k] := List.ext_getElem? fun j => by
    rcases Nat.lt_or_ge j 8 with hj | hj
    · have e1 : cs[j]? = some cs[j] := List.getElem?_eq_getElem (by omega)
      have e2 : css[k][j]? = some (css[k][j]'(by rw [h8 _ (List.getElem_mem hk2)]; exact hj)) := List.getElem?_eq_getElem _
      have q1 := hcs j _ e1
      have q2 := hcell j _ e2
      rw [Nat.zero_add, q2] at q1
      rw [e1, e2, Option.some.inj q1]
    · rw [List.getElem?_eq_none (by omega), List.getElem?_eq_none (by rw [h8 _ (List.getElem_mem hk2)]; exact hj)]
  subst hcc
  have hgn : some g ≠ row := fun e => by
    have h1 := hrow g e.symm
    exact own_ne hnd (mem_flat hk2 h1) rfl
  have hglt : g < w.heap.size := (World.ownsRow.lt (w := w) ho g rfl).2
  have ho1 : w1.ownsRow base 44 8 (.slice (some ⟨g, 0, none⟩) rs.length cap) rs.length css.flatten := World.ownsRow.kept (w := w) ho hg (.inr hgn)
  have ho2 := own_set (j := k * 8 + i) (u := u) ho1
  rw [← flat_set h8 k i u hk2 hi8] at ho2
  have hgs : w1.grownBy (w1.setCell ⟨g, 0 + k * 8 + i, none⟩ u) (some g) := by rw [Nat.zero_add]; exact grown_set (grown_refl w1 g) _ u
  refine ⟨css.set k (css[k].set i u), by simp [hl], by rw [Nat.zero_add, List.length_set]; exact ho2, fun j h1 h2 => ?_⟩
  have hj : j < rs.length := by simpa using h1
  have hj2 : j < css.length := by omega
  by_cases hjk : j = k
  · subst hjk
    simp only [List.getElem_set_self]
    exact ⟨hnew.1.grown hgs fun b hb e => (hnew.2.2 b hb).2 (by injection e), hnew.2.1, fun b hb => ⟨(hnew.2.2 b hb).1, fun e => (hnew.2.2 b hb).2 (by injection e)⟩⟩
  · simp only [List.getElem_set_ne (Ne.symm hjk)]
    have hown := hr j hj hj2
    have hg2 : ∀ b ∈ css[j].flatMap blkO, b ≠ g := fun b hb e => own_ne hnd (mem_flat hj2 hb) (by rw [e]; rfl)
    have h3 := hown.keep hg fun b hb e => apart_blks (List.nodup_append.1 hnd).2.1 hj2 hk2 hjk hb (hrow b e)
    have h4 := h3.keep hgs fun b hb e => hg2 b hb (by injection e with e; exact e.symm)
    exact ⟨h4.is.1, h4.is.2, fun b hb => ⟨(h4.lt b (sub_blks hb)).1, fun e => hg2 b (sub_blks hb) (by injection e)⟩⟩
theorem keep_cellB {N o : Nat} {v : Value} {w w' : World} {row : Option Nat} (hg : w.grownBy w' row) (hne : some N ≠ row) (h : w.cell? ⟨N, o, none⟩ = some v ∧ w.frozen? ⟨N, o, none⟩ = false) : w'.cell? ⟨N, o, none⟩ = some v ∧ w'.frozen? ⟨N, o, none⟩ = false :=
  ⟨hg.cell h.1 hne, (World.frozen?_of_block (a := ⟨N, o, none⟩) (hg.block N (cell_lt h.1) hne)).trans h.2⟩
theorem four_is {lo g : Nat} {r : RuleV} {v4 v5 v6 v7 : Value} {w : World} (h4 : w.ownsRow lo 5 1 v4 r.bytes.length (r.bytes.map bv)) (h5 : w.ownsRow lo 9 1 v5 r.names.length (r.names.map Value.string)) (h6 : w.ownsRow lo 3 1 v6 r.tags.length (r.tags.map (Value.int .i64))) (h7 : w.ownsRow lo 3 1 v7 r.kids.length (r.kids.map (Value.int .i64)))
    (hne : ∀ b ∈ blkO v4 ++ (blkO v5 ++ (blkO v6 ++ blkO v7)), b ≠ g) : IsRule r [.string r.name, .int .i64 r.kind, .int .i64 r.size, .bool r.little, v4, v5, v6, v7] w ∧ CapK [.string r.name, .int .i64 r.kind, .int .i64 r.size, .bool r.little, v4, v5, v6, v7] ∧ ∀ b ∈ ([.string r.name, .int .i64 r.kind, .int .i64 r.size, .bool r.little, v4, v5, v6, v7] : List Value).flatMap sliceBlk, lo ≤ b ∧ b ≠ g := by
  have hb : ∀ b ∈ ([.string r.name, .int .i64 r.kind, .int .i64 r.size, .bool r.little, v4, v5, v6, v7] : List Value).flatMap sliceBlk, lo ≤ b ∧ b ≠ g := fun b hb => by
    have h1 := sub_blks hb
    rw [blks_four] at h1
    refine ⟨?_, hne b h1⟩
    simp only [List.mem_append, blkO_mem] at h1
    rcases h1 with h1 | h1 | h1 | h1
    · exact (World.ownsRow.lt h4 b h1).1
    · exact (World.ownsRow.lt h5 b h1).1
    · exact (World.ownsRow.lt h6 b h1).1
    · exact (World.ownsRow.lt h7 b h1).1
  obtain ⟨a4, c4, rfl, r4⟩ := OwnB.row h4
  obtain ⟨a5, c5, rfl, r5⟩ := own_row (f := Value.string) h5
  obtain ⟨a6, c6, rfl, r6⟩ := own_row (f := Value.int .i64) h6
  obtain ⟨a7, c7, rfl, r7⟩ := own_row (f := Value.int .i64) h7
  exact ⟨⟨a4, c4, a5, c5, a6, c6, a7, c7, rfl, r4.rd, r5.rd, r6.rd, r7.rd⟩, ⟨fun a n c h => by simp at h; obtain ⟨_, rfl, rfl⟩ := h; exact r5.2.1, fun a n c h => by simp at h; obtain ⟨_, rfl, rfl⟩ := h; exact r7.2.1⟩, hb⟩
theorem nodup4 {a b c d : List Nat} (h : (a ++ (b ++ (c ++ d))).Nodup) : (∀ x ∈ a, x ∉ b ∧ x ∉ c ∧ x ∉ d) ∧ (∀ x ∈ b, x ∉ c ∧ x ∉ d) ∧ ∀ x ∈ c, x ∉ d := by
  obtain ⟨_, h1, h2⟩ := List.nodup_append.1 h
  obtain ⟨_, h3, h4⟩ := List.nodup_append.1 h1
  obtain ⟨_, _, h5⟩ := List.nodup_append.1 h3
  exact ⟨fun x hx => ⟨fun e => h2 x hx x (by simp [e]) rfl, fun e => h2 x hx x (by simp [e]) rfl, fun e => h2 x hx x (by simp [e]) rfl⟩, fun x hx => ⟨fun e => h4 x hx x (by simp [e]) rfl, fun e => h4 x hx x (by simp [e]) rfl⟩, fun x hx e => h5 x hx x e rfl⟩
/-- What an append leaves of a slice's block: the same, or new. -/
def BlkOr (y : World) (v v' : Value) : Prop := v'.ownBlock = v.ownBlock ∨ ∃ q, v'.ownBlock = some q ∧ y.heap.size ≤ q
theorem BlkOr.ne {y : World} {v v' : Value} {g : Nat} (h : BlkOr y v v') (hg : g < y.heap.size) (hv : ∀ b ∈ blkO v, b ≠ g) : ∀ b ∈ blkO v', b ≠ g := fun b hb e => by
  rw [blkO_mem] at hb
  rcases h with h | ⟨q, h, hq⟩
  · rw [h] at hb; exact hv b (blkO_mem.2 hb) e
  · rw [h] at hb; injection hb with hb; omega
theorem OwnedR.scal {lo g : Nat} {r : RuleV} {cs : List Value} {w : World} (h : OwnedR lo r cs w) (hne : ∀ b ∈ cs.flatMap blkO, b ≠ g) (nm : ByteArray) (kd sz : Int) (lt : Bool) :
    ∃ v4 v5 v6 v7, cs = [.string r.name, .int .i64 r.kind, .int .i64 r.size, .bool r.little, v4, v5, v6, v7] ∧ IsRule ⟨nm, kd, sz, lt, r.bytes, r.names, r.tags, r.kids⟩ [.string nm, .int .i64 kd, .int .i64 sz, .bool lt, v4, v5, v6, v7] w ∧ CapK [.string nm, .int .i64 kd, .int .i64 sz, .bool lt, v4, v5, v6, v7] ∧ ∀ b ∈ ([.string nm, .int .i64 kd, .int .i64 sz, .bool lt, v4, v5, v6, v7] : List Value).flatMap sliceBlk, lo ≤ b ∧ b ≠ g := by
  obtain ⟨v4, v5, v6, v7, rfl, h4, h5, h6, h7, hn⟩ := h
  rw [blks_four] at hne
  exact ⟨v4, v5, v6, v7, rfl, four_is (r := ⟨nm, kd, sz, lt, r.bytes, r.names, r.tags, r.kids⟩) h4 h5 h6 h7 hne⟩
theorem OwnedR.push4 {lo g : Nat} {r : RuleV} {cs : List Value} {y w7 : World} {v v' : Value} {x : UInt8} (h : OwnedR lo r cs y) (hne : ∀ b ∈ cs.flatMap blkO, b ≠ g) (hgl : g < y.heap.size) (e : cs[4]? = some v) (hown : w7.ownsRow lo 5 1 v' (r.bytes ++ [x]).length ((r.bytes ++ [x]).map bv)) (hg : y.grownBy w7 v.ownBlock) (hb : BlkOr y v v') :
    IsRule ⟨r.name, r.kind, r.size, r.little, r.bytes ++ [x], r.names, r.tags, r.kids⟩ (cs.set 4 v') w7 ∧ CapK (cs.set 4 v') ∧ ∀ b ∈ (cs.set 4 v').flatMap sliceBlk, lo ≤ b ∧ b ≠ g := by
  obtain ⟨v4, v5, v6, v7, rfl, h4, h5, h6, h7, hn⟩ := h
  simp at e; subst e
  rw [blks_four] at hne
  obtain ⟨n4, n5, n6⟩ := nodup4 hn
  have q := hb.ne hgl (fun b hb => hne b (by simp [hb]))
  exact four_is (r := ⟨r.name, r.kind, r.size, r.little, r.bytes ++ [x], r.names, r.tags, r.kids⟩) hown (own_keep h5 hg fun b e f => (n4 b (blkO_mem.2 f)).1 (blkO_mem.2 e)) (own_keep h6 hg fun b e f => (n4 b (blkO_mem.2 f)).2.1 (blkO_mem.2 e)) (own_keep h7 hg fun b e f => (n4 b (blkO_mem.2 f)).2.2 (blkO_mem.2 e))
    (fun b hb => by simp only [List.mem_append] at hb; rcases hb with hb | hb | hb | hb <;> first | exact q b hb | exact hne b (by simp [hb]))
theorem OwnedR.push5 {lo g : Nat} {r : RuleV} {cs : List Value} {y w7 : World} {v v' : Value} {x : ByteArray} (h : OwnedR lo r cs y) (hne : ∀ b ∈ cs.flatMap blkO, b ≠ g) (hgl : g < y.heap.size) (e : cs[5]? = some v) (hown : w7.ownsRow lo 9 1 v' (r.names ++ [x]).length ((r.names ++ [x]).map Value.string)) (hg : y.grownBy w7 v.ownBlock) (hb : BlkOr y v v') :
    IsRule ⟨r.name, r.kind, r.size, r.little, r.bytes, r.names ++ [x], r.tags, r.kids⟩ (cs.set 5 v') w7 ∧ CapK (cs.set 5 v') ∧ ∀ b ∈ (cs.set 5 v').flatMap sliceBlk, lo ≤ b ∧ b ≠ g := by
  obtain ⟨v4, v5, v6, v7, rfl, h4, h5, h6, h7, hn⟩ := h
  simp at e; subst e
  rw [blks_four] at hne
  obtain ⟨n4, n5, n6⟩ := nodup4 hn
  have q := hb.ne hgl (fun b hb => hne b (by simp [hb]))
  exact four_is (r := ⟨r.name, r.kind, r.size, r.little, r.bytes, r.names ++ [x], r.tags, r.kids⟩) (own_keep h4 hg fun b e f => (n4 b (blkO_mem.2 e)).1 (blkO_mem.2 f)) hown (own_keep h6 hg fun b e f => (n5 b (blkO_mem.2 f)).1 (blkO_mem.2 e)) (own_keep h7 hg fun b e f => (n5 b (blkO_mem.2 f)).2 (blkO_mem.2 e))
    (fun b hb => by simp only [List.mem_append] at hb; rcases hb with hb | hb | hb | hb <;> first | exact q b hb | exact hne b (by simp [hb]))
theorem OwnedR.push6 {lo g : Nat} {r : RuleV} {cs : List Value} {y w7 : World} {v v' : Value} {x : Int} (h : OwnedR lo r cs y) (hne : ∀ b ∈ cs.flatMap blkO, b ≠ g) (hgl : g < y.heap.size) (e : cs[6]? = some v) (hown : w7.ownsRow lo 3 1 v' (r.tags ++ [x]).length ((r.tags ++ [x]).map (Value.int .i64))) (hg : y.grownBy w7 v.ownBlock) (hb : BlkOr y v v') :
    IsRule ⟨r.name, r.kind, r.size, r.little, r.bytes, r.names, r.tags ++ [x], r.kids⟩ (cs.set 6 v') w7 ∧ CapK (cs.set 6 v') ∧ ∀ b ∈ (cs.set 6 v').flatMap sliceBlk, lo ≤ b ∧ b ≠ g := by
  obtain ⟨v4, v5, v6, v7, rfl, h4, h5, h6, h7, hn⟩ := h
  simp at e; subst e
  rw [blks_four] at hne
  obtain ⟨n4, n5, n6⟩ := nodup4 hn
  have q := hb.ne hgl (fun b hb => hne b (by simp [hb]))
  exact four_is (r := ⟨r.name, r.kind, r.size, r.little, r.bytes, r.names, r.tags ++ [x], r.kids⟩) (own_keep h4 hg fun b e f => (n4 b (blkO_mem.2 e)).2.1 (blkO_mem.2 f)) (own_keep h5 hg fun b e f => (n5 b (blkO_mem.2 e)).1 (blkO_mem.2 f)) hown (own_keep h7 hg fun b e f => n6 b (blkO_mem.2 f) (blkO_mem.2 e))
    (fun b hb => by simp only [List.mem_append] at hb; rcases hb with hb | hb | hb | hb <;> first | exact q b hb | exact hne b (by simp [hb]))
theorem OwnedR.push7 {lo g : Nat} {r : RuleV} {cs : List Value} {y w7 : World} {v v' : Value} {x : Int} (h : OwnedR lo r cs y) (hne : ∀ b ∈ cs.flatMap blkO, b ≠ g) (hgl : g < y.heap.size) (e : cs[7]? = some v) (hown : w7.ownsRow lo 3 1 v' (r.kids ++ [x]).length ((r.kids ++ [x]).map (Value.int .i64))) (hg : y.grownBy w7 v.ownBlock) (hb : BlkOr y v v') :
    IsRule ⟨r.name, r.kind, r.size, r.little, r.bytes, r.names, r.tags, r.kids ++ [x]⟩ (cs.set 7 v') w7 ∧ CapK (cs.set 7 v') ∧ ∀ b ∈ (cs.set 7 v').flatMap sliceBlk, lo ≤ b ∧ b ≠ g := by
  obtain ⟨v4, v5, v6, v7, rfl, h4, h5, h6, h7, hn⟩ := h
  simp at e; subst e
  rw [blks_four] at hne
  obtain ⟨n4, n5, n6⟩ := nodup4 hn
  have q := hb.ne hgl (fun b hb => hne b (by simp [hb]))
  exact four_is (r := ⟨r.name, r.kind, r.size, r.little, r.bytes, r.names, r.tags, r.kids ++ [x]⟩) (own_keep h4 hg fun b e f => (n4 b (blkO_mem.2 e)).2.2 (blkO_mem.2 f)) (own_keep h5 hg fun b e f => (n5 b (blkO_mem.2 e)).2 (blkO_mem.2 f)) (own_keep h6 hg fun b e f => n6 b (blkO_mem.2 e) (blkO_mem.2 f)) hown
    (fun b hb => by simp only [List.mem_append] at hb; rcases hb with hb | hb | hb | hb <;> first | exact q b hb | exact hne b (by simp [hb]))
end Go.Proofs.Ytekmopoblfknlaa
