/- A value that is copied part by part: what is kept on the way. No program is walked here. -/
import Derived.Test.YtefkhknfjohnaaaVisitP
import Derived.Test.YtefkhknfjohnaaaGV
namespace Go.Proofs.Ytefkhknfjohnaaa
open Go Go.RowKit
mutual
/-- How many levels a value has. -/
def hgtV : ValueV → Nat
  | .mk _ _ l => 1 + hgtL l
def hgtL : List ValueV → Nat
  | [] => 0
  | v :: vs => max (hgtV v) (hgtL vs)
end
theorem hgtV_eq (v : ValueV) : hgtV v = hgtL v.items + 1 := by
  cases v with
  | mk n b l => rw [hgtV]; show 1 + hgtL l = hgtL l + 1; omega
theorem hgtL_at : ∀ {vs : List ValueV} {j : Nat} (h : j < vs.length), hgtV vs[j] ≤ hgtL vs
  | [], _, h => by simp at h
  | v :: vs, 0, _ => by rw [hgtL]; exact Nat.le_max_left _ _
  | v :: vs, j + 1, h => by
    have := hgtL_at (vs := vs) (j := j) (by simpa using h)
    rw [hgtL]
    exact Nat.le_trans this (Nat.le_max_right _ _)
/-- The parts that were still to come have been copied into new memory; of the blocks bt nothing else has turned. -/
def DoneP (bt : List Nat) (ps : List Node) (w w' : World) : Prop :=
  ∃ bls : List (List Nat), bls.length = ps.length ∧ bls.flatten.Nodup ∧ (∀ b ∈ bls.flatten, w.heap.size ≤ b) ∧
    (∀ j (h : j < ps.length) (h' : j < bls.length), ∃ cs, OwnT (hgtV ps[j].2.2) bls[j] ps[j].2.2 cs w' ∧ ∀ i u, cs[i]? = some u → w'.cell? ⟨ps[j].1, ps[j].2.1 + i, none⟩ = some u ∧ w'.frozen? ⟨ps[j].1, ps[j].2.1 + i, none⟩ = false) ∧
    ∀ b i, b ∈ bt → (∀ p ∈ ps, p.1 = b → i < p.2.1 ∨ p.2.1 + 3 ≤ i) → w'.cell? ⟨b, i, none⟩ = w.cell? ⟨b, i, none⟩ ∧ w'.frozen? ⟨b, i, none⟩ = w.frozen? ⟨b, i, none⟩
/-- The whole is copied. -/
def Final (B lim : Nat) (v : ValueV) (w' : World) : Prop := ∃ bl cs, OwnT (hgtV v) bl v cs w' ∧ (∀ i u, cs[i]? = some u → w'.cell? ⟨B, i, none⟩ = some u) ∧ ∀ b ∈ bl, lim ≤ b
/-- A part that is still the one that it was: its three cells in new memory, all else where it was. -/
def RawAt (w0 : World) (p : Node) (w : World) : Prop := ∃ n cs, IsVal n p.2.2 cs w0 ∧ ∀ i u, cs[i]? = some u → w.cell? ⟨p.1, p.2.1 + i, none⟩ = some u ∧ w.frozen? ⟨p.1, p.2.1 + i, none⟩ = false
structure Icopy (w0 : World) (lim : Nat) (v : ValueV) (bt : List Nat) (ps : List Node) (w : World) : Prop where
  old : Below w0.heap.size w0 w
  raw : ∀ p ∈ ps, RawAt w0 p w ∧ p.1 ∈ bt ∧ p.2.1 % 3 = 0
  apart : ∀ i j (hi : i < ps.length) (hj : j < ps.length), i ≠ j → (ps[i].1, ps[i].2.1) ≠ (ps[j].1, ps[j].2.1)
  tree : ∀ b ∈ bt, w0.heap.size ≤ b ∧ b < w.heap.size
  wand : ∀ w', DoneP bt ps w w' → Final w0.heap.size lim v w'
theorem RawAt.cells {w0 w w' : World} {p : Node} (h : RawAt w0 p w) (hc : ∀ i, i < 3 → w'.cell? ⟨p.1, p.2.1 + i, none⟩ = w.cell? ⟨p.1, p.2.1 + i, none⟩ ∧ w'.frozen? ⟨p.1, p.2.1 + i, none⟩ = w.frozen? ⟨p.1, p.2.1 + i, none⟩) : RawAt w0 p w' := by
  obtain ⟨n, cs, h1, h2⟩ := h
  obtain ⟨ab, cb, ai, ci, rfl⟩ : ∃ ab cb ai ci, cs = [.int .i64 p.2.2.number, .slice ab p.2.2.bytes.length cb, .slice ai p.2.2.items.length ci] := by
    cases n with
    | zero => exact h1.elim
    | succ n => obtain ⟨ab, cb, ai, ci, e, _⟩ := h1; exact ⟨ab, cb, ai, ci, e⟩
  refine ⟨n, _, h1, fun i u hu => ?_⟩
  have hi : i < 3 := by
    rcases Nat.lt_or_ge i 3 with h | h
    · exact h
    · rw [List.getElem?_eq_none (by simpa using h)] at hu; cases hu
  obtain ⟨e1, e2⟩ := hc i hi
  obtain ⟨g1, g2⟩ := h2 i u hu
  exact ⟨e1.trans g1, e2.trans g2⟩
theorem Icopy.keeps (w0 : World) (lim : Nat) (v : ValueV) (base : Nat) (hb0 : w0.heap.size ≤ base) : Keeps base (Icopy w0 lim v) where
  stay := fun bt ps w w' row h hg hr => by
    have hsame : ∀ b i, b ∈ bt → w'.cell? ⟨b, i, none⟩ = w.cell? ⟨b, i, none⟩ ∧ w'.frozen? ⟨b, i, none⟩ = w.frozen? ⟨b, i, none⟩ := fun b i hb => by
      have e := hg.block b (h.tree b hb).2 (fun e => (hr b e.symm).1 hb)
      exact ⟨World.cell?_of_block (a := ⟨b, i, none⟩) e, World.frozen?_of_block (a := ⟨b, i, none⟩) e⟩
    refine ⟨h.old.grown hg h.old.size (fun k hk => by have := (hr k hk).2; omega), fun p hp => ⟨(h.raw p hp).1.cells fun i _ => hsame _ _ (h.raw p hp).2.1, (h.raw p hp).2⟩, h.apart, fun b hb => ⟨(h.tree b hb).1, by have := (h.tree b hb).2; have := hg.size; omega⟩, fun w'' hd => h.wand w'' ?_⟩
    obtain ⟨bls, h1, h2, h3, h4, h5⟩ := hd
    exact ⟨bls, h1, h2, fun b hb => Nat.le_trans hg.size (h3 b hb), h4, fun b i hb hp => ⟨(h5 b i hb hp).1.trans (hsame b i hb).1, (h5 b i hb hp).2.trans (hsame b i hb).2⟩⟩
  lt := fun bt ps w h b hb => (h.tree b hb).2
theorem Icopy.start (w0 : World) (v : ValueV) (w1 : World) (hb : Below w0.heap.size w0 w1) (hlt : w0.heap.size < w1.heap.size) (hr : RawAt w0 (w0.heap.size, 0, v) w1) : Icopy w0 w1.heap.size v [w0.heap.size] [(w0.heap.size, 0, v)] w1 where
  old := hb
  raw := fun p hp => by simp at hp; subst hp; exact ⟨hr, by simp, rfl⟩
  apart := fun i j hi hj hn => by simp at hi hj; omega
  tree := fun b hb => by simp at hb; subst hb; exact ⟨Nat.le_refl _, hlt⟩
  wand := fun w' hd => by
    obtain ⟨bls, h1, h2, h3, h4, -⟩ := hd
    obtain ⟨cs, g1, g2⟩ := h4 0 (by simp) (by rw [h1]; simp)
    refine ⟨bls[0]'(by rw [h1]; simp), cs, g1, fun i u hu => ?_, fun b hb => ?_⟩
    · have := (g2 i u hu).1
      simpa using this
    · exact h3 b (List.mem_flatten.2 ⟨_, List.getElem_mem _, hb⟩)
theorem Icopy.end {w0 : World} {lim : Nat} {v : ValueV} {bt : List Nat} {w : World} (h : Icopy w0 lim v bt [] w) : Final w0.heap.size lim v w :=
  h.wand w ⟨[], rfl, by simp, by simp, fun j hj => by simp at hj, fun b i _ _ => ⟨rfl, rfl⟩⟩
/-- What a visit has done: the part's bytes and its items lie in new blocks; the items are still the ones that they were. -/
structure Step (w0 : World) (b o : Nat) (v : ValueV) (g : Nat) (b1 b0 : List Nat) (w w' : World) : Prop where
  old : Below w0.heap.size w0 w'
  size : w.heap.size ≤ w'.heap.size
  block : ∀ k, k < w.heap.size → k ≠ b → w'.heap[k]? = w.heap[k]?
  cell : ∀ i, i ≠ o + 1 → i ≠ o + 2 → w'.cell? ⟨b, i, none⟩ = w.cell? ⟨b, i, none⟩
  frozen : ∀ i, w'.frozen? ⟨b, i, none⟩ = w.frozen? ⟨b, i, none⟩
  data : ∃ a1 c1 a2 c2, w'.cell? ⟨b, o + 1, none⟩ = some (.slice a1 v.bytes.length c1) ∧ w'.cell? ⟨b, o + 2, none⟩ = some (.slice a2 v.items.length c2) ∧ (v.bytes.length ≤ c1 ∧ (a1 = none → c1 = 0)) ∧ BytT b1 a1 v.bytes w' ∧ (v.items ≠ [] → a2 = some ⟨g, 0, none⟩)
  bytes : b1.Nodup ∧ ∀ x ∈ b1, w.heap.size ≤ x ∧ x < w'.heap.size
  none : v.items = [] → b0 = []
  some : v.items ≠ [] → b0 = [g] ∧ w.heap.size ≤ g ∧ g < w'.heap.size ∧ g ∉ b1
  kids : ∀ p ∈ kidsAt g 0 v.items, RawAt w0 p w'
theorem kids_get {b o : Nat} {vs : List ValueV} {j : Nat} (h : j < (kidsAt b o vs).length) (h' : j < vs.length) : (kidsAt b o vs)[j] = (b, o + j * 3, vs[j]) := by
  have := kidsAt_at b o vs j h'
  rw [List.getElem?_eq_getElem h] at this
  injection this
theorem Icopy.next {w0 : World} {lim : Nat} {v0 : ValueV} {bt : List Nat} {P : List Node} {b o : Nat} {v : ValueV} {w w' : World} {g : Nat} {b1 b0 : List Nat} (h : Icopy w0 lim v0 bt (P ++ [(b, o, v)]) w) (s : Step w0 b o v g b1 b0 w w') :
    Icopy w0 lim v0 (bt ++ (b1 ++ b0)) (P ++ kidsAt g 0 v.items) w' := by
  have hbt : b ∈ bt := (h.raw (b, o, v) (by simp)).2.1
  have ho3 : o % 3 = 0 := (h.raw (b, o, v) (by simp)).2.2
  have hblt := (h.tree b hbt).2
  -- cells of the tree's blocks, but for the part's own
  have hsame : ∀ x i, x ∈ bt → (x = b → i < o ∨ o + 3 ≤ i) → w'.cell? ⟨x, i, none⟩ = w.cell? ⟨x, i, none⟩ ∧ w'.frozen? ⟨x, i, none⟩ = w.frozen? ⟨x, i, none⟩ := fun x i hx hi => by
    by_cases e : x = b
    · subst e
      have := hi rfl
      exact ⟨s.cell i (by omega) (by omega), s.frozen i⟩
    · have e2 := s.block x (h.tree x hx).2 e
      exact ⟨World.cell?_of_block (a := ⟨x, i, none⟩) e2, World.frozen?_of_block (a := ⟨x, i, none⟩) e2⟩
  have hne : ∀ p ∈ P, p.1 = b → p.2.1 + 3 ≤ o ∨ o + 3 ≤ p.2.1 := fun p hp e => by
    obtain ⟨j, hj, rfl⟩ := List.getElem_of_mem hp
    have h1 := h.apart j P.length (by simp; omega) (by simp) (by omega)
    rw [List.getElem_append_left hj] at h1
    simp only [List.getElem_concat_length] at h1
    have h2 := (h.raw P[j] (by simp)).2.2
    have h3 : P[j].2.1 ≠ o := fun e2 => h1 (by rw [e, e2])
    omega
  have hPraw : ∀ p ∈ P, RawAt w0 p w' := fun p hp => (h.raw p (by simp [hp])).1.cells fun i hi => hsame _ _ (h.raw p (by simp [hp])).2.1 fun e => by have := hne p hp e; omega
  have hPlt : ∀ p ∈ P, p.1 < w.heap.size := fun p hp => (h.tree _ (h.raw p (by simp [hp])).2.1).2
  have hkg : ∀ p ∈ kidsAt g 0 v.items, p.1 = g ∧ v.items ≠ [] ∧ p.2.1 % 3 = 0 := fun p hp => by
    obtain ⟨j, hj, rfl⟩ := kidsAt_mem hp
    exact ⟨rfl, (fun e => by rw [e] at hj; simp at hj), by simp⟩
  refine ⟨s.old, fun p hp => ?_, fun i j hi hj hn => ?_, fun x hx => ?_, fun w'' hd => h.wand w'' ?_⟩
  · rcases List.mem_append.1 hp with hp | hp
    · exact ⟨hPraw p hp, List.mem_append_left _ (h.raw p (by simp [hp])).2.1, (h.raw p (by simp [hp])).2.2⟩
    · obtain ⟨e1, e2, e3⟩ := hkg p hp
      exact ⟨s.kids p hp, List.mem_append_right _ (List.mem_append_right _ (by rw [(s.some e2).1, e1]; simp)), e3⟩
  · have hcase : ∀ i (hi : i < (P ++ kidsAt g 0 v.items).length), (∃ h1 : i < P.length, (P ++ kidsAt g 0 v.items)[i] = P[i]) ∨ (P.length ≤ i ∧ ∃ h1 : i - P.length < v.items.length, (P ++ kidsAt g 0 v.items)[i] = (g, 0 + (i - P.length) * 3, v.items[i - P.length])) := fun i hi => by
      by_cases e : i < P.length
      · exact .inl ⟨e, List.getElem_append_left e⟩
      · have hl : i - P.length < v.items.length := by simp [kidsAt_length] at hi; omega
        exact .inr ⟨by omega, hl, by rw [List.getElem_append_right (by omega)]; exact kids_get _ hl⟩
    rcases hcase i hi with ⟨h1, e1⟩ | ⟨g1, h1, e1⟩ <;> rcases hcase j hj with ⟨h2, e2⟩ | ⟨g2, h2, e2⟩
    · rw [e1, e2]
      have := h.apart i j (by simp; omega) (by simp; omega) hn
      rw [List.getElem_append_left h1, List.getElem_append_left h2] at this
      exact this
    · rw [e1, e2]
      intro e
      injection e with e3 _
      have h5 := hPlt P[i] (List.getElem_mem h1)
      have h6 := (s.some (fun e => by rw [e] at h2; simp at h2)).2.1
      simp only at e3
      omega
    · rw [e1, e2]
      intro e
      injection e with e3 _
      have h5 := hPlt P[j] (List.getElem_mem h2)
      have h6 := (s.some (fun e => by rw [e] at h1; simp at h1)).2.1
      simp only at e3
      omega
    · rw [e1, e2]
      intro e
      injection e with _ e3
      simp only at e3
      omega
  · have hz := s.size
    have hz0 := h.old.size
    rcases List.mem_append.1 hx with hx | hx
    · have := h.tree x hx; omega
    · rcases List.mem_append.1 hx with hx | hx
      · have := s.bytes.2 x hx; omega
      · by_cases e : v.items = []
        · rw [s.none e] at hx; cases hx
        · obtain ⟨e1, e2, e3, _⟩ := s.some e
          rw [e1] at hx
          simp at hx
          omega
  · obtain ⟨bls, h1, h2, h3, h4, h5⟩ := hd
    obtain ⟨a1, c1, a2, c2, d1, d2, hcap, hbt1, ha2⟩ := s.data
    have hlen : bls.length = P.length + v.items.length := by rw [h1]; simp [kidsAt_length]
    have hsplit : bls = bls.take P.length ++ bls.drop P.length := (List.take_append_drop _ _).symm
    obtain ⟨blP, hblP⟩ : ∃ x, x = bls.take P.length := ⟨_, rfl⟩
    obtain ⟨blK, hblK⟩ : ∃ x, x = bls.drop P.length := ⟨_, rfl⟩
    rw [← hblP, ← hblK] at hsplit
    have hlP : blP.length = P.length := by rw [hblP, List.length_take]; omega
    have hlK : blK.length = v.items.length := by rw [hblK, List.length_drop]; omega
    clear hblP hblK
    subst hsplit
    rw [List.flatten_append] at h2 h3
    obtain ⟨n1, n2, n3⟩ := List.nodup_append.1 h2
    -- cells of the new blocks and of the part itself stay
    have hstay : ∀ x i, x ∈ bt ++ (b1 ++ b0) → (∀ p ∈ P, p.1 = x → i < p.2.1 ∨ p.2.1 + 3 ≤ i) → (v.items ≠ [] → x ≠ g) → w''.cell? ⟨x, i, none⟩ = w'.cell? ⟨x, i, none⟩ ∧ w''.frozen? ⟨x, i, none⟩ = w'.frozen? ⟨x, i, none⟩ := fun x i hx hp hg => h5 x i hx fun p hm e => by
      rcases List.mem_append.1 hm with hm | hm
      · exact hp p hm e
      · obtain ⟨e1, e2, _⟩ := hkg p hm
        exact absurd (e.symm.trans e1) (hg e2)
    have hbg : v.items ≠ [] → b ≠ g := fun e => by have := (s.some e).2.1; omega
    have hbyt : BytT b1 a1 v.bytes w'' := by
      rcases hbt1 with hx | ⟨⟨x, off, ha, e, hc⟩, hx⟩
      · exact .inl hx
      · refine .inr ⟨⟨x, off, ha, e, fun j hj => ?_⟩, hx⟩
        have hx1 : x ∈ b1 := by rw [e]; simp
        have hst := hstay x (off + j) (by simp [hx1]) (fun p hp e2 => by have h6 := hPlt p hp; have h7 := (s.bytes.2 x hx1).1; omega) (fun e2 e3 => (s.some e2).2.2.2 (e3 ▸ hx1))
        exact ⟨hst.1.trans (hc j hj).1, hst.2.trans (hc j hj).2⟩
    have hbz : ∀ x ∈ b1 ++ b0, w.heap.size ≤ x ∧ x < w'.heap.size := fun x hx => by
      rcases List.mem_append.1 hx with hx | hx
      · exact s.bytes.2 x hx
      · by_cases e : v.items = []
        · rw [s.none e] at hx; cases hx
        · obtain ⟨e1, e2, e3, _⟩ := s.some e
          rw [e1] at hx
          simp at hx
          omega
    have hbn : (b1 ++ b0).Nodup := by
      refine List.nodup_append.2 ⟨s.bytes.1, ?_, fun x hx y hy e => ?_⟩
      · by_cases e : v.items = []
        · rw [s.none e]; simp
        · rw [(s.some e).1]; simp
      · by_cases e2 : v.items = []
        · rw [s.none e2] at hy; cases hy
        · obtain ⟨e3, _, _, e4⟩ := s.some e2
          rw [e3] at hy
          simp at hy
          exact e4 (hy ▸ e ▸ hx)
    have hK3 : ∀ x ∈ blK.flatten, w'.heap.size ≤ x := fun x hx => h3 x (List.mem_append_right _ hx)
    have hnew : ((b1 ++ b0) ++ blK.flatten).Nodup := List.nodup_append.2 ⟨hbn, n2, fun x hx y hy e => by have h6 := (hbz x hx).2; have h7 := hK3 y hy; omega⟩
    refine ⟨blP ++ [b1 ++ (b0 ++ blK.flatten)], by simp [hlP], ?_, fun x hx => ?_, fun j hj hj' => ?_, fun x i hx hp => ?_⟩
    · rw [List.flatten_append, List.flatten_cons, List.flatten_nil, List.append_nil, ← List.append_assoc b1]
      exact List.nodup_append.2 ⟨n1, hnew, fun x hx y hy e => by
        rcases List.mem_append.1 hy with hy | hy
        · have h6 := (hbz y hy).2
          have h7 := h3 x (List.mem_append_left _ hx)
          omega
        · exact n3 x hx y hy e⟩
    · rw [List.flatten_append, List.flatten_cons, List.flatten_nil, List.append_nil, ← List.append_assoc b1] at hx
      have hz := s.size
      rcases List.mem_append.1 hx with hx | hx
      · have := h3 x (List.mem_append_left _ hx); omega
      · rcases List.mem_append.1 hx with hx | hx
        · exact (hbz x hx).1
        · have := hK3 x hx; omega
    · by_cases e : j < P.length
      · have hq := h4 j (by simp; omega) (by simp; omega)
        rw [List.getElem_append_left e] at hq
        have q1 : (blP ++ blK)[j]'(by simp; omega) = (blP ++ [b1 ++ (b0 ++ blK.flatten)])[j]'hj' := by
          rw [List.getElem_append_left (by omega), List.getElem_append_left (by omega)]
        rw [q1] at hq
        rw [List.getElem_append_left e]
        exact hq
      · obtain rfl : j = P.length := by simp at hj; omega
        have e1 : (P ++ [(b, o, v)])[P.length]'hj = (b, o, v) := by simp
        have e2 : (blP ++ [b1 ++ (b0 ++ blK.flatten)])[P.length]'hj' = b1 ++ (b0 ++ blK.flatten) := by
          rw [List.getElem_append_right (by omega)]
          simp [hlP]
        rw [e2]
        simp only [e1]
        have hpt : ∀ i, i < 3 → w''.cell? ⟨b, o + i, none⟩ = w'.cell? ⟨b, o + i, none⟩ ∧ w''.frozen? ⟨b, o + i, none⟩ = w'.frozen? ⟨b, o + i, none⟩ := fun i hi => hstay b (o + i) (by simp [hbt]) (fun p hp e3 => by have := hne p hp e3; omega) (fun e3 => hbg e3)
        obtain ⟨n, cs, r1, r2⟩ := (h.raw (b, o, v) (by simp)).1
        have rn : w.cell? ⟨b, o + 0, none⟩ = Option.some (.int .i64 v.number) ∧ (∀ i, i < 3 → w.frozen? ⟨b, o + i, none⟩ = false) := by
          cases n with
          | zero => exact r1.elim
          | succ n =>
            obtain ⟨ab, cb, ai, ci, rfl, _⟩ := r1
            refine ⟨(r2 0 _ rfl).1, fun i hi => ?_⟩
            rcases (by omega : i = 0 ∨ i = 1 ∨ i = 2) with rfl | rfl | rfl
            · exact (r2 0 _ rfl).2
            · exact (r2 1 _ rfl).2
            · exact (r2 2 _ rfl).2
        rw [hgtV_eq]
        refine ⟨[.int .i64 v.number, .slice a1 v.bytes.length c1, .slice a2 v.items.length c2], ⟨a1, c1, a2, c2, b1, b0, blK, rfl, hcap, hbyt, rfl, by rw [← List.append_assoc]; exact hnew, s.none, hlK, fun q hq hq' => ?_⟩, fun i u hu => ?_⟩
        · have hi : v.items ≠ [] := fun e3 => by rw [e3] at hq; simp at hq
          have hk := h4 (P.length + q) (by simp [kidsAt_length]; omega) (by simp; omega)
          have k1 : (P ++ kidsAt g 0 v.items)[P.length + q]'(by simp [kidsAt_length]; omega) = (g, 0 + q * 3, v.items[q]) := by
            rw [List.getElem_append_right (by omega)]
            have := kids_get (b := g) (o := 0) (vs := v.items) (j := P.length + q - P.length) (by rw [kidsAt_length]; omega) (by omega)
            rw [this]
            simp
          have k2 : (blP ++ blK)[P.length + q]'(by simp; omega) = blK[q] := by
            rw [List.getElem_append_right (by omega)]
            congr 1
            omega
          rw [k2] at hk
          simp only [k1] at hk
          obtain ⟨cs', o1, o2⟩ := hk
          exact ⟨g, 0, cs', ha2 hi, (s.some hi).1, o1.up (hgtL_at hq), o2⟩
        · have hi : i < 3 := by
            rcases Nat.lt_or_ge i 3 with h | h
            · exact h
            · rw [List.getElem?_eq_none (by simpa using h)] at hu; cases hu
          refine ⟨(hpt i hi).1.trans ?_, (hpt i hi).2.trans ((s.frozen _).trans (rn.2 i hi))⟩
          rcases (by omega : i = 0 ∨ i = 1 ∨ i = 2) with rfl | rfl | rfl
          · simp at hu; subst hu; exact (s.cell _ (by omega) (by omega)).trans rn.1
          · simp at hu; subst hu; exact d1
          · simp at hu; subst hu; exact d2
    · have hp1 : ∀ p ∈ P, p.1 = x → i < p.2.1 ∨ p.2.1 + 3 ≤ i := fun p hm => hp p (by simp [hm])
      have hp2 : x = b → i < o ∨ o + 3 ≤ i := fun e => hp (b, o, v) (by simp) e.symm
      have q1 := hstay x i (by simp [hx]) hp1 (fun e3 e4 => by have h6 := (h.tree x hx).2; have h7 := (s.some e3).2.1; omega)
      have q2 := hsame x i hx hp2
      exact ⟨q1.1.trans q2.1, q1.2.trans q2.2⟩
end Go.Proofs.Ytefkhknfjohnaaa
