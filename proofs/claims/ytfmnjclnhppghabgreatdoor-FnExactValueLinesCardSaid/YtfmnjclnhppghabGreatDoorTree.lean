/- Values whose slices lie each in a block of its own: what stays when other blocks turn; marks of values. No program is walked here. -/
import Derived.Test.YtfmnjclnhppghabGreatDoorOwnV
namespace Go.Proofs.YtfmnjclnhppghabGreatDoor
open Go Go.RowKit
/-- Only these blocks may have turned. -/
structure Only (bl : List Nat) (w w' : World) : Prop where
  os : w'.os = w.os
  tape : w'.tape = w.tape
  output : w'.output = w.output
  size : w.heap.size ≤ w'.heap.size
  block : ∀ k, k < w.heap.size → k ∉ bl → w'.heap[k]? = w.heap[k]?
theorem Only.refl (bl : List Nat) (w : World) : Only bl w w := ⟨rfl, rfl, rfl, Nat.le_refl _, fun _ _ _ => rfl⟩
theorem Only.trans {bl : List Nat} {w w' w'' : World} (h : Only bl w w') (g : Only bl w' w'') : Only bl w w'' :=
  ⟨g.os.trans h.os, g.tape.trans h.tape, g.output.trans h.output, Nat.le_trans h.size g.size, fun k hk hn => (g.block k (Nat.lt_of_lt_of_le hk h.size) hn).trans (h.block k hk hn)⟩
theorem Only.mono {bl bl' : List Nat} {w w' : World} (h : Only bl w w') (hs : ∀ b ∈ bl, b ∈ bl') : Only bl' w w' := ⟨h.os, h.tape, h.output, h.size, fun k hk hn => h.block k hk fun e => hn (hs k e)⟩
theorem Only.of_grown {bl : List Nat} {w w' : World} {b : Nat} (h : w.grownBy w' (some b)) (hb : b ∈ bl) : Only bl w w' := ⟨h.os, h.tape, h.output, h.size, fun k hk hn => h.block k hk (by intro e; injection e with e; exact hn (e ▸ hb))⟩
theorem Only.of_below (bl : List Nat) {w w' : World} (h : Below w.heap.size w w') : Only bl w w' := ⟨h.os, h.tape, h.output, h.size, fun k hk _ => h.block k hk⟩
theorem Only.below {bl : List Nat} {B : Nat} {w0 w w' : World} (h : Below B w0 w) (g : Only bl w w') (hB : B ≤ w.heap.size) (hb : ∀ b ∈ bl, B ≤ b) : Below B w0 w' :=
  ⟨g.os.trans h.os, g.tape.trans h.tape, g.output.trans h.output, Nat.le_trans h.size g.size, fun k hk => (g.block k (Nat.lt_of_lt_of_le hk hB) (fun e => by have := hb k e; omega)).trans (h.block k hk)⟩
theorem Only.set {bl : List Nat} {w : World} {b i : Nat} {v : Value} (hb : b ∈ bl) : Only bl w (w.setCell ⟨b, i, none⟩ v) := Only.of_grown (grown_set (grown_refl w b) i v) hb
theorem Only.cell {bl : List Nat} {w w' : World} {b i : Nat} {v : Value} (h : Only bl w w') (hb : b ∉ bl) (hc : w.cell? ⟨b, i, none⟩ = some v ∧ w.frozen? ⟨b, i, none⟩ = false) : w'.cell? ⟨b, i, none⟩ = some v ∧ w'.frozen? ⟨b, i, none⟩ = false := by
  have e := h.block b (cell_lt hc.1) hb
  exact ⟨(World.cell?_of_block (a := ⟨b, i, none⟩) e).trans hc.1, (World.frozen?_of_block (a := ⟨b, i, none⟩) e).trans hc.2⟩
/-- Bytes in a block of their own, that may be written. -/
def BytT (b1 : List Nat) (a : Option Addr) (bs : List UInt8) (w : World) : Prop :=
  (bs = [] ∧ b1 = []) ∨ (∃ b off, a = some ⟨b, off, none⟩ ∧ b1 = [b] ∧ ∀ j (h : j < bs.length), w.cell? ⟨b, off + j, none⟩ = some (.int .u8 (bs[j].toNat : Int)) ∧ w.frozen? ⟨b, off + j, none⟩ = false) ∧ bs ≠ []
theorem BytT.rd {b1 : List Nat} {a : Option Addr} {bs : List UInt8} {w : World} (h : BytT b1 a bs w) : Rd a bs w := fun j hj => by
  rcases h with ⟨rfl, _⟩ | ⟨⟨b, off, ha, _, hc⟩, _⟩
  · simp at hj
  · exact ⟨b, off, ha, (hc j hj).1⟩
theorem BytT.keep {b1 bl : List Nat} {a : Option Addr} {bs : List UInt8} {w w' : World} (h : BytT b1 a bs w) (g : Only bl w w') (hn : ∀ b ∈ b1, b ∉ bl) : BytT b1 a bs w' := by
  rcases h with h | ⟨⟨b, off, ha, rfl, hc⟩, h2⟩
  · exact .inl h
  · exact .inr ⟨⟨b, off, ha, rfl, fun j hj => g.cell (hn b (by simp)) (hc j hj)⟩, h2⟩
theorem BytT.lt {b1 : List Nat} {a : Option Addr} {bs : List UInt8} {w : World} (h : BytT b1 a bs w) : ∀ b ∈ b1, b < w.heap.size := fun b hb => by
  rcases h with ⟨_, rfl⟩ | ⟨⟨b', off, ha, rfl, hc⟩, h2⟩
  · cases hb
  · simp at hb
    subst hb
    exact cell_lt (hc 0 (by cases bs with | nil => exact absurd rfl h2 | cons x r => simp)).1
theorem Fresh.tree {B : Nat} {a : Option Addr} {bs : List UInt8} {w : World} (h : Fresh B a bs w) : ∃ b1, BytT b1 a bs w ∧ b1.Nodup ∧ ∀ b ∈ b1, B ≤ b := by
  by_cases hbs : bs = []
  · exact ⟨[], .inl ⟨hbs, rfl⟩, List.nodup_nil, fun b hb => by cases hb⟩
  · rcases h with h | ⟨b, off, ha, hB, hc⟩
    · exact absurd h hbs
    · exact ⟨[b], .inr ⟨⟨b, off, ha, rfl, hc⟩, hbs⟩, by simp, fun b' hb => by simp at hb; omega⟩
/-- Three cells hold this value, at most n levels deep; each of its slices lies in a block of its own, these blocks together are bl. -/
def OwnT : Nat → List Nat → ValueV → List Value → World → Prop
  | 0, _, _, _, _ => False
  | n + 1, bl, v, cs, w => ∃ (ab : Option Addr) (cb : Nat) (ai : Option Addr) (ci : Nat) (b1 b0 : List Nat) (bls : List (List Nat)), cs = [.int .i64 v.number, .slice ab v.bytes.length cb, .slice ai v.items.length ci] ∧ (v.bytes.length ≤ cb ∧ (ab = none → cb = 0)) ∧ BytT b1 ab v.bytes w ∧ bl = b1 ++ (b0 ++ bls.flatten) ∧ bl.Nodup ∧ (v.items = [] → b0 = []) ∧ bls.length = v.items.length ∧
      ∀ j (h : j < v.items.length) (h' : j < bls.length), ∃ b off cs', ai = some ⟨b, off, none⟩ ∧ b0 = [b] ∧ OwnT n bls[j] v.items[j] cs' w ∧ ∀ i u, cs'[i]? = some u → w.cell? ⟨b, off + j * 3 + i, none⟩ = some u ∧ w.frozen? ⟨b, off + j * 3 + i, none⟩ = false
/-- The items of such a value. -/
def OwnL (n : Nat) (b0 : List Nat) (bls : List (List Nat)) (ai : Option Addr) (vs : List ValueV) (w : World) : Prop :=
  (vs = [] → b0 = []) ∧ bls.length = vs.length ∧ ∀ j (h : j < vs.length) (h' : j < bls.length), ∃ b off cs', ai = some ⟨b, off, none⟩ ∧ b0 = [b] ∧ OwnT n bls[j] vs[j] cs' w ∧ ∀ i u, cs'[i]? = some u → w.cell? ⟨b, off + j * 3 + i, none⟩ = some u ∧ w.frozen? ⟨b, off + j * 3 + i, none⟩ = false
theorem OwnT.cells {n : Nat} {bl : List Nat} {v : ValueV} {cs : List Value} {w : World} (h : OwnT n bl v cs w) : ∃ ab cb ai ci, cs = [.int .i64 v.number, .slice ab v.bytes.length cb, .slice ai v.items.length ci] := by
  cases n with
  | zero => exact h.elim
  | succ n => obtain ⟨ab, cb, ai, ci, _, _, _, e, _⟩ := h; exact ⟨ab, cb, ai, ci, e⟩
theorem OwnT.length {n : Nat} {bl : List Nat} {v : ValueV} {cs : List Value} {w : World} (h : OwnT n bl v cs w) : cs.length = 3 := by
  obtain ⟨ab, cb, ai, ci, rfl⟩ := h.cells
  rfl
theorem OwnT.nodup {n : Nat} {bl : List Nat} {v : ValueV} {cs : List Value} {w : World} (h : OwnT n bl v cs w) : bl.Nodup := by
  cases n with
  | zero => exact h.elim
  | succ n => obtain ⟨ab, cb, ai, ci, _, _, _, _, _, _, _, hn, _⟩ := h; exact hn
theorem OwnT.lt : ∀ {n : Nat} {bl : List Nat} {v : ValueV} {cs : List Value} {w : World}, OwnT n bl v cs w → ∀ b ∈ bl, b < w.heap.size
  | 0, _, _, _, _, h, _, _ => h.elim
  | n + 1, bl, v, cs, w, h, b, hb => by
    obtain ⟨ab, cb, ai, ci, b1, b0, bls, e, _, h1, rfl, hn, h0, hl, hr⟩ := h
    simp only [List.mem_append] at hb
    rcases hb with hb | hb | hb
    · exact h1.lt b hb
    · cases hv : v.items with
      | nil => rw [h0 hv] at hb; cases hb
      | cons x r =>
        have hp : 0 < v.items.length := by rw [hv]; simp
        obtain ⟨b', off, cs', _, rfl, ho, hc⟩ := hr 0 hp (by omega)
        simp at hb
        subst hb
        have := ho.length
        exact cell_lt (hc 0 cs'[0] (by rw [List.getElem?_eq_getElem (by omega)])).1
    · obtain ⟨l, hl2, hb⟩ := List.mem_flatten.1 hb
      obtain ⟨j, hj, rfl⟩ := List.getElem_of_mem hl2
      obtain ⟨b', off, cs', _, _, ho, hc⟩ := hr j (by omega) hj
      exact ho.lt b hb
theorem OwnT.keep : ∀ {n : Nat} {bl bx : List Nat} {v : ValueV} {cs : List Value} {w w' : World}, OwnT n bl v cs w → Only bx w w' → (∀ b ∈ bl, b ∉ bx) → OwnT n bl v cs w'
  | 0, _, _, _, _, _, _, h, _, _ => h.elim
  | n + 1, bl, bx, v, cs, w, w', h, hg, hn => by
    obtain ⟨ab, cb, ai, ci, b1, b0, bls, e, hcap, h1, rfl, hnd, h0, hl, hr⟩ := h
    refine ⟨ab, cb, ai, ci, b1, b0, bls, e, hcap, h1.keep hg fun b hb => hn b (by simp [hb]), rfl, hnd, h0, hl, fun j hj hj' => ?_⟩
    obtain ⟨b, off, cs', ha, hb0, ho, hc⟩ := hr j hj hj'
    refine ⟨b, off, cs', ha, hb0, ho.keep hg fun q hq => hn q ?_, fun i u hu => hg.cell (hn b (by simp [hb0])) (hc i u hu)⟩
    exact List.mem_append_right _ (List.mem_append_right _ (List.mem_flatten.2 ⟨_, List.getElem_mem hj', hq⟩))
theorem OwnT.below {n : Nat} {bl : List Nat} {v : ValueV} {cs : List Value} {w w' : World} (h : OwnT n bl v cs w) (hb : Below w.heap.size w w') : OwnT n bl v cs w' := h.keep (Only.of_below [] hb) fun b _ e => by cases e
theorem OwnT.up : ∀ {n m : Nat} {bl : List Nat} {v : ValueV} {cs : List Value} {w : World}, OwnT n bl v cs w → n ≤ m → OwnT m bl v cs w
  | 0, _, _, _, _, _, h, _ => h.elim
  | n + 1, m, bl, v, cs, w, h, hm => by
    obtain ⟨m, rfl⟩ : ∃ m', m = m' + 1 := ⟨m - 1, by omega⟩
    obtain ⟨ab, cb, ai, ci, b1, b0, bls, e, hcap, h1, rfl, hnd, h0, hl, hr⟩ := h
    refine ⟨ab, cb, ai, ci, b1, b0, bls, e, hcap, h1, rfl, hnd, h0, hl, fun j hj hj' => ?_⟩
    obtain ⟨b, off, cs', ha, hb0, ho, hc⟩ := hr j hj hj'
    exact ⟨b, off, cs', ha, hb0, ho.up (by omega), hc⟩
/-- What such a value says of the blocks that it reaches. -/
theorem OwnT.own : ∀ {n : Nat} {bl : List Nat} {f : Nat → Prop} {v : ValueV} {cs : List Value} {w : World}, OwnT n bl v cs w → (∀ b ∈ bl, f b) → OwnV f n v cs w
  | 0, _, _, _, _, _, h, _ => h.elim
  | n + 1, bl, f, v, cs, w, h, hf => by
    obtain ⟨ab, cb, ai, ci, b1, b0, bls, e, hcap, h1, rfl, hnd, h0, hl, hr⟩ := h
    refine ⟨ab, cb, ai, ci, e, ⟨h1.rd, hcap.2⟩, fun b off ha hn => ?_, fun j hj => ?_⟩
    · rcases h1 with ⟨h1, _⟩ | ⟨⟨b', off', ha', rfl, _⟩, _⟩
      · rw [h1] at hn; exact absurd rfl hn
      · rw [ha] at ha'
        injection ha' with ha'
        injection ha' with e1
        subst e1
        exact hf b (by simp)
    · obtain ⟨b, off, cs', ha, hb0, ho, hc⟩ := hr j hj (by omega)
      exact ⟨b, off, cs', ha, hf b (by simp [hb0]), ho.own fun q hq => hf q (List.mem_append_right _ (List.mem_append_right _ (List.mem_flatten.2 ⟨_, List.getElem_mem (show j < bls.length by omega), hq⟩))), fun i u hu => (hc i u hu).1⟩
theorem OwnT.is {n : Nat} {bl : List Nat} {v : ValueV} {cs : List Value} {w : World} (h : OwnT n bl v cs w) : IsVal n v cs w := (h.own (f := fun _ => True) fun _ _ => trivial).is
theorem OwnV.keep {f : Nat → Prop} : ∀ {n : Nat} {bx : List Nat} {v : ValueV} {cs : List Value} {w w' : World}, OwnV f n v cs w → Only bx w w' → (∀ b, f b → b ∉ bx) → OwnV f n v cs w'
  | 0, _, _, _, _, _, h, _, _ => h.elim
  | n + 1, bx, v, cs, w, w', h, hg, hn => by
    obtain ⟨ab, cb, ai, ci, e, ⟨h1, h1n⟩, hb, h2⟩ := h
    refine ⟨ab, cb, ai, ci, e, ⟨fun j hj => ?_, h1n⟩, hb, fun j hj => ?_⟩
    · obtain ⟨b, off, ha, hc⟩ := h1 j hj
      exact ⟨b, off, ha, (World.cell?_of_block (a := ⟨b, off + j, none⟩) (hg.block b (cell_lt hc) (hn b (hb b off ha (by omega))))).trans hc⟩
    · obtain ⟨b, off, cs', e2, hfb, h3, h4⟩ := h2 j hj
      exact ⟨b, off, cs', e2, hfb, h3.keep hg hn, fun i u hi => (World.cell?_of_block (a := ⟨b, off + j * 3 + i, none⟩) (hg.block b (cell_lt (h4 i u hi)) (hn b hfb))).trans (h4 i u hi)⟩
/-! Marks. -/
mutual
/-- How many marks a value takes, its number left out. -/
def widV : ValueV → Nat
  | .mk _ b l => b.length + widL l
def widL : List ValueV → Nat
  | [] => 0
  | v :: vs => 1 + widV v + widL vs
end
mutual
/-- The value with the marks from k on, its number left as it is. -/
def markV (k : Nat) : ValueV → ValueV
  | .mk n b l => .mk n (marks k b.length) (markL (k + b.length) l)
def markL (k : Nat) : List ValueV → List ValueV
  | [] => []
  | v :: vs => .mk (k : Int) (markV (k + 1) v).bytes (markV (k + 1) v).items :: markL (k + (1 + widV v)) vs
end
/-- One item with its marks. -/
def markI (k : Nat) (v : ValueV) : ValueV := .mk (k : Int) (markV (k + 1) v).bytes (markV (k + 1) v).items
theorem markV_eq (k : Nat) (v : ValueV) : markV k v = .mk v.number (marks k v.bytes.length) (markL (k + v.bytes.length) v.items) := by
  cases v with
  | mk n b l => rw [markV]; rfl
theorem widV_eq (v : ValueV) : widV v = v.bytes.length + widL v.items := by
  cases v with
  | mk n b l => rw [widV]; rfl
theorem markL_length : ∀ (k : Nat) (vs : List ValueV), (markL k vs).length = vs.length
  | _, [] => by rw [markL]
  | k, v :: vs => by rw [markL, List.length_cons, List.length_cons, markL_length _ vs]
theorem widL_next (vs : List ValueV) (j : Nat) (h : j < vs.length) : widL (vs.take (j + 1)) = widL (vs.take j) + (1 + widV vs[j]) := by
  induction vs generalizing j with
  | nil => simp at h
  | cons v vs ih =>
    cases j with
    | zero => simp [widL]
    | succ j =>
      have := ih j (by simpa using h)
      simp only [List.take_succ_cons, widL, List.getElem_cons_succ] at this ⊢
      omega
theorem widL_take_le (vs : List ValueV) (j : Nat) : widL (vs.take j) ≤ widL vs := by
  induction vs generalizing j with
  | nil => simp
  | cons v vs ih =>
    cases j with
    | zero => simp [widL]
    | succ j =>
      have := ih j
      simp only [List.take_succ_cons, widL]
      omega
theorem markL_at : ∀ (k : Nat) (vs : List ValueV) (j : Nat) (h : j < vs.length) (h' : j < (markL k vs).length), (markL k vs)[j] = markI (k + widL (vs.take j)) vs[j]
  | k, [], j, h, _ => by simp at h
  | k, v :: vs, 0, _, _ => by simp only [markL, List.getElem_cons_zero, List.take_zero, widL, Nat.add_zero, markI]
  | k, v :: vs, j + 1, h, h' => by
    simp only [markL, List.getElem_cons_succ, List.take_succ_cons, widL]
    rw [markL_at (k + (1 + widV v)) vs j (by simpa using h) (by simpa [markL_length] using h)]
    congr 1; omega
/-- The first i items are marked. -/
def MixV (k : Nat) (vs : List ValueV) (i : Nat) (L : List ValueV) : Prop := L.length = vs.length ∧ ∀ j (h : j < vs.length) (h' : j < L.length), L[j] = if j < i then markI (k + widL (vs.take j)) vs[j] else vs[j]
theorem MixV.start (k : Nat) (vs : List ValueV) : MixV k vs 0 vs := ⟨rfl, fun j _ _ => by rw [if_neg (by omega)]⟩
theorem MixV.next {k i : Nat} {vs L : List ValueV} (h : MixV k vs i L) (_hi : i < vs.length) : MixV k vs (i + 1) (L.set i (markI (k + widL (vs.take i)) vs[i])) := by
  obtain ⟨h1, h2⟩ := h
  refine ⟨by simp [h1], fun j hj hj' => ?_⟩
  by_cases e : i = j
  · subst e
    rw [List.getElem_set_self, if_pos (by omega)]
  · rw [List.getElem_set_ne e, h2 j hj (by omega)]
    by_cases hlt : j < i
    · rw [if_pos hlt, if_pos (by omega)]
    · rw [if_neg hlt, if_neg (by omega)]
theorem MixV.at {k i : Nat} {vs L : List ValueV} (h : MixV k vs i L) (hi : i < vs.length) (hi' : i < L.length) : L[i] = vs[i] := by rw [h.2 i hi hi', if_neg (by omega)]
theorem MixV.end {k : Nat} {vs L : List ValueV} (h : MixV k vs vs.length L) : L = markL k vs := by
  refine List.ext_getElem (by rw [h.1, markL_length]) fun j h1 h2 => ?_
  have hj : j < vs.length := by have := h.1; omega
  rw [h.2 j hj h1, if_pos hj, markL_at k vs j hj h2]
mutual
/-- The size of a value, as the laws count it. -/
def sizV : ValueV → Nat
  | .mk _ b l => b.length + (l.length + sizL l)
def sizL : List ValueV → Nat
  | [] => 0
  | v :: vs => sizV v + sizL vs
end
theorem sizV_eq (v : ValueV) : sizV v = v.bytes.length + (v.items.length + sizL v.items) := by
  cases v with
  | mk n b l => rw [sizV]; rfl
theorem sizL_next (vs : List ValueV) (j : Nat) (h : j < vs.length) : sizL (vs.take (j + 1)) = sizL (vs.take j) + sizV vs[j] := by
  induction vs generalizing j with
  | nil => simp at h
  | cons v vs ih =>
    cases j with
    | zero => simp [sizL]
    | succ j =>
      have := ih j (by simpa using h)
      simp only [List.take_succ_cons, sizL, List.getElem_cons_succ] at this ⊢
      omega
theorem sizL_take_le (vs : List ValueV) (j : Nat) : sizL (vs.take j) ≤ sizL vs := by
  induction vs generalizing j with
  | nil => simp
  | cons v vs ih =>
    cases j with
    | zero => simp [sizL]
    | succ j =>
      have := ih j
      simp only [List.take_succ_cons, sizL]
      omega
theorem sizL_at {vs : List ValueV} {j : Nat} (h : j < vs.length) : sizV vs[j] ≤ sizL vs := by
  have h1 := sizL_next vs j h
  have h2 := sizL_take_le vs (j + 1)
  omega
mutual
theorem wid_siz : ∀ v : ValueV, widV v ≤ sizV v
  | .mk n b l => by
    have := wid_sizL l
    rw [widV, sizV]
    omega
theorem wid_sizL : ∀ l : List ValueV, widL l ≤ l.length + sizL l
  | [] => by simp [widL]
  | v :: vs => by
    have h1 := wid_siz v
    have h2 := wid_sizL vs
    simp only [widL, sizL, List.length_cons]
    omega
end
end Go.Proofs.YtfmnjclnhppghabGreatDoor
