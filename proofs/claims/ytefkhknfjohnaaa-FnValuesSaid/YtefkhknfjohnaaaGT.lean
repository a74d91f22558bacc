/- What may turn, cell by cell. No program is walked here. Items that are written in place, one after the other, in a block of their own. No program is walked here. -/
import Derived.Test.YtefkhknfjohnaaaGV
namespace Go.Proofs.Ytefkhknfjohnaaa
open Go Go.RowKit
/-- Of what was there, only these cells may have turned. -/
structure Turn (S : Nat → Nat → Prop) (w w' : World) : Prop where
  os : w'.os = w.os
  tape : w'.tape = w.tape
  output : w'.output = w.output
  size : w.heap.size ≤ w'.heap.size
  block : ∀ k, k < w.heap.size → (∀ i, ¬ S k i) → w'.heap[k]? = w.heap[k]?
  cell : ∀ k i, k < w.heap.size → ¬ S k i → w'.cell? ⟨k, i, none⟩ = w.cell? ⟨k, i, none⟩
  frozen : ∀ k i, k < w.heap.size → w'.frozen? ⟨k, i, none⟩ = w.frozen? ⟨k, i, none⟩
  alive : ∀ k i v, w.cell? ⟨k, i, none⟩ = some v → v.oneCell' = true → ∃ v', w'.cell? ⟨k, i, none⟩ = some v' ∧ v'.oneCell' = true
theorem Turn.refl (S : Nat → Nat → Prop) (w : World) : Turn S w w := ⟨rfl, rfl, rfl, Nat.le_refl _, fun _ _ _ => rfl, fun _ _ _ _ => rfl, fun _ _ _ => rfl, fun _ _ v h h1 => ⟨v, h, h1⟩⟩
theorem Turn.trans {S S' : Nat → Nat → Prop} {w w' w'' : World} (h : Turn S w w') (g : Turn S' w' w'') (hs : ∀ k i, k < w.heap.size → S' k i → S k i) : Turn S w w'' :=
  ⟨g.os.trans h.os, g.tape.trans h.tape, g.output.trans h.output, Nat.le_trans h.size g.size,
    fun k hk hn => (g.block k (Nat.lt_of_lt_of_le hk h.size) fun i hi => hn i (hs k i hk hi)).trans (h.block k hk hn),
    fun k i hk hn => (g.cell k i (Nat.lt_of_lt_of_le hk h.size) fun hi => hn (hs k i hk hi)).trans (h.cell k i hk hn),
    fun k i hk => (g.frozen k i (Nat.lt_of_lt_of_le hk h.size)).trans (h.frozen k i hk),
    fun k i v hv h1 => by obtain ⟨v', hv', h2⟩ := h.alive k i v hv h1; exact g.alive k i v' hv' h2⟩
theorem Turn.mono {S S' : Nat → Nat → Prop} {w w' : World} (h : Turn S w w') (hs : ∀ k i, k < w.heap.size → S k i → S' k i) : Turn S' w w' :=
  ⟨h.os, h.tape, h.output, h.size, fun k hk hn => h.block k hk fun i hi => hn i (hs k i hk hi), fun k i hk hn => h.cell k i hk fun hi => hn (hs k i hk hi), h.frozen, h.alive⟩
theorem Turn.of_below (S : Nat → Nat → Prop) {w w' : World} (h : Below w.heap.size w w') : Turn S w w' :=
  ⟨h.os, h.tape, h.output, h.size, fun k hk _ => h.block k hk, fun k i hk _ => h.cell (p := ⟨k, i, none⟩) hk, fun k i hk => h.frozen (p := ⟨k, i, none⟩) hk, fun k i v hv h1 => ⟨v, (h.cell (p := ⟨k, i, none⟩) (cell_lt hv)).trans hv, h1⟩⟩
theorem Turn.below {S : Nat → Nat → Prop} {B : Nat} {w0 w w' : World} (h : Below B w0 w) (g : Turn S w w') (hB : B ≤ w.heap.size) (hs : ∀ k i, S k i → B ≤ k) : Below B w0 w' :=
  ⟨g.os.trans h.os, g.tape.trans h.tape, g.output.trans h.output, Nat.le_trans h.size g.size, fun k hk => (g.block k (Nat.lt_of_lt_of_le hk hB) (fun i hi => by have := hs k i hi; omega)).trans (h.block k hk)⟩
theorem Turn.only {S : Nat → Nat → Prop} {bl : List Nat} {w w' : World} (h : Turn S w w') (hs : ∀ k i, S k i → k ∈ bl) : Only bl w w' :=
  ⟨h.os, h.tape, h.output, h.size, fun k hk hn => h.block k hk fun i hi => hn (hs k i hi)⟩
theorem Turn.set {S : Nat → Nat → Prop} {w : World} {b i : Nat} {v : Value} (hb : S b i) (hone : v.oneCell' = true := by rfl) : Turn S w (w.setCell ⟨b, i, none⟩ v) := by
  have hg := grown_set (grown_refl w b) i v
  refine ⟨hg.os, hg.tape, hg.output, hg.size, fun k hk hn => hg.block k hk fun e => ?_, fun k j hk hn => ?_, fun k j hk => World.frozen?_setCell _ _ _ _, fun k j u hu h1 => ?_⟩
  · injection e with e
    subst e
    exact hn i hb
  · refine World.cell?_setCell_other _ _ _ _ fun e => ?_
    injection e with e1 e2
    subst e1 e2
    exact hn hb
  · by_cases e : (⟨b, i, none⟩ : Addr) = ⟨k, j, none⟩
    · rw [← e] at hu ⊢
      exact ⟨v, World.cell?_setCell_same _ _ _ hu, hone⟩
    · exact ⟨u, (World.cell?_setCell_other _ _ _ _ e).trans hu, h1⟩
theorem Turn.kept {S : Nat → Nat → Prop} {w w' : World} {k i : Nat} {v : Value} (h : Turn S w w') (hn : ¬ S k i) (hc : w.cell? ⟨k, i, none⟩ = some v ∧ w.frozen? ⟨k, i, none⟩ = false) : w'.cell? ⟨k, i, none⟩ = some v ∧ w'.frozen? ⟨k, i, none⟩ = false :=
  ⟨(h.cell k i (cell_lt hc.1) hn).trans hc.1, (h.frozen k i (cell_lt hc.1)).trans hc.2⟩
/-- The three cells of a value in place. -/
def InV (Z o : Nat) (k i : Nat) : Prop := k = Z ∧ o ≤ i ∧ i < o + 3
/-- These cells lie there, and may be written. -/
def PlacedAt (Z o : Nat) (cs : List Value) (w : World) : Prop := ∀ i u, cs[i]? = some u → w.cell? ⟨Z, o + i, none⟩ = some u ∧ w.frozen? ⟨Z, o + i, none⟩ = false
theorem PlacedAt.kept {S : Nat → Nat → Prop} {Z o : Nat} {cs : List Value} {w w' : World} (h : PlacedAt Z o cs w) (g : Turn S w w') (hn : ∀ i, i < cs.length → ¬ S Z (o + i)) : PlacedAt Z o cs w' := fun i u hu => by
  have hi : i < cs.length := by
    rcases Nat.lt_or_ge i cs.length with h | h
    · exact h
    · rw [List.getElem?_eq_none h] at hu; cases hu
  exact g.kept (hn i hi) (h i u hu)
theorem PlacedAt.below {Z o : Nat} {cs : List Value} {w w' : World} (h : PlacedAt Z o cs w) (g : Below w.heap.size w w') : PlacedAt Z o cs w' := h.kept (Turn.of_below (fun _ _ => False) g) fun _ _ h => h
theorem PlacedAt.set {Z o : Nat} {cs : List Value} {w : World} (h : PlacedAt Z o cs w) (i : Nat) (v : Value) (hi : i < cs.length) : PlacedAt Z o (cs.set i v) (w.setCell ⟨Z, o + i, none⟩ v) := fun j u hu => by
  by_cases e : i = j
  · subst e
    rw [List.getElem?_set_self hi] at hu
    injection hu with hu
    subst hu
    obtain ⟨h1, h2⟩ := h i cs[i] (List.getElem?_eq_getElem hi)
    exact ⟨World.cell?_setCell_same _ _ _ h1, (World.frozen?_setCell _ _ _ _).trans h2⟩
  · rw [List.getElem?_set_ne e] at hu
    obtain ⟨h1, h2⟩ := h j u hu
    exact ⟨(World.cell?_setCell_other _ _ _ _ (fun e2 => by injection e2 with _ e3; omega)).trans h1, (World.frozen?_setCell _ _ _ _).trans h2⟩
theorem PlacedAt.far {Z o b i : Nat} {cs : List Value} {w : World} {v : Value} (h : PlacedAt Z o cs w) (hn : b ≠ Z ∨ i < o ∨ o + cs.length ≤ i) (hone : v.oneCell' = true := by rfl) : PlacedAt Z o cs (w.setCell ⟨b, i, none⟩ v) :=
  h.kept (S := fun k j => k = b ∧ j = i) (Turn.set ⟨rfl, rfl⟩ hone) fun j hj h2 => by obtain ⟨h3, h4⟩ := h2; omega
theorem PlacedAt.lt {Z o : Nat} {cs : List Value} {w : World} (h : PlacedAt Z o cs w) (hl : 0 < cs.length) : Z < w.heap.size := cell_lt (h 0 cs[0] (List.getElem?_eq_getElem hl)).1
theorem OwnT.turn {S : Nat → Nat → Prop} {n : Nat} {bl : List Nat} {v : ValueV} {cs : List Value} {w w' : World} (h : OwnT n bl v cs w) (g : Turn S w w') (hn : ∀ b ∈ bl, ∀ i, ¬ S b i) : OwnT n bl v cs w' := by
  classical
  have hg : ∀ k, k < w.heap.size → k ∈ bl → w'.heap[k]? = w.heap[k]? := fun k hk hm => g.block k hk (hn k hm)
  have h2 : ∀ {n : Nat} {bl' : List Nat} {v : ValueV} {cs : List Value}, OwnT n bl' v cs w → (∀ b ∈ bl', b ∈ bl) → OwnT n bl' v cs w' := by
    intro n
    induction n with
    | zero => intro bl' v cs h _; exact h.elim
    | succ n ih =>
      intro bl' v cs h hs
      obtain ⟨ab, cb, ai, ci, b1, b0, bls, e, hcap, h1, rfl, hnd, h0, hl, hr⟩ := h
      have hcell : ∀ b i v, b ∈ bl → (w.cell? ⟨b, i, none⟩ = some v ∧ w.frozen? ⟨b, i, none⟩ = false) → w'.cell? ⟨b, i, none⟩ = some v ∧ w'.frozen? ⟨b, i, none⟩ = false := fun b i v hb hc => by
        have e := hg b (cell_lt hc.1) hb
        exact ⟨(World.cell?_of_block (a := ⟨b, i, none⟩) e).trans hc.1, (World.frozen?_of_block (a := ⟨b, i, none⟩) e).trans hc.2⟩
      refine ⟨ab, cb, ai, ci, b1, b0, bls, e, hcap, ?_, rfl, hnd, h0, hl, fun j hj hj' => ?_⟩
      · rcases h1 with h1 | ⟨⟨b, off, ha, rfl, hc⟩, h3⟩
        · exact .inl h1
        · exact .inr ⟨⟨b, off, ha, rfl, fun j hj => hcell b _ _ (hs b (by simp)) (hc j hj)⟩, h3⟩
      · obtain ⟨b, off, cs', ha, hb0, ho, hc⟩ := hr j hj hj'
        refine ⟨b, off, cs', ha, hb0, ih ho fun q hq => hs q ?_, fun i u hu => hcell b _ _ (hs b (by simp [hb0])) (hc i u hu)⟩
        exact List.mem_append_right _ (List.mem_append_right _ (List.mem_flatten.2 ⟨_, List.getElem_mem hj', hq⟩))
  exact h2 h fun b hb => hb
theorem CellsAt.turn {S : Nat → Nat → Prop} {b : Nat} {vs : List Value} {w w' : World} (h : CellsAt b vs w) (g : Turn S w w') (hn : ∀ i, i < vs.length → ¬ S b i) : CellsAt b vs w' := fun i v hv => by
  have hi : i < vs.length := by
    rcases Nat.lt_or_ge i vs.length with h | h
    · exact h
    · rw [List.getElem?_eq_none h] at hv; cases hv
  exact g.kept (hn i hi) (h i v hv)
end Go.Proofs.Ytefkhknfjohnaaa
namespace Go.Proofs.Ytefkhknfjohnaaa
open Go Go.RowKit
/-- The first items of the block G are these values; what they reach lies in blocks from B on, each in its own. -/
def RowT (n G B : Nat) (bls : List (List Nat)) (vs : List ValueV) (w : World) : Prop :=
  bls.length = vs.length ∧ bls.flatten.Nodup ∧ (∀ b ∈ bls.flatten, B ≤ b) ∧ ∀ j (h : j < vs.length) (h' : j < bls.length), ∃ cs', OwnT n bls[j] vs[j] cs' w ∧ PlacedAt G (j * 3) cs' w
theorem RowT.start (n G B : Nat) (w : World) : RowT n G B [] [] w := ⟨rfl, by simp, by simp, fun j h => by simp at h⟩
theorem RowT.lt {n G B : Nat} {bls : List (List Nat)} {vs : List ValueV} {w : World} (h : RowT n G B bls vs w) : ∀ b ∈ bls.flatten, b < w.heap.size := fun b hb => by
  obtain ⟨h1, h2, h3, h4⟩ := h
  obtain ⟨l, hl, hb⟩ := List.mem_flatten.1 hb
  obtain ⟨j, hj, rfl⟩ := List.getElem_of_mem hl
  obtain ⟨cs', ho, _⟩ := h4 j (by omega) hj
  exact ho.lt b hb
/-- Other cells turn. -/
theorem RowT.turn {S : Nat → Nat → Prop} {n G B : Nat} {bls : List (List Nat)} {vs : List ValueV} {w w' : World} (h : RowT n G B bls vs w) (g : Turn S w w') (hG : ∀ i, i < vs.length * 3 → ¬ S G i) (hn : ∀ b, B ≤ b → ∀ i, ¬ S b i) : RowT n G B bls vs w' := by
  obtain ⟨h1, h2, h3, h4⟩ := h
  refine ⟨h1, h2, h3, fun j hj hj' => ?_⟩
  obtain ⟨cs', ho, hp⟩ := h4 j hj hj'
  refine ⟨cs', ho.turn g fun b hb i => hn b (h3 b (List.mem_flatten.2 ⟨_, List.getElem_mem hj', hb⟩)) i, hp.kept g fun i hi => hG _ ?_⟩
  rw [ho.length] at hi
  have : (j + 1) * 3 ≤ vs.length * 3 := Nat.mul_le_mul_right 3 (by omega)
  omega
/-- One item more. -/
theorem RowT.snoc {S : Nat → Nat → Prop} {n G B : Nat} {bls : List (List Nat)} {bl : List Nat} {vs : List ValueV} {v : ValueV} {cs : List Value} {w w' : World} (h : RowT n G B bls vs w) (g : Turn S w w') (hG : ∀ i, i < vs.length * 3 → ¬ S G i) (hn : ∀ b, B ≤ b → ∀ i, ¬ S b i)
    (ho : OwnT n bl v cs w') (hp : PlacedAt G (vs.length * 3) cs w') (hb : ∀ b ∈ bl, w.heap.size ≤ b) (hB : B ≤ w.heap.size) : RowT n G B (bls ++ [bl]) (vs ++ [v]) w' := by
  have hlt := h.lt
  obtain ⟨h1, h2, h3, h4⟩ := h.turn g hG hn
  refine ⟨by simp [h1], ?_, ?_, fun j hj hj' => ?_⟩
  · rw [List.flatten_append, List.nodup_append]
    refine ⟨h2, by simpa using ho.nodup, fun x hx y hy e => ?_⟩
    have h5 := hlt x hx
    have h6 := hb y (by simpa using hy)
    omega
  · intro b hb'
    rw [List.flatten_append, List.mem_append] at hb'
    rcases hb' with hb' | hb'
    · exact h3 b hb'
    · have := hb b (by simpa using hb'); omega
  · by_cases hjl : j < vs.length
    · obtain ⟨cs', h5, h6⟩ := h4 j hjl (by omega)
      refine ⟨cs', ?_, h6⟩
      rw [List.getElem_append_left hjl, List.getElem_append_left (by omega)]
      exact h5
    · have hje : j = vs.length := by simp at hj; omega
      subst hje
      refine ⟨cs, ?_, hp⟩
      rw [List.getElem_append_right (by omega), List.getElem_append_right (by omega)]
      simpa [h1] using ho
/-- The value that has these items. -/
theorem RowT.tree {n G B c1 c2 : Nat} {bls : List (List Nat)} {vs : List ValueV} {num : Int} {bs : List UInt8} {ab : Option Addr} {b1 : List Nat} {w : World} (h : RowT n G B bls vs w) (hcap : bs.length ≤ c1 ∧ (ab = none → c1 = 0)) (hb1 : BytT b1 ab bs w) (hn1 : b1.Nodup) (hlo : ∀ b ∈ b1, b < G) (hG : G < B) :
    ∃ bl, OwnT (n + 1) bl (.mk num bs vs) [.int .i64 num, .slice ab bs.length c1, .slice (some ⟨G, 0, none⟩) vs.length c2] w ∧ ∀ b ∈ bl, b ∈ b1 ∨ G ≤ b := by
  obtain ⟨h1, h2, h3, h4⟩ := h
  refine ⟨b1 ++ ((if vs = [] then [] else [G]) ++ bls.flatten), ⟨ab, c1, some ⟨G, 0, none⟩, c2, b1, if vs = [] then [] else [G], bls, rfl, hcap, hb1, rfl, ?_, fun e => if_pos e, h1, fun j hj hj' => ?_⟩, fun b hb => ?_⟩
  · rw [List.nodup_append, List.nodup_append]
    refine ⟨hn1, ⟨by split <;> simp, h2, fun x hx y hy e => ?_⟩, fun x hx y hy e => ?_⟩
    · have h5 := h3 y hy
      split at hx
      · cases hx
      · simp at hx; omega
    · have h5 := hlo x hx
      rw [List.mem_append] at hy
      rcases hy with hy | hy
      · split at hy
        · cases hy
        · simp at hy; omega
      · have := h3 y hy; omega
  · have hj2 : j < vs.length := hj
    obtain ⟨cs', ho, hp⟩ := h4 j hj2 hj'
    refine ⟨G, 0, cs', rfl, ?_, ho, fun i u hu => ?_⟩
    · rw [if_neg]
      intro e
      rw [show (ValueV.mk num bs vs).items = vs from rfl] at hj
      rw [e] at hj2
      simp at hj2
    · rw [Nat.zero_add]
      exact hp i u hu
  · rw [List.mem_append, List.mem_append] at hb
    rcases hb with hb | hb | hb
    · exact .inl hb
    · split at hb
      · cases hb
      · simp at hb; exact .inr (by omega)
    · have := h3 b hb; exact .inr (by omega)
/-- A value without items. -/
theorem leaf_tree {n : Nat} {num : Int} {bs : List UInt8} {ab ai : Option Addr} {c1 c2 : Nat} {b1 : List Nat} {w : World} (hcap : bs.length ≤ c1 ∧ (ab = none → c1 = 0)) (hb1 : BytT b1 ab bs w) (hn1 : b1.Nodup) :
    OwnT (n + 1) b1 (.mk num bs []) [.int .i64 num, .slice ab bs.length c1, .slice ai 0 c2] w :=
  ⟨ab, c1, ai, c2, b1, [], [], rfl, hcap, hb1, by simp, hn1, fun _ => rfl, rfl, fun j hj => by simp [ValueV.items] at hj⟩
theorem BytT.none0 (w : World) (a : Option Addr) : BytT [] a [] w := .inl ⟨rfl, rfl⟩
end Go.Proofs.Ytefkhknfjohnaaa
