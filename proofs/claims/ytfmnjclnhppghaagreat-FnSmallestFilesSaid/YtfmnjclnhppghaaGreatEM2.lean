/- What may turn, cell by cell. -/
import Derived.Test.YtfmnjclnhppghaaGreatEQV
import Derived.Test.YtfmnjclnhppghaaGreatEGBase
namespace Go.Proofs.YtfmnjclnhppghaaGreat
open Go Go.RowKit
structure Turn (S : Nat → Nat → Prop) (w w' : World) : Prop where
 os : w'.os = w.os
 tape : w'.tape = w.tape
 output : w'.output = w.output
 size : w.heap.size ≤ w'.heap.size
 block : ∀ k, k < w.heap.size → (∀ i, ¬ S k i) → w'.heap[k]? = w.heap[k]?
 cell : ∀ k i, k < w.heap.size → ¬ S k i → w'.cell? ⟨k, i, none⟩ = w.cell? ⟨k, i, none⟩
 frozen : ∀ k i, k < w.heap.size → w'.frozen? ⟨k, i, none⟩ = w.frozen? ⟨k, i, none⟩
 alive : ∀ k i v, w.cell? ⟨k, i, none⟩ = some v → v.oneCell' = true → ∃ v', w'.cell? ⟨k, i, none⟩ = some v' ∧ v'.oneCell' = true
theorem Turn.refl (S : Nat → Nat → Prop) (w : World) : Turn S w w := ⟨rfl, rfl, rfl, Nat.le_refl _, fun _ _ _ => rfl, fun _ _ _ _ => rfl, fun _ _ _ => rfl, fun _ _ v h h1 => ⟨v, h, h1⟩⟩
theorem Turn.trans {S S' : Nat → Nat → Prop} {w w' w'' : World} (h : Turn S w w') (g : Turn S' w' w'') (hs : ∀ k i, k < w.heap.size → S' k i → S k i) : Turn S w w'' :=
 ⟨g.os.trans h.os, g.tape.trans h.tape, g.output.trans h.output, Nat.le_trans h.size g.size,
  fun k hk hn => (g.block k (Nat.lt_of_lt_of_le hk h.size) fun i hi => hn i (hs k i hk hi)).trans (h.block k hk hn),
  fun k i hk hn => (g.cell k i (Nat.lt_of_lt_of_le hk h.size) fun hi => hn (hs k i hk hi)).trans (h.cell k i hk hn),
  fun k i hk => (g.frozen k i (Nat.lt_of_lt_of_le hk h.size)).trans (h.frozen k i hk),
  fun k i v hv h1 => by obtain ⟨v', hv', h2⟩ := h.alive k i v hv h1; exact g.alive k i v' hv' h2⟩
theorem Turn.mono {S S' : Nat → Nat → Prop} {w w' : World} (h : Turn S w w') (hs : ∀ k i, k < w.heap.size → S k i → S' k i) : Turn S' w w' :=
 ⟨h.os, h.tape, h.output, h.size, fun k hk hn => h.block k hk fun i hi => hn i (hs k i hk hi), fun k i hk hn => h.cell k i hk fun hi => hn (hs k i hk hi), h.frozen, h.alive⟩
theorem Turn.of_below (S : Nat → Nat → Prop) {w w' : World} (h : Below w.heap.size w w') : Turn S w w' :=
 ⟨h.os, h.tape, h.output, h.size, fun k hk _ => h.block k hk, fun k i hk _ => h.cell (p := ⟨k, i, none⟩) hk, fun k i hk => h.frozen (p := ⟨k, i, none⟩) hk, fun k i v hv h1 => ⟨v, (h.cell (p := ⟨k, i, none⟩) (cell_lt hv)).trans hv, h1⟩⟩
theorem Turn.below {S : Nat → Nat → Prop} {B : Nat} {w0 w w' : World} (h : Below B w0 w) (g : Turn S w w') (hB : B ≤ w.heap.size) (hs : ∀ k i, S k i → B ≤ k) : Below B w0 w' :=
 ⟨g.os.trans h.os, g.tape.trans h.tape, g.output.trans h.output, Nat.le_trans h.size g.size, fun k hk => (g.block k (Nat.lt_of_lt_of_le hk hB) (fun i hi => by have := hs k i hi; omega)).trans (h.block k hk)⟩
theorem Turn.only {S : Nat → Nat → Prop} {bl : List Nat} {w w' : World} (h : Turn S w w') (hs : ∀ k i, S k i → k ∈ bl) : Only bl w w' :=
 ⟨h.os, h.tape, h.output, h.size, fun k hk hn => h.block k hk fun i hi => hn (hs k i hi)⟩
theorem Turn.set {S : Nat → Nat → Prop} {w : World} {b i : Nat} {v : Value} (hb : S b i) (hone : v.oneCell' = true := by rfl) : Turn S w (w.setCell ⟨b, i, none⟩ v) := by
 have hg := grown_set (grown_refl w b) i v
 refine ⟨hg.os, hg.tape, hg.output, hg.size, fun k hk hn => hg.block k hk fun e => ?_, fun k j hk hn => ?_, fun k j hk => World.frozen?_setCell _ _ _ _, fun k j u hu h1 => ?_⟩
 ·injection e with e
  subst e
  exact hn i hb
 ·refine World.cell?_setCell_other _ _ _ _ fun e => ?_
  injection e with e1 e2
  subst e1 e2
  exact hn hb
 ·by_cases e : (⟨b, i, none⟩ : Addr) = ⟨k, j, none⟩
  ·rw [← e] at hu ⊢
   exact ⟨v, World.cell?_setCell_same _ _ _ hu, hone⟩
  ·exact ⟨u, (World.cell?_setCell_other _ _ _ _ e).trans hu, h1⟩
theorem Turn.kept {S : Nat → Nat → Prop} {w w' : World} {k i : Nat} {v : Value} (h : Turn S w w') (hn : ¬ S k i) (hc : w.cell? ⟨k, i, none⟩ = some v ∧ w.frozen? ⟨k, i, none⟩ = false) : w'.cell? ⟨k, i, none⟩ = some v ∧ w'.frozen? ⟨k, i, none⟩ = false :=
 ⟨(h.cell k i (cell_lt hc.1) hn).trans hc.1, (h.frozen k i (cell_lt hc.1)).trans hc.2⟩
def InV (Z o : Nat) (k i : Nat) : Prop := k = Z ∧ o ≤ i ∧ i < o + 3
def PlacedAt (Z o : Nat) (cs : List Value) (w : World) : Prop := ∀ i u, cs[i]? = some u → w.cell? ⟨Z, o + i, none⟩ = some u ∧ w.frozen? ⟨Z, o + i, none⟩ = false
theorem PlacedAt.kept {S : Nat → Nat → Prop} {Z o : Nat} {cs : List Value} {w w' : World} (h : PlacedAt Z o cs w) (g : Turn S w w') (hn : ∀ i, i < cs.length → ¬ S Z (o + i)) : PlacedAt Z o cs w' := fun i u hu => by
 have hi : i < cs.length := by
  rcases Nat.lt_or_ge i cs.length with h | h
  ·exact h
  ·rw [List.getElem?_eq_none h] at hu; cases hu
 exact g.kept (hn i hi) (h i u hu)
theorem PlacedAt.below {Z o : Nat} {cs : List Value} {w w' : World} (h : PlacedAt Z o cs w) (g : Below w.heap.size w w') : PlacedAt Z o cs w' := h.kept (Turn.of_below (fun _ _ => False) g) fun _ _ h => h
theorem PlacedAt.set {Z o : Nat} {cs : List Value} {w : World} (h : PlacedAt Z o cs w) (i : Nat) (v : Value) (hi : i < cs.length) : PlacedAt Z o (cs.set i v) (w.setCell ⟨Z, o + i, none⟩ v) := fun j u hu => by
 by_cases e : i = j
 ·subst e
  rw [List.getElem?_set_self hi] at hu
  injection hu with hu
  subst hu
  obtain ⟨h1, h2⟩ := h i cs[i] (List.getElem?_eq_getElem hi)
  exact ⟨World.cell?_setCell_same _ _ _ h1, (World.frozen?_setCell _ _ _ _).trans h2⟩
 ·rw [List.getElem?_set_ne e] at hu
  obtain ⟨h1, h2⟩ := h j u hu
  exact ⟨(World.cell?_setCell_other _ _ _ _ (fun e2 => by injection e2 with _ e3; omega)).trans h1, (World.frozen?_setCell _ _ _ _).trans h2⟩
theorem PlacedAt.lt {Z o : Nat} {cs : List Value} {w : World} (h : PlacedAt Z o cs w) (hl : 0 < cs.length) : Z < w.heap.size := cell_lt (h 0 cs[0] (List.getElem?_eq_getElem hl)).1
theorem OwnT.turn {S : Nat → Nat → Prop} {n : Nat} {bl : List Nat} {v : ValueV} {cs : List Value} {w w' : World} (h : OwnT n bl v cs w) (g : Turn S w w') (hn : ∀ b ∈ bl, ∀ i, ¬ S b i) : OwnT n bl v cs w' := by
 classical
 have hg : ∀ k, k < w.heap.size → k ∈ bl → w'.heap[k]? = w.heap[k]? := fun k hk hm => g.block k hk (hn k hm)
 have h2 : ∀ {n : Nat} {bl' : List Nat} {v : ValueV} {cs : List Value}, OwnT n bl' v cs w → (∀ b ∈ bl', b ∈ bl) → OwnT n bl' v cs w' := by
  intro n
  induction n with
  | zero => intro bl' v cs h _; exact h.elim
  | succ n ih =>
   intro bl' v cs h hs
   obtain ⟨ab, cb, ai, ci, b1, b0, bls, e, hcap, h1, rfl, hnd, h0, hl, hr⟩ := h
   have hcell : ∀ b i v, b ∈ bl → (w.cell? ⟨b, i, none⟩ = some v ∧ w.frozen? ⟨b, i, none⟩ = false) → w'.cell? ⟨b, i, none⟩ = some v ∧ w'.frozen? ⟨b, i, none⟩ = false := fun b i v hb hc => by
    have e := hg b (cell_lt hc.1) hb
    exact ⟨(World.cell?_of_block (a := ⟨b, i, none⟩) e).trans hc.1, (World.frozen?_of_block (a := ⟨b, i, none⟩) e).trans hc.2⟩
   refine ⟨ab, cb, ai, ci, b1, b0, bls, e, hcap, ?_, rfl, hnd, h0, hl, fun j hj hj' => ?_⟩
   ·rcases h1 with h1 | ⟨⟨b, off, ha, rfl, hc⟩, h3⟩
    ·exact .inl h1
    ·exact .inr ⟨⟨b, off, ha, rfl, fun j hj => hcell b _ _ (hs b (by simp)) (hc j hj)⟩, h3⟩
   ·obtain ⟨b, off, cs', ha, hb0, ho, hc⟩ := hr j hj hj'
    refine ⟨b, off, cs', ha, hb0, ih ho fun q hq => hs q ?_, fun i u hu => hcell b _ _ (hs b (by simp [hb0])) (hc i u hu)⟩
    exact List.mem_append_right _ (List.mem_append_right _ (List.mem_flatten.2 ⟨_, List.getElem_mem hj', hq⟩))
 exact h2 h fun b hb => hb
theorem CellsAt.turn {S : Nat → Nat → Prop} {b : Nat} {vs : List Value} {w w' : World} (h : CellsAt b vs w) (g : Turn S w w') (hn : ∀ i, i < vs.length → ¬ S b i) : CellsAt b vs w' := fun i v hv => by
 have hi : i < vs.length := by
  rcases Nat.lt_or_ge i vs.length with h | h
  ·exact h
  ·rw [List.getElem?_eq_none h] at hv; cases hv
 exact g.kept (hn i hi) (h i v hv)
end Go.Proofs.YtfmnjclnhppghaaGreat

/- Items that are written in place, one after the other, in a block of their own. No program is walked here. -/
namespace Go.Proofs.YtfmnjclnhppghaaGreat
open Go Go.RowKit
def RowT (n G B : Nat) (bls : List (List Nat)) (vs : List ValueV) (w : World) : Prop :=
 bls.length = vs.length ∧ bls.flatten.Nodup ∧ (∀ b ∈ bls.flatten, B ≤ b) ∧ ∀ j (h : j < vs.length) (h' : j < bls.length), ∃ cs', OwnT n bls[j] vs[j] cs' w ∧ PlacedAt G (j * 3) cs' w
theorem RowT.start (n G B : Nat) (w : World) : RowT n G B [] [] w := ⟨rfl, by simp, by simp, fun j h => by simp at h⟩
theorem RowT.lt {n G B : Nat} {bls : List (List Nat)} {vs : List ValueV} {w : World} (h : RowT n G B bls vs w) : ∀ b ∈ bls.flatten, b < w.heap.size := fun b hb => by
 obtain ⟨h1, h2, h3, h4⟩ := h
 obtain ⟨l, hl, hb⟩ := List.mem_flatten.1 hb
 obtain ⟨j, hj, rfl⟩ := List.getElem_of_mem hl
 obtain ⟨cs', ho, _⟩ := h4 j (by omega) hj
 exact ho.lt b hb
theorem RowT.turn {S : Nat → Nat → Prop} {n G B : Nat} {bls : List (List Nat)} {vs : List ValueV} {w w' : World} (h : RowT n G B bls vs w) (g : Turn S w w') (hG : ∀ i, i < vs.length * 3 → ¬ S G i) (hn : ∀ b, B ≤ b → ∀ i, ¬ S b i) : RowT n G B bls vs w' := by
 obtain ⟨h1, h2, h3, h4⟩ := h
 refine ⟨h1, h2, h3, fun j hj hj' => ?_⟩
 obtain ⟨cs', ho, hp⟩ := h4 j hj hj'
 refine ⟨cs', ho.turn g fun b hb i => hn b (h3 b (List.mem_flatten.2 ⟨_, List.getElem_mem hj', hb⟩)) i, hp.kept g fun i hi => hG _ ?_⟩
 rw [ho.length] at hi
 have : (j + 1) * 3 ≤ vs.length * 3 := Nat.mul_le_mul_right 3 (by omega)
 omega
theorem RowT.snoc {S : Nat → Nat → Prop} {n G B : Nat} {bls : List (List Nat)} {bl : List Nat} {vs : List ValueV} {v : ValueV} {cs : List Value} {w w' : World} (h : RowT n G B bls vs w) (g : Turn S w w') (hG : ∀ i, i < vs.length * 3 → ¬ S G i) (hn : ∀ b, B ≤ b → ∀ i, ¬ S b i)
  (ho : OwnT n bl v cs w') (hp : PlacedAt G (vs.length * 3) cs w') (hb : ∀ b ∈ bl, w.heap.size ≤ b) (hB : B ≤ w.heap.size) : RowT n G B (bls ++ [bl]) (vs ++ [v]) w' := by
 have hlt := h.lt
 obtain ⟨h1, h2, h3, h4⟩ := h.turn g hG hn
 refine ⟨by simp [h1], ?_, ?_, fun j hj hj' => ?_⟩
 ·rw [List.flatten_append, List.nodup_append]
  refine ⟨h2, by simpa using ho.nodup, fun x hx y hy e => ?_⟩
  have h5 := hlt x hx
  have h6 := hb y (by simpa using hy)
  omega
 ·intro b hb'
  rw [List.flatten_append, List.mem_append] at hb'
  rcases hb' with hb' | hb'
  ·exact h3 b hb'
  ·have := hb b (by simpa using hb'); omega
 ·by_cases hjl : j < vs.length
  ·obtain ⟨cs', h5, h6⟩ := h4 j hjl (by omega)
   refine ⟨cs', ?_, h6⟩
   rw [List.getElem_append_left hjl, List.getElem_append_left (by omega)]
   exact h5
  ·have hje : j = vs.length := by simp at hj; omega
   subst hje
   refine ⟨cs, ?_, hp⟩
   rw [List.getElem_append_right (by omega), List.getElem_append_right (by omega)]
   simpa [h1] using ho
theorem RowT.tree {n G B c1 c2 : Nat} {bls : List (List Nat)} {vs : List ValueV} {num : Int} {bs : List UInt8} {ab : Option Addr} {b1 : List Nat} {w : World} (h : RowT n G B bls vs w) (hcap : bs.length ≤ c1 ∧ (ab = none → c1 = 0)) (hb1 : BytT b1 ab bs w) (hn1 : b1.Nodup) (hlo : ∀ b ∈ b1, b < G) (hG : G < B) :
  ∃ bl, OwnT (n + 1) bl (.mk num bs vs) [.int .i64 num, .slice ab bs.length c1, .slice (some ⟨G, 0, none⟩) vs.length c2] w ∧ ∀ b ∈ bl, b ∈ b1 ∨ G ≤ b := by
 obtain ⟨h1, h2, h3, h4⟩ := h
 refine ⟨b1 ++ ((if vs = [] then [] else [G]) ++ bls.flatten), ⟨ab, c1, some ⟨G, 0, none⟩, c2, b1, if vs = [] then [] else [G], bls, rfl, hcap, hb1, rfl, ?_, fun e => if_pos e, h1, fun j hj hj' => ?_⟩, fun b hb => ?_⟩
 ·rw [List.nodup_append, List.nodup_append]
  refine ⟨hn1, ⟨by split <;> simp, h2, fun x hx y hy e => ?_⟩, fun x hx y hy e => ?_⟩
  ·have h5 := h3 y hy
   split at hx
   ·cases hx
   ·simp at hx; omega
  ·have h5 := hlo x hx
   rw [List.mem_append] at hy
   rcases hy with hy | hy
   ·split at hy
    ·cases hy
    ·simp at hy; omega
   ·have := h3 y hy; omega
 ·have hj2 : j < vs.length := hj
  obtain ⟨cs', ho, hp⟩ := h4 j hj2 hj'
  refine ⟨G, 0, cs', rfl, ?_, ho, fun i u hu => ?_⟩
  ·rw [if_neg]
   intro e
   rw [show (ValueV.mk num bs vs).items = vs from rfl] at hj
   rw [e] at hj2
   simp at hj2
  ·rw [Nat.zero_add]
   exact hp i u hu
 ·rw [List.mem_append, List.mem_append] at hb
  rcases hb with hb | hb | hb
  ·exact .inl hb
  ·split at hb
   ·cases hb
   ·simp at hb; exact .inr (by omega)
  ·have := h3 b hb; exact .inr (by omega)
theorem leaf_tree {n : Nat} {num : Int} {bs : List UInt8} {ab ai : Option Addr} {c1 c2 : Nat} {b1 : List Nat} {w : World} (hcap : bs.length ≤ c1 ∧ (ab = none → c1 = 0)) (hb1 : BytT b1 ab bs w) (hn1 : b1.Nodup) :
  OwnT (n + 1) b1 (.mk num bs []) [.int .i64 num, .slice ab bs.length c1, .slice ai 0 c2] w :=
 ⟨ab, c1, ai, c2, b1, [], [], rfl, hcap, hb1, by simp, hn1, fun _ => rfl, rfl, fun j hj => by simp [ValueV.items] at hj⟩
theorem BytT.none0 (w : World) (a : Option Addr) : BytT [] a [] w := .inl ⟨rfl, rfl⟩
end Go.Proofs.YtfmnjclnhppghaaGreat

/- Terminated bytes as data: the content that ReadTerminated finds, and where it ends. No program is walked here. -/
namespace Go.Proofs.YtfmnjclnhppghaaGreat
open Go Go.RowKit
def termR (t : UInt8) : List UInt8 → Bool → Option (List UInt8 × Nat)
 | [], _ => none
 | c :: l, e =>
  if e = false ∧ c = t then some ([], 1)
  else if e = false ∧ c = 92 then (termR t l true).map fun o => (o.1, o.2 + 1)
  else (termR t l false).map fun o => (c :: o.1, o.2 + 1)
def termO (bs : List UInt8) (n : Int) (t : UInt8) : Option (List UInt8 × Nat) := if 0 ≤ n ∧ n ≤ (bs.length : Int) then termR t (bs.drop n.toNat) false else none
def termL (bs : List UInt8) (n : Int) (t : UInt8) : List UInt8 := match termO bs n t with | some o => o.1 | none => []
def termN (bs : List UInt8) (n : Int) (t : UInt8) : Int := match termO bs n t with | some o => n + (o.2 : Int) | none => n
def termK (bs : List UInt8) (n : Int) (t : UInt8) : Bool := (termO bs n t).isSome
theorem termR_len (t : UInt8) : ∀ (l : List UInt8) (e : Bool) (o : List UInt8 × Nat), termR t l e = some o → o.1.length ≤ o.2 ∧ o.2 ≤ l.length ∧ 0 < o.2
 | [], _, o, h => by simp [termR] at h
 | c :: l, e, o, h => by
  unfold termR at h
  split at h
  ·injection h with h; subst h; simp
  ·split at h
   ·cases h2 : termR t l true with
    | none => rw [h2] at h; simp at h
    | some o2 =>
     have h3 := termR_len t l true o2 h2
     rw [h2] at h
     simp at h
     subst h
     simp
     omega
   ·cases h2 : termR t l false with
    | none => rw [h2] at h; simp at h
    | some o2 =>
     have h3 := termR_len t l false o2 h2
     rw [h2] at h
     simp at h
     subst h
     simp
     omega
def TermAt (bs : List UInt8) (p : Nat) (t : UInt8) (k : Nat) (e : Bool) (acc : List UInt8) : Prop :=
 termR t (bs.drop p) false = (termR t (bs.drop k) e).map fun o => (acc ++ o.1, (k - p) + o.2)
theorem TermAt.start (bs : List UInt8) (p : Nat) (t : UInt8) : TermAt bs p t p false [] := by
 unfold TermAt
 cases termR t (bs.drop p) false with
 | none => rfl
 | some o => simp
theorem termAt_drop {bs : List UInt8} {k : Nat} (h : k < bs.length) : bs.drop k = bs[k] :: bs.drop (k + 1) := List.drop_eq_getElem_cons h
theorem TermAt.hit {bs : List UInt8} {p k : Nat} {t : UInt8} {acc : List UInt8} (h : TermAt bs p t k false acc) (hk : k < bs.length) (hc : bs[k] = t) : termR t (bs.drop p) false = some (acc, k - p + 1) := by
 unfold TermAt at h
 rw [h, termAt_drop hk, termR, if_pos ⟨rfl, hc⟩]
 simp
theorem TermAt.esc {bs : List UInt8} {p k : Nat} {t : UInt8} {acc : List UInt8} (h : TermAt bs p t k false acc) (hp : p ≤ k) (hk : k < bs.length) (hc : ¬ bs[k] = t) (he : bs[k] = 92) : TermAt bs p t (k + 1) true acc := by
 unfold TermAt at h ⊢
 rw [h, termAt_drop hk, termR, if_neg (fun h => hc h.2), if_pos ⟨rfl, he⟩, Option.map_map]
 congr 1
 funext o
 simp only [Function.comp]
 congr 1
 omega
theorem TermAt.take {bs : List UInt8} {p k : Nat} {t : UInt8} {e : Bool} {acc : List UInt8} (h : TermAt bs p t k e acc) (hp : p ≤ k) (hk : k < bs.length) (hc : e = true ∨ (¬ bs[k] = t ∧ ¬ bs[k] = 92)) : TermAt bs p t (k + 1) false (acc ++ [bs[k]]) := by
  unfold TermAt at h ⊢
  rw [h, termAt_drop hk, termR]
  rw [if_neg (fun h => by rcases hc with hc | hc; · rw [hc] at h; cases h.1
                          · exact hc.1 h.2), if_neg (fun h => by rcases hc with hc | hc; · rw [hc] at h; cases h.1
                                                                 · exact hc.2 h.2), Option.map_map]
  congr 1
  funext o
  simp only [Function.comp]
  congr 1
  · simp
  · omega
theorem TermAt.none {bs : List UInt8} {p k : Nat} {t : UInt8} {e : Bool} {acc : List UInt8} (h : TermAt bs p t k e acc) (hk : bs.length ≤ k) : termR t (bs.drop p) false = none := by
 unfold TermAt at h
 rw [h, List.drop_eq_nil_of_le hk]
 rfl
end Go.Proofs.YtfmnjclnhppghaaGreat

/- Parts of a slice of bytes: from an index on; between two, with no room behind (takeBytes). -/
namespace Go.Proofs.YtfmnjclnhppghaaGreat
open Go Go.RowKit
def SrcB (a : Option Addr) (bs : List UInt8) (cap : Nat) (w : World) : Prop := Rd a bs w ∧ bs.length ≤ cap ∧ (a = none → cap = 0)
theorem SrcB.below {a : Option Addr} {bs : List UInt8} {cap : Nat} {w w' : World} (h : SrcB a bs cap w) (hb : Below w.heap.size w w') : SrcB a bs cap w' := ⟨h.1.below hb, h.2⟩
theorem Row.srcB {B cap : Nat} {a : Option Addr} {bs : List UInt8} {w : World} (h : Row B a bs cap w) : SrcB a bs cap w := ⟨h.rd, h.2⟩
theorem elem8 : Tryz.prog.underlying 22 = some (.slice (Tryz.prog.elem 22)) := by kernel_rfl
theorem size8 (w : World) : (sizeOf (Tryz.prog.elem 22)).run Tryz.prog w = .ok 1 w := by kernel_rfl
end Go.Proofs.YtfmnjclnhppghaaGreat

/- A slice of bytes between two indexes, with the room behind it. -/
namespace Go.Proofs.YtfmnjclnhppghaaGreat
open Go Go.RowKit
theorem cut_two (a : Option Addr) (bs : List UInt8) (cap p q : Nat) (w : World) (hpq : p ≤ q) (hq : q ≤ bs.length) (hs : SrcB a bs cap w) :
  ∃ A C, (∀ W, (Instr.slice 22 (.slice a bs.length cap) (some (.int .i64 (p : Int))) (some (.int .i64 (q : Int))) none).run Tryz.prog W = .ok (.slice A (q - p) C) W) ∧ ∀ W, SrcB a bs cap W → SrcB A ((bs.drop p).take (q - p)) C W := by
 have hc := hs.2.1
 have hlen : ((bs.drop p).take (q - p)).length = q - p := by rw [List.length_take, List.length_drop]; omega
 refine ⟨if cap = p then a else a.map (·.add (p * 1)), cap - p, fun W => ?_, fun W hr => ⟨?_, by omega, ?_⟩⟩
 ·rw [run_slice_lh W 22 a bs.length cap elem8 .i64 .i64 (p : Int) (q : Int) (by omega) (by omega) (by omega), size8]
  simp [Result.andThen, sliced]
 ·intro j hj
  have hj2 : j < q - p := by omega
  obtain ⟨b, off, rfl, hcell⟩ := hr.1 (p + j) (by omega)
  refine ⟨b, off + p, ?_, ?_⟩
  ·rw [if_neg (by omega)]
   simp [Go.WideShapes.add_plain]
  ·rw [Nat.add_assoc, hcell, List.getElem_take, List.getElem_drop]
 ·intro h
  by_cases h0 : cap = p
  ·omega
  ·rw [if_neg h0] at h
   have := hr.2.2 (by cases a with
    | none => rfl
    | some x => simp at h)
   omega
end Go.Proofs.YtfmnjclnhppghaaGreat
