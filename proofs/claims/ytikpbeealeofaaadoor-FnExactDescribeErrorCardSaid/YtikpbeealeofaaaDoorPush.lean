/- Bytes gathered by append: the row that a call makes; l1Bytes. -/
import Derived.Test.YtikpbeealeofaaaDoorBytes
import Derived.Test.YtikpbeealeofaaaDoorDrawPick
import Derived.Maps.Range
namespace Go.Proofs.YtikpbeealeofaaaDoor
open Go Go.RowKit
/-- A byte as a cell. -/
def bv (b : UInt8) : Value := .int .u8 (b.toNat : Int)
/-- The slice v owns these bytes, in a block from base on. -/
def OwnB (base : Nat) (v : Value) (bs : List UInt8) (w : World) : Prop := w.ownsRow base 5 1 v bs.length (bs.map bv)
theorem OwnB.fresh {base : Nat} {v : Value} {bs : List UInt8} {w : World} (h : OwnB base v bs w) : ∃ a cap, v = .slice a bs.length cap ∧ Fresh base a bs w := by
  have h0 : w.ownsRow base 5 1 v bs.length (bs.map bv) := h
  rcases h.2 with ⟨rfl, hn⟩ | ⟨g, cap, cur, rfl, hb, hg, hnc, hcm, hcs, ht⟩
  · have : bs = [] := List.eq_nil_of_length_eq_zero hn
    subst this
    exact ⟨none, 0, rfl, .inl rfl⟩
  · refine ⟨_, cap, rfl, .inr ⟨g, 0, rfl, hb, fun j hj => ⟨?_, ?_⟩⟩⟩
    · rw [Nat.zero_add, h0.cellAt j (by omega)]
      simp [hj, bv]
    · rw [Nat.zero_add]; exact h0.frozenAt j
theorem OwnB.row {base : Nat} {v : Value} {bs : List UInt8} {w : World} (h : OwnB base v bs w) : ∃ a cap, v = .slice a bs.length cap ∧ Row base a bs cap w := by
  obtain ⟨a, cap, hv, hf⟩ := h.fresh
  refine ⟨a, cap, hv, hf, ?_⟩
  rcases h.2 with ⟨rfl, hn⟩ | ⟨g, cap', cur, rfl, hb, hg, hnc, _⟩
  · injection hv with h1 h2 h3
    subst h3
    exact ⟨by omega, fun _ => rfl⟩
  · injection hv with h1 h2 h3
    subst h1 h3
    exact ⟨hnc, fun e => by cases e⟩
theorem OwnB.start (w : World) : OwnB w.heap.size (.slice (some ⟨w.heap.size, 0, none⟩) 0 0) [] (w.alloc (.cells #[] 5)) :=
  World.ownsRow_made w #[] 0 (Nat.le_refl _) (by unfold maxLen; omega) rfl
theorem OwnB.far {base c : Nat} {v : Value} {bs : List UInt8} {w w' : World} (h : OwnB base v bs w) (hc : c < base) (hg : w.grownBy w' (some c)) : OwnB base v bs w' := by
  refine World.ownsRow.kept (w := w) h hg ?_
  cases hv : v.ownBlock with
  | none => exact .inl rfl
  | some g =>
    have := (World.ownsRow.lt (w := w) h g hv).1
    exact .inr (by intro e; injection e with e; omega)
theorem infoParts : ∃ i, Tryd.prog.info? 5 = some i ∧ i.zero = some (.int .u8 0) ∧ i.size = 1 ∧ i.bytes = 1 := by
  obtain ⟨i, hi, h⟩ := Option.map_eq_some_iff.1 infoU8
  simp only [Prod.mk.injEq] at h
  exact ⟨i, hi, h.1, h.2.1, h.2.2⟩
theorem Cur.far {a : Option Addr} {len cap c : Nat} {w w' : World} {row : Option Nat} (h : Cur a len cap c w) (hg : w.grownBy w' row) (hne : some c ≠ row) (hs : Src a len c w') : Cur a len cap c w' := by
  obtain ⟨k, x, hk, c0, c1, c2, f1, f2, _⟩ := h
  have hlt : c < w.heap.size := cell_lt c0
  exact ⟨k, x, hk, hg.cell c0 hne, hg.cell c1 hne, hg.cell c2 hne, (World.frozen?_of_block (a := ⟨c, 1, none⟩) (hg.block c hlt hne)).trans f1, (World.frozen?_of_block (a := ⟨c, 2, none⟩) (hg.block c hlt hne)).trans f2, hs⟩
theorem Cur.src {a : Option Addr} {len cap c : Nat} {w : World} (h : Cur a len cap c w) : Src a len c w := by
  obtain ⟨k, x, hk, c0, c1, c2, f1, f2, hs⟩ := h
  exact hs
/-- Bytes are drawn. -/
def RowOut (n : Nat) (a : Option Addr) (len cap c : Nat) (w : World) (e : Ending) (w' : World) : Prop :=
  ∃ v bs, bs.length = n ∧ e = .returned v ∧ OwnB w.heap.size v bs w' ∧ Cur a len cap c w' ∧ w.grownBy w' (some c)
/-- The state between two bytes. -/
def Mid (k : Nat) (a : Option Addr) (len cap c : Nat) (v : Value) (w W : World) : Prop :=
  ∃ bs, bs.length = k ∧ OwnB w.heap.size v bs W ∧ Cur a len cap c W ∧ w.grownBy W (some c)
theorem mid_next {k : Nat} {a : Option Addr} {len cap c : Nat} {v v' : Value} {bs : List UInt8} {x : UInt8} {w w1 w2 : World} {o : Obj} (hs : Cur a len cap c w)
    (hk : bs.length = k) (hown : OwnB w.heap.size v bs w1) (hc : Cur a len cap c w1) (hg : w.grownBy w1 (some c))
    (hown' : w2.ownsRow w.heap.size 5 1 v' (bs.length + 1) (bs.map bv ++ [bv x])) (hg2 : (w1.alloc o).grownBy w2 v.ownBlock) : Mid (k + 1) a len cap c v' w w2 := by
  have hlt := hs.lt
  have hrow : ∀ j, v.ownBlock = some j → w.heap.size ≤ j := fun j hj => (World.ownsRow.lt (w := w1) hown j hj).1
  have hg3 : w1.grownBy w2 v.ownBlock := Lib.grownBy_trans (World.grownBy_alloc w1 o _) hg2
  have hg4 : w.grownBy w2 (some c) := hg.andThen hg3 fun j hj => .inl (hrow j hj)
  refine ⟨bs ++ [x], by simp [hk], ?_, ?_, hg4⟩
  · unfold OwnB
    simpa using hown'
  · exact hc.far hg3 (fun e => by have := hrow c e.symm; omega) (hs.src.grown hg4)
end Go.Proofs.YtikpbeealeofaaaDoor
