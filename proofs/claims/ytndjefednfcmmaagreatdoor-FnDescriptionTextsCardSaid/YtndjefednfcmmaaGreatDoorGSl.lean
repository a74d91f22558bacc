/- append of what a slice holds to a literal of one value: the values in new memory. A block of one cell that is written: what is read elsewhere stays. -/
import Derived.Test.YtndjefednfcmmaaGreatDoorGCopy
import Derived.Test.YtndjefednfcmmaaGreatDoorGTxt
import Derived.Deep.RegionLaw
namespace Go.Proofs.YtndjefednfcmmaaGreatDoor
open Go Go.RowKit
theorem run_litF {P : Program} {α : Type} {f : α → Value} (t ty e : TypeId) (z : Value) (bytes : Nat) (ht : P.underlying t = some (.slice e)) (hinfo : (P.info? e).map (fun i => (i.zero, i.size, i.bytes)) = some (some z, 1, bytes)) (hz1 : z.cells.size = 1) (hone : ∀ x, (f x).oneCell' = true)
  (x : α) (a : Option Addr) (xs : List α) (cap : Nat) (W : World) (h : RdF f a xs W) (hn : a = none → cap = 0) (hm : xs.length + 1 ≤ maxLen) (hb : (xs.length + 1) * bytes ≤ 140737488355328) :
  ∃ a' c' w', (Builtin.append_ #[t, t] ty #[.slice (some ⟨W.heap.size, 0, none⟩) 1 1, .slice a xs.length cap]).run P (W.alloc (.cells #[f x] e)) = .ok (.slice a' (x :: xs).length c') w' ∧ RowF f W.heap.size a' (x :: xs) c' w' ∧ Below W.heap.size W w' := by
 obtain ⟨i, hi, hh⟩ := Option.map_eq_some_iff.1 hinfo
 simp only [Prod.mk.injEq] at hh
 obtain ⟨hz, hs, hby⟩ := hh
 have hown : (W.alloc (.cells #[f x] e)).ownsRow W.heap.size e 1 (.slice (some ⟨W.heap.size, 0, none⟩) 1 1) 1 [f x] := own_lits (f := f) W W.heap.size e [x] (Nat.le_refl _) (by simp; omega)
 have hB : Below W.heap.size W (W.alloc (.cells #[f x] e)) := (Below.refl _ W).alloc (Nat.le_refl _) _
 rcases a with _ | ad
 ·have hx : xs = [] := by
   cases xs with
   | nil => rfl
   | cons x r => obtain ⟨b, off, e, _⟩ := h 0 (by simp); cases e
  subst hx
  obtain rfl := hn rfl
  obtain ⟨a', c', e1, hrow⟩ := own_row (f := f) (xs := [x]) hown
  rw [e1]
  rw [e1] at hown
  exact ⟨a', c', _, run_append_owned_none (P := P) (w := W.alloc (.cells #[f x] e)) W.heap.size t ty e i 1 ht hi _ 1 [f x] hown, hrow, hB⟩
 ·obtain ⟨v', w', hr, ho, hg, _⟩ := run_append_own (P := P) (W.alloc (.cells #[f x] e)) W.heap.size t ty e i z 1 bytes ht hi hz hs hby hz1 (by omega) _ 1 [f x] hown ad xs.length cap (xs.map f) (by simp)
   (fun j u hj => by
    have hj2 : j < xs.length := by
     rcases Nat.lt_or_ge j xs.length with h1 | h1
     ·exact h1
     ·rw [List.getElem?_eq_none (by simpa using h1)] at hj; cases hj
    obtain ⟨b, off, e, hc⟩ := (h.below hB) j hj2
    injection e with e
    subst e
    rw [List.getElem?_map, List.getElem?_eq_getElem hj2] at hj
    simp only [Option.map_some, Option.some.injEq] at hj
    subst hj
    rw [Addr.add_lit]
    exact hc)
   (fun u hu => by
    obtain ⟨x, _, rfl⟩ := List.mem_map.1 hu
    exact hone x)
   (by omega) (by rw [Nat.add_comm]; exact hb) (by simp)
  obtain ⟨a', c', rfl, hrow⟩ := own_row (f := f) (base := W.heap.size) (t := e) (v := v') (xs := x :: xs) (w := w') (by simpa [Nat.add_comm] using ho)
  exact ⟨a', c', w', hr, hrow, hB.grown hg (by simp) (by intro k hk; simp [Value.ownBlock] at hk; omega)⟩
theorem step_litF {P : Program} {α : Type} {f : α → Value} (t e : TypeId) (z : Value) (bytes : Nat) (ht : P.underlying t = some (.slice e)) (hinfo : (P.info? e).map (fun i => (i.zero, i.size, i.bytes)) = some (some z, 1, bytes)) (hz1 : z.cells.size = 1) (hone : ∀ x, (f x).oneCell' = true)
  {ops : Array Oper} {o : Oper} {A : Act} {K : Act → World → Prop} {Q : Exit → Act → World → Prop} {E : Prop} (hgd : o.guard = none) (s y : Operand)
  (ho : o.op = .call { callee := .builtin .append, args := #[s, y], argTypes := #[t, t] })
  (x : α) (a : Option Addr) (xs : List α) (cap : Nat) (W : World) (hsv : A.eval s = .slice (some ⟨W.heap.size, 0, none⟩) 1 1) (hxv : A.eval y = .slice a xs.length cap)
  (h : RdF f a xs W) (hn : a = none → cap = 0) (hm : xs.length + 1 ≤ maxLen) (hb : (xs.length + 1) * bytes ≤ 140737488355328)
  (hk : ∀ a' c' w', RowF f W.heap.size a' (x :: xs) c' w' → Below W.heap.size W w' → K (A.put o.dst (.slice a' (x :: xs).length c')) w') :
  if Region.wanted o (yielded ops A.tmps) = true then Oper.wp P o A (W.alloc (.cells #[f x] e)) K Q else E := by
 have hw : Region.wanted o (yielded ops A.tmps) = true := by simp [Region.wanted, hgd]
 rw [if_pos hw]
 obtain ⟨a', c', w', hr, h2, h3⟩ := run_litF (P := P) t o.type e z bytes ht hinfo hz1 hone x a xs cap W h hn hm hb
 unfold Oper.wp
 simp [execOp, ho, resolve, invoke, builtin, hsv, hxv, hr, Result.andThen]
 exact hk a' c' w' h2 h3
def SlotAt (c : Nat) (v : Value) (w : World) : Prop := CellsAt c [v] w ∧ ∀ k, 0 < k → w.cell? ⟨c, k, none⟩ = none
theorem SlotAt.new (w : World) (v : Value) (t : TypeId) : SlotAt w.heap.size v (w.alloc (.cells #[v] t)) := by
 refine ⟨CellsAt.new w [v] t, fun k hk => ?_⟩
 rw [World.cell?_alloc_mark w #[v] t (0, 0) k]
 simp; omega
theorem SlotAt.cell {c : Nat} {v : Value} {w : World} (h : SlotAt c v w) : w.cell? ⟨c, 0, none⟩ = some v := (h.1 0 v rfl).1
theorem SlotAt.lt {c : Nat} {v : Value} {w : World} (h : SlotAt c v w) : c < w.heap.size := cell_lt h.cell
theorem SlotAt.below {c : Nat} {v : Value} {w w' : World} (h : SlotAt c v w) (hb : Below w.heap.size w w') : SlotAt c v w' := ⟨h.1.below hb, fun k hk => (hb.cell (p := ⟨c, k, none⟩) h.lt).trans (h.2 k hk)⟩
theorem SlotAt.far {c b j : Nat} {v u : Value} {w : World} (h : SlotAt c v w) (hne : b ≠ c) : SlotAt c v (w.setCell ⟨b, j, none⟩ u) := ⟨h.1.far hne, fun k hk => (World.cell?_setCell_other _ _ _ _ (fun e => hne (by have := congrArg Addr.block e; simpa using this))).trans (h.2 k hk)⟩
theorem SlotAt.set {c : Nat} {v : Value} {w : World} (h : SlotAt c v w) (u : Value) : SlotAt c u (w.setCell ⟨c, 0, none⟩ u) := by
 refine ⟨by have := h.1.set 0 u (by simp); simpa only [List.set] using this, fun k hk => ?_⟩
 rw [World.cell?_setCell_other _ _ _ _ (fun e => by have := congrArg Addr.off e; simp at this; omega)]
 exact h.2 k hk
theorem SlotAt.grown {c : Nat} {row : Option Nat} {v : Value} {w w' : World} (h : SlotAt c v w) (hg : w.grownBy w' row) (hne : some c ≠ row) : SlotAt c v w' :=
 ⟨h.1.grown hg hne, fun k hk => (World.cell?_of_block (w := w) (a := ⟨c, k, none⟩) (hg.block c h.lt hne)).trans (h.2 k hk)⟩
theorem SlotAt.apart {c b off : Nat} {v x : Value} {w : World} (h : SlotAt c v w) (hc : w.cell? ⟨b, off, none⟩ = some x) (hne : x ≠ v) : b ≠ c := fun e => by
 subst e
 rcases Nat.eq_zero_or_pos off with h0 | h0
 ·subst h0
  rw [h.cell] at hc
  injection hc with hc
  exact hne hc.symm
 ·rw [h.2 off h0] at hc
  cases hc
theorem SlotAt.keep {c b off : Nat} {v x u : Value} {w : World} (h : SlotAt c v w) (hc : w.cell? ⟨b, off, none⟩ = some x) (hne : x ≠ v) : (w.setCell ⟨c, 0, none⟩ u).cell? ⟨b, off, none⟩ = some x :=
 (World.cell?_setCell_other _ _ _ _ (fun e => h.apart hc hne (by have := congrArg Addr.block e; simpa using this.symm))).trans hc
theorem SlotAt.rdf {α : Type} {f : α → Value} {c : Nat} {v u : Value} {a : Option Addr} {xs : List α} {w : World} (h : SlotAt c v w) (hf : ∀ x, f x ≠ v) (hr : RdF f a xs w) : RdF f a xs (w.setCell ⟨c, 0, none⟩ u) := fun j hj => by
 obtain ⟨b, off, ha, hc⟩ := hr j hj
 exact ⟨b, off, ha, h.keep hc (hf _)⟩
theorem SlotAt.rule {c n m : Nat} {x : Option Addr} {u : Value} {r : RuleV} {cs : List Value} {w : World} (h : SlotAt c (.slice x n m) w) (hr : IsRule r cs w) : IsRule r cs (w.setCell ⟨c, 0, none⟩ u) := by
 obtain ⟨a4, c4, a5, c5, a6, c6, a7, c7, e, h4, h5, h6, h7⟩ := hr
 exact ⟨a4, c4, a5, c5, a6, c6, a7, c7, e, fun j hj => by
  obtain ⟨b, off, ha, hc⟩ := h4 j hj
  exact ⟨b, off, ha, h.keep hc (by simp)⟩, h.rdf (by simp) h5, h.rdf (by simp) h6, h.rdf (by simp) h7⟩
theorem SlotAt.rules {c n m : Nat} {x a : Option Addr} {u : Value} {rs : List RuleV} {w : World} (h : SlotAt c (.slice x n m) w) (hr : RdQ a rs w) : RdQ a rs (w.setCell ⟨c, 0, none⟩ u) := fun j hj => by
 obtain ⟨b, off, cs, ha, hi, hp, hc⟩ := hr j hj
 have h0 := hi
 obtain ⟨a4, c4, a5, c5, a6, c6, a7, c7, e, -⟩ := h0
 have hne : b ≠ c := h.apart (hc 0 (.string rs[j].name) (by rw [e]; rfl)) (by simp)
 exact ⟨b, off, cs, ha, h.rule hi, hp, fun i v hv => (World.cell?_setCell_other _ _ _ _ (fun e => hne (by have := congrArg Addr.block e; simpa using this.symm))).trans (hc i v hv)⟩
end Go.Proofs.YtndjefednfcmmaaGreatDoor
