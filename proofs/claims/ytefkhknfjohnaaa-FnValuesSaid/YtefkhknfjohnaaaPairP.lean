/- Lists of pairs of pointers to parts of values. No function of the program is walked here. -/
import Derived.Test.YtefkhknfjohnaaaCImpl
namespace Go.Proofs.Ytefkhknfjohnaaa
open Go Go.RowKit
/-- Two parts that are still to be compared. -/
abbrev PNode := Node × Node
def cellsP (p : PNode) : List Value := [ptrN p.1, ptrN p.2]
def flatP : List PNode → List Value
  | [] => []
  | p :: ps => ptrN p.1 :: ptrN p.2 :: flatP ps
theorem flatP_length : ∀ ps : List PNode, (flatP ps).length = ps.length * 2
  | [] => rfl
  | p :: ps => by rw [flatP, List.length_cons, List.length_cons, List.length_cons, flatP_length ps]; omega
theorem flatP_append : ∀ ps qs : List PNode, flatP (ps ++ qs) = flatP ps ++ flatP qs
  | [], qs => rfl
  | p :: ps, qs => by rw [List.cons_append, flatP, flatP, flatP_append ps qs, List.cons_append, List.cons_append]
/-- The row of pairs. -/
def PairRow (base : Nat) (q : Value) (ps : List PNode) (w : World) : Prop := w.ownsRow base 78 2 q ps.length (flatP ps)
theorem PairRow.pop {base : Nat} {g np cap : Nat} {ps : List PNode} {p : PNode} {w : World} (hn : np = ps.length) (h : PairRow base (.slice (some ⟨g, 0, none⟩) (np + 1) cap) (ps ++ [p]) w) :
    PairRow base (.slice (some ⟨g, 0, none⟩) np cap) ps w ∧ w.cell? ⟨g, np * 2, none⟩ = some (ptrN p.1) ∧ w.cell? ⟨g, np * 2 + 1, none⟩ = some (ptrN p.2) ∧ np + 1 ≤ cap ∧ base ≤ g ∧ g < w.heap.size := by
  unfold PairRow at h
  rw [List.length_append, List.length_singleton, flatP_append, ← hn] at h
  have hl := flatP_length ps
  rw [← hn] at hl
  have hc0 := World.ownsRow.cellAt h (np * 2) (by omega)
  have hc1 := World.ownsRow.cellAt h (np * 2 + 1) (by omega)
  rw [List.getElem?_append_right (by omega)] at hc0 hc1
  rw [hl] at hc0 hc1
  rw [show np * 2 - np * 2 = 0 from by omega] at hc0
  rw [show np * 2 + 1 - np * 2 = 1 from by omega] at hc1
  refine ⟨?_, hc0, hc1, ?_⟩
  · unfold PairRow
    rw [← hn]
    exact ownsRow_pop hl h
  · rcases h.2 with ⟨h0, _⟩ | ⟨g', cap', cur, hv, hb, hh, hc2, _⟩
    · cases h0
    · cases hv
      refine ⟨hc2, hb, ?_⟩
      rcases Nat.lt_or_ge g w.heap.size with h | h
      · exact h
      · rw [Array.getElem?_eq_none (by omega)] at hh; cases hh
theorem PairRow.form {base : Nat} {q : Value} {ps : List PNode} {w : World} (h : PairRow base q ps w) : ∃ a cap, q = .slice a ps.length cap ∧ (0 < ps.length → ∃ g, a = some ⟨g, 0, none⟩) := by
  rcases h.2 with ⟨rfl, hn⟩ | ⟨g, cap, cur, rfl, _⟩
  · exact ⟨none, 0, by rw [hn], fun h => by omega⟩
  · exact ⟨_, cap, rfl, fun _ => ⟨g, rfl⟩⟩
theorem PairRow.own {base : Nat} {q : Value} {ps : List PNode} {w : World} (h : PairRow base q ps w) : ∀ g, q.ownBlock = some g → base ≤ g := fun g hg => (World.ownsRow.lt (w := w) h g hg).1
theorem PairRow.start (base : Nat) (p : PNode) (w : World) (hb : base ≤ w.heap.size) : PairRow base (.slice (some ⟨w.heap.size, 0, none⟩) 1 1) [p] (w.alloc (.cells #[ptrN p.1, ptrN p.2] 78)) :=
  ⟨rfl, .inr ⟨w.heap.size, 1, #[ptrN p.1, ptrN p.2], rfl, hb, heap_alloc_new w _, Nat.le_refl _, by unfold maxLen; omega, rfl, rfl⟩⟩
theorem PairRow.below {base : Nat} {q : Value} {ps : List PNode} {w w' : World} (h : PairRow base q ps w) (hb : Below w.heap.size w w') : PairRow base q ps w' := by
  obtain ⟨h1, h2⟩ := h
  refine ⟨h1, ?_⟩
  rcases h2 with h2 | ⟨g, cap, cur, rfl, hg, hh, hr⟩
  · exact .inl h2
  · have hlt : g < w.heap.size := by
      rcases Nat.lt_or_ge g w.heap.size with h | h
      · exact h
      · rw [Array.getElem?_eq_none (by omega)] at hh; cases hh
    exact .inr ⟨g, cap, cur, rfl, hg, (hb.block g hlt).trans hh, hr⟩
theorem infoPair : (Try.prog.info? 78).map (fun i => (i.zero, i.size, i.bytes)) = some (some (.agg #[.pointer none, .pointer none]), 2, 16) := by kernel_rfl
/-- One pair more. -/
theorem run_pushP (ty : TypeId) (base : Nat) (q : Value) (ps : List PNode) (p : PNode) (w : World) (hrow : PairRow base q ps w) (hl : ps.length ≤ 33554432) (hbase : base ≤ w.heap.size) :
    ∃ q' w', (Builtin.append_ #[79, 79] ty #[q, .slice (some ⟨w.heap.size, 0, none⟩) 1 1]).run Try.prog (w.alloc (.cells #[ptrN p.1, ptrN p.2] 78)) = .ok q' w' ∧ PairRow base q' (ps ++ [p]) w' ∧ w.grownBy w' q.ownBlock := by
  obtain ⟨i, hi, h⟩ := Option.map_eq_some_iff.1 infoPair
  simp only [Prod.mk.injEq] at h
  obtain ⟨hz, hsz, hby⟩ := h
  obtain ⟨q', w', hrun, ho', hg, _⟩ := run_append_where (P := Try.prog) (w.alloc (.cells #[ptrN p.1, ptrN p.2] 78)) base 79 ty 78 i _ 2 16 Try.underlying79 hi hz hsz hby rfl (by omega) q ps.length (flatP ps) (World.ownsRow.alloc hrow _) ⟨w.heap.size, 0, none⟩ 1 1 [ptrN p.1, ptrN p.2] rfl
    (fun j u hj => by
      rw [Addr.add_lit, Nat.zero_add]
      refine (World.cell?_alloc_mark w #[ptrN p.1, ptrN p.2] _ (0, 0) j).trans ?_
      simpa using hj)
    (fun u hu => by simp at hu; rcases hu with rfl | rfl <;> rfl) (by omega) (by unfold maxLen; omega) (by omega) (by simp; omega)
  refine ⟨q', w', hrun, ?_, Lib.grownBy_trans (World.grownBy_alloc w _ _) hg⟩
  unfold PairRow
  rw [flatP_append, List.length_append, List.length_singleton]
  exact ho'
/-- .. as a step of a region that draws its order. -/
theorem step_pushP {ops : Array Oper} {o : Oper} {A : Act} {K : Act → World → Prop} {Q : Exit → Act → World → Prop} {E : Prop} (hgd : o.guard = none) (s x : Operand)
    (ho : o.op = .call { callee := .builtin .append, args := #[s, x], argTypes := #[79, 79] })
    (base : Nat) (q : Value) (ps : List PNode) (p : PNode) (w : World) (hsv : A.eval s = q) (hxv : A.eval x = .slice (some ⟨w.heap.size, 0, none⟩) 1 1)
    (hrow : PairRow base q ps w) (hl : ps.length ≤ 33554432) (hbase : base ≤ w.heap.size)
    (h : ∀ q' w', PairRow base q' (ps ++ [p]) w' → w.grownBy w' q.ownBlock → K (A.put o.dst q') w') :
    if Region.wanted o (yielded ops A.tmps) = true then Oper.wp Try.prog o A (w.alloc (.cells #[ptrN p.1, ptrN p.2] 78)) K Q else E := by
  have hw : Region.wanted o (yielded ops A.tmps) = true := by simp [Region.wanted, hgd]
  rw [if_pos hw]
  obtain ⟨q', w', hrun, h2, h3⟩ := run_pushP o.type base q ps p w hrow hl hbase
  unfold Oper.wp
  simp [execOp, ho, resolve, invoke, builtin, hsv, hxv, hrun, Result.andThen]
  exact h q' w' h2 h3
/-- The items of two parts, side by side. -/
def zipAt (b o b' o' : Nat) (xs ys : List ValueV) : List PNode := List.zip (kidsAt b o xs) (kidsAt b' o' ys)
theorem zipAt_at (b o b' o' : Nat) (xs ys : List ValueV) (j : Nat) (h : j < xs.length) (h' : j < ys.length) : (zipAt b o b' o' xs ys)[j]? = some ((b, o + j * 3, xs[j]), (b', o' + j * 3, ys[j])) :=
  List.getElem?_zip_eq_some.2 ⟨kidsAt_at b o xs j h, kidsAt_at b' o' ys j h'⟩
theorem zipAt_length (b o b' o' : Nat) (xs ys : List ValueV) (h : xs.length = ys.length) : (zipAt b o b' o' xs ys).length = xs.length := by
  unfold zipAt
  rw [List.length_zip, kidsAt_length, kidsAt_length]
  omega
theorem zipAt_next (b o b' o' : Nat) (xs ys : List ValueV) (j : Nat) (h : j < xs.length) (h' : j < ys.length) : (zipAt b o b' o' xs ys).take (j + 1) = (zipAt b o b' o' xs ys).take j ++ [((b, o + j * 3, xs[j]), (b', o' + j * 3, ys[j]))] := by
  rw [List.take_add_one, zipAt_at b o b' o' xs ys j h h']
  rfl
theorem zipAt_mem {b o b' o' : Nat} {xs ys : List ValueV} (he : xs.length = ys.length) {p : PNode} (h : p ∈ zipAt b o b' o' xs ys) : ∃ (j : Nat) (hj : j < xs.length) (hj' : j < ys.length), p = ((b, o + j * 3, xs[j]), (b', o' + j * 3, ys[j])) := by
  obtain ⟨j, hj, rfl⟩ := List.getElem_of_mem h
  have hj2 : j < xs.length := by rw [zipAt_length _ _ _ _ _ _ he] at hj; exact hj
  refine ⟨j, hj2, by omega, ?_⟩
  have := zipAt_at b o b' o' xs ys j hj2 (by omega)
  rw [List.getElem?_eq_getElem hj] at this
  injection this
theorem zipAt_same (b o b' o' : Nat) (xs ys : List ValueV) (he : xs.length = ys.length) : (∀ p ∈ zipAt b o b' o' xs ys, p.1.2.2 = p.2.2.2) ↔ xs = ys := by
  constructor
  · intro h
    refine List.ext_getElem he fun j h1 h2 => ?_
    exact h _ (List.mem_of_getElem? (zipAt_at b o b' o' xs ys j h1 h2))
  · rintro rfl p hp
    obtain ⟨j, hj, hj', rfl⟩ := zipAt_mem rfl hp
    rfl
theorem zipAt_fst (b o b' o' : Nat) (xs ys : List ValueV) (he : xs.length = ys.length) : (zipAt b o b' o' xs ys).map Prod.fst = kidsAt b o xs := by
  unfold zipAt
  exact List.map_fst_zip (by rw [kidsAt_length, kidsAt_length]; omega)
/-- How many pairs are still to come, with all that they hold. -/
def cntPP (ps : List PNode) : Nat := cntP (ps.map Prod.fst)
theorem cntPP_len (ps : List PNode) : ps.length ≤ cntPP ps := by
  have := cntP_len (ps.map Prod.fst)
  rw [List.length_map] at this
  exact this
theorem cntPP_step (ps : List PNode) (b o b1 o1 b' o' b2 o2 : Nat) (v u : ValueV) (he : v.items.length = u.items.length) : cntPP (ps ++ zipAt b' o' b2 o2 v.items u.items) + 1 = cntPP (ps ++ [((b, o, v), (b1, o1, u))]) := by
  unfold cntPP
  rw [List.map_append, List.map_append, zipAt_fst _ _ _ _ _ _ he]
  exact cntP_step (ps.map Prod.fst) b o b' o' v
/-- Both parts can be read. -/
def Reads2 (p : PNode) (w : World) : Prop := (∃ k, ReadsAt k p.1 w) ∧ (∃ k, ReadsAt k p.2 w) ∧ sizV p.1.2.2 ≤ 16777216 ∧ sizV p.2.2.2 ≤ 16777216
end Go.Proofs.Ytefkhknfjohnaaa
