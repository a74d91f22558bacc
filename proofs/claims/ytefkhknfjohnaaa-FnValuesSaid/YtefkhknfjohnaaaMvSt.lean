/- What holds while a value is drawn (l9Make). -/
import Derived.Test.YtefkhknfjohnaaaGV
import Derived.Test.YtefkhknfjohnaaaMadeV
import Derived.Test.YtefkhknfjohnaaaGDr
import Derived.Test.YtefkhknfjohnaaaGX
import Derived.Deep.RegionLaw
import Derived.Deep.CutRange
namespace Go.Proofs.Ytefkhknfjohnaaa
open Go Go.RowKit
/-- One rule of an owned slice, cell by cell, and where its slices lie. -/
theorem RowR.one {base : Nat} {ad : Option Addr} {rs : List RuleV} {capd : Nat} {w : World} (h : RowR base (.slice ad rs.length capd) rs w) (j : Nat) (hj : j < rs.length) : ∃ b off a4 c4 a5 c5 a6 c6 a7 c7, ad = some ⟨b, off, none⟩ ∧
    (w.cell? ⟨b, off + j * 8, none⟩ = some (.string rs[j].name) ∧ w.cell? ⟨b, off + j * 8 + 1, none⟩ = some (.int .i64 rs[j].kind) ∧ w.cell? ⟨b, off + j * 8 + 2, none⟩ = some (.int .i64 rs[j].size) ∧ w.cell? ⟨b, off + j * 8 + 3, none⟩ = some (.bool rs[j].little) ∧
    w.cell? ⟨b, off + j * 8 + 4, none⟩ = some (.slice a4 rs[j].bytes.length c4) ∧ w.cell? ⟨b, off + j * 8 + 5, none⟩ = some (.slice a5 rs[j].names.length c5) ∧ w.cell? ⟨b, off + j * 8 + 6, none⟩ = some (.slice a6 rs[j].tags.length c6) ∧ w.cell? ⟨b, off + j * 8 + 7, none⟩ = some (.slice a7 rs[j].kids.length c7)) ∧
    IsRule rs[j] [.string rs[j].name, .int .i64 rs[j].kind, .int .i64 rs[j].size, .bool rs[j].little, .slice a4 rs[j].bytes.length c4, .slice a5 rs[j].names.length c5, .slice a6 rs[j].tags.length c6, .slice a7 rs[j].kids.length c7] w ∧
    ∀ x ∈ ([.string rs[j].name, .int .i64 rs[j].kind, .int .i64 rs[j].size, .bool rs[j].little, .slice a4 rs[j].bytes.length c4, .slice a5 rs[j].names.length c5, .slice a6 rs[j].tags.length c6, .slice a7 rs[j].kids.length c7] : List Value).flatMap sliceBlk, base ≤ x := by
  obtain ⟨css, hl, ho, hr⟩ := h
  have h8 : ∀ cs ∈ css, cs.length = 8 := fun cs hc => by
    obtain ⟨j, hj, rfl⟩ := List.getElem_of_mem hc
    exact (hr j (by omega) hj).1.length
  have h0 := ho
  rcases ho.2 with ⟨e, hn⟩ | ⟨g, cap, cur, e, hb, hg, hnc, hcm, hcs, ht⟩
  · have : rs = [] := List.eq_nil_of_length_eq_zero hn
    subst this
    simp at hj
  · injection e with e1 e2 e3
    subst e1
    have hj' : j < css.length := by omega
    have hcell : ∀ i u, css[j][i]? = some u → w.cell? ⟨g, 0 + j * 8 + i, none⟩ = some u := fun i u hu => by
      have hi : i < 8 := by
        have := h8 _ (List.getElem_mem hj')
        rcases Nat.lt_or_ge i 8 with h | h
        · exact h
        · rw [List.getElem?_eq_none (by omega)] at hu; cases hu
      rw [Nat.zero_add, h0.cellAt (j * 8 + i) (by
        have : (j + 1) * 8 ≤ rs.length * 8 := Nat.mul_le_mul_right 8 (by omega)
        omega), flat_at h8 j i hj' hi]
      exact hu
    obtain ⟨q1, -, q3⟩ := hr j hj hj'
    have hq1 := q1
    obtain ⟨a4, c4, a5, c5, a6, c6, a7, c7, e8, _⟩ := q1
    rw [e8] at hcell q3 hq1
    exact ⟨g, 0, a4, c4, a5, c5, a6, c6, a7, c7, rfl, ⟨hcell 0 _ rfl, hcell 1 _ rfl, hcell 2 _ rfl, hcell 3 _ rfl, hcell 4 _ rfl, hcell 5 _ rfl, hcell 6 _ rfl, hcell 7 _ rfl⟩, hq1, fun x hx => (q3 x hx).1⟩
/-- The slices of a rule, out of its cells. -/
theorem rule_slices {r : RuleV} {v0 v1 v2 v3 : Value} {a4 a5 a6 a7 : Option Addr} {c4 c5 c6 c7 : Nat} {w : World} (h : IsRule r [v0, v1, v2, v3, .slice a4 r.bytes.length c4, .slice a5 r.names.length c5, .slice a6 r.tags.length c6, .slice a7 r.kids.length c7] w) : Rd a4 r.bytes w ∧ RdI a6 r.tags w ∧ RdI a7 r.kids w := by
  obtain ⟨x4, y4, x5, y5, x6, y6, x7, y7, e, h4, h5, h6, h7⟩ := h
  have e4 := congrArg (fun l : List Value => l[4]?) e
  have e6 := congrArg (fun l : List Value => l[6]?) e
  have e7 := congrArg (fun l : List Value => l[7]?) e
  simp at e4 e6 e7
  obtain ⟨rfl, -⟩ := e4
  obtain ⟨rfl, -⟩ := e6
  obtain ⟨rfl, -⟩ := e7
  exact ⟨h4, h6, h7⟩
/-- A drawn value comes back. -/
def MvOut (a : Option Addr) (len cap c : Nat) (rs : List RuleV) (k : Nat) (w : World) (e : Ending) (w' : World) : Prop :=
  ∃ (v : ValueV) (cs : List Value), e = .returned (.agg cs.toArray) ∧ MadeVal rs k v ∧ OwnV (fun b => w.heap.size ≤ b) (k + 1) v cs w' ∧ Cur a len cap c w' ∧ w.grownBy w' (some c)
/-- What l9Make promises of a rule. -/
def MvC (a : Option Addr) (len cap c base : Nat) (ad : Option Addr) (rs : List RuleV) (capd k : Nat) : Prop :=
  ∀ (most : Int) (w : World), 0 ≤ most → most ≤ 100 → RowR base (.slice ad rs.length capd) rs w → base ≤ w.heap.size → Cur a len cap c w →
    Calls Try.prog 42 #[.pointer (some ⟨c, 0, none⟩), .agg #[.slice ad rs.length capd], .int .i64 (k : Int), .int .i64 most] w (MvOut a len cap c rs k w)
def zero3 : List Value := [.int .i64 0, .slice none 0 0, .slice none 0 0]
/-- What holds while a value is drawn: D the description, rcs the rule, vs the value. -/
def MvSt (a : Option Addr) (len cap c : Nat) (D : Value) (rcs vs : List Value) (B N : Nat) (w W : World) : Prop :=
  (B = w.heap.size + 2 ∧ N = w.heap.size + 3 ∧ w.heap.size + 4 ≤ W.heap.size) ∧ CellsAt w.heap.size [D] W ∧ CellsAt (w.heap.size + 1) [.int .i64 0, .slice none 0 0, .slice none 0 0] W ∧ CellsAt B rcs W ∧ CellsAt N vs W ∧ Cur a len cap c W ∧ w.grownBy W (some c)
section
variable {a : Option Addr} {len cap c : Nat} {D : Value} {rcs vs : List Value} {B N : Nat} {w W : World}
theorem MvSt.le (h : MvSt a len cap c D rcs vs B N w W) : w.heap.size + 4 ≤ W.heap.size := h.1.2.2
theorem MvSt.d (h : MvSt a len cap c D rcs vs B N w W) : CellsAt w.heap.size [D] W := h.2.1
theorem MvSt.z (h : MvSt a len cap c D rcs vs B N w W) : CellsAt (w.heap.size + 1) [.int .i64 0, .slice none 0 0, .slice none 0 0] W := h.2.2.1
theorem MvSt.r (h : MvSt a len cap c D rcs vs B N w W) : CellsAt B rcs W := h.2.2.2.1
theorem MvSt.v (h : MvSt a len cap c D rcs vs B N w W) : CellsAt N vs W := h.2.2.2.2.1
theorem MvSt.cur (h : MvSt a len cap c D rcs vs B N w W) : Cur a len cap c W := h.2.2.2.2.2.1
theorem MvSt.grown (h : MvSt a len cap c D rcs vs B N w W) : w.grownBy W (some c) := h.2.2.2.2.2.2
theorem MvSt.draw {W' : World} (h : MvSt a len cap c D rcs vs B N w W) (hcw : c < w.heap.size) (hc : Cur a len cap c W') (hg : W.grownBy W' (some c)) : MvSt a len cap c D rcs vs B N w W' := by
  obtain ⟨⟨e1, e2, e3⟩, hd, hz, hr, hv, _, hG⟩ := h
  have hs := hg.size
  exact ⟨⟨e1, e2, by omega⟩, hd.grown hg (by intro e; injection e with e; omega), hz.grown hg (by intro e; injection e with e; omega), hr.grown hg (by intro e; injection e with e; omega), hv.grown hg (by intro e; injection e with e; omega), hc, Lib.grownBy_trans hG hg⟩
theorem MvSt.row {W' : World} {row : Option Nat} (h : MvSt a len cap c D rcs vs B N w W) (hcw : c < w.heap.size) (hold : ∀ b off, a = some ⟨b, off, none⟩ → 0 < len → b < w.heap.size) (hg : W.grownBy W' row) (hr : ∀ k, row = some k → w.heap.size + 4 ≤ k) : MvSt a len cap c D rcs vs B N w W' := by
  obtain ⟨⟨e1, e2, e3⟩, hd, hz, hr', hv, hc, hG⟩ := h
  have hs := hg.size
  exact ⟨⟨e1, e2, by omega⟩, hd.grown hg (by intro e; have := hr _ e.symm; omega), hz.grown hg (by intro e; have := hr _ e.symm; omega), hr'.grown hg (by intro e; have := hr _ e.symm; omega), hv.grown hg (by intro e; have := hr _ e.symm; omega),
    hc.grown hg (by intro e; have := hr _ e.symm; omega) (fun b off ha hl => by intro e; have := hr _ e.symm; have := hold b off ha hl; omega), grown_far hG hg (fun k e => by have := hr k e; omega)⟩
theorem MvSt.below {W' : World} (h : MvSt a len cap c D rcs vs B N w W) (hb : Below W.heap.size W W') : MvSt a len cap c D rcs vs B N w W' := by
  obtain ⟨⟨e1, e2, e3⟩, hd, hz, hr, hv, hc, hG⟩ := h
  have hs := hb.size
  exact ⟨⟨e1, e2, by omega⟩, hd.below hb, hz.below hb, hr.below hb, hv.below hb, hc.below hb, grown_below hG hb⟩
theorem MvSt.set (h : MvSt a len cap c D rcs vs B N w W) (hcw : c < w.heap.size) (hold : ∀ b off, a = some ⟨b, off, none⟩ → 0 < len → b < w.heap.size) (i : Nat) (u : Value) (hi : i < vs.length) : MvSt a len cap c D rcs (vs.set i u) B N w (W.setCell ⟨N, i, none⟩ u) := by
  obtain ⟨⟨e1, e2, e3⟩, hd, hz, hr, hv, hc, hG⟩ := h
  exact ⟨⟨e1, e2, by simpa using e3⟩, hd.far (by omega), hz.far (by omega), hr.far (by omega), hv.set i u hi, hc.put (by omega) (fun b off ha hl => by have := hold b off ha hl; omega), grown_put hG (by omega)⟩
/-- The rule is there as it was. -/
theorem MvSt.rule {base : Nat} {r : RuleV} {xs : List Value} (h : MvSt a len cap c D rcs vs B N w W) (hr : IsRule r xs w) (hb : ∀ x ∈ xs.flatMap sliceBlk, base ≤ x) (hcb : c < base) : IsRule r xs W :=
  hr.grown h.grown (fun b hbb e => by injection e with e; have := hb b hbb; omega)
/-- What is left when the value comes back. -/
def MvP (a : Option Addr) (len cap c k : Nat) (v : ValueV) (cs : List Value) (w W : World) : Prop := OwnV (fun b => w.heap.size ≤ b ∧ b ≠ w.heap.size + 1) (k + 1) v cs W ∧ Cur a len cap c W ∧ w.grownBy W (some c)
theorem MvP.put {k : Nat} {v : ValueV} {cs : List Value} (h : MvP a len cap c k v cs w W) (hcw : c < w.heap.size) (hold : ∀ b off, a = some ⟨b, off, none⟩ → 0 < len → b < w.heap.size) (i : Nat) (u : Value) : MvP a len cap c k v cs w (W.setCell ⟨w.heap.size + 1, i, none⟩ u) :=
  ⟨h.1.grown (grown_set (grown_refl W (w.heap.size + 1)) i u) (fun b _ hb => ⟨hb, fun e => by injection e with e; exact hb.2 e⟩), h.2.1.put (by omega) (fun b off ha hl => by have := hold b off ha hl; omega), grown_put h.2.2 (by omega)⟩
theorem MvSt.fin {k : Nat} {v : ValueV} {cs : List Value} (h : MvSt a len cap c D rcs vs B N w W) (ho : OwnV (fun b => w.heap.size + 4 ≤ b) (k + 1) v cs W) (hcw : c < w.heap.size) (hold : ∀ b off, a = some ⟨b, off, none⟩ → 0 < len → b < w.heap.size) (u0 u1 u2 : Value) :
    MvP a len cap c k v cs w (((W.setCell ⟨w.heap.size + 1, 0, none⟩ u0).setCell ⟨w.heap.size + 1, 1, none⟩ u1).setCell ⟨w.heap.size + 1, 2, none⟩ u2) :=
  ((MvP.put ⟨ho.mono (fun b _ hb => ⟨by omega, by omega⟩), h.cur, h.grown⟩ hcw hold 0 u0).put hcw hold 1 u1).put hcw hold 2 u2
/-- One item more. -/
theorem MvSt.push {k : Nat} {c0 c1 V V' : Value} {ys : List ValueV} {y : ValueV} {w6 w7 : World} (hcw : c < w.heap.size) (hold : ∀ b off, a = some ⟨b, off, none⟩ → 0 < len → b < w.heap.size)
    (h : MvSt a len cap c D rcs [c0, c1, V] B N w w6) (hr : RowV k (w.heap.size + 4) V ys w6) (h7 : RowV k (w.heap.size + 4) V' (ys ++ [y]) w7) (hg : w6.grownBy w7 V.ownBlock) :
    MvSt a len cap c D rcs [c0, c1, V'] B N w (w7.setCell ⟨N, 2, none⟩ V') ∧ RowV k (w.heap.size + 4) V' (ys ++ [y]) (w7.setCell ⟨N, 2, none⟩ V') := by
  have h1 := h.row hcw hold hg (fun g e => (hr.own g e).1)
  have h2 := h1.set hcw hold 2 V' (by simp)
  simp only [List.set] at h2
  have hN := h.1.2.1
  exact ⟨h2, h7.grown (grown_set (grown_refl w7 N) 2 V') (fun g e => by injection e with e; omega)⟩
end
/-- A value without items. -/
theorem own_leaf {f : Nat → Prop} {k : Nat} {x : Int} {bs : List UInt8} {ab : Option Addr} {cb : Nat} {w : World} (h : RdN ab bs cb w) (hf : ∀ b off, ab = some ⟨b, off, none⟩ → bs.length ≠ 0 → f b) : OwnV f (k + 1) (.mk x bs []) [.int .i64 x, .slice ab bs.length cb, .slice none 0 0] w :=
  ⟨ab, cb, none, 0, rfl, h, hf, fun j hj => by simp [ValueV.items] at hj⟩
theorem ownv_none {f : Nat → Prop} {k : Nat} {x : Int} {w : World} : OwnV f (k + 1) (.mk x [] []) [.int .i64 x, .slice none 0 0, .slice none 0 0] w :=
  own_leaf (bs := []) ⟨fun j hj => by simp at hj, fun _ => rfl⟩ (fun b off h => by cases h)
/-- A value with the items of a row. -/
theorem own_items {k base : Nat} {x : Int} {V : Value} {vs : List ValueV} {w : World} (h : RowV k base V vs w) : ∃ ai ci, V = .slice ai vs.length ci ∧ OwnV (fun b => base ≤ b) (k + 1) (.mk x [] vs) [.int .i64 x, .slice none 0 0, .slice ai vs.length ci] w := by
  obtain ⟨ai, ci, e, hi⟩ := h.items
  exact ⟨ai, ci, e, none, 0, ai, ci, rfl, ⟨fun j hj => by simp [ValueV.bytes] at hj, fun _ => rfl⟩, (fun b off h => by cases h), hi⟩
/-- A value with one item, in a block of its own. -/
theorem own_single {f : Nat → Prop} {k : Nat} {x : Int} {y : ValueV} {cs : List Value} {w : World} {b : Nat} (hf : f b) (hy : OwnV f k y cs w) (hc : CellsAt b cs w) : OwnV f (k + 1) (.mk x [] [y]) [.int .i64 x, .slice none 0 0, .slice (some ⟨b, 0, none⟩) 1 1] w :=
  ⟨none, 0, some ⟨b, 0, none⟩, 1, rfl, ⟨fun j hj => by simp [ValueV.bytes] at hj, fun _ => rfl⟩, (fun b off h => by cases h), fun j hj => by
    obtain rfl : j = 0 := by simpa [ValueV.items] using hj
    exact ⟨b, 0, cs, rfl, hf, hy, fun i u hi => by have := (hc i u hi).1; simpa using this⟩⟩
/-- The bytes that were drawn. -/
theorem RowOut.rdn {B : Nat} {v : Value} {bs : List UInt8} {w : World} (h : OwnB B v bs w) : ∃ xa xc, v = .slice xa bs.length xc ∧ RdN xa bs xc w ∧ (∀ b off, xa = some ⟨b, off, none⟩ → bs.length ≠ 0 → B ≤ b) ∧ Row B xa bs xc w := by
  obtain ⟨xa, xc, e, hr⟩ := h.row
  refine ⟨xa, xc, e, ⟨hr.rd, hr.2.2⟩, fun b off ha hn => ?_, hr⟩
  rcases hr.1 with h0 | ⟨b', off', ha', hB, _⟩
  · rw [h0] at hn; simp at hn
  · rw [ha] at ha'
    injection ha' with ha'
    injection ha' with e1
    omega
/-- A bytes' slice stays when another block turns. -/
theorem RdN.grown {a : Option Addr} {bs : List UInt8} {cap : Nat} {w w' : World} {row : Option Nat} (h : RdN a bs cap w) (hg : w.grownBy w' row) (hne : ∀ b off, a = some ⟨b, off, none⟩ → bs.length ≠ 0 → some b ≠ row) : RdN a bs cap w' := ⟨h.1.grown hg hne, h.2⟩
/-- The first byte is stored. -/
theorem RdN.set0 {bb ob : Nat} {bs : List UInt8} {cap : Nat} {w : World} {u : UInt8} (h : RdN (some ⟨bb, ob, none⟩) bs cap w) : RdN (some ⟨bb, ob, none⟩) (bs.set 0 u) cap (w.setCell ⟨bb, ob, none⟩ (.int .u8 (u.toNat : Int))) := by
  refine ⟨fun j hj => ?_, h.2⟩
  have hj' : j < bs.length := by simpa using hj
  obtain ⟨b, off, e, hc⟩ := h.1 j hj'
  injection e with e
  injection e with e1 e2
  subst e1 e2
  refine ⟨_, _, rfl, ?_⟩
  cases j with
  | zero =>
    rw [Nat.add_zero] at hc ⊢
    rw [World.cell?_setCell_same _ _ _ hc]
    simp
  | succ j =>
    rw [World.cell?_setCell_other _ _ _ _ (by simp), hc]
    simp
/-- What is known of the items, with one more. -/
theorem items_push {r : RuleV} {rs : List RuleV} {k : Nat} {ys : List ValueV} {y : ValueV} (h : ∀ q (h : q < ys.length), ∃ m : Nat, itemR r 0 q = (m : Int) ∧ m < k ∧ MadeVal rs m ys[q]) (hy : ∃ m : Nat, itemR r 0 ys.length = (m : Int) ∧ m < k ∧ MadeVal rs m y) :
    ∀ q (h : q < (ys ++ [y]).length), ∃ m : Nat, itemR r 0 q = (m : Int) ∧ m < k ∧ MadeVal rs m (ys ++ [y])[q] := fun q hq => by
  by_cases e : q < ys.length
  · rw [List.getElem_append_left e]
    exact h q e
  · have h9 : q = ys.length := by simp at hq; omega
    subst h9
    rw [List.getElem_append_right (Nat.le_refl _)]
    simp only [Nat.sub_self, List.getElem_cons_zero]
    exact hy
end Go.Proofs.Ytefkhknfjohnaaa
