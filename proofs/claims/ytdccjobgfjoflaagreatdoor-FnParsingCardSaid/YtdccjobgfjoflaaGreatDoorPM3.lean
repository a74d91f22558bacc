/- What holds while a value is drawn (l9Make). -/
import Derived.Test.YtdccjobgfjoflaaGreatDoorPGV
import Derived.Test.YtdccjobgfjoflaaGreatDoorPM1
import Derived.Test.YtdccjobgfjoflaaGreatDoorPM2
import Derived.Test.YtdccjobgfjoflaaGreatDoorPGX
import Derived.Deep.RegionLaw
import Derived.Deep.CutRange
import Derived.IntWalk
set_option maxRecDepth 100000
set_option maxHeartbeats 8000000
namespace Go.Proofs.YtdccjobgfjoflaaGreatDoor
open Go Go.RowKit
theorem RowR.one {base : Nat} {ad : Option Addr} {rs : List RuleV} {capd : Nat} {w : World} (h : RowR base (.slice ad rs.length capd) rs w) (j : Nat) (hj : j < rs.length) : ∃ b off a4 c4 a5 c5 a6 c6 a7 c7, ad = some ⟨b, off, none⟩ ∧
  (w.cell? ⟨b, off + j * 8, none⟩ = some (.string rs[j].name) ∧ w.cell? ⟨b, off + j * 8 + 1, none⟩ = some (.int .i64 rs[j].kind) ∧ w.cell? ⟨b, off + j * 8 + 2, none⟩ = some (.int .i64 rs[j].size) ∧ w.cell? ⟨b, off + j * 8 + 3, none⟩ = some (.bool rs[j].little) ∧
  w.cell? ⟨b, off + j * 8 + 4, none⟩ = some (.slice a4 rs[j].bytes.length c4) ∧ w.cell? ⟨b, off + j * 8 + 5, none⟩ = some (.slice a5 rs[j].names.length c5) ∧ w.cell? ⟨b, off + j * 8 + 6, none⟩ = some (.slice a6 rs[j].tags.length c6) ∧ w.cell? ⟨b, off + j * 8 + 7, none⟩ = some (.slice a7 rs[j].kids.length c7)) ∧
  IsRule rs[j] [.string rs[j].name, .int .i64 rs[j].kind, .int .i64 rs[j].size, .bool rs[j].little, .slice a4 rs[j].bytes.length c4, .slice a5 rs[j].names.length c5, .slice a6 rs[j].tags.length c6, .slice a7 rs[j].kids.length c7] w ∧
  ∀ x ∈ ([.string rs[j].name, .int .i64 rs[j].kind, .int .i64 rs[j].size, .bool rs[j].little, .slice a4 rs[j].bytes.length c4, .slice a5 rs[j].names.length c5, .slice a6 rs[j].tags.length c6, .slice a7 rs[j].kids.length c7] : List Value).flatMap sliceBlk, base ≤ x := by
 obtain ⟨css, hl, ho, hr⟩ := h
 have h8 : ∀ cs ∈ css, cs.length = 8 := fun cs hc => by
  obtain ⟨j, hj, rfl⟩ := List.getElem_of_mem hc
  exact (hr j (by omega) hj).1.length
 have h0 := ho
 rcases ho.2 with ⟨e, hn⟩ | ⟨g, cap, cur, e, hb, hg, hnc, hcm, hcs, ht⟩
 ·have : rs = [] := List.eq_nil_of_length_eq_zero hn
  subst this
  simp at hj
 ·injection e with e1 e2 e3
  subst e1
  have hj' : j < css.length := by omega
  have hcell : ∀ i u, css[j][i]? = some u → w.cell? ⟨g, 0 + j * 8 + i, none⟩ = some u := fun i u hu => by
   have hi : i < 8 := by
    have := h8 _ (List.getElem_mem hj')
    rcases Nat.lt_or_ge i 8 with h | h
    ·exact h
    ·rw [List.getElem?_eq_none (by omega)] at hu; cases hu
   rw [Nat.zero_add, h0.cellAt (j * 8 + i) (by
    have : (j + 1) * 8 ≤ rs.length * 8 := Nat.mul_le_mul_right 8 (by omega)
    omega), flat_at h8 j i hj' hi]
   exact hu
  obtain ⟨q1, -, q3⟩ := hr j hj hj'
  have hq1 := q1
  obtain ⟨a4, c4, a5, c5, a6, c6, a7, c7, e8, _⟩ := q1
  rw [e8] at hcell q3 hq1
  exact ⟨g, 0, a4, c4, a5, c5, a6, c6, a7, c7, rfl, ⟨hcell 0 _ rfl, hcell 1 _ rfl, hcell 2 _ rfl, hcell 3 _ rfl, hcell 4 _ rfl, hcell 5 _ rfl, hcell 6 _ rfl, hcell 7 _ rfl⟩, hq1, fun x hx => (q3 x hx).1⟩
theorem rule_slices {r : RuleV} {v0 v1 v2 v3 : Value} {a4 a5 a6 a7 : Option Addr} {c4 c5 c6 c7 : Nat} {w : World} (h : IsRule r [v0, v1, v2, v3, .slice a4 r.bytes.length c4, .slice a5 r.names.length c5, .slice a6 r.tags.length c6, .slice a7 r.kids.length c7] w) : Rd a4 r.bytes w ∧ RdI a6 r.tags w ∧ RdI a7 r.kids w := by
 obtain ⟨x4, y4, x5, y5, x6, y6, x7, y7, e, h4, h5, h6, h7⟩ := h
 have e4 := congrArg (fun l : List Value => l[4]?) e
 have e6 := congrArg (fun l : List Value => l[6]?) e
 have e7 := congrArg (fun l : List Value => l[7]?) e
 simp at e4 e6 e7
 obtain ⟨rfl, -⟩ := e4
 obtain ⟨rfl, -⟩ := e6
 obtain ⟨rfl, -⟩ := e7
 exact ⟨h4, h6, h7⟩
def MvOut (a : Option Addr) (len cap c : Nat) (rs : List RuleV) (k : Nat) (w : World) (e : Ending) (w' : World) : Prop :=
 ∃ (v : ValueV) (cs : List Value), e = .returned (.agg cs.toArray) ∧ MadeVal rs k v ∧ OwnV (fun b => w.heap.size ≤ b) (k + 1) v cs w' ∧ Cur a len cap c w' ∧ w.grownBy w' (some c)
def MvC (a : Option Addr) (len cap c base : Nat) (ad : Option Addr) (rs : List RuleV) (capd k : Nat) : Prop :=
 ∀ (most : Int) (w : World), 0 ≤ most → most ≤ 100 → RowR base (.slice ad rs.length capd) rs w → base ≤ w.heap.size → Cur a len cap c w →
  Calls Tryz.prog 40 #[.pointer (some ⟨c, 0, none⟩), .agg #[.slice ad rs.length capd], .int .i64 (k : Int), .int .i64 most] w (MvOut a len cap c rs k w)
def MvSt (a : Option Addr) (len cap c : Nat) (D : Value) (rcs vs : List Value) (B N : Nat) (w W : World) : Prop :=
 (B = w.heap.size + 2 ∧ N = w.heap.size + 3 ∧ w.heap.size + 4 ≤ W.heap.size) ∧ CellsAt w.heap.size [D] W ∧ CellsAt (w.heap.size + 1) [.int .i64 0, .slice none 0 0, .slice none 0 0] W ∧ CellsAt B rcs W ∧ CellsAt N vs W ∧ Cur a len cap c W ∧ w.grownBy W (some c)
section
variable {a : Option Addr} {len cap c : Nat} {D : Value} {rcs vs : List Value} {B N : Nat} {w W : World}
theorem MvSt.le (h : MvSt a len cap c D rcs vs B N w W) : w.heap.size + 4 ≤ W.heap.size := h.1.2.2
theorem MvSt.d (h : MvSt a len cap c D rcs vs B N w W) : CellsAt w.heap.size [D] W := h.2.1
theorem MvSt.z (h : MvSt a len cap c D rcs vs B N w W) : CellsAt (w.heap.size + 1) [.int .i64 0, .slice none 0 0, .slice none 0 0] W := h.2.2.1
theorem MvSt.r (h : MvSt a len cap c D rcs vs B N w W) : CellsAt B rcs W := h.2.2.2.1
theorem MvSt.v (h : MvSt a len cap c D rcs vs B N w W) : CellsAt N vs W := h.2.2.2.2.1
theorem MvSt.cur (h : MvSt a len cap c D rcs vs B N w W) : Cur a len cap c W := h.2.2.2.2.2.1
theorem MvSt.grown (h : MvSt a len cap c D rcs vs B N w W) : w.grownBy W (some c) := h.2.2.2.2.2.2
theorem MvSt.draw {W' : World} (h : MvSt a len cap c D rcs vs B N w W) (hcw : c < w.heap.size) (hc : Cur a len cap c W') (hg : W.grownBy W' (some c)) : MvSt a len cap c D rcs vs B N w W' := by
 obtain ⟨⟨e1, e2, e3⟩, hd, hz, hr, hv, _, hG⟩ := h
 have hs := hg.size
 exact ⟨⟨e1, e2, by omega⟩, hd.grown hg (by intro e; injection e with e; omega), hz.grown hg (by intro e; injection e with e; omega), hr.grown hg (by intro e; injection e with e; omega), hv.grown hg (by intro e; injection e with e; omega), hc, Lib.grownBy_trans hG hg⟩
theorem MvSt.row {W' : World} {row : Option Nat} (h : MvSt a len cap c D rcs vs B N w W) (hcw : c < w.heap.size) (hold : ∀ b off, a = some ⟨b, off, none⟩ → 0 < len → b < w.heap.size) (hg : W.grownBy W' row) (hr : ∀ k, row = some k → w.heap.size + 4 ≤ k) : MvSt a len cap c D rcs vs B N w W' := by
 obtain ⟨⟨e1, e2, e3⟩, hd, hz, hr', hv, hc, hG⟩ := h
 have hs := hg.size
 exact ⟨⟨e1, e2, by omega⟩, hd.grown hg (by intro e; have := hr _ e.symm; omega), hz.grown hg (by intro e; have := hr _ e.symm; omega), hr'.grown hg (by intro e; have := hr _ e.symm; omega), hv.grown hg (by intro e; have := hr _ e.symm; omega),
  hc.grown hg (by intro e; have := hr _ e.symm; omega) (fun b off ha hl => by intro e; have := hr _ e.symm; have := hold b off ha hl; omega), grown_far hG hg (fun k e => by have := hr k e; omega)⟩
theorem MvSt.below {W' : World} (h : MvSt a len cap c D rcs vs B N w W) (hb : Below W.heap.size W W') : MvSt a len cap c D rcs vs B N w W' := by
 obtain ⟨⟨e1, e2, e3⟩, hd, hz, hr, hv, hc, hG⟩ := h
 have hs := hb.size
 exact ⟨⟨e1, e2, by omega⟩, hd.below hb, hz.below hb, hr.below hb, hv.below hb, hc.below hb, grown_below hG hb⟩
theorem MvSt.set (h : MvSt a len cap c D rcs vs B N w W) (hcw : c < w.heap.size) (hold : ∀ b off, a = some ⟨b, off, none⟩ → 0 < len → b < w.heap.size) (i : Nat) (u : Value) (hi : i < vs.length) : MvSt a len cap c D rcs (vs.set i u) B N w (W.setCell ⟨N, i, none⟩ u) := by
 obtain ⟨⟨e1, e2, e3⟩, hd, hz, hr, hv, hc, hG⟩ := h
 exact ⟨⟨e1, e2, by simpa using e3⟩, hd.far (by omega), hz.far (by omega), hr.far (by omega), hv.set i u hi, hc.put (by omega) (fun b off ha hl => by have := hold b off ha hl; omega), grown_put hG (by omega)⟩
theorem MvSt.rule {base : Nat} {r : RuleV} {xs : List Value} (h : MvSt a len cap c D rcs vs B N w W) (hr : IsRule r xs w) (hb : ∀ x ∈ xs.flatMap sliceBlk, base ≤ x) (hcb : c < base) : IsRule r xs W :=
 hr.grown h.grown (fun b hbb e => by injection e with e; have := hb b hbb; omega)
def MvP (a : Option Addr) (len cap c k : Nat) (v : ValueV) (cs : List Value) (w W : World) : Prop := OwnV (fun b => w.heap.size ≤ b ∧ b ≠ w.heap.size + 1) (k + 1) v cs W ∧ Cur a len cap c W ∧ w.grownBy W (some c)
theorem MvP.put {k : Nat} {v : ValueV} {cs : List Value} (h : MvP a len cap c k v cs w W) (hcw : c < w.heap.size) (hold : ∀ b off, a = some ⟨b, off, none⟩ → 0 < len → b < w.heap.size) (i : Nat) (u : Value) : MvP a len cap c k v cs w (W.setCell ⟨w.heap.size + 1, i, none⟩ u) :=
 ⟨h.1.grown (grown_set (grown_refl W (w.heap.size + 1)) i u) (fun b _ hb => ⟨hb, fun e => by injection e with e; exact hb.2 e⟩), h.2.1.put (by omega) (fun b off ha hl => by have := hold b off ha hl; omega), grown_put h.2.2 (by omega)⟩
theorem MvSt.fin {k : Nat} {v : ValueV} {cs : List Value} (h : MvSt a len cap c D rcs vs B N w W) (ho : OwnV (fun b => w.heap.size + 4 ≤ b) (k + 1) v cs W) (hcw : c < w.heap.size) (hold : ∀ b off, a = some ⟨b, off, none⟩ → 0 < len → b < w.heap.size) (u0 u1 u2 : Value) :
  MvP a len cap c k v cs w (((W.setCell ⟨w.heap.size + 1, 0, none⟩ u0).setCell ⟨w.heap.size + 1, 1, none⟩ u1).setCell ⟨w.heap.size + 1, 2, none⟩ u2) :=
 ((MvP.put ⟨ho.mono (fun b _ hb => ⟨by omega, by omega⟩), h.cur, h.grown⟩ hcw hold 0 u0).put hcw hold 1 u1).put hcw hold 2 u2
theorem MvSt.push {k : Nat} {c0 c1 V V' : Value} {ys : List ValueV} {y : ValueV} {w6 w7 : World} (hcw : c < w.heap.size) (hold : ∀ b off, a = some ⟨b, off, none⟩ → 0 < len → b < w.heap.size)
  (h : MvSt a len cap c D rcs [c0, c1, V] B N w w6) (hr : RowV k (w.heap.size + 4) V ys w6) (h7 : RowV k (w.heap.size + 4) V' (ys ++ [y]) w7) (hg : w6.grownBy w7 V.ownBlock) :
  MvSt a len cap c D rcs [c0, c1, V'] B N w (w7.setCell ⟨N, 2, none⟩ V') ∧ RowV k (w.heap.size + 4) V' (ys ++ [y]) (w7.setCell ⟨N, 2, none⟩ V') := by
 have h1 := h.row hcw hold hg (fun g e => (hr.own g e).1)
 have h2 := h1.set hcw hold 2 V' (by simp)
 simp only [List.set] at h2
 have hN := h.1.2.1
 exact ⟨h2, h7.grown (grown_set (grown_refl w7 N) 2 V') (fun g e => by injection e with e; omega)⟩
end
theorem own_leaf {f : Nat → Prop} {k : Nat} {x : Int} {bs : List UInt8} {ab : Option Addr} {cb : Nat} {w : World} (h : RdN ab bs cb w) (hf : ∀ b off, ab = some ⟨b, off, none⟩ → bs.length ≠ 0 → f b) : OwnV f (k + 1) (.mk x bs []) [.int .i64 x, .slice ab bs.length cb, .slice none 0 0] w :=
 ⟨ab, cb, none, 0, rfl, h, hf, fun j hj => by simp [ValueV.items] at hj⟩
theorem ownv_none {f : Nat → Prop} {k : Nat} {x : Int} {w : World} : OwnV f (k + 1) (.mk x [] []) [.int .i64 x, .slice none 0 0, .slice none 0 0] w :=
 own_leaf (bs := []) ⟨fun j hj => by simp at hj, fun _ => rfl⟩ (fun b off h => by cases h)
theorem own_items {k base : Nat} {x : Int} {V : Value} {vs : List ValueV} {w : World} (h : RowV k base V vs w) : ∃ ai ci, V = .slice ai vs.length ci ∧ OwnV (fun b => base ≤ b) (k + 1) (.mk x [] vs) [.int .i64 x, .slice none 0 0, .slice ai vs.length ci] w := by
 obtain ⟨ai, ci, e, hi⟩ := h.items
 exact ⟨ai, ci, e, none, 0, ai, ci, rfl, ⟨fun j hj => by simp [ValueV.bytes] at hj, fun _ => rfl⟩, (fun b off h => by cases h), hi⟩
theorem own_single {f : Nat → Prop} {k : Nat} {x : Int} {y : ValueV} {cs : List Value} {w : World} {b : Nat} (hf : f b) (hy : OwnV f k y cs w) (hc : CellsAt b cs w) : OwnV f (k + 1) (.mk x [] [y]) [.int .i64 x, .slice none 0 0, .slice (some ⟨b, 0, none⟩) 1 1] w :=
 ⟨none, 0, some ⟨b, 0, none⟩, 1, rfl, ⟨fun j hj => by simp [ValueV.bytes] at hj, fun _ => rfl⟩, (fun b off h => by cases h), fun j hj => by
  obtain rfl : j = 0 := by simpa [ValueV.items] using hj
  exact ⟨b, 0, cs, rfl, hf, hy, fun i u hi => by have := (hc i u hi).1; simpa using this⟩⟩
theorem RowOut.rdn {B : Nat} {v : Value} {bs : List UInt8} {w : World} (h : OwnB B v bs w) : ∃ xa xc, v = .slice xa bs.length xc ∧ RdN xa bs xc w ∧ (∀ b off, xa = some ⟨b, off, none⟩ → bs.length ≠ 0 → B ≤ b) ∧ Row B xa bs xc w := by
 obtain ⟨xa, xc, e, hr⟩ := h.row
 refine ⟨xa, xc, e, ⟨hr.rd, hr.2.2⟩, fun b off ha hn => ?_, hr⟩
 rcases hr.1 with h0 | ⟨b', off', ha', hB, _⟩
 ·rw [h0] at hn; simp at hn
 ·rw [ha] at ha'
  injection ha' with ha'
  injection ha' with e1
  omega
theorem RdN.grown {a : Option Addr} {bs : List UInt8} {cap : Nat} {w w' : World} {row : Option Nat} (h : RdN a bs cap w) (hg : w.grownBy w' row) (hne : ∀ b off, a = some ⟨b, off, none⟩ → bs.length ≠ 0 → some b ≠ row) : RdN a bs cap w' := ⟨h.1.grown hg hne, h.2⟩
theorem RdN.set0 {bb ob : Nat} {bs : List UInt8} {cap : Nat} {w : World} {u : UInt8} (h : RdN (some ⟨bb, ob, none⟩) bs cap w) : RdN (some ⟨bb, ob, none⟩) (bs.set 0 u) cap (w.setCell ⟨bb, ob, none⟩ (.int .u8 (u.toNat : Int))) := by
 refine ⟨fun j hj => ?_, h.2⟩
 have hj' : j < bs.length := by simpa using hj
 obtain ⟨b, off, e, hc⟩ := h.1 j hj'
 injection e with e
 injection e with e1 e2
 subst e1 e2
 refine ⟨_, _, rfl, ?_⟩
 cases j with
 | zero =>
  rw [Nat.add_zero] at hc ⊢
  rw [World.cell?_setCell_same _ _ _ hc]
  simp
 | succ j =>
  rw [World.cell?_setCell_other _ _ _ _ (by simp), hc]
  simp
theorem items_push {r : RuleV} {rs : List RuleV} {k : Nat} {ys : List ValueV} {y : ValueV} (h : ∀ q (h : q < ys.length), ∃ m : Nat, itemR r 0 q = (m : Int) ∧ m < k ∧ MadeVal rs m ys[q]) (hy : ∃ m : Nat, itemR r 0 ys.length = (m : Int) ∧ m < k ∧ MadeVal rs m y) :
  ∀ q (h : q < (ys ++ [y]).length), ∃ m : Nat, itemR r 0 q = (m : Int) ∧ m < k ∧ MadeVal rs m (ys ++ [y])[q] := fun q hq => by
 by_cases e : q < ys.length
 ·rw [List.getElem_append_left e]
  exact h q e
 ·have h9 : q = ys.length := by simp at hq; omega
  subst h9
  rw [List.getElem_append_right (Nat.le_refl _)]
  simp only [Nat.sub_self, List.getElem_cons_zero]
  exact hy
end Go.Proofs.YtdccjobgfjoflaaGreatDoor

/- Drawing values (l9Make): kinds 5. -/
namespace Go.Proofs.YtdccjobgfjoflaaGreatDoor
open Go Go.RowKit
end Go.Proofs.YtdccjobgfjoflaaGreatDoor

/- Drawing values (l9Make): kinds 6. -/
namespace Go.Proofs.YtdccjobgfjoflaaGreatDoor
open Go Go.RowKit
theorem mv_M0 (kd : Int) (hcs : kd = 5 ∨ kd = 6) (a : Option Addr) (len cap c base : Nat) (ad : Option Addr) (rs : List RuleV) (capd k : Nat) (hl : len ≤ 140737488355328) (hrs : rs.length ≤ 9) (hall : allV (kindI rs) rs) (hcb : c < base) (hk : k < rs.length) (hkd : rs[k].kind = kd) (ih : ∀ m, m < k → MvC a len cap c base ad rs capd m) : MvC a len cap c base ad rs capd k := by
 intro most w hm0 hm1 hrow hbw hc
 have hcw : c < w.heap.size := by omega
 have hold := kq hc.old
 have hl := hl
 have hrs := hrs
 have HROW := kq hrow
 have HIH := kq ih
 have HALL := kq hall
 obtain ⟨b0, off, a4, c4, a5, c5, a6, c6, a7, c7, rfl, ⟨d0, d1, d2, d3, d4, d5, d6, d7⟩, hR, hbk⟩ := hrow.one k hk
 have HKI := kq (allV_kind hall hk)
 have HKS : Hid (∀ x ∈ rs[k].kids, ∃ m : Nat, x = (m : Int) ∧ m < k) := fun x hx => by have h1 := allV_kids hall hk x hx; exact ⟨x.toNat, by omega, by omega⟩
 have HIN : Hid (rs[k].kind = 4 ∨ rs[k].kind = 5 ∨ rs[k].kind = 7 → (ruleAt rs (rs[k].kids.getD 0 0)).kind = 1 ∧ ∃ m : Nat, rs[k].kids.getD 0 0 = (m : Int) ∧ m < k) := fun h => kid_int hall hk h
 have HNODE : Hid (∀ v : ValueV, ownB rs rs[k] v = true → v.bytes.length ≤ 64 → v.items.length ≤ 8 → (∀ q (h : q < v.items.length), ∃ m : Nat, itemR rs[k] v.number q = (m : Int) ∧ m < k ∧ MadeVal rs m v.items[q]) → MadeVal rs k v) := fun v h1 h2 h3 h4 => made_node hall hk h1 h2 h3 h4
 obtain ⟨r, hr⟩ : ∃ r, r = rs[k] := ⟨_, rfl⟩
 rw [← hr] at hkd d0 d1 d2 d3 d4 d5 d6 d7 hR hbk HKI HKS HIN HNODE
 clear hr
 rw [hkd] at d1 hR hbk
 have HKD := kq hkd
 obtain ⟨w0, hw0⟩ : ∃ w0, w0 = (w.alloc (.cells #[.slice (some ⟨b0, off, none⟩) rs.length capd] 26)).alloc (.cells #[.int .i64 0, .slice none 0 0, .slice none 0 0] 29) := ⟨_, rfl⟩
 have hB0 : Below w.heap.size w w0 := by subst hw0; exact ((Below.refl _ _).alloc (Nat.le_refl _) _).alloc (by simp) _
 have hX : CellsAt w.heap.size [.slice (some ⟨b0, off, none⟩) rs.length capd] w0 := by subst hw0; exact (CellsAt.new w _ _).below ((Below.refl _ _).alloc (Nat.le_refl _) _)
 have hZ : CellsAt (w.heap.size + 1) [.int .i64 0, .slice none 0 0, .slice none 0 0] w0 := by subst hw0; have h1 := CellsAt.new (w.alloc (.cells #[.slice (some ⟨b0, off, none⟩) rs.length capd] 26)) [.int .i64 0, .slice none 0 0, .slice none 0 0] 29; rw [World.size_alloc] at h1; exact h1
 have hs0 : w0.heap.size = w.heap.size + 2 := by subst hw0; simp
 obtain ⟨w1, hw1⟩ : ∃ w1, w1 = w0.alloc (.cells #[.string r.name, .int .i64 kd, .int .i64 r.size, .bool r.little, .slice a4 r.bytes.length c4, .slice a5 r.names.length c5, .slice a6 r.tags.length c6, .slice a7 r.kids.length c7] 42) := ⟨_, rfl⟩
 have hB1 : Below w0.heap.size w0 w1 := by subst hw1; exact (Below.refl _ _).alloc (Nat.le_refl _) _
 have hC1 : CellsAt w0.heap.size [.string r.name, .int .i64 kd, .int .i64 r.size, .bool r.little, .slice a4 r.bytes.length c4, .slice a5 r.names.length c5, .slice a6 r.tags.length c6, .slice a7 r.kids.length c7] w1 := by subst hw1; exact CellsAt.new w0 _ _
 have hs1 : w1.heap.size = w.heap.size + 3 := by subst hw1; rw [World.size_alloc, hs0]
 obtain ⟨w2, hw2⟩ : ∃ w2, w2 = w1.alloc (.cells #[.int .i64 0, .slice none 0 0, .slice none 0 0] 29) := ⟨_, rfl⟩
 have hB2 : Below w1.heap.size w1 w2 := by subst hw2; exact (Below.refl _ _).alloc (Nat.le_refl _) _
 have hV2 : CellsAt w1.heap.size [.int .i64 0, .slice none 0 0, .slice none 0 0] w2 := by subst hw2; exact CellsAt.new w1 _ _
 have hs2 : w2.heap.size = w.heap.size + 4 := by subst hw2; rw [World.size_alloc, hs1]
 have bx := (hX 0 _ rfl).1
 have e0 := (hB0.cell (cell_lt d0)).trans d0
 have e1 := (hB0.cell (cell_lt d1)).trans d1
 have e2 := (hB0.cell (cell_lt d2)).trans d2
 have e3 := (hB0.cell (cell_lt d3)).trans d3
 have e4 := (hB0.cell (cell_lt d4)).trans d4
 have e5 := (hB0.cell (cell_lt d5)).trans d5
 have e6 := (hB0.cell (cell_lt d6)).trans d6
 have e7 := (hB0.cell (cell_lt d7)).trans d7
 have HST : Hid (MvSt a len cap c (.slice (some ⟨b0, off, none⟩) rs.length capd) [.string r.name, .int .i64 kd, .int .i64 r.size, .bool r.little, .slice a4 r.bytes.length c4, .slice a5 r.names.length c5, .slice a6 r.tags.length c6, .slice a7 r.kids.length c7] [.int .i64 0, .slice none 0 0, .slice none 0 0] w0.heap.size w1.heap.size w w2) := by
  refine ⟨⟨hs0, hs1, by omega⟩, (hX.below hB1).below hB2, (hZ.below hB1).below hB2, hC1.below hB2, hV2, ((hc.below hB0).below hB1).below hB2, grown_below (grown_below (grown_of hB0) hB1) hB2⟩
 have hW0 := kq hw0
 have hW1 := kq hw1
 have hW2 := kq hw2
 have HR := kq hR
 have HBK := kq hbk
 have k0 : (0 : Int) ≤ (k : Int) := by omega
 have k1 : (k : Int) < (rs.length : Int) := by omega
 have HSZ : Hid (w0.heap.size = w.heap.size + 2 ∧ w1.heap.size = w.heap.size + 3) := ⟨hs0, hs1⟩
 clear hw0 hw1 hw2 hB0 hB1 hB2 hX hZ hC1 hV2 hs0 hs1 hs2 hR hbk hc hrow ih hall hkd d0 d1 d2 d3 d4 d5 d6 d7
 go_enter Tryz.func40, Tryz.ntmps40
 go_upto_region 1 with fail
 rw [← hW0.out]
 go_upto_region 2 with fail
 rw [← hW1.out]
 go_upto_region 3 with fail
 rw [← hW2.out]
 clear bx e0 e1 e2 e3 e4 e5 e6 e7 hW0 hW1 hW2
 generalize w0.heap.size = B at HST HSZ ⊢
 generalize w1.heap.size = N at HST HSZ ⊢
 have hNB : w.heap.size + 2 ≤ B ∧ w.heap.size + 3 ≤ N := by have h := HSZ.out; omega
 obtain ⟨hNB1, hNB2⟩ := hNB
 clear HSZ w0 w1
 rcases hcs with rfl | rfl
 ·have hkl := kindI_5 HKI.out HKD.out
  have hk2 : r.kids.length = 2 := by omega
  clear hkl
  have HK2 := kq hk2
  have HLM : Hid (255 ≤ limitAt rs (r.kids.getD 0 0)) := by
   show _ ≤ _
   obtain ⟨h1, m, hm, hmk⟩ := HIN.out (.inr (.inl HKD.out))
   rw [hm] at h1 ⊢
   rw [ruleAt_at (by omega)] at h1
   have h2 := kindI_size (allV_kind HALL.out (show m < rs.length by omega)) h1
   rw [limitAt_in (by omega), if_pos ⟨h1, h2⟩]
   have h3 := h2.1; have h4 := h2.2
   obtain e | e | e | e : rs[m].size = 1 ∨ rs[m].size = 2 ∨ rs[m].size = 3 ∨ rs[m].size = 4 := by omega
   all_goals (rw [e]; decide)
  obtain ⟨n, hn⟩ : ∃ n, n = min most 3 := ⟨_, rfl⟩
  have hn0 : 0 ≤ n := by omega
  have hn3 : n ≤ 3 := by omega
  clear hk2
  have y1 := (HST.out.r 1 _ rfl).1
  go_wp2_with fail
  refine (min_spec _ _ _).mono ?_
  rintro e w3 ⟨rfl, rfl⟩
  rw [← hn]
  clear hn
  go_wp2_with fail
  refine (below_draw a len cap c (n + 1) _ hl (by omega) (by omega) HST.out.cur).mono ?_
  rintro e w3 ⟨x, ⟨x0, x1⟩, rfl, hc1, hg⟩
  replace HST := kq (HST.out.draw hcw hc1 hg)
  clear hc1 hg y1
  obtain ⟨jn, rfl⟩ : ∃ j : Nat, x = (j : Int) := ⟨x.toNat, by omega⟩
  have hjn : jn ≤ 3 := by omega
  clear x0 x1
  have HRV0 : Hid (RowV k (w.heap.size + 4) (.slice none 0 0) [] w3) := RowV.start _ _ _
  have HY0 : Hid (∀ q (h : q < ([] : List ValueV).length), ∃ m : Nat, itemR r 0 q = (m : Int) ∧ m < k ∧ MadeVal rs m ([] : List ValueV)[q]) := fun q h => by simp at h
  go_wp2
  go_loopw [11] (fun i W => ∃ (j : Nat) (ys : List ValueV) (V : Value), j ≤ 3 ∧ i = .int .i64 j ∧ ys.length + j ≤ 3 ∧ Hid (MvSt a len cap c (.slice (some ⟨b0, off, none⟩) rs.length capd) [.string r.name, .int .i64 5, .int .i64 r.size, .bool r.little, .slice a4 r.bytes.length c4, .slice a5 r.names.length c5, .slice a6 r.tags.length c6, .slice a7 r.kids.length c7] [.int .i64 0, .slice none 0 0, V] B N w W) ∧ Hid (RowV k (w.heap.size + 4) V ys W) ∧ Hid (∀ q (h : q < ys.length), ∃ m : Nat, itemR r 0 q = (m : Int) ∧ m < k ∧ MadeVal rs m ys[q])) (fun i _ => (intOf i).toNat)
  case atStart => exact ⟨jn, [], _, hjn, rfl, by simp; omega, HST, HRV0, HY0⟩
  case round =>
   clear HST HRV0 HY0 hjn
   obtain ⟨j, ys, V, hj, rfl, hlen, HST, HRV, HYS⟩ := hrel
   by_cases hj0 : j = 0
   case pos =>
    subst hj0
    obtain ⟨xv, cv, rfl, hov⟩ := own_items (x := 0) HRV.out
    have HOV0 := kq hov
    have HYL : Hid (ys.length ≤ 3) := by show _ ≤ _; omega
    clear hov HRV hlen hj
    go_upto_region 32 with fail
    have HMV : Hid (MadeVal rs k (.mk 0 [] ys)) := HNODE.out _ (by have h := HYL.out; have h2 := HLM.out; simp [ownB, HKD.out, ValueV.number, ValueV.bytes, ValueV.items] at h2 ⊢; omega) (by simp [ValueV.bytes]) (by have h := HYL.out; simp [ValueV.items]; omega) (fun q h => HYS.out q h)
    have HOV : Hid (OwnV (fun b => w.heap.size + 4 ≤ b) (k + 1) (.mk 0 [] ys) [.int .i64 0, .slice none 0 0, .slice xv ys.length cv] wr) := HOV0.out
    have o0 := (HST.out.v 0 _ rfl).1
    have o1 := (HST.out.v 1 _ rfl).1
    have o2 := (HST.out.v 2 _ rfl).1
    obtain ⟨z0, t0⟩ := HST.out.z 0 _ rfl
    obtain ⟨z1, t1⟩ := HST.out.z 1 _ rfl
    obtain ⟨z2, t2⟩ := HST.out.z 2 _ rfl
    have HFI := kq (HST.out.fin HOV.out hcw hold.out)
    clear HOV HST
    go_wp2
    (try simp only [Exit.inBlock, Exit.then])
    refine bodyPost_ret (v := .agg #[.int .i64 0, .slice none 0 0, .slice xv ys.length cv]) ?_ rfl ?_
    ·simp [results, Tryz.results40, go_sem, z0, z1, z2]
    ·obtain ⟨ho, hcu, hgr⟩ := HFI.out _ _ _
     exact ⟨_, _, rfl, HMV.out, ho.mono (fun b _ hb => hb.1), hcu, hgr⟩
   have j1 : (0 : Int) < (j : Int) := by omega
   obtain ⟨xv, cv, rfl⟩ := HRV.out.slice
   obtain ⟨b7, o7, h7, hc7⟩ := (rule_slices (HST.out.rule HR.out HBK.out hcb)).2.2 1 (show 1 < r.kids.length by have h := HK2.out; omega)
   obtain ⟨m, hm, hmk⟩ := HKS.out _ (List.getElem_mem (show 1 < r.kids.length by have h := HK2.out; omega))
   subst h7
   rw [hm] at hc7
   have hm0n : (0 : Int) ≤ (m : Int) := by omega
   have HMK : Hid (r.kids.getD 1 0 = (m : Int)) := by show _ = _; rw [List.getD, List.getElem?_eq_getElem (show 1 < r.kids.length by have h := HK2.out; omega), Option.getD_some]; exact hm
   clear hm
   have HMI : Hid (itemR r 0 ys.length = (m : Int)) := by show _ = _; rw [← HMK.out]; simp [itemR, HKD.out]
   have hk1 : (1 : Int) < (r.kids.length : Int) := by have h := HK2.out; omega
   have hqo := IntWalk.i64_quo most 2 ⟨hm0, by omega, by omega⟩
   have bx := (HST.out.d 0 _ rfl).1
   have y7 := (HST.out.r 7 _ rfl).1
   have o2 := (HST.out.v 2 _ rfl).1
   have hle := HST.out.le
   have HOB : Hid (∀ g, (Value.slice xv ys.length cv).ownBlock = some g → g < wr.heap.size) := fun g e => (HRV.out.own g e).2
   have HD : Hid (Below wr.heap.size wr wr.drew) := below_drewN (Below.refl _ _) 1
   replace HST := kq (HST.out.below HD.out)
   replace HRV := kq (HRV.out.below HD.out)
   go_upto_region 17 with fail
   go_region_law (first | (go_simp; go_at_call 40; refine (HIH.out m hmk (most / 2) wr.drew (by omega) (by omega) (HROW.out.grown HST.out.grown hcb) (Nat.le_trans hbw (Nat.le_trans (by omega) hle)) HST.out.cur).mono ?_; rintro e w6 ⟨y, cy, rfl, hmv, hown, hc1, hg⟩; obtain ⟨xab, xcb, xai, xci, rfl⟩ := hown.cells; have HMY := kq hmv; have HOY : Hid (OwnV (fun b => w.heap.size + 4 ≤ b ∧ some b ≠ (Value.slice xv ys.length cv).ownBlock) k y [.int .i64 y.number, .slice xab y.bytes.length xcb, .slice xai y.items.length xci] w6) := ((hown.up (show m + 1 ≤ k by omega)).mono (fun b _ h => by have h8 : wr.heap.size ≤ b := h; exact ⟨by omega, fun e => by have := HOB.out b e.symm; omega⟩)); replace HST := kq (HST.out.draw hcw hc1 hg); replace HRV := kq (HRV.out.grown hg (fun g e => by injection e with e; omega)); have o2b := (HST.out.v 2 _ rfl).1; have o2c := (HST.out.v.below ((Below.refl w6.heap.size w6).alloc (Nat.le_refl _) (.cells #[.int .i64 y.number, .slice xab y.bytes.length xcb, .slice xai y.items.length xci] 29)) 2 _ rfl).1; have h6s := HST.out.le; clear hmv hown hc1 hg) | (refine step_pushV rfl (.tmp 86) (.tmp 96) rfl k (w.heap.size + 4) (.slice xv ys.length cv) ys y _ w6 (by simp [Act.eval]) (by simp [Act.eval]) HRV.out HOY.out (by omega) h6s ?_; intro v' w7 hrow hg; have HR7 := kq hrow; have HG7 := kq hg; obtain ⟨o2d, p2d⟩ := (HST.out.row hcw hold.out hg (fun g e => (HRV.out.own g e).1)).v 2 _ rfl; obtain ⟨xn, cn, rfl⟩ := hrow.slice; clear hrow hg))
   all_goals (have HS9 := kq (MvSt.push hcw hold.out HST.out HRV.out HR7.out HG7.out).1; have HR9 := kq (MvSt.push hcw hold.out HST.out HRV.out HR7.out HG7.out).2; have HY9 := kq (items_push HYS.out ⟨m, HMI.out, hmk, HMY.out⟩); have HYL : Hid ((ys ++ [y]).length = ys.length + 1) := (by show _ = _; simp); rw [HYL.out] at HS9 HR9; clear HST HRV HYS HR7 HG7 HMY HOY HOB HD HMI o2d p2d h6s HIH HROW; generalize w7.setCell ⟨N, 2, none⟩ (.slice xn (ys.length + 1) cn) = w9 at HS9 HR9 ⊢; generalize ys ++ [y] = yt at HR9 HY9 HYL)
   all_goals go_wp2
   all_goals go_roundw
   all_goals first | (simp [intOf]; omega) | exact ⟨j - 1, yt, _, by omega, by congr 1; omega, by have h := HYL.out; omega, HS9, HR9, HY9⟩
 ·have hkl : r.kids.length ≤ 8 := by have h := kindI_6 HKI.out HKD.out; omega
  have y1 := (HST.out.r 1 _ rfl).1
  have HRV0 : Hid (RowV k (w.heap.size + 4) (.slice none 0 0) [] w2) := RowV.start _ _ _
  have HY0 : Hid (∀ q (h : q < ([] : List ValueV).length), ∃ m : Nat, itemR r 0 q = (m : Int) ∧ m < k ∧ MadeVal rs m ([] : List ValueV)[q]) := fun q h => by simp at h
  go_wp2
  go_loopw [12] (fun i W => ∃ (q : Nat) (ys : List ValueV) (V : Value), q ≤ r.kids.length ∧ i = .int .i64 q ∧ Hid (ys.length = q) ∧ Hid (MvSt a len cap c (.slice (some ⟨b0, off, none⟩) rs.length capd) [.string r.name, .int .i64 6, .int .i64 r.size, .bool r.little, .slice a4 r.bytes.length c4, .slice a5 r.names.length c5, .slice a6 r.tags.length c6, .slice a7 r.kids.length c7] [.int .i64 0, .slice none 0 0, V] B N w W) ∧ Hid (RowV k (w.heap.size + 4) V ys W) ∧ Hid (∀ q (h : q < ys.length), ∃ m : Nat, itemR r 0 q = (m : Int) ∧ m < k ∧ MadeVal rs m ys[q])) (fun i _ => r.kids.length - (intOf i).toNat)
  case atStart => exact ⟨0, [], _, Nat.zero_le _, rfl, kq rfl, HST, HRV0, HY0⟩
  case round =>
   clear HST HRV0 HY0 y1
   obtain ⟨q, ys, V, hqn, rfl, hlen, HST, HRV, HYS⟩ := hrel
   have q0 : (0 : Int) ≤ (q : Int) := by omega
   by_cases hlt : q < r.kids.length
   case neg =>
    have q1 : ¬ (q : Int) < (r.kids.length : Int) := by omega
    have y7 := (HST.out.r 7 _ rfl).1
    obtain ⟨xv, cv, rfl, hov⟩ := own_items (x := 0) HRV.out
    have HOV0 := kq hov
    have HYL : Hid (ys.length = r.kids.length ∧ r.kids.length ≤ 8) := by have h := hlen.out; exact ⟨by omega, hkl⟩
    clear hov HRV hlen
    go_upto_region 32 with fail
    clear y7 q1 q0 hlt hqn hkl
    have HMV : Hid (MadeVal rs k (.mk 0 [] ys)) := HNODE.out _ (by have h := HYL.out; simp [ownB, HKD.out, ValueV.number, ValueV.bytes, ValueV.items]; first | omega | exact decide_eq_true h.1) (by simp [ValueV.bytes]) (by have h := HYL.out; simp [ValueV.items]; omega) (fun q h => HYS.out q h)
    have HOV : Hid (OwnV (fun b => w.heap.size + 4 ≤ b) (k + 1) (.mk 0 [] ys) [.int .i64 0, .slice none 0 0, .slice xv ys.length cv] wr) := HOV0.out
    have o0 := (HST.out.v 0 _ rfl).1
    have o1 := (HST.out.v 1 _ rfl).1
    have o2 := (HST.out.v 2 _ rfl).1
    obtain ⟨z0, t0⟩ := HST.out.z 0 _ rfl
    obtain ⟨z1, t1⟩ := HST.out.z 1 _ rfl
    obtain ⟨z2, t2⟩ := HST.out.z 2 _ rfl
    have HFI := kq (HST.out.fin HOV.out hcw hold.out)
    clear HOV HST
    go_wp2
    (try simp only [Exit.inBlock, Exit.then])
    refine bodyPost_ret (v := .agg #[.int .i64 0, .slice none 0 0, .slice xv ys.length cv]) ?_ rfl ?_
    ·simp [results, Tryz.results40, go_sem, z0, z1, z2]
    ·obtain ⟨ho, hcu, hgr⟩ := HFI.out _ _ _
     exact ⟨_, _, rfl, HMV.out, ho.mono (fun b _ hb => hb.1), hcu, hgr⟩
   have q1 : (q : Int) < (r.kids.length : Int) := by omega
   obtain ⟨xv, cv, rfl⟩ := HRV.out.slice
   have hyl8 : ys.length ≤ 8 := by have h := hlen.out; omega
   obtain ⟨b7, o7, h7, hc7⟩ := (rule_slices (HST.out.rule HR.out HBK.out hcb)).2.2 q hlt
   obtain ⟨m, hm, hmk⟩ := HKS.out _ (List.getElem_mem hlt)
   subst h7
   rw [hm] at hc7
   have hm0n : (0 : Int) ≤ (m : Int) := by omega
   have HMK : Hid (r.kids.getD q 0 = (m : Int)) := by show _ = _; rw [List.getD, List.getElem?_eq_getElem hlt, Option.getD_some]; exact hm
   clear hm
   have HMI : Hid (itemR r 0 ys.length = (m : Int)) := by show _ = _; rw [hlen.out]; unfold itemR; rw [if_neg (by have := HKD.out; omega), if_pos HKD.out, if_pos hlt]; exact HMK.out
   have hqo := IntWalk.i64_quo most 2 ⟨hm0, by omega, by omega⟩
   have bx := (HST.out.d 0 _ rfl).1
   have y7 := (HST.out.r 7 _ rfl).1
   have o2 := (HST.out.v 2 _ rfl).1
   have hle := HST.out.le
   have HOB : Hid (∀ g, (Value.slice xv ys.length cv).ownBlock = some g → g < wr.heap.size) := fun g e => (HRV.out.own g e).2
   have HD : Hid (Below wr.heap.size wr wr.drew) := below_drewN (Below.refl _ _) 1
   replace HST := kq (HST.out.below HD.out)
   replace HRV := kq (HRV.out.below HD.out)
   go_upto_region 22 with fail
   go_region_law (first | (go_simp; go_at_call 40; refine (HIH.out m hmk (most / 2) wr.drew (by omega) (by omega) (HROW.out.grown HST.out.grown hcb) (Nat.le_trans hbw (Nat.le_trans (by omega) hle)) HST.out.cur).mono ?_; rintro e w6 ⟨y, cy, rfl, hmv, hown, hc1, hg⟩; obtain ⟨xab, xcb, xai, xci, rfl⟩ := hown.cells; have HMY := kq hmv; have HOY : Hid (OwnV (fun b => w.heap.size + 4 ≤ b ∧ some b ≠ (Value.slice xv ys.length cv).ownBlock) k y [.int .i64 y.number, .slice xab y.bytes.length xcb, .slice xai y.items.length xci] w6) := ((hown.up (show m + 1 ≤ k by omega)).mono (fun b _ h => by have h8 : wr.heap.size ≤ b := h; exact ⟨by omega, fun e => by have := HOB.out b e.symm; omega⟩)); replace HST := kq (HST.out.draw hcw hc1 hg); replace HRV := kq (HRV.out.grown hg (fun g e => by injection e with e; omega)); have o2b := (HST.out.v 2 _ rfl).1; have o2c := (HST.out.v.below ((Below.refl w6.heap.size w6).alloc (Nat.le_refl _) (.cells #[.int .i64 y.number, .slice xab y.bytes.length xcb, .slice xai y.items.length xci] 29)) 2 _ rfl).1; have h6s := HST.out.le; clear hmv hown hc1 hg) | (refine step_pushV rfl (.tmp 109) (.tmp 120) rfl k (w.heap.size + 4) (.slice xv ys.length cv) ys y _ w6 (by simp [Act.eval]) (by simp [Act.eval]) HRV.out HOY.out (by omega) h6s ?_; intro v' w7 hrow hg; have HR7 := kq hrow; have HG7 := kq hg; obtain ⟨o2d, p2d⟩ := (HST.out.row hcw hold.out hg (fun g e => (HRV.out.own g e).1)).v 2 _ rfl; obtain ⟨xn, cn, rfl⟩ := hrow.slice; clear hrow hg))
   all_goals (have HQ9 : Hid ((ys ++ [y]).length = q + 1) := (by show _ = _; rw [List.length_append, hlen.out]; rfl))
   all_goals (have HS9 := kq (MvSt.push hcw hold.out HST.out HRV.out HR7.out HG7.out).1; have HR9 := kq (MvSt.push hcw hold.out HST.out HRV.out HR7.out HG7.out).2; have HY9 := kq (items_push HYS.out ⟨m, HMI.out, hmk, HMY.out⟩); have HYL : Hid ((ys ++ [y]).length = ys.length + 1) := (by show _ = _; simp); rw [HYL.out] at HS9 HR9; clear HST HRV HYS HR7 HG7 HMY HOY HOB HD HMI o2d p2d h6s HIH HROW; generalize w7.setCell ⟨N, 2, none⟩ (.slice xn (ys.length + 1) cn) = w9 at HS9 HR9 ⊢; generalize ys ++ [y] = yt at HR9 HY9 HYL HQ9)
   all_goals go_wp2
   all_goals go_roundw
   all_goals first | (simp [intOf]; omega) | exact ⟨q + 1, yt, _, by omega, by go_num, HQ9, HS9, HR9, HY9⟩
end Go.Proofs.YtdccjobgfjoflaaGreatDoor
