/- Contracts of the laws' copies of rules and descriptions. -/
import Derived.Test.YtndjefednfcmmaaGreatDoorGBase
namespace Go.Proofs.YtndjefednfcmmaaGreatDoor
open Go Go.RowKit
def sliceBlk : Value → List Nat
 | .slice (some a) n _ => if n = 0 then [] else [a.block]
 | _ => []
def OwnRule (lo hi : Nat) (r : RuleV) (cs : List Value) (w : World) : Prop :=
 ∃ a4 c4 a5 c5 a6 c6 a7 c7, cs = [.string r.name, .int .i64 r.kind, .int .i64 r.size, .bool r.little, .slice a4 r.bytes.length c4, .slice a5 r.names.length c5, .slice a6 r.tags.length c6, .slice a7 r.kids.length c7] ∧
  Row lo a4 r.bytes c4 w ∧ RowF Value.string lo a5 r.names c5 w ∧ RowF (Value.int .i64) lo a6 r.tags c6 w ∧ RowF (Value.int .i64) lo a7 r.kids c7 w ∧ (cs.flatMap sliceBlk).Nodup ∧ ∀ b ∈ cs.flatMap sliceBlk, lo ≤ b ∧ b < hi
theorem OwnRule.is {lo hi : Nat} {r : RuleV} {cs : List Value} {w : World} (h : OwnRule lo hi r cs w) : IsRule r cs w := by
 obtain ⟨a4, c4, a5, c5, a6, c6, a7, c7, e, h4, h5, h6, h7, _⟩ := h
 exact ⟨a4, c4, a5, c5, a6, c6, a7, c7, e, h4.rd, h5.rd, h6.rd, h7.rd⟩
theorem OwnRule.below {lo hi : Nat} {r : RuleV} {cs : List Value} {w w' : World} (h : OwnRule lo hi r cs w) (hb : Below w.heap.size w w') : OwnRule lo hi r cs w' := by
 obtain ⟨a4, c4, a5, c5, a6, c6, a7, c7, e, h4, h5, h6, h7, h8⟩ := h
 exact ⟨a4, c4, a5, c5, a6, c6, a7, c7, e, h4.below hb, h5.below hb, h6.below hb, h7.below hb, h8⟩
def Lies (lo hi : Nat) (a : Option Addr) (n : Nat) : Prop := n = 0 ∨ ∃ b off, a = some ⟨b, off, none⟩ ∧ lo ≤ b ∧ b < hi
theorem Lies.blk {lo hi : Nat} {a : Option Addr} {n c : Nat} (h : Lies lo hi a n) : ∀ b ∈ sliceBlk (.slice a n c), lo ≤ b ∧ b < hi := fun b hb => by
 rcases h with rfl | ⟨b', off, rfl, h1, h2⟩
 ·cases a <;> simp [sliceBlk] at hb
 ·by_cases hn : n = 0
  ·subst hn; simp [sliceBlk] at hb
  ·simp only [sliceBlk, if_neg hn, List.mem_singleton] at hb
   subst hb
   exact ⟨h1, h2⟩
theorem sliceBlk_nodup (a : Option Addr) (n c : Nat) : (sliceBlk (.slice a n c)).Nodup := by
 unfold sliceBlk
 split
 ·split <;> simp
 ·simp
theorem FreshF.lies {α : Type} {f : α → Value} {lo : Nat} {a : Option Addr} {xs : List α} {w : World} (h : FreshF f lo a xs w) : Lies lo w.heap.size a xs.length := by
 cases xs with
 | nil => exact .inl rfl
 | cons x r =>
  rcases h with h | ⟨b, off, ha, hB, hc⟩
  ·cases h
  ·exact .inr ⟨b, off, ha, hB, cell_lt (hc 0 (by simp)).1⟩
theorem Fresh.lies {lo : Nat} {a : Option Addr} {xs : List UInt8} {w : World} (h : Fresh lo a xs w) : Lies lo w.heap.size a xs.length := by
 cases xs with
 | nil => exact .inl rfl
 | cons x r =>
  rcases h with h | ⟨b, off, ha, hB, hc⟩
  ·cases h
  ·exact .inr ⟨b, off, ha, hB, cell_lt (hc 0 (by simp)).1⟩
theorem four_blks {r : RuleV} {p0 p1 p2 p3 p4 : Nat} {a4 a5 a6 a7 : Option Addr} {n4 n5 n6 n7 c4 c5 c6 c7 : Nat} (h4 : Lies p0 p1 a4 n4) (h5 : Lies p1 p2 a5 n5) (h6 : Lies p2 p3 a6 n6) (h7 : Lies p3 p4 a7 n7) (q0 : p0 ≤ p1) (q1 : p1 ≤ p2) (q2 : p2 ≤ p3) (q3 : p3 ≤ p4) :
  let cs : List Value := [.string r.name, .int .i64 r.kind, .int .i64 r.size, .bool r.little, .slice a4 n4 c4, .slice a5 n5 c5, .slice a6 n6 c6, .slice a7 n7 c7]
  (cs.flatMap sliceBlk).Nodup ∧ ∀ b ∈ cs.flatMap sliceBlk, p0 ≤ b ∧ b < p4 := by
 have b4 := h4.blk (c := c4)
 have b5 := h5.blk (c := c5)
 have b6 := h6.blk (c := c6)
 have b7 := h7.blk (c := c7)
 have e : ([.string r.name, .int .i64 r.kind, .int .i64 r.size, .bool r.little, .slice a4 n4 c4, .slice a5 n5 c5, .slice a6 n6 c6, .slice a7 n7 c7] : List Value).flatMap sliceBlk = sliceBlk (.slice a4 n4 c4) ++ (sliceBlk (.slice a5 n5 c5) ++ (sliceBlk (.slice a6 n6 c6) ++ sliceBlk (.slice a7 n7 c7))) := by
  simp only [List.flatMap_cons, List.flatMap_nil, List.append_nil]
  rfl
 intro cs
 show (List.flatMap sliceBlk _).Nodup ∧ _
 rw [e]
 refine ⟨?_, ?_⟩
 ·refine List.nodup_append.2 ⟨sliceBlk_nodup _ _ _, List.nodup_append.2 ⟨sliceBlk_nodup _ _ _, List.nodup_append.2 ⟨sliceBlk_nodup _ _ _, sliceBlk_nodup _ _ _, ?_⟩, ?_⟩, ?_⟩
  ·intro x hx y hy
   have := b6 x hx; have := b7 y hy; omega
  ·intro x hx y hy
   have := b5 x hx
   rcases List.mem_append.1 hy with hy | hy
   ·have := b6 y hy; omega
   ·have := b7 y hy; omega
  ·intro x hx y hy
   have := b4 x hx
   rcases List.mem_append.1 hy with hy | hy
   ·have := b5 y hy; omega
   ·rcases List.mem_append.1 hy with hy | hy
    ·have := b6 y hy; omega
    ·have := b7 y hy; omega
 ·intro b hb
  simp only [List.mem_append] at hb
  rcases hb with hb | hb | hb | hb
  ·have := b4 b hb; omega
  ·have := b5 b hb; omega
  ·have := b6 b hb; omega
  ·have := b7 b hb; omega
theorem Fresh.setFar {B c i : Nat} {a : Option Addr} {bs : List UInt8} {w : World} {v : Value} (h : Fresh B a bs w) (hc : c < B) : Fresh B a bs (w.setCell ⟨c, i, none⟩ v) := by
 rcases h with rfl | ⟨b, off, ha, hB, hcell⟩
 ·exact .inl rfl
 ·exact Fresh.grown (.inr ⟨b, off, ha, hB, hcell⟩) (grown_set (grown_refl w c) i v) (fun b' off' ha' _ => by rw [ha] at ha'; injection ha' with ha'; injection ha' with e; omega)
theorem Row.setFar {B c i cap : Nat} {a : Option Addr} {bs : List UInt8} {w : World} {v : Value} (h : Row B a bs cap w) (hc : c < B) : Row B a bs cap (w.setCell ⟨c, i, none⟩ v) := ⟨h.1.setFar hc, h.2⟩
theorem FreshF.setFar {α : Type} {f : α → Value} {B c i : Nat} {a : Option Addr} {bs : List α} {w : World} {v : Value} (h : FreshF f B a bs w) (hc : c < B) : FreshF f B a bs (w.setCell ⟨c, i, none⟩ v) := by
 rcases h with rfl | ⟨b, off, ha, hB, hcell⟩
 ·exact .inl rfl
 ·exact FreshF.grown (.inr ⟨b, off, ha, hB, hcell⟩) (grown_set (grown_refl w c) i v) (fun b' off' ha' _ => by rw [ha] at ha'; injection ha' with ha'; injection ha' with e; omega)
theorem RowF.setFar {α : Type} {f : α → Value} {B c i cap : Nat} {a : Option Addr} {bs : List α} {w : World} {v : Value} (h : RowF f B a bs cap w) (hc : c < B) : RowF f B a bs cap (w.setCell ⟨c, i, none⟩ v) := ⟨h.1.setFar hc, h.2⟩
def Short (r : RuleV) : Prop := r.bytes.length ≤ 1048576 ∧ r.names.length ≤ 1048576 ∧ r.tags.length ≤ 1048576 ∧ r.kids.length ≤ 1048576
theorem OwnRule.setFar {lo hi c i : Nat} {r : RuleV} {cs : List Value} {w : World} {v : Value} (h : OwnRule lo hi r cs w) (hc : c < lo) : OwnRule lo hi r cs (w.setCell ⟨c, i, none⟩ v) := by
 obtain ⟨a4, c4, a5, c5, a6, c6, a7, c7, e, h4, h5, h6, h7, h8⟩ := h
 exact ⟨a4, c4, a5, c5, a6, c6, a7, c7, e, h4.setFar hc, h5.setFar hc, h6.setFar hc, h7.setFar hc, h8⟩
theorem OwnRule.more {lo lo' hi hi' : Nat} {r : RuleV} {cs : List Value} {w : World} (h : OwnRule lo hi r cs w) (hl : lo' ≤ lo) (hh : hi ≤ hi') : OwnRule lo' hi' r cs w := by
 obtain ⟨a4, c4, a5, c5, a6, c6, a7, c7, e, h4, h5, h6, h7, h8, h9⟩ := h
 exact ⟨a4, c4, a5, c5, a6, c6, a7, c7, e, h4.more hl, h5.more hl, h6.more hl, h7.more hl, h8, fun b hb => by have := h9 b hb; omega⟩
def RuleOut (r : RuleV) (w : World) (e : Ending) (w' : World) : Prop := ∃ cs, e = .returned (.agg cs.toArray) ∧ OwnRule w.heap.size w'.heap.size r cs w' ∧ Below w.heap.size w w'
def putList (w : World) (b : Nat) : Nat → List Value → World
 | _, [] => w
 | o, v :: vs => putList (w.setCell ⟨b, o, none⟩ v) b (o + 1) vs
theorem putList_frozen (b : Nat) (p : Addr) : ∀ (vs : List Value) (o : Nat) (w : World), (putList w b o vs).frozen? p = w.frozen? p
 | [], _, _ => rfl
 | v :: vs, o, w => by rw [putList, putList_frozen b p vs]; simp
theorem putList_size (b : Nat) : ∀ (vs : List Value) (o : Nat) (w : World), (putList w b o vs).heap.size = w.heap.size
 | [], _, _ => rfl
 | v :: vs, o, w => by rw [putList, putList_size b vs]; simp
theorem putList_far (b : Nat) (p : Addr) : ∀ (vs : List Value) (o : Nat) (w : World), (p.block ≠ b ∨ p.off < o ∨ o + vs.length ≤ p.off) → (putList w b o vs).cell? p = w.cell? p
 | [], _, _, _ => rfl
 | v :: vs, o, w, h => by
  rw [putList, putList_far b p vs (o + 1) _ (by simp only [List.length_cons] at h; omega)]
  refine World.cell?_setCell_other _ _ _ _ (fun he => ?_)
  subst he
  simp at h
  omega
theorem putList_at (b : Nat) : ∀ (vs : List Value) (o i : Nat) (w : World) (v u : Value), vs[i]? = some v → w.cell? ⟨b, o + i, none⟩ = some u → (putList w b o vs).cell? ⟨b, o + i, none⟩ = some v
 | [], _, _, _, _, _, h, _ => by simp at h
 | x :: vs, o, 0, w, v, u, h, hc => by
  simp at h
  subst h
  rw [putList, putList_far b _ vs (o + 1) _ (.inr (.inl (by simp)))]
  exact World.cell?_setCell_same _ _ _ hc
 | x :: vs, o, i + 1, w, v, u, h, hc => by
  have e : o + (i + 1) = (o + 1) + i := by omega
  rw [putList, e]
  refine putList_at b vs (o + 1) i _ v u (by simpa using h) ?_
  rw [World.cell?_setCell_other _ _ _ _ (fun he => by have := congrArg Addr.off he; simp at this; omega), ← e]
  exact hc
theorem putList_below (b : Nat) : ∀ (vs : List Value) (o : Nat) (B : Nat) (w0 w : World), Below B w0 w → B ≤ b → Below B w0 (putList w b o vs)
 | [], _, _, _, _, h, _ => h
 | v :: vs, o, B, w0, _, h, hB => putList_below b vs (o + 1) B w0 _ (h.setCell (p := ⟨b, o, none⟩) hB v) hB
theorem OwnRule.put {lo hi b : Nat} {r : RuleV} {cs : List Value} (hb : b < lo) : ∀ (vs : List Value) (o : Nat) (w : World), OwnRule lo hi r cs w → OwnRule lo hi r cs (putList w b o vs)
 | [], _, _, h => h
 | _ :: vs, o, _, h => OwnRule.put hb vs (o + 1) _ (h.setFar hb)
def OwnR (lo hi : Nat) (a : Option Addr) (rs : List RuleV) (cap : Nat) (w : World) : Prop :=
 ∃ css : List (List Value), css.length = rs.length ∧ (∀ j (h : j < rs.length) (h' : j < css.length), OwnRule lo hi rs[j] css[j] w) ∧
  (rs = [] ∨ ∃ b off, a = some ⟨b, off, none⟩ ∧ lo ≤ b ∧ b < hi ∧ (∀ j (h : j < css.length) i v, css[j][i]? = some v → w.cell? ⟨b, off + j * 8 + i, none⟩ = some v ∧ w.frozen? ⟨b, off + j * 8 + i, none⟩ = false) ∧ (b :: css.flatMap fun cs => cs.flatMap sliceBlk).Nodup) ∧
  rs.length ≤ cap ∧ (a = none → cap = 0)
theorem OwnR.rd {lo hi : Nat} {a : Option Addr} {rs : List RuleV} {cap : Nat} {w : World} (h : OwnR lo hi a rs cap w) : RdR a rs w := fun j hj => by
 obtain ⟨css, hl, ho, hr, _⟩ := h
 rcases hr with rfl | ⟨b, off, ha, _, _, hc, _⟩
 ·simp at hj
 ·exact ⟨b, off, css[j]'(by omega), ha, (ho j hj (by omega)).is, fun i v hv => (hc j (by omega) i v hv).1⟩
theorem OwnR.below {lo hi : Nat} {a : Option Addr} {rs : List RuleV} {cap : Nat} {w w' : World} (h : OwnR lo hi a rs cap w) (hb : Below w.heap.size w w') : OwnR lo hi a rs cap w' := by
 obtain ⟨css, hl, ho, hr, hcap⟩ := h
 refine ⟨css, hl, fun j h1 h2 => (ho j h1 h2).below hb, ?_, hcap⟩
 rcases hr with hr | ⟨b, off, ha, h1, h2, hc, hn⟩
 ·exact .inl hr
 ·refine .inr ⟨b, off, ha, h1, h2, fun j hj i v hv => ?_, hn⟩
  obtain ⟨q1, q2⟩ := hc j hj i v hv
  exact ⟨(hb.cell (cell_lt q1)).trans q1, (hb.frozen (p := ⟨b, off + j * 8 + i, none⟩) (cell_lt q1)).trans q2⟩
def HalfR (rs : List RuleV) (k N : Nat) (w W : World) : Prop :=
 Below w.heap.size w W ∧ N < W.heap.size ∧ ∃ css : List (List Value), css.length = k ∧ (∀ j (h : j < rs.length) (h' : j < css.length), OwnRule (N + 1) W.heap.size rs[j] css[j] W) ∧
  (∀ j (h : j < css.length) i v, css[j][i]? = some v → W.cell? ⟨N, j * 8 + i, none⟩ = some v) ∧ (∀ c, c < rs.length * 8 → W.frozen? ⟨N, c, none⟩ = false) ∧
  (∀ j, k ≤ j → j < rs.length → ∀ i v, ([.string ⟨#[]⟩, .int .i64 0, .int .i64 0, .bool false, .slice none 0 0, .slice none 0 0, .slice none 0 0, .slice none 0 0] : List Value)[i]? = some v → W.cell? ⟨N, j * 8 + i, none⟩ = some v) ∧
  (css.flatMap fun cs => cs.flatMap sliceBlk).Nodup
theorem OwnRule.length {lo hi : Nat} {r : RuleV} {cs : List Value} {w : World} (h : OwnRule lo hi r cs w) : cs.length = 8 := by
 obtain ⟨a4, c4, a5, c5, a6, c6, a7, c7, rfl, _⟩ := h
 rfl
theorem HalfR.next {rs : List RuleV} {k N : Nat} {w W W1 : World} {cs : List Value} (h : HalfR rs k N w W) (hN : w.heap.size ≤ N) (hk : k < rs.length) (hb : Below W.heap.size W W1) (hr : OwnRule W.heap.size W1.heap.size rs[k] cs W1) : HalfR rs (k + 1) N w (putList W1 N (k * 8) cs) := by
 obtain ⟨h1, h2, css, hl, ho, hc, hf, hz, hn⟩ := h
 have hlen := hr.length
 have hs := hb.size
 have hcb : ∀ j (h : j < css.length) i v, css[j][i]? = some v → W1.cell? ⟨N, j * 8 + i, none⟩ = some v := fun j hj i v hv => (hb.cell (p := ⟨N, j * 8 + i, none⟩) h2).trans (hc j hj i v hv)
 have hzb : ∀ j, k ≤ j → j < rs.length → ∀ i v, ([.string ⟨#[]⟩, .int .i64 0, .int .i64 0, .bool false, .slice none 0 0, .slice none 0 0, .slice none 0 0, .slice none 0 0] : List Value)[i]? = some v → W1.cell? ⟨N, j * 8 + i, none⟩ = some v := fun j hj hj' i v hv => (hb.cell (p := ⟨N, j * 8 + i, none⟩) h2).trans (hz j hj hj' i v hv)
 have hat : ∀ {j : Nat} (hj : j < (css ++ [cs]).length), (hjk : j < css.length) → (css ++ [cs])[j] = css[j] := fun hj hjk => List.getElem_append_left hjk
 have hatk : ∀ {j : Nat} (hj : j < (css ++ [cs]).length), ¬ j < css.length → (css ++ [cs])[j] = cs := fun {j} hj hjk => by
  have e : j = css.length := by simp at hj; omega
  subst e
  simp
 refine ⟨putList_below N cs _ _ _ _ (h1.trans (hb.mono h1.size)) hN, by rw [putList_size]; omega, css ++ [cs], by simp [hl], ?_, ?_, ?_, ?_, ?_⟩
 ·intro j hj hj'
  rw [putList_size]
  by_cases hjk : j < css.length
  ·rw [hat hj' hjk]
   exact OwnRule.put (by omega) cs _ _ (((ho j hj hjk).below hb).more (Nat.le_refl _) hs)
  ·rw [hatk hj' hjk]
   have e : j = k := by simp at hj'; omega
   subst e
   exact OwnRule.put (by omega) cs _ _ (hr.more (by omega) (Nat.le_refl _))
 ·intro j hj i v hv
  by_cases hjk : j < css.length
  ·rw [hat hj hjk] at hv
   have hi8 : i < 8 := by
    have h8 := (ho j (by omega) hjk).length
    rcases Nat.lt_or_ge i 8 with h | h
    ·exact h
    ·rw [List.getElem?_eq_none (by omega)] at hv; cases hv
   rw [putList_far N _ cs _ _ (.inr (.inl (by show j * 8 + i < k * 8; omega)))]
   exact hcb j hjk i v hv
  ·rw [hatk hj hjk] at hv
   have e : j = k := by simp at hj; omega
   subst e
   have hi8 : i < 8 := by
    rcases Nat.lt_or_ge i 8 with h | h
    ·exact h
    ·rw [List.getElem?_eq_none (by omega)] at hv; cases hv
   obtain ⟨u, hu⟩ : ∃ u, ([.string ⟨#[]⟩, .int .i64 0, .int .i64 0, .bool false, .slice none 0 0, .slice none 0 0, .slice none 0 0, .slice none 0 0] : List Value)[i]? = some u := ⟨_, List.getElem?_eq_getElem (by simpa using hi8)⟩
   exact putList_at N cs (j * 8) i W1 v u hv (hzb j (Nat.le_refl _) hk i u hu)
 ·intro c hc8
  rw [putList_frozen]
  exact (hb.frozen (p := ⟨N, c, none⟩) h2).trans (hf c hc8)
 ·intro j hj hj' i v hv
  rw [putList_far N _ cs _ _ (.inr (.inr (by rw [hlen]; show k * 8 + 8 ≤ j * 8 + i; omega)))]
  exact hzb j (by omega) hj' i v hv
 ·rw [List.flatMap_append]
  simp only [List.flatMap_cons, List.flatMap_nil, List.append_nil]
  obtain ⟨_, _, _, _, _, _, _, _, _, _, _, _, _, hnd, hrange⟩ := hr
  refine List.nodup_append.2 ⟨hn, hnd, ?_⟩
  intro x hx y hy
  obtain ⟨c0, hc0, hx⟩ := List.mem_flatMap.1 hx
  obtain ⟨j, hj, rfl⟩ := List.getElem_of_mem hc0
  obtain ⟨_, _, _, _, _, _, _, _, _, _, _, _, _, _, hr2⟩ := ho j (by omega) hj
  have q1 := hr2 x hx
  have q2 := hrange y hy
  omega
theorem infoRule : (Tryz.prog.info? 59).map (fun i => (i.zero, i.size, i.bytes)) = some (some (.agg #[.string ⟨#[]⟩, .int .i64 0, .int .i64 0, .bool false, .slice none 0 0, .slice none 0 0, .slice none 0 0, .slice none 0 0]), 8, 136) := by kernel_rfl
theorem make_rules (n : Nat) (hn : n ≤ 1073741824) (W : World) : (Instr.makeSlice 24 (.int .i64 (n : Int)) (.int .i64 (n : Int))).run Tryz.prog W = .ok (.slice (some ⟨W.heap.size, 0, none⟩) n n) (W.alloc (.cells (madeCells #[.string ⟨#[]⟩, .int .i64 0, .int .i64 0, .bool false, .slice none 0 0, .slice none 0 0, .slice none 0 0, .slice none 0 0] (n * 8)) 59)) := by
 obtain ⟨i0, hi, h⟩ := Option.map_eq_some_iff.1 infoRule
 simp only [Prod.mk.injEq] at h
 obtain ⟨hz0, hz1, hz2⟩ := h
 have hr := run_make (P := Tryz.prog) W 24 59 i0 _ Tryz.underlying24 hi hz0 .i64 .i64 (n : Int) (n : Int) (by omega) (by omega) (by rw [hz2]; omega) (by omega)
 rw [hr, hz1]
 simp [Value.cells]
theorem made_at (n c : Nat) (h : c < n) (z : Array Value) : (madeCells z n)[c]? = some z[c % z.size]! := by
 unfold madeCells
 simp [h]
theorem HalfR.start (rs : List RuleV) (t : TypeId) (w : World) : HalfR rs 0 w.heap.size w (w.alloc (.cells (madeCells #[.string ⟨#[]⟩, .int .i64 0, .int .i64 0, .bool false, .slice none 0 0, .slice none 0 0, .slice none 0 0, .slice none 0 0] (rs.length * 8)) t)) := by
 refine ⟨(Below.refl _ _).alloc (Nat.le_refl _) _, by simp, [], rfl, fun j h h' => by simp at h', fun j h => by simp at h, fun c _ => by simp, fun j _ hj i v hv => ?_, by simp⟩
 have hi8 : i < 8 := by
  rcases Nat.lt_or_ge i 8 with h | h
  ·exact h
  ·rw [List.getElem?_eq_none (by simpa using h)] at hv; cases hv
 refine (World.cell?_alloc_mark w _ t (0, 0) (j * 8 + i)).trans ?_
 rw [made_at _ _ (by omega)]
 have e : (j * 8 + i) % 8 = i := by omega
 show some (#[.string ⟨#[]⟩, .int .i64 0, .int .i64 0, .bool false, .slice none 0 0, .slice none 0 0, .slice none 0 0, .slice none 0 0] : Array Value)[(j * 8 + i) % 8]! = some v
 rw [e]
 rcases (by omega : i = 0 ∨ i = 1 ∨ i = 2 ∨ i = 3 ∨ i = 4 ∨ i = 5 ∨ i = 6 ∨ i = 7) with rfl | rfl | rfl | rfl | rfl | rfl | rfl | rfl <;> exact hv
theorem HalfR.end {rs : List RuleV} {w W : World} (h : HalfR rs rs.length w.heap.size w W) : OwnR w.heap.size W.heap.size (some ⟨w.heap.size, 0, none⟩) rs rs.length W := by
 obtain ⟨h1, h2, css, hl, ho, hc, hf, _, hn⟩ := h
 refine ⟨css, hl, fun j hj hj' => (ho j hj hj').more (by omega) (Nat.le_refl _), .inr ⟨w.heap.size, 0, rfl, Nat.le_refl _, h2, fun j hj i v hv => ?_, ?_⟩, Nat.le_refl _, fun e => by cases e⟩
 ·have hi8 : i < 8 := by
   have h8 := (ho j (by omega) hj).length
   rcases Nat.lt_or_ge i 8 with h | h
   ·exact h
   ·rw [List.getElem?_eq_none (by omega)] at hv; cases hv
  rw [Nat.zero_add]
  exact ⟨hc j hj i v hv, hf _ (by omega)⟩
 ·refine List.nodup_cons.2 ⟨fun hm => ?_, hn⟩
  obtain ⟨c0, hc0, hx⟩ := List.mem_flatMap.1 hm
  obtain ⟨j, hj, rfl⟩ := List.getElem_of_mem hc0
  obtain ⟨_, _, _, _, _, _, _, _, _, _, _, _, _, _, hr2⟩ := ho j (by omega) hj
  have := hr2 _ hx
  omega
theorem OwnR.more {lo lo' hi hi' : Nat} {a : Option Addr} {rs : List RuleV} {cap : Nat} {w : World} (h : OwnR lo hi a rs cap w) (hl : lo' ≤ lo) (hh : hi ≤ hi') : OwnR lo' hi' a rs cap w := by
 obtain ⟨css, hcl, ho, hr, hcap⟩ := h
 refine ⟨css, hcl, fun j h1 h2 => (ho j h1 h2).more hl hh, ?_, hcap⟩
 rcases hr with hr | ⟨b, off, ha, h1, h2, hc⟩
 ·exact .inl hr
 ·exact .inr ⟨b, off, ha, by omega, by omega, hc⟩
theorem OwnR.setFar {lo hi c i : Nat} {a : Option Addr} {rs : List RuleV} {cap : Nat} {w : World} {v : Value} (h : OwnR lo hi a rs cap w) (hc : c < lo) : OwnR lo hi a rs cap (w.setCell ⟨c, i, none⟩ v) := by
 obtain ⟨css, hcl, ho, hr, hcap⟩ := h
 refine ⟨css, hcl, fun j h1 h2 => (ho j h1 h2).setFar hc, ?_, hcap⟩
 rcases hr with hr | ⟨b, off, ha, h1, h2, hcell, hn⟩
 ·exact .inl hr
 ·refine .inr ⟨b, off, ha, h1, h2, fun j hj i' v' hv => ?_, hn⟩
  obtain ⟨q1, q2⟩ := hcell j hj i' v' hv
  exact ⟨(World.cell?_setCell_other _ _ _ _ (fun he => by have := congrArg Addr.block he; simp at this; omega)).trans q1, by simpa using q2⟩
def DescrOut (rs : List RuleV) (w : World) (e : Ending) (w' : World) : Prop := ∃ a cap, e = .returned (.agg #[.slice a rs.length cap]) ∧ OwnR w.heap.size w'.heap.size a rs cap w' ∧ Below w.heap.size w w'
end Go.Proofs.YtndjefednfcmmaaGreatDoor
