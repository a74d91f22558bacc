/- The contract of the program's CopyValue. -/
import Derived.Test.YtefkhknfjohnaaaCopyP
import Derived.Test.YtefkhknfjohnaaaCloneV
import Derived.Test.YtefkhknfjohnaaaVisit
import Derived.Test.YtefkhknfjohnaaaGK
namespace Go.Proofs.Ytefkhknfjohnaaa
open Go Go.RowKit
/-- The cells of the items, one after the other. -/
theorem items_cells {n : Nat} {ai : Option Addr} {vs : List ValueV} {w : World} (h : ItemsAt n ai vs w) : ∃ xs : List Value, xs.length = vs.length * 3 ∧ (∀ u ∈ xs, u.oneCell' = true) ∧ (∀ j u, xs[j]? = some u → ∃ b off, ai = some ⟨b, off, none⟩ ∧ w.cell? ⟨b, off + j, none⟩ = some u) ∧
    ∀ j (hj : j < vs.length), ∃ cs', IsVal n vs[j] cs' w ∧ ∀ i u, cs'[i]? = some u → xs[j * 3 + i]? = some u := by
  have hch : ∃ R : Fin vs.length → List Value, ∀ i : Fin vs.length, IsVal n vs[i.val] (R i) w ∧ ∃ b off, ai = some ⟨b, off, none⟩ ∧ ∀ k u, (R i)[k]? = some u → w.cell? ⟨b, off + i.val * 3 + k, none⟩ = some u := by
    have hx : ∀ i : Fin vs.length, ∃ cs' : List Value, IsVal n vs[i.val] cs' w ∧ ∃ b off, ai = some ⟨b, off, none⟩ ∧ ∀ k u, cs'[k]? = some u → w.cell? ⟨b, off + i.val * 3 + k, none⟩ = some u := fun i => by
      obtain ⟨b, off, cs', e, h1, h2⟩ := h i.val i.isLt
      exact ⟨cs', h1, b, off, e, h2⟩
    exact ⟨fun i => Classical.choose (hx i), fun i => Classical.choose_spec (hx i)⟩
  obtain ⟨R, hR⟩ := hch
  obtain ⟨css, hcss⟩ : ∃ css, css = List.ofFn R := ⟨_, rfl⟩
  have hl : css.length = vs.length := by rw [hcss]; simp
  have hat : ∀ j (hj : j < vs.length) (hj' : j < css.length), css[j] = R ⟨j, hj⟩ := fun j hj hj' => by subst hcss; simp
  have h3 : ∀ cs ∈ css, cs.length = 3 := fun cs hc => by
    obtain ⟨j, hj, rfl⟩ := List.getElem_of_mem hc
    rw [hat j (by omega) hj]
    obtain ⟨ab, cb, a2, c2, e⟩ := (hR ⟨j, by omega⟩).1.three
    rw [e]; rfl
  have hlen : css.flatten.length = vs.length * 3 := by
    rw [← hl]
    clear hcss hl hat
    induction css with
    | nil => simp
    | cons c css ih => rw [List.flatten_cons, List.length_append, ih (fun cs hc => h3 cs (by simp [hc])), h3 c (by simp), List.length_cons]; omega
  have hget : ∀ j i (hj : j < vs.length), i < 3 → css.flatten[j * 3 + i]? = (R ⟨j, hj⟩)[i]? := fun j i hj hi => by
    rw [flat3_at h3 j i (by omega) hi, hat j hj (by omega)]
  have hbk : ∀ q u, css.flatten[q]? = some u → ∃ (hj : q / 3 < vs.length), (R ⟨q / 3, hj⟩)[q % 3]? = some u := fun q u hq => by
    have hql : q < vs.length * 3 := by
      rcases Nat.lt_or_ge q (vs.length * 3) with h | h
      · exact h
      · rw [List.getElem?_eq_none (by omega)] at hq; cases hq
    have hj : q / 3 < vs.length := by omega
    refine ⟨hj, ?_⟩
    rw [← hget (q / 3) (q % 3) hj (by omega), show q / 3 * 3 + q % 3 = q from by omega]
    exact hq
  refine ⟨css.flatten, hlen, fun u hu => ?_, fun q u hq => ?_, fun j hj => ⟨R ⟨j, hj⟩, (hR ⟨j, hj⟩).1, fun i u hu => ?_⟩⟩
  · obtain ⟨q, hq, rfl⟩ := List.getElem_of_mem hu
    obtain ⟨hj, hr⟩ := hbk q _ (List.getElem?_eq_getElem hq)
    obtain ⟨ab, cb, a2, c2, e⟩ := (hR ⟨q / 3, hj⟩).1.three
    rw [e] at hr
    rcases (by omega : q % 3 = 0 ∨ q % 3 = 1 ∨ q % 3 = 2) with e3 | e3 | e3 <;> rw [e3] at hr <;> simp at hr <;> rw [← hr] <;> rfl
  · obtain ⟨hj, hr⟩ := hbk q u hq
    obtain ⟨_, b, off, e, hc⟩ := hR ⟨q / 3, hj⟩
    refine ⟨b, off, e, ?_⟩
    have := hc _ _ hr
    rw [show off + q / 3 * 3 + q % 3 = off + q from by omega] at this
    exact this
  · have hi : i < 3 := by
      obtain ⟨ab, cb, a2, c2, e⟩ := (hR ⟨j, hj⟩).1.three
      rw [e] at hu
      rcases Nat.lt_or_ge i 3 with h | h
      · exact h
      · rw [List.getElem?_eq_none (by simpa using h)] at hu; cases hu
    rw [hget j i hj hi]
    exact hu
set_option maxRecDepth 100000 in
set_option maxHeartbeats 4000000 in
/-- One visit. -/
theorem copy_clo (w0 : World) (b o : Nat) (v : ValueV) (w : World) (hr : RawAt w0 (b, o, v) w) (hold : Below w0.heap.size w0 w) (hb0 : w0.heap.size ≤ b) (hb1 : b < w.heap.size) (hbl : v.bytes.length ≤ 16777216) (hil : v.items.length ≤ 16777216) :
    Calls Try.prog 45 #[.pointer (some ⟨b, o, none⟩)] w fun e w' => e = .returned (.tuple #[]) ∧ ∃ g b1 b0, Step w0 b o v g b1 b0 w w' := by
  obtain ⟨n, cs, hv, hc⟩ := hr
  cases n with
  | zero => exact hv.elim
  | succ n =>
  obtain ⟨ab, cb, ai, ci, rfl, hrb, hit⟩ := IsVal.open hv
  simp only at hrb hit hc
  obtain ⟨xs, hx1, hx2, hx3, hx4⟩ := items_cells hit
  obtain ⟨x1, f1⟩ := hc 1 _ rfl
  obtain ⟨x2, f2⟩ := hc 2 _ rfl
  have HRB := Lib.hid (hrb.1.below hold)
  have HX1 := Lib.hid hx1
  have HX2 := Lib.hid hx2
  have HX3 : Hid (∀ W, Below w0.heap.size w0 W → ∀ j u, xs[j]? = some u → ∃ b off, ai = some ⟨b, off, none⟩ ∧ W.cell? ⟨b, off + j, none⟩ = some u) := fun W hB j u hj => by
    obtain ⟨b, off, e, hcell⟩ := hx3 j u hj
    exact ⟨b, off, e, cell_keepV hB hcell⟩
  have HX4 := Lib.hid hx4
  have HOLD := Lib.hid hold
  clear hv hc hrb hit hx1 hx2 hx3 hx4 hold
  go_enter Try.func45, Try.ntmps45
  go_wp2_with fail
  refine (clone_bytes ab v.bytes cb w hbl HRB.out).mono ?_
  rintro e w1 ⟨a1, c1, rfl, hrow, hbw1⟩
  have hs1 := hbw1.size
  have y1 := (hbw1.cell (p := ⟨b, o + 1, none⟩) hb1).trans x1
  have y2 := (hbw1.cell (p := ⟨b, o + 2, none⟩) hb1).trans x2
  have k1 := (hbw1.frozen (p := ⟨b, o + 1, none⟩) hb1).trans f1
  have k2 := (hbw1.frozen (p := ⟨b, o + 2, none⟩) hb1).trans f2
  obtain ⟨t1, hbt, hbn, hbB⟩ := hrow.1.tree
  obtain ⟨w2, hw2⟩ : ∃ w2, w2 = w1.setCell ⟨b, o + 1, none⟩ (.slice a1 v.bytes.length c1) := ⟨_, rfl⟩
  have hon2 : Only [b] w1 w2 := by subst hw2; exact Only.set (by simp)
  have hold2 : Below w0.heap.size w0 w2 := by subst hw2; exact (HOLD.out.trans (hbw1.mono HOLD.out.size)).setCell (p := ⟨b, o + 1, none⟩) hb0 _
  have hs2 : w2.heap.size = w1.heap.size := by subst hw2; simp
  have z1 : w2.cell? ⟨b, o + 1, none⟩ = some (.slice a1 v.bytes.length c1) := by subst hw2; exact World.cell?_setCell_same _ _ _ y1
  have z2 : w2.cell? ⟨b, o + 2, none⟩ = some (.slice ai v.items.length ci) := by subst hw2; rw [World.cell?_setCell_other (h := show (⟨b, o + 1, none⟩ : Addr) ≠ ⟨b, o + 2, none⟩ from fun e => by injection e with _ e1; omega)]; exact y2
  have m1 : w2.frozen? ⟨b, o + 1, none⟩ = false := by subst hw2; simpa using k1
  have m2 : w2.frozen? ⟨b, o + 2, none⟩ = false := by subst hw2; simpa using k2
  have HC2 : Hid (∀ i, i ≠ o + 1 → w2.cell? ⟨b, i, none⟩ = w.cell? ⟨b, i, none⟩) := fun i hi => by
    subst hw2
    rw [World.cell?_setCell_other (h := show (⟨b, o + 1, none⟩ : Addr) ≠ ⟨b, i, none⟩ from fun e => by injection e with _ e1; omega)]
    exact hbw1.cell (p := ⟨b, i, none⟩) hb1
  have HF2 : Hid (∀ i, w2.frozen? ⟨b, i, none⟩ = w.frozen? ⟨b, i, none⟩) := fun i => by
    subst hw2
    rw [World.frozen?_setCell]
    exact hbw1.frozen (p := ⟨b, i, none⟩) hb1
  have HB2 : Hid (∀ k, k < w.heap.size → k ≠ b → w2.heap[k]? = w.heap[k]?) := fun k hk hkb => (hon2.block k (by omega) (by simpa using hkb)).trans (hbw1.block k hk)
  have HBT := Lib.hid (hbt.keep hon2 fun x hx e => by simp at e; have := hbB x hx; omega)
  have HBN : Hid (t1.Nodup ∧ ∀ x ∈ t1, w.heap.size ≤ x ∧ x < w2.heap.size) := ⟨hbn, fun x hx => ⟨hbB x hx, by have := hbt.lt x hx; omega⟩⟩
  have HCAP : Hid (v.bytes.length ≤ c1 ∧ (a1 = none → c1 = 0)) := hrow.2
  have HW2 := Lib.hid hw2
  have HO2 := Lib.hid hold2
  clear hrow hbt hbn hbB hon2 hold2 x1 x2 f1 f2 y2 k2 hw2 hbw1 HRB
  go_upto_region 1 with fail
  rw [← HW2.out]
  clear y1 k1
  go_wp2_with fail
  refine (clone_vals ai v.items.length ci xs w2 hil HX1.out HX2.out (HX3.out w2 HO2.out)).mono ?_
  rintro e w3 ⟨a2, c2, rfl, hbw3, hg⟩
  have hs3 := hbw3.size
  have hb2 : b < w2.heap.size := by omega
  have y1 := (hbw3.cell (p := ⟨b, o + 1, none⟩) hb2).trans z1
  have y2 := (hbw3.cell (p := ⟨b, o + 2, none⟩) hb2).trans z2
  have k2 := (hbw3.frozen (p := ⟨b, o + 2, none⟩) hb2).trans m2
  obtain ⟨w4, hw4⟩ : ∃ w4, w4 = w3.setCell ⟨b, o + 2, none⟩ (.slice a2 v.items.length c2) := ⟨_, rfl⟩
  have hon4 : Only [b] w3 w4 := by subst hw4; exact Only.set (by simp)
  have hs4 : w4.heap.size = w3.heap.size := by subst hw4; simp
  have hold4 : Below w0.heap.size w0 w4 := by subst hw4; exact (HO2.out.trans (hbw3.mono HO2.out.size)).setCell (p := ⟨b, o + 2, none⟩) hb0 _
  have hbt4 : BytT t1 a1 v.bytes w4 := (HBT.out.keep (Only.of_below [] hbw3) fun x hx e => by cases e).keep hon4 fun x hx e => by simp at e; have := (HBN.out.2 x hx).1; omega
  have hgf : ∃ (g : Nat) (b0 : List Nat), (v.items = [] → b0 = []) ∧ (v.items ≠ [] → b0 = [g] ∧ w.heap.size ≤ g ∧ g < w4.heap.size ∧ g ∉ t1) ∧ (v.items ≠ [] → a2 = some ⟨g, 0, none⟩) ∧ ∀ p ∈ kidsAt g 0 v.items, RawAt w0 p w4 := by
    by_cases hi : v.items = []
    · exact ⟨0, [], fun _ => rfl, fun h => absurd hi h, fun h => absurd hi h, fun p hp => by rw [hi] at hp; cases hp⟩
    · obtain ⟨g, e1, e2, e3, e4⟩ := hg (by cases hvi : v.items with | nil => exact absurd hvi hi | cons x r => simp)
      refine ⟨g, [g], fun h => absurd h hi, fun _ => ⟨rfl, by omega, by omega, fun hm => by have := (HBN.out.2 g hm).2; omega⟩, fun _ => e1, fun p hp => ?_⟩
      obtain ⟨j, hj, rfl⟩ := kidsAt_mem hp
      obtain ⟨cs', q1, q2⟩ := HX4.out j hj
      refine ⟨n, cs', q1, fun i u hu => ?_⟩
      have q3 := e4 _ _ (q2 i u hu)
      rw [← Nat.zero_add (j * 3)] at q3
      exact hon4.cell (by simp; omega) q3
  obtain ⟨g, b0, g1, g2, g3, g4⟩ := hgf
  have HST : Hid (Step w0 b o v g t1 b0 w w4) := by
    refine ⟨hold4, by omega, fun k hk hkb => ?_, fun i h1 h2 => ?_, fun i => ?_, ⟨a1, c1, a2, c2, ?_, ?_, HCAP.out, hbt4, g3⟩, ⟨HBN.out.1, fun x hx => by have := HBN.out.2 x hx; omega⟩, g1, g2, g4⟩
    · exact (hon4.block k (by omega) (by simpa using hkb)).trans ((hbw3.block k (by omega)).trans (HB2.out k hk hkb))
    · subst hw4
      rw [World.cell?_setCell_other (h := show (⟨b, o + 2, none⟩ : Addr) ≠ ⟨b, i, none⟩ from fun e => by injection e with _ e1; omega)]
      exact (hbw3.cell (p := ⟨b, i, none⟩) hb2).trans (HC2.out i h1)
    · subst hw4
      rw [World.frozen?_setCell]
      exact (hbw3.frozen (p := ⟨b, i, none⟩) hb2).trans (HF2.out i)
    · subst hw4
      rw [World.cell?_setCell_other (h := show (⟨b, o + 2, none⟩ : Addr) ≠ ⟨b, o + 1, none⟩ from fun e => by injection e with _ e1; omega)]
      exact y1
    · subst hw4
      exact World.cell?_setCell_same _ _ _ y2
  have HW4 := Lib.hid hw4
  clear hon4 hold4 hbt4 g1 g2 g3 g4 hg hbw3 hw4 z1 z2 m1 m2 HC2 HF2 HB2 HBT HBN HCAP HX1 HX2 HX3 HX4
  go_wp2
  first | go_end0 | go_ret
  all_goals (rw [← HW4.out]; exact ⟨rfl, g, t1, b0, HST.out⟩)
/-- .. with a block that is none of the tree's. -/
def IcopyR (r : Nat) (ob : Obj) (base : Nat) (w0 : World) (lim : Nat) (v : ValueV) (bt : List Nat) (ps : List Node) (w : World) : Prop :=
  Icopy w0 lim v bt ps w ∧ r ∉ bt ∧ r < base ∧ base ≤ w.heap.size ∧ w.heap[r]? = some ob ∧ ∀ p ∈ ps, sizV p.2.2 ≤ 16777216
theorem IcopyR.keeps (r : Nat) (ob : Obj) (base : Nat) (w0 : World) (lim : Nat) (v : ValueV) (hb : w0.heap.size ≤ base) : Keeps base (IcopyR r ob base w0 lim v) where
  stay := fun bt ps w w' row h hg hr => by
    obtain ⟨h1, h2, h3, h4, h5, h6⟩ := h
    exact ⟨(Icopy.keeps w0 lim v base hb).stay bt ps w w' row h1 hg hr, h2, h3, Nat.le_trans h4 hg.size, (hg.block r (by omega) (fun e => by have := (hr r e.symm).2; omega)).trans h5, h6⟩
  lt := fun bt ps w h => (Icopy.keeps w0 lim v base hb).lt bt ps w h.1
theorem IcopyR.visit (r : Nat) (ob : Obj) (base : Nat) (w0 : World) (lim : Nat) (v0 : ValueV) (bt : List Nat) (ps : List Node) (b o : Nat) (v : ValueV) (w : World) (h : IcopyR r ob base w0 lim v0 bt (ps ++ [(b, o, v)]) w) (_ : cntP (ps ++ [(b, o, v)]) ≤ 16777217) (_ : base ≤ w.heap.size) :
    Calls Try.prog 45 #[.pointer (some ⟨b, o, none⟩)] w (Visited base (IcopyR r ob base w0 lim v0) bt ps b o v w) := by
  obtain ⟨h1, h2, h3, h4, h5, h6⟩ := h
  have hraw := h1.raw (b, o, v) (by simp)
  have hbt := h1.tree b hraw.2.1
  have hsz := h6 (b, o, v) (by simp)
  simp only at hsz
  have hse := sizV_eq v
  refine (copy_clo w0 b o v w hraw.1 h1.old hbt.1 hbt.2 (by omega) (by omega)).mono ?_
  rintro e w' ⟨rfl, g, b1, b0, hs⟩
  obtain ⟨a1, c1, a2, c2, d1, d2, _, _, ha2⟩ := hs.data
  have hz := hs.size
  refine ⟨rfl, bt ++ (b1 ++ b0), a2, c2, g, 0, ⟨hs.old.os.trans h1.old.os.symm, hs.old.tape.trans h1.old.tape.symm, hs.old.output.trans h1.old.output.symm, hz, fun k hk hn => hs.block k hk (fun e => hn (e ▸ hraw.2.1))⟩, fun x hx => ?_, .inl (by simp [hraw.2.1]), by omega, d2, ha2, h1.next hs, ?_, h3, by omega, (hs.block r (by omega) (fun e => h2 (e ▸ hraw.2.1))).trans h5, fun p hp => ?_⟩
  · rcases List.mem_append.1 hx with hx | hx
    · exact .inl hx
    · rcases List.mem_append.1 hx with hx | hx
      · exact .inr (hs.bytes.2 x hx).1
      · by_cases e : v.items = []
        · rw [hs.none e] at hx; cases hx
        · obtain ⟨e1, e2, _⟩ := hs.some e
          rw [e1] at hx
          simp at hx
          exact .inr (by omega)
  · intro hx
    rcases List.mem_append.1 hx with hx | hx
    · exact h2 hx
    · rcases List.mem_append.1 hx with hx | hx
      · have := (hs.bytes.2 r hx).1; omega
      · by_cases e : v.items = []
        · rw [hs.none e] at hx; cases hx
        · obtain ⟨e1, e2, _⟩ := hs.some e
          rw [e1] at hx
          simp at hx
          omega
  · rcases List.mem_append.1 hp with hp | hp
    · exact h6 p (by simp [hp])
    · obtain ⟨j, hj, rfl⟩ := kidsAt_mem hp
      have := sizL_at hj
      simp only
      omega
theorem cells_of_block {r : Nat} {w w' : World} {cs : List Value} (h : CellsAt r cs w) (e : w'.heap[r]? = w.heap[r]?) : CellsAt r cs w' := fun i u hu =>
  ⟨(World.cell?_of_block (a := ⟨r, i, none⟩) e).trans (h i u hu).1, (World.frozen?_of_block (a := ⟨r, i, none⟩) e).trans (h i u hu).2⟩
set_option maxRecDepth 100000 in
set_option maxHeartbeats 4000000 in
/-- The program's CopyValue. -/
theorem copyv_impl (n : Nat) (v : ValueV) (cs : List Value) (w : World) (h : IsVal n v cs w) (hs : sizV v ≤ 16777216) : Calls Try.prog 25 #[.agg cs.toArray] w (ValOut (hgtV v) v w) := by
  obtain ⟨ab, cb, ai, ci, rfl⟩ := h.three
  obtain ⟨w1, hw1⟩ : ∃ w1, w1 = (w.alloc (.cells #[.int .i64 v.number, .slice ab v.bytes.length cb, .slice ai v.items.length ci] 47)).alloc (.cells #[.int .i64 0, .slice none 0 0, .slice none 0 0] 47) := ⟨_, rfl⟩
  have hB : Below w.heap.size w w1 := by subst hw1; exact ((Below.refl _ _).alloc (Nat.le_refl _) _).alloc (by simp) _
  have hX : CellsAt w.heap.size [.int .i64 v.number, .slice ab v.bytes.length cb, .slice ai v.items.length ci] w1 := by subst hw1; exact (CellsAt.new w _ _).below ((Below.refl _ _).alloc (Nat.le_refl _) _)
  have hZ : CellsAt (w.heap.size + 1) [.int .i64 0, .slice none 0 0, .slice none 0 0] w1 := by
    subst hw1
    have h1 := CellsAt.new (w.alloc (.cells #[.int .i64 v.number, .slice ab v.bytes.length cb, .slice ai v.items.length ci] 47)) [.int .i64 0, .slice none 0 0, .slice none 0 0] 47
    rw [World.size_alloc] at h1
    exact h1
  have hz : w1.heap.size = w.heap.size + 2 := by subst hw1; simp
  obtain ⟨ob, hob⟩ : ∃ ob, w1.heap[w.heap.size + 1]? = some ob := by
    rw [Array.getElem?_eq_getElem (by omega)]
    exact ⟨_, rfl⟩
  have hraw : RawAt w (w.heap.size, 0, v) w1 := ⟨n, _, h, fun i u hu => by have := hX i u hu; simpa using this⟩
  have hI : IcopyR (w.heap.size + 1) ob w1.heap.size w w1.heap.size v [w.heap.size] [(w.heap.size, 0, v)] w1 :=
    ⟨Icopy.start w v w1 hB (by omega) hraw, by simp, by omega, Nat.le_refl _, hob, fun p hp => by simp at hp; subst hp; exact hs⟩
  have hcall := visit_copy w1.heap.size (IcopyR (w.heap.size + 1) ob w1.heap.size w w1.heap.size v) (IcopyR.keeps _ ob _ w _ v (by omega)) (fun bt ps b o u W => IcopyR.visit _ ob _ w _ v bt ps b o u W) w.heap.size 0 v [w.heap.size] w1 hI (Nat.le_refl _) (by have := cnt_siz v; omega)
  have HCALL := Lib.hid hcall
  have HW := Lib.hid hw1
  have HZ := Lib.hid hZ
  have HOB := Lib.hid hob
  have HSZ := Lib.hid hz
  clear hcall hI hraw hX hB h hs hw1 hZ hob hz
  go_enter Try.func25, Try.ntmps25
  go_upto_region 1 with fail
  rw [← HW.out]
  clear HW
  go_wp2_with fail
  refine HCALL.out.mono ?_
  rintro e w3 ⟨rfl, bt, hic, -, -, hsz3, hob3, -⟩
  obtain ⟨bl, cs, hown, hcs, hbl⟩ := hic.end
  obtain ⟨a1, c1, a2, c2, rfl⟩ := hown.cells
  have x0 := hcs 0 _ rfl
  have x1 := hcs 1 _ rfl
  have x2 := hcs 2 _ rfl
  have hz3 : CellsAt (w.heap.size + 1) [.int .i64 0, .slice none 0 0, .slice none 0 0] w3 := cells_of_block HZ.out (hob3.trans HOB.out.symm)
  obtain ⟨z0, t0⟩ := hz3 0 _ rfl
  obtain ⟨z1, t1⟩ := hz3 1 _ rfl
  obtain ⟨z2, t2⟩ := hz3 2 _ rfl
  have HB3 := Lib.hid hic.old
  have hon3 : ∀ u0 u1 u2 : Value, Only [w.heap.size + 1] w3 (((w3.setCell ⟨w.heap.size + 1, 0, none⟩ u0).setCell ⟨w.heap.size + 1, 1, none⟩ u1).setCell ⟨w.heap.size + 1, 2, none⟩ u2) := fun u0 u1 u2 => ((Only.set (by simp)).trans (Only.set (by simp))).trans (Only.set (by simp))
  have HFIN := Lib.hid (hown.keep (hon3 (.int .i64 v.number) (.slice a1 v.bytes.length c1) (.slice a2 v.items.length c2)) fun b hb e => by simp at e; have := hbl b hb; have := HSZ.out; omega)
  have HFB := Lib.hid (Only.below hic.old (hon3 (.int .i64 v.number) (.slice a1 v.bytes.length c1) (.slice a2 v.items.length c2)) hic.old.size (fun b hb => by simp at hb; omega))
  have HBL : Hid (∀ b ∈ bl, w.heap.size ≤ b) := fun b hb => by have := hbl b hb; have := HSZ.out; omega
  clear hon3 hown hcs hbl hic hz3 hob3 hsz3 HCALL HZ HOB
  go_wp2
  (try simp only [Exit.inBlock, Exit.then])
  refine bodyPost_ret (v := .agg #[.int .i64 v.number, .slice a1 v.bytes.length c1, .slice a2 v.items.length c2]) ?_ rfl ?_
  · simp [results, Try.results25, go_sem, z0, z1, z2]
  · exact ⟨[.int .i64 v.number, .slice a1 v.bytes.length c1, .slice a2 v.items.length c2], bl, rfl, HFIN.out, HBL.out, HFB.out⟩
end Go.Proofs.Ytefkhknfjohnaaa
