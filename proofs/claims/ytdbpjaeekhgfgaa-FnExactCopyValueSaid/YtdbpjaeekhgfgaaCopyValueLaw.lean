/- It is proved that the law FnExactCopyValue returns true at every input of its parameter types and leaves its arguments as they were (statement Rows.FnExactCopyValueSaid), with no condition. -/
import Derived.Test.YtdbpjaeekhgfgaaFacts
import Derived.Test.YtdbpjaeekhgfgaaSCopyV
import Derived.Test.YtdbpjaeekhgfgaaCopyV
import Derived.Test.YtdbpjaeekhgfgaaHeldV
import Derived.Test.YtdbpjaeekhgfgaaMarkV
import Derived.Test.YtdbpjaeekhgfgaaArgV
import Derived.Test.YtdbpjaeekhgfgaaEqV
import Derived.Test.YtdbpjaeekhgfgaaToV
import Derived.Deep.RegionHeld3
import Derived.Deep.CutRange
namespace Go.Proofs.Ytdbpjaeekhgfgaa
open Go Go.ChangeShapes Go.WideShapes Go.ChangeAt Go.RowKit
namespace fnExactCopyValue
theorem cells_only {b : Nat} {vs : List Value} {bl : List Nat} {w w' : World} (h : CellsAt b vs w) (g : Only bl w w') (hn : b ∉ bl) : CellsAt b vs w' := fun i v hv => g.cell hn (h i v hv)
set_option maxRecDepth 100000 in
theorem walk_large (g0 : Nat) (u0 : ValueV) (cs0 : List Value) (w : World) (r0 : IsVal g0 u0 cs0 w) (f0 : fitV u0) (h : 1048576 < sizV u0) :
    Calls Try.prog 8 #[.agg cs0.toArray] w fun e w' => e = .returned (.bool true) ∧ Below w.heap.size w w' := by
  obtain ⟨ab, cb, ai, ci, rfl⟩ := r0.three
  obtain ⟨w0, hw0⟩ : ∃ w0, w0 = w.alloc (.cells #[.int .i64 u0.number, .slice ab u0.bytes.length cb, .slice ai u0.items.length ci] 43) := ⟨_, rfl⟩
  have hB0 : Below w.heap.size w w0 := by subst hw0; exact (Below.refl _ _).alloc (Nat.le_refl _) _
  have hX0 : CellsAt w.heap.size [.int .i64 u0.number, .slice ab u0.bytes.length cb, .slice ai u0.items.length ci] w0 := by subst hw0; exact CellsAt.new w _ _
  have HB := Lib.hid hB0
  have HX := Lib.hid hX0
  have HR := Lib.hid r0
  have HF := Lib.hid f0
  have HW0 := Lib.hid hw0
  clear hB0 hX0 r0 f0 hw0
  go_enter Try.func8, Try.ntmps8
  go_upto_region 1 with fail
  rw [← HW0.out]
  clear HW0
  have b0 := (HX.out 0 _ rfl).1
  have b1 := (HX.out 1 _ rfl).1
  have b2 := (HX.out 2 _ rfl).1
  go_wp2_with fail
  refine (sz_value g0 u0 _ 1048576 _ (HR.out.below HB.out) (Nat.le_refl _) HF.out).mono ?_
  rintro e w1 ⟨rfl, hb⟩
  replace HX := Lib.hid (HX.out.below hb)
  replace HB := Lib.hid (HB.out.trans (hb.mono HB.out.size))
  clear hb
  clear b0 b1 b2
  rw [leftN_no h]
  go_wp2
  go_ret
  exact ⟨rfl, HB.out⟩
set_option maxRecDepth 100000 in
set_option maxHeartbeats 8000000 in
theorem walk_short (g0 : Nat) (u0 : ValueV) (cs0 : List Value) (w : World) (r0 : IsVal g0 u0 cs0 w) (f0 : fitV u0) (h : sizV u0 ≤ 1048576) :
    Calls Try.prog 8 #[.agg cs0.toArray] w fun e w' => e = .returned (.bool true) ∧ Below w.heap.size w w' := by
  have HS := Lib.hid h
  have hwd := wid_siz u0
  obtain ⟨ab, cb, ai, ci, rfl⟩ := r0.three
  obtain ⟨w0, hw0⟩ : ∃ w0, w0 = w.alloc (.cells #[.int .i64 u0.number, .slice ab u0.bytes.length cb, .slice ai u0.items.length ci] 43) := ⟨_, rfl⟩
  have hB0 : Below w.heap.size w w0 := by subst hw0; exact (Below.refl _ _).alloc (Nat.le_refl _) _
  have hX0 : CellsAt w.heap.size [.int .i64 u0.number, .slice ab u0.bytes.length cb, .slice ai u0.items.length ci] w0 := by subst hw0; exact CellsAt.new w _ _
  have HB := Lib.hid hB0
  have HX := Lib.hid hX0
  have HR := Lib.hid r0
  have HF := Lib.hid f0
  have HW0 := Lib.hid hw0
  clear hB0 hX0 r0 f0 hw0
  go_enter Try.func8, Try.ntmps8
  go_upto_region 1 with fail
  rw [← HW0.out]
  clear HW0
  have b0 := (HX.out 0 _ rfl).1
  have b1 := (HX.out 1 _ rfl).1
  have b2 := (HX.out 2 _ rfl).1
  go_wp2_with fail
  refine (sz_value g0 u0 _ 1048576 _ (HR.out.below HB.out) (Nat.le_refl _) HF.out).mono ?_
  rintro e w1 ⟨rfl, hb⟩
  replace HX := Lib.hid (HX.out.below hb)
  replace HB := Lib.hid (HB.out.trans (hb.mono HB.out.size))
  clear hb
  clear b0 b1 b2
  rw [leftN_yes h]
  obtain ⟨q, hq⟩ : ∃ q, q = 1048576 - sizV u0 := ⟨_, rfl⟩
  rw [← hq]
  have hq1 : q ≤ 1048576 := by omega
  obtain ⟨T, hT⟩ : ∃ T, T = 1 + widV u0 := ⟨_, rfl⟩
  have HT := Lib.hid hT
  have hT1 : T ≤ 1048577 := by omega
  have hT0 : ¬ ((T : Int) < 0) := by omega
  have HK : Hid (1 + widV u0 ≤ 1099511627776) := by show _ ≤ _; omega
  clear hq h hT hwd
  have b0 := (HX.out 0 _ rfl).1
  have b1 := (HX.out 1 _ rfl).1
  have b2 := (HX.out 2 _ rfl).1
  go_wp2_with fail
  refine (to_value g0 u0 _ _ (HR.out.below HB.out) HS.out).mono ?_
  rintro e w2 ⟨xs, bls, rfl, ho, hbl, hb⟩
  have Hs := Lib.hid ho
  obtain ⟨a1s, c1s, a2s, c2s, rfl⟩ := ho.cells
  clear ho hbl
  replace HX := Lib.hid (HX.out.below hb)
  replace HB := Lib.hid (HB.out.trans (hb.mono HB.out.size))
  clear hb
  clear b0 b1 b2
  go_wp2_with fail
  refine (scopy_all g0 u0 _ _ Hs.out.is HS.out).mono ?_
  rintro e w3 ⟨xs, rfl, ho, hb⟩
  obtain ⟨a1w, c1w, a2w, c2w, rfl⟩ := ho.cells
  have HW : Hid (OwnV (fun b => b < w3.heap.size) g0 u0 [.int .i64 u0.number, .slice a1w u0.bytes.length c1w, .slice a2w u0.items.length c2w] w3) := ho.mono fun b hb _ => hb
  clear ho Hs
  replace HX := Lib.hid (HX.out.below hb)
  replace HB := Lib.hid (HB.out.trans (hb.mono HB.out.size))
  clear hb
  obtain ⟨z4, hz4⟩ : ∃ z, z = w3.alloc (.cells #[.int .i64 u0.number, .slice a1w u0.bytes.length c1w, .slice a2w u0.items.length c2w] 29) := ⟨_, rfl⟩
  have hb : Below w3.heap.size w3 z4 := by subst hz4; exact (Below.refl _ _).alloc (Nat.le_refl _) _
  have hT : CellsAt w3.heap.size [.int .i64 u0.number, .slice a1w u0.bytes.length c1w, .slice a2w u0.items.length c2w] z4 := by subst hz4; exact CellsAt.new w3 _ _
  have H4 := Lib.hid hT
  have hn4 : Hid (z4.heap.size = w3.heap.size + 1) := by subst hz4; exact World.size_alloc _ _
  have HZ := Lib.hid hz4
  clear hT hz4
  replace HX := Lib.hid (HX.out.below hb)
  replace HW := Lib.hid (HW.out.below hb (fun _ _ h => h))
  replace HB := Lib.hid (HB.out.trans (hb.mono HB.out.size))
  clear hb
  have hnw : Hid (w.heap.size < z4.heap.size) := cell_lt (HX.out 0 _ rfl).1
  go_upto_region 6 with fail
  rw [← HZ.out]
  clear HZ
  have b0 := (HX.out 0 _ rfl).1
  have b1 := (HX.out 1 _ rfl).1
  have b2 := (HX.out 2 _ rfl).1
  go_wp2_with fail
  refine (to_value g0 u0 _ _ (HR.out.below HB.out) HS.out).mono ?_
  rintro e v5 ⟨xs, blx, rfl, ho, hbl, hb⟩
  have Hx := Lib.hid ho
  obtain ⟨a1x, c1x, a2x, c2x, rfl⟩ := ho.cells
  have HBX : Hid (∀ b ∈ blx, z4.heap.size ≤ b ∧ b < v5.heap.size) := fun b hb => ⟨hbl b hb, ho.lt b hb⟩
  have hs5 := Lib.hid hb.size
  clear ho hbl
  replace HX := Lib.hid (HX.out.below hb)
  replace HW := Lib.hid (HW.out.below hb (fun _ _ h => h))
  replace H4 := Lib.hid (H4.out.below hb)
  replace HB := Lib.hid (HB.out.trans (hb.mono HB.out.size))
  clear hb
  clear b0 b1 b2
  obtain ⟨z5, hz5⟩ : ∃ z, z = v5.alloc (.cells #[.int .i64 u0.number, .slice a1x u0.bytes.length c1x, .slice a2x u0.items.length c2x] 29) := ⟨_, rfl⟩
  have hb : Below v5.heap.size v5 z5 := by subst hz5; exact (Below.refl _ _).alloc (Nat.le_refl _) _
  have hT : CellsAt v5.heap.size [.int .i64 u0.number, .slice a1x u0.bytes.length c1x, .slice a2x u0.items.length c2x] z5 := by subst hz5; exact CellsAt.new v5 _ _
  have H5 := Lib.hid hT
  have hn5 : Hid (z5.heap.size = v5.heap.size + 1) := by subst hz5; exact World.size_alloc _ _
  have HZ := Lib.hid hz5
  clear hT hz5
  replace HX := Lib.hid (HX.out.below hb)
  replace HW := Lib.hid (HW.out.below hb (fun _ _ h => h))
  replace H4 := Lib.hid (H4.out.below hb)
  replace Hx := Lib.hid (Hx.out.below hb)
  replace HB := Lib.hid (HB.out.trans (hb.mono HB.out.size))
  clear hb
  go_upto_region 7 with fail
  rw [← HZ.out]
  clear HZ
  have x0 := (H5.out 0 _ rfl).1
  have x1 := (H5.out 1 _ rfl).1
  have x2 := (H5.out 2 _ rfl).1
  go_wp2_with fail
  refine (copyv_impl g0 u0 _ _ Hx.out.is HS.out).mono ?_
  rintro e v6 ⟨xs, blg, rfl, ho, hbl, hb⟩
  clear x0 x1 x2
  have Hg := Lib.hid ho
  obtain ⟨a1g, c1g, a2g, c2g, rfl⟩ := ho.cells
  have HBG : Hid (∀ b ∈ blg, z5.heap.size ≤ b ∧ b < v6.heap.size) := fun b hb => ⟨hbl b hb, ho.lt b hb⟩
  have hs6 := Lib.hid hb.size
  clear ho hbl
  replace HX := Lib.hid (HX.out.below hb)
  replace HW := Lib.hid (HW.out.below hb (fun _ _ h => h))
  replace H4 := Lib.hid (H4.out.below hb)
  replace Hx := Lib.hid (Hx.out.below hb)
  replace H5 := Lib.hid (H5.out.below hb)
  replace HB := Lib.hid (HB.out.trans (hb.mono HB.out.size))
  clear hb
  obtain ⟨z6, hz6⟩ : ∃ z, z = v6.alloc (.cells #[.int .i64 u0.number, .slice a1g u0.bytes.length c1g, .slice a2g u0.items.length c2g] 29) := ⟨_, rfl⟩
  have hb : Below v6.heap.size v6 z6 := by subst hz6; exact (Below.refl _ _).alloc (Nat.le_refl _) _
  have hT : CellsAt v6.heap.size [.int .i64 u0.number, .slice a1g u0.bytes.length c1g, .slice a2g u0.items.length c2g] z6 := by subst hz6; exact CellsAt.new v6 _ _
  have H6 := Lib.hid hT
  have hn6 : Hid (z6.heap.size = v6.heap.size + 1) := by subst hz6; exact World.size_alloc _ _
  have HZ := Lib.hid hz6
  clear hT hz6
  replace HX := Lib.hid (HX.out.below hb)
  replace HW := Lib.hid (HW.out.below hb (fun _ _ h => h))
  replace H4 := Lib.hid (H4.out.below hb)
  replace Hx := Lib.hid (Hx.out.below hb)
  replace H5 := Lib.hid (H5.out.below hb)
  replace Hg := Lib.hid (Hg.out.below hb)
  replace HB := Lib.hid (HB.out.trans (hb.mono HB.out.size))
  clear hb
  go_upto_region 8 with fail
  rw [← HZ.out]
  clear HZ
  have gg0 := (H6.out 0 _ rfl).1
  have gg1 := (H6.out 1 _ rfl).1
  have gg2 := (H6.out 2 _ rfl).1
  have t0 := (H4.out 0 _ rfl).1
  have t1 := (H4.out 1 _ rfl).1
  have t2 := (H4.out 2 _ rfl).1
  go_wp2_with fail
  refine (eq_value _ g0 u0 _ _ _ Hg.out.is HW.out.is HS.out).mono ?_
  rintro e v7 ⟨rfl, hb⟩
  clear gg0 gg1 gg2
  clear t0 t1 t2
  replace HX := Lib.hid (HX.out.below hb)
  replace HW := Lib.hid (HW.out.below hb (fun _ _ h => h))
  replace H4 := Lib.hid (H4.out.below hb)
  replace Hx := Lib.hid (Hx.out.below hb)
  replace H5 := Lib.hid (H5.out.below hb)
  replace Hg := Lib.hid (Hg.out.below hb)
  replace H6 := Lib.hid (H6.out.below hb)
  replace HB := Lib.hid (HB.out.trans (hb.mono HB.out.size))
  clear hb
  go_upto_region 10 with fail
  have hb : Below v7.heap.size v7 v7.drew := below_drewN (Below.refl _ _) 1
  replace HX := Lib.hid (HX.out.below hb)
  replace HW := Lib.hid (HW.out.below hb (fun _ _ h => h))
  replace H4 := Lib.hid (H4.out.below hb)
  replace Hx := Lib.hid (Hx.out.below hb)
  replace H5 := Lib.hid (H5.out.below hb)
  replace Hg := Lib.hid (Hg.out.below hb)
  replace H6 := Lib.hid (H6.out.below hb)
  replace HB := Lib.hid (HB.out.trans (hb.mono HB.out.size))
  clear hb
  go_region_held3 (fun W => W.cell? ⟨v5.heap.size, 0, none⟩ = some (.int .i64 u0.number) ∧ W.cell? ⟨v5.heap.size, 1, none⟩ = some (.slice a1x u0.bytes.length c1x) ∧ W.cell? ⟨v5.heap.size, 2, none⟩ = some (.slice a2x u0.items.length c2x) ∧ W.cell? ⟨w.heap.size, 0, none⟩ = some (.int .i64 u0.number) ∧ W.cell? ⟨w.heap.size, 1, none⟩ = some (.slice ab u0.bytes.length cb) ∧ W.cell? ⟨w.heap.size, 2, none⟩ = some (.slice ai u0.items.length ci)) (exact ⟨(H5.out 0 _ rfl).1, (H5.out 1 _ rfl).1, (H5.out 2 _ rfl).1, (HX.out 0 _ rfl).1, (HX.out 1 _ rfl).1, (HX.out 2 _ rfl).1⟩) (first | (go_at_call 25; refine (to_value g0 u0 _ _ (HR.out.below HB.out) HS.out).mono ?_; rintro e v8 ⟨xs, bl, rfl, ho, _, hb⟩; have H8 := Lib.hid ho; obtain ⟨a18, c18, a28, c28, rfl⟩ := ho.cells; clear ho; replace HX := Lib.hid (HX.out.below hb); replace HW := Lib.hid (HW.out.below hb (fun _ _ h => h)); replace H4 := Lib.hid (H4.out.below hb); replace Hx := Lib.hid (Hx.out.below hb); replace H5 := Lib.hid (H5.out.below hb); replace Hg := Lib.hid (Hg.out.below hb); replace H6 := Lib.hid (H6.out.below hb); replace HB := Lib.hid (HB.out.trans (hb.mono HB.out.size)); clear hb) | (go_at_call 27; refine (eq_value g0 g0 u0 _ _ _ Hx.out.is H8.out.is HS.out).mono ?_; rintro e v9 ⟨rfl, hb⟩; replace HX := Lib.hid (HX.out.below hb); replace HW := Lib.hid (HW.out.below hb (fun _ _ h => h)); replace H4 := Lib.hid (H4.out.below hb); replace Hx := Lib.hid (Hx.out.below hb); replace H5 := Lib.hid (H5.out.below hb); replace Hg := Lib.hid (Hg.out.below hb); replace H6 := Lib.hid (H6.out.below hb); replace HB := Lib.hid (HB.out.trans (hb.mono HB.out.size)); clear hb))
  clear H8
  have x0 := (H5.out 0 _ rfl).1
  have x1 := (H5.out 1 _ rfl).1
  have x2 := (H5.out 2 _ rfl).1
  go_wp2_with fail
  refine (mark_value g0 blx u0 _ 1 _ Hx.out HS.out HK.out).mono ?_
  rintro e v10 ⟨rfl, -, ha⟩
  rw [← HT.out]
  clear x0 x1 x2
  have o4 := hn4.out; have o5 := hn5.out; have o6 := hn6.out; have p5 := hs5.out; have p6 := hs6.out; have ow := hnw.out
  replace HX := Lib.hid (cells_only HX.out ha fun hm => by have := HBX.out _ hm; omega)
  replace H4 := Lib.hid (cells_only H4.out ha fun hm => by have := HBX.out _ hm; omega)
  replace H6 := Lib.hid (cells_only H6.out ha fun hm => by have := HBX.out _ hm; omega)
  replace HW := Lib.hid (HW.out.keep ha fun b hb hm => by have := HBX.out _ hm; omega)
  replace Hg := Lib.hid (Hg.out.keep ha fun b hb hm => by have := HBX.out _ hm; have := HBG.out _ hb; omega)
  replace HB := Lib.hid (Only.below HB.out ha HB.out.size fun b hm => by have := HBX.out _ hm; omega)
  clear ha o4 o5 o6 p5 p6 ow H5 Hx HBX
  have e0 : ¬ ((T : Int) < 0) := by omega
  have gg0 := (H6.out 0 _ rfl).1
  have gg1 := (H6.out 1 _ rfl).1
  have gg2 := (H6.out 2 _ rfl).1
  have t0 := (H4.out 0 _ rfl).1
  have t1 := (H4.out 1 _ rfl).1
  have t2 := (H4.out 2 _ rfl).1
  go_wp2_with fail
  refine (eq_value _ g0 u0 _ _ _ Hg.out.is HW.out.is HS.out).mono ?_
  rintro e v11 ⟨rfl, hb⟩
  clear gg0 gg1 gg2
  clear t0 t1 t2
  replace HX := Lib.hid (HX.out.below hb)
  replace HW := Lib.hid (HW.out.below hb (fun _ _ h => h))
  replace H4 := Lib.hid (H4.out.below hb)
  replace Hg := Lib.hid (Hg.out.below hb)
  replace H6 := Lib.hid (H6.out.below hb)
  replace HB := Lib.hid (HB.out.trans (hb.mono HB.out.size))
  clear hb
  clear e0
  have gg0 := (H6.out 0 _ rfl).1
  have gg1 := (H6.out 1 _ rfl).1
  have gg2 := (H6.out 2 _ rfl).1
  go_wp2_with fail
  refine (mark_value _ blg u0 _ 1 _ Hg.out HS.out HK.out).mono ?_
  rintro e v12 ⟨rfl, hm, ha⟩
  rw [← HT.out]
  clear gg0 gg1 gg2
  have HM := Lib.hid hm
  have o4 := hn4.out; have o5 := hn5.out; have o6 := hn6.out; have p5 := hs5.out; have p6 := hs6.out; have ow := hnw.out
  replace HX := Lib.hid (cells_only HX.out ha fun hm => by have := HBG.out _ hm; omega)
  replace H4 := Lib.hid (cells_only H4.out ha fun hm => by have := HBG.out _ hm; omega)
  replace H6 := Lib.hid (cells_only H6.out ha fun hm => by have := HBG.out _ hm; omega)
  replace HW := Lib.hid (HW.out.keep ha fun b hb hm => by have := HBG.out _ hm; omega)
  replace HB := Lib.hid (Only.below HB.out ha HB.out.size fun b hm => by have := HBG.out _ hm; omega)
  clear hm ha o4 o5 o6 p5 p6 ow Hg HBG
  have gg0 := (H6.out 0 _ rfl).1
  have gg1 := (H6.out 1 _ rfl).1
  have gg2 := (H6.out 2 _ rfl).1
  go_wp2_with fail
  refine (held_value _ u0 _ 1 _ HM.out.is HS.out HK.out).mono ?_
  rintro e v13 ⟨rfl, hb⟩
  rw [← HT.out]
  clear gg0 gg1 gg2
  replace HX := Lib.hid (HX.out.below hb)
  replace HW := Lib.hid (HW.out.below hb (fun _ _ h => h))
  replace H4 := Lib.hid (H4.out.below hb)
  replace H6 := Lib.hid (H6.out.below hb)
  replace HM := Lib.hid (HM.out.below hb)
  replace HB := Lib.hid (HB.out.trans (hb.mono HB.out.size))
  clear hb
  have e0 : ((T : Int) != (T : Int)) = false := by simp
  have b0 := (HX.out 0 _ rfl).1
  have b1 := (HX.out 1 _ rfl).1
  have b2 := (HX.out 2 _ rfl).1
  go_wp2_with fail
  refine (to_value g0 u0 _ _ (HR.out.below HB.out) HS.out).mono ?_
  rintro e v14 ⟨xs, blh, rfl, ho, hbl, hb⟩
  have Hh := Lib.hid ho
  obtain ⟨a1h, c1h, a2h, c2h, rfl⟩ := ho.cells
  clear ho hbl
  replace HX := Lib.hid (HX.out.below hb)
  replace HW := Lib.hid (HW.out.below hb (fun _ _ h => h))
  replace H4 := Lib.hid (H4.out.below hb)
  replace H6 := Lib.hid (H6.out.below hb)
  replace HM := Lib.hid (HM.out.below hb)
  replace HB := Lib.hid (HB.out.trans (hb.mono HB.out.size))
  clear hb
  clear b0 b1 b2
  go_wp2_with fail
  refine (copyv_impl g0 u0 _ _ Hh.out.is HS.out).mono ?_
  rintro e v15 ⟨xs, blc, rfl, ho, hbl, hb⟩
  have Hc := Lib.hid ho
  obtain ⟨a1c, c1c, a2c, c2c, rfl⟩ := ho.cells
  clear ho hbl
  replace HX := Lib.hid (HX.out.below hb)
  replace HW := Lib.hid (HW.out.below hb (fun _ _ h => h))
  replace H4 := Lib.hid (H4.out.below hb)
  replace H6 := Lib.hid (H6.out.below hb)
  replace HM := Lib.hid (HM.out.below hb)
  replace Hh := Lib.hid (Hh.out.below hb)
  replace HB := Lib.hid (HB.out.trans (hb.mono HB.out.size))
  clear hb
  clear Hh
  obtain ⟨z10, hz10⟩ : ∃ z, z = v15.alloc (.cells #[.int .i64 u0.number, .slice a1c u0.bytes.length c1c, .slice a2c u0.items.length c2c] 29) := ⟨_, rfl⟩
  have hb : Below v15.heap.size v15 z10 := by subst hz10; exact (Below.refl _ _).alloc (Nat.le_refl _) _
  have hT : CellsAt v15.heap.size [.int .i64 u0.number, .slice a1c u0.bytes.length c1c, .slice a2c u0.items.length c2c] z10 := by subst hz10; exact CellsAt.new v15 _ _
  have H10 := Lib.hid hT
  have hn10 : Hid (z10.heap.size = v15.heap.size + 1) := by subst hz10; exact World.size_alloc _ _
  have HZ := Lib.hid hz10
  clear hT hz10
  replace HX := Lib.hid (HX.out.below hb)
  replace HW := Lib.hid (HW.out.below hb (fun _ _ h => h))
  replace H4 := Lib.hid (H4.out.below hb)
  replace H6 := Lib.hid (H6.out.below hb)
  replace HM := Lib.hid (HM.out.below hb)
  replace Hc := Lib.hid (Hc.out.below hb)
  replace HB := Lib.hid (HB.out.trans (hb.mono HB.out.size))
  clear hb
  go_upto_region 25 with fail
  rw [← HZ.out]
  clear HZ
  have gg0 := (H10.out 0 _ rfl).1
  have gg1 := (H10.out 1 _ rfl).1
  have gg2 := (H10.out 2 _ rfl).1
  have t0 := (H4.out 0 _ rfl).1
  have t1 := (H4.out 1 _ rfl).1
  have t2 := (H4.out 2 _ rfl).1
  go_wp2_with fail
  refine (eq_value _ g0 u0 _ _ _ Hc.out.is HW.out.is HS.out).mono ?_
  rintro e v16 ⟨rfl, hb⟩
  clear gg0 gg1 gg2
  clear t0 t1 t2
  replace HX := Lib.hid (HX.out.below hb)
  replace HW := Lib.hid (HW.out.below hb (fun _ _ h => h))
  replace H4 := Lib.hid (H4.out.below hb)
  replace H6 := Lib.hid (H6.out.below hb)
  replace HM := Lib.hid (HM.out.below hb)
  replace Hc := Lib.hid (Hc.out.below hb)
  replace H10 := Lib.hid (H10.out.below hb)
  replace HB := Lib.hid (HB.out.trans (hb.mono HB.out.size))
  clear hb
  have gg0 := (H6.out 0 _ rfl).1
  have gg1 := (H6.out 1 _ rfl).1
  have gg2 := (H6.out 2 _ rfl).1
  go_wp2_with fail
  refine (held_value _ u0 _ 1 _ HM.out.is HS.out HK.out).mono ?_
  rintro e v17 ⟨rfl, hb⟩
  rw [← HT.out]
  clear gg0 gg1 gg2
  replace HX := Lib.hid (HX.out.below hb)
  replace HW := Lib.hid (HW.out.below hb (fun _ _ h => h))
  replace H4 := Lib.hid (H4.out.below hb)
  replace H6 := Lib.hid (H6.out.below hb)
  replace HM := Lib.hid (HM.out.below hb)
  replace Hc := Lib.hid (Hc.out.below hb)
  replace H10 := Lib.hid (H10.out.below hb)
  replace HB := Lib.hid (HB.out.trans (hb.mono HB.out.size))
  clear hb
  go_wp2
  go_ret
  exact ⟨rfl, HB.out⟩
theorem walk (g0 : Nat) (u0 : ValueV) (cs0 : List Value) (w : World) (r0 : IsVal g0 u0 cs0 w) (f0 : fitV u0) (_ : intV u0) :
    Calls Try.prog 8 #[.agg cs0.toArray] w fun e w' => e = .returned (.bool true) ∧ Below w.heap.size w w' := by
  by_cases h : 1048576 < sizV u0
  · exact walk_large g0 u0 cs0 w r0 f0 h
  exact walk_short g0 u0 cs0 w r0 f0 (by omega)
set_option maxRecDepth 100000 in
theorem lifted (os : Os) (started : os.Started) (H : Type) (enc : TypeId × Value → H) :
    ReturnsInHanded {} Try.checked os 8 .any (Rows.fnExactCopyValueSpec.pre6 enc Try.prog Try.f8 Rows.fnExactCopyValueRow.domain false) (Rows.fnExactCopyValueSpec.post enc Try.prog Try.f8 false true false false) := by
  refine returnsInHanded_of_change (C := Try.checked) own started (by kernel_rfl) Try.func8
    (ChangeSpec.witness6 (enc := enc) (C := Try.checked) false ⟨#[], #[.agg #[.int .i64 0, .slice none 0 0, .slice none 0 0]], []⟩ 8 (by kernel_rfl) (by kernel_rfl) (by kernel_rfl) (by kernel_rfl)) ?_
  intro W base args ds gs before hval0 hW hcnd _
  have hval : ∀ (j : Nat) t v, Try.f8.params[j]? = some t → args[j]? = some v → Value.okWide Try.prog W .any base t v := hval0
  have hW' := hW
  obtain ⟨p, q, hA0, hV, rfl, hfz, hnd⟩ := hW
  have hA : DataW.TrodAll enc Try.prog W 0 (fun _ => true) true Try.f8.params.toList args.toList ds p := hA0
  rw [Try.params8] at hA hval
  obtain ⟨v0, vs0, d0, ds0, p0, q0, hargs, rfl, rfl, h0, r0⟩ := trodAll_cons hA
  obtain ⟨rfl, rfl, rfl⟩ := trodAll_nil r0
  obtain rfl : args = #[v0] := by cases args; simp_all
  obtain ⟨rfl, rfl⟩ := trodVars_none hV
  simp only [List.append_nil] at hW'
  have hlt : ∀ x ∈ p0, x.block < W.heap.size := fun x hx => hW'.lt x (by simpa using hx)
  obtain ⟨g0, u0, cs0, rfl, hb0, hf0, hi0⟩ := value_arg (hval 0 43 v0 rfl rfl) h0
  have m0 : ∀ (W' : World), Below W.heap.size W W' → DataW.Trod enc Try.prog W' 0 (fun b => decide (b < W.heap.size)) true 43 (.agg cs0.toArray) d0 p0 := fun W' hn => Below.trod laidOut (by kernel_rfl) (of_decide_eq_true (by kernel_rfl)) h0 hn (fun x hx => hlt x (by simp [hx]))
  clear hA0 hval0
  refine (walk g0 u0 cs0 W hb0 hf0 hi0).mono fun e W' ⟨he, hb⟩ => ?_
  subst he
  exact ⟨_, rfl, _, _, _, [], _, [], hW', trodAll_cons_mk (shut_bool Try.underlying4 _) trodAll_mk0, (trodAll_cons_mk (m0 _ hb) trodAll_mk0), rfl, hb.frame _, fun h => by cases h⟩
theorem closed : joinedFacts Try.prog 8 Try.f8 Rows.fnExactCopyValueSpec Rows.fnExactCopyValueRow = true := by
  unfold joinedFacts
  rw [may_enter, lifts_final, make_is]
  kernel_rfl
theorem over : Rows.fnExactCopyValueRow.holds Try.pinned (OpenSpec.ofChange Rows.fnExactCopyValueSpec) :=
  OpenClaim.holds_of_wide 8 Try.f8 rfl rfl rfl rfl rfl rfl rfl ⟨rfl, rfl, rfl, rfl, rfl⟩ rfl rfl rfl rfl rfl (by kernel_rfl) Try.func8 closed
    (of_decide_eq_true (by kernel_rfl)) (by unfold Func.isWrapper; first | (rw [if_pos (by decide +kernel)]; kernel_rfl) | (rw [if_neg (by decide +kernel)]; exact ⟨rfl, rfl⟩))
    (fun os started H enc _ => lifted os started H enc)
/-- THE STATEMENT -/
theorem proved : Rows.FnExactCopyValueSaid := over
end fnExactCopyValue
#print axioms fnExactCopyValue.proved
end Go.Proofs.Ytdbpjaeekhgfgaa
