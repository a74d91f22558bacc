/- It is proved that the law FnValues returns true at every input of its parameter type and leaves its argument as it was (statement Rows.FnValuesSaid), with no condition. -/
import Derived.Test.YtefkhknfjohnaaaGKG
import Derived.Test.YtefkhknfjohnaaaDrawV
import Derived.Test.YtefkhknfjohnaaaV9
import Derived.Test.YtefkhknfjohnaaaCopyV
import Derived.Test.YtefkhknfjohnaaaSCopyW
import Derived.Test.YtefkhknfjohnaaaIEqV
import Derived.Test.YtefkhknfjohnaaaIsVal
import Derived.Test.YtefkhknfjohnaaaCImpl
import Derived.Test.YtefkhknfjohnaaaGSz
import Derived.Deep.RegionHeld3
import Derived.Deep.CutRange
import Derived.IntWalk
namespace Go.Proofs.Ytefkhknfjohnaaa
open Go Go.ChangeShapes Go.WideShapes Go.ChangeAt Go.RowKit
namespace fnValues
theorem big_no (a : Option Addr) (n cap : Nat) (w : World) (h : n ≤ 1048576) : Calls Try.prog 7 #[.slice a n cap] w fun e w' => e = .returned (.bool false) ∧ w = w' := by
  have g : ¬ (1048576 : Int) < (n : Int) := by omega
  go_enter Try.func7, Try.ntmps7
  go_wp2
  go_ret
  exact ⟨rfl, rfl⟩
theorem big_yes (a : Option Addr) (n cap : Nat) (w : World) (h : 1048576 < n) (_hm : n ≤ 9223372036854775807) : Calls Try.prog 7 #[.slice a n cap] w fun e w' => e = .returned (.bool true) ∧ w = w' := by
  have g : (1048576 : Int) < (n : Int) := by omega
  go_enter Try.func7, Try.ntmps7
  go_wp2
  go_ret
  exact ⟨rfl, rfl⟩
theorem walk_long (a0 : Option Addr) (bs0 : List UInt8) (cap0 : Nat) (w : World) (h : 1048576 < bs0.length) (hm : bs0.length ≤ 9223372036854775807) :
    Calls Try.prog 6 #[.slice a0 bs0.length cap0] w fun e w' => e = .returned (.bool true) ∧ Below w.heap.size w w' := by
  go_enter Try.func6, Try.ntmps6
  go_wp2_with fail
  refine (big_yes a0 bs0.length cap0 w h hm).mono ?_
  rintro e w1 ⟨rfl, rfl⟩
  go_wp2
  go_ret
  exact ⟨rfl, Below.refl _ _⟩
theorem same_yes {v : ValueV} {e : Ending} (h : SameOut v v e) : e = .returned (.bool true) := by
  obtain ⟨r, rfl, hr⟩ := h
  rw [hr.2 rfl]
theorem same_no {v u : ValueV} (hn : v ≠ u) {e : Ending} (h : SameOut v u e) : e = .returned (.bool false) := by
  obtain ⟨r, rfl, hr⟩ := h
  cases r with
  | false => rfl
  | true => exact absurd (hr.1 rfl) hn
theorem item_at {n : Nat} {v : ValueV} {ab ai : Option Addr} {cb ci : Nat} {w : World} (h : IsVal (n + 1) v [.int .i64 v.number, .slice ab v.bytes.length cb, .slice ai v.items.length ci] w) {j : Nat} (hj : j < v.items.length) :
    ∃ b off a1 c1 a2 c2, ai = some ⟨b, off, none⟩ ∧ IsVal n v.items[j] [.int .i64 v.items[j].number, .slice a1 v.items[j].bytes.length c1, .slice a2 v.items[j].items.length c2] w ∧ w.cell? ⟨b, off + j * 3, none⟩ = some (.int .i64 v.items[j].number) ∧ w.cell? ⟨b, off + j * 3 + 1, none⟩ = some (.slice a1 v.items[j].bytes.length c1) ∧ w.cell? ⟨b, off + j * 3 + 2, none⟩ = some (.slice a2 v.items[j].items.length c2) := by
  obtain ⟨_, _, ai', ci', e, -, hit⟩ := h.open
  injection e with e1 e2
  injection e2 with e2 e3
  injection e3 with e3 e4
  injection e3 with e3 e5 e6
  subst e3
  obtain ⟨b, off, cs', ha, hv, hc⟩ := hit j hj
  obtain ⟨a1, c1, a2, c2, rfl⟩ := hv.three
  exact ⟨b, off, a1, c1, a2, c2, ha, hv, hc 0 _ rfl, hc 1 _ rfl, hc 2 _ rfl⟩
theorem siz_item {v : ValueV} {j : Nat} (hj : j < v.items.length) : sizV v.items[j] ≤ sizV v := by
  have h1 := sizL_at hj
  have h2 := sizV_eq v
  omega
theorem leaf9 {f : Nat → Prop} {n : Nat} {W : World} : OwnV f (n + 1) (.mk (-1) [] []) [.int .i64 (-1), .slice none 0 0, .slice none 0 0] W :=
  ⟨none, 0, none, 0, rfl, ⟨fun j h => by simp [ValueV.bytes] at h, fun _ => rfl⟩, fun b off e => (by cases e), fun j hj => by simp [ValueV.items] at hj⟩
set_option maxRecDepth 100000 in
set_option maxHeartbeats 16000000 in
theorem walk_short (a0 : Option Addr) (bs0 : List UInt8) (cap0 : Nat) (w : World) (h : bs0.length ≤ 1048576) (hs : Code a0 bs0.length w) :
    Calls Try.prog 6 #[.slice a0 bs0.length cap0] w fun e w' => e = .returned (.bool true) ∧ Below w.heap.size w w' := by
  have HS := Lib.hid hs
  clear hs
  go_enter Try.func6, Try.ntmps6
  go_wp2_with fail
  refine (big_no a0 bs0.length cap0 w h).mono ?_
  rintro e w1 ⟨rfl, rfl⟩
  go_wp2_with fail
  refine (drawv a0 bs0.length cap0 w (by omega) HS.out).mono ?_
  rintro e w1 ⟨rs, x, cp, v, cs, rfl, hm, ⟨hn1, hn6⟩, hrow, hmv, hval, hb1⟩
  obtain ⟨av, cv, iv, dvv, rfl⟩ := hval.three
  obtain ⟨z, hz⟩ : ∃ z, z = (w1.alloc (.cells #[.slice x rs.length cp] 38)).alloc (.cells #[.int .i64 v.number, .slice av v.bytes.length cv, .slice iv v.items.length dvv] 47) := ⟨_, rfl⟩
  have hbz : Below w1.heap.size w1 z := by subst hz; exact ((Below.refl _ _).alloc (Nat.le_refl _) _).alloc (by simp) _
  have HX : Hid (CellsAt w1.heap.size [.slice x rs.length cp] z) := by subst hz; exact (CellsAt.new w1 _ _).below ((Below.refl _ _).alloc (Nat.le_refl _) _)
  have HV3 : Hid (CellsAt (w1.heap.size + 1) [.int .i64 v.number, .slice av v.bytes.length cv, .slice iv v.items.length dvv] z) := by subst hz; have h1 := CellsAt.new (w1.alloc (.cells #[.slice x rs.length cp] 38)) [.int .i64 v.number, .slice av v.bytes.length cv, .slice iv v.items.length dvv] 47; rw [World.size_alloc] at h1; exact h1
  have HBZ := Lib.hid (hb1.trans (hbz.mono hb1.size))
  have HRK : Hid (RdK x rs z) := hrow.rdk.below hbz
  have hval2 := made_valid hm (by omega)
  have HSH := Lib.hid (made_short hm)
  have HSP := Lib.hid (made_spelt hm (by omega))
  obtain ⟨kk, hkk⟩ : ∃ kk : Nat, kk + 1 = rs.length := ⟨rs.length - 1, by omega⟩
  rw [show rs.length - 1 = kk from by omega] at hmv
  have hkr : kk < rs.length := by omega
  have hk1 : (rs.length : Int) - 1 = (kk : Int) := by omega
  have hwk : IntKind.i64.wrap (kk : Int) = (kk : Int) := IntWalk.i64_in _ (by omega)
  have hwl : IntKind.i64.wrap ((rs.length : Int) - 1) = (kk : Int) := by rw [hk1]; exact hwk
  have hok : okAt rs (kk : Int) = true := by unfold okAt; rw [decide_eq_true (by omega), descrB_yes ⟨hn1, by omega⟩ hval2]; rfl
  have hoks : ∀ i : Nat, i < rs.length → okAt rs (i : Int) = true := fun i hi => by unfold okAt; rw [decide_eq_true (by omega), descrB_yes ⟨hn1, by omega⟩ hval2]; rfl
  have hsv : sizV v ≤ 4251528 := made_siz hmv (by omega)
  have HVL : Hid (IsVal (kk + 1) v [.int .i64 v.number, .slice av v.bytes.length cv, .slice iv v.items.length dvv] z) := by rw [hkk]; exact hval.below hbz
  have hit := fun (q : Nat) (hq : q < v.items.length) => item_ok hval2 hkr hmv.1 hq
  have hfv : fitsV rs (kk : Int) v = true := by unfold fitsV; rw [hok, hmv.1]; rfl
  have hfd := def_fits hval2 hkr hok
  have hfb := bad_no hval2 hkr v
  have hki := allV_kind hval2 hkr
  have hi40 : v.items.length ≤ 40 := own_len hki (items_of hval2 hkr hmv.1).1
  obtain ⟨dv, hdv⟩ : ∃ dv, dv = defD rs (kk : Int) := ⟨_, rfl⟩
  rw [← hdv] at hfd
  have HCV : Hid (∀ W, IsVal (kk + 1) v [.int .i64 v.number, .slice av v.bytes.length cv, .slice iv v.items.length dvv] W → Calls Try.prog 25 #[.agg #[.int .i64 v.number, .slice av v.bytes.length cv, .slice iv v.items.length dvv]] W (ValOut (hgtV v) v W)) := fun W h1 => copyv_impl (kk + 1) v _ W h1 (by omega)
  have HDV : Hid (∀ W, RdK x rs W → Calls Try.prog 26 #[.agg #[.slice x rs.length cp], .int .i64 (kk : Int)] W fun e w' => ∃ bl cs, e = .returned (.agg cs.toArray) ∧ OwnT (kk + 1) bl dv cs w' ∧ (∀ b ∈ bl, W.heap.size ≤ b) ∧ Below W.heap.size W w') := fun W h1 => by rw [hdv]; exact defv_impl x rs cp (kk : Int) W (by omega) HSH.out HSP.out h1
  have HSC : Hid (∀ W, IsVal (kk + 1) v [.int .i64 v.number, .slice av v.bytes.length cv, .slice iv v.items.length dvv] W → Calls Try.prog 27 #[.agg #[.int .i64 v.number, .slice av v.bytes.length cv, .slice iv v.items.length dvv]] W fun e w' => ∃ cs', e = .returned (.agg cs'.toArray) ∧ OwnV (fun b => W.heap.size ≤ b) (kk + 2) v cs' w' ∧ Below W.heap.size W w' ∧ TopRow (kk + 2) v cs' W w') := fun W h1 => scopy_all (kk + 2) v _ W (h1.upE (by omega)) (by omega)
  have hW := Lib.hid hz
  have HOKS := Lib.hid hoks
  have HIT := Lib.hid hit
  have HFV := Lib.hid hfv
  have HFD := Lib.hid hfd
  have HFB := Lib.hid hfb
  have HKI := Lib.hid hki
  have HI40 := Lib.hid hi40
  have HSV := Lib.hid hsv
  have HKK := Lib.hid hkk
  obtain ⟨D, hD⟩ : ∃ D, D = w1.heap.size := ⟨_, rfl⟩
  rw [← hD] at HX HV3
  have HDD := Lib.hid hD
  clear hz hbz hb1 hrow hm HS hD hmv hval hval2 hkk hok hoks hit hfv hfd hfb hki hi40 hsv hdv hk1
  go_upto_region 4 with fail
  rw [← hW.out, ← HDD.out]
  clear hW HDD
  have x0 := (HX.out 0 _ rfl).1
  have v0 := (HV3.out 0 _ rfl).1
  have v1 := (HV3.out 1 _ rfl).1
  have v2 := (HV3.out 2 _ rfl).1
  go_wp2_with fail
  refine (HCV.out _ HVL.out).mono ?_
  rintro e y1 ⟨csw, blw, rfl, how, -, hb⟩
  obtain ⟨aw, cw, iw, dw, rfl⟩ := how.cells
  have HWV := Lib.hid how.is
  clear how HCV
  clear x0
  clear v0 v1 v2
  replace HX := Lib.hid (HX.out.below hb)
  replace HV3 := Lib.hid (HV3.out.below hb)
  replace HRK := Lib.hid (HRK.out.below hb)
  replace HVL := Lib.hid (HVL.out.below hb)
  replace HBZ := Lib.hid (HBZ.out.trans (hb.mono HBZ.out.size))
  clear hb
  obtain ⟨z1, hz⟩ : ∃ z, z = y1.alloc (.cells #[.int .i64 v.number, .slice aw v.bytes.length cw, .slice iw v.items.length dw] 47) := ⟨_, rfl⟩
  have hb : Below y1.heap.size y1 z1 := by subst hz; exact (Below.refl _ _).alloc (Nat.le_refl _) _
  have HWC : Hid (CellsAt y1.heap.size [.int .i64 v.number, .slice aw v.bytes.length cw, .slice iw v.items.length dw] z1) := by subst hz; exact CellsAt.new y1 _ _
  have HNz1 : Hid (z1.heap.size = y1.heap.size + 1) := by subst hz; exact World.size_alloc _ _
  have HZ := Lib.hid hz
  clear hz
  replace HX := Lib.hid (HX.out.below hb)
  replace HV3 := Lib.hid (HV3.out.below hb)
  replace HRK := Lib.hid (HRK.out.below hb)
  replace HVL := Lib.hid (HVL.out.below hb)
  replace HWV := Lib.hid (HWV.out.below hb)
  replace HBZ := Lib.hid (HBZ.out.trans (hb.mono HBZ.out.size))
  clear hb
  go_upto_region 6 with fail
  rw [← HZ.out]
  clear HZ
  have x0 := (HX.out 0 _ rfl).1
  go_wp2_with fail
  refine (HDV.out _ HRK.out).mono ?_
  rintro e y2 ⟨blx, csx, rfl, hox, -, hb⟩
  obtain ⟨ax, cx, ix, dx, rfl⟩ := hox.cells
  have HXV := Lib.hid hox.is
  clear hox HDV
  clear x0
  replace HX := Lib.hid (HX.out.below hb)
  replace HV3 := Lib.hid (HV3.out.below hb)
  replace HRK := Lib.hid (HRK.out.below hb)
  replace HVL := Lib.hid (HVL.out.below hb)
  replace HWV := Lib.hid (HWV.out.below hb)
  replace HWC := Lib.hid (HWC.out.below hb)
  replace HBZ := Lib.hid (HBZ.out.trans (hb.mono HBZ.out.size))
  clear hb
  obtain ⟨z2, hz⟩ : ∃ z, z = y2.alloc (.cells #[.int .i64 dv.number, .slice ax dv.bytes.length cx, .slice ix dv.items.length dx] 47) := ⟨_, rfl⟩
  have hb : Below y2.heap.size y2 z2 := by subst hz; exact (Below.refl _ _).alloc (Nat.le_refl _) _
  have HXC : Hid (CellsAt y2.heap.size [.int .i64 dv.number, .slice ax dv.bytes.length cx, .slice ix dv.items.length dx] z2) := by subst hz; exact CellsAt.new y2 _ _
  have HNz2 : Hid (z2.heap.size = y2.heap.size + 1) := by subst hz; exact World.size_alloc _ _
  have HZ := Lib.hid hz
  clear hz
  replace HX := Lib.hid (HX.out.below hb)
  replace HV3 := Lib.hid (HV3.out.below hb)
  replace HRK := Lib.hid (HRK.out.below hb)
  replace HVL := Lib.hid (HVL.out.below hb)
  replace HWV := Lib.hid (HWV.out.below hb)
  replace HWC := Lib.hid (HWC.out.below hb)
  replace HXV := Lib.hid (HXV.out.below hb)
  replace HBZ := Lib.hid (HBZ.out.trans (hb.mono HBZ.out.size))
  clear hb
  go_upto_region 7 with fail
  rw [← HZ.out]
  clear HZ
  have v0 := (HV3.out 0 _ rfl).1
  have v1 := (HV3.out 1 _ rfl).1
  have v2 := (HV3.out 2 _ rfl).1
  go_wp2_with fail
  refine (HSC.out _ HVL.out).mono ?_
  rintro e y3 ⟨csb, rfl, -, hb, htop⟩
  obtain ⟨ab, cb, V, B, rfl, hrd, hbl, hrow, hwB, hBW⟩ := htop
  obtain ⟨xv, cv2, rfl⟩ := hrow.slice
  have hown := fun g e => (hrow.own g e)
  have HRN := Lib.hid hrow.toN
  have HRD := Lib.hid hrd
  have HBL := Lib.hid hbl
  have HOW := Lib.hid hown
  clear HSC hrow hrd hbl hown
  clear v0 v1 v2
  have HA := Lib.hid hb
  have hwB9 := Lib.hid hwB
  have hBW9 := Lib.hid hBW
  clear hwB hBW hb
  obtain ⟨z3, hz⟩ : ∃ z, z = y3.alloc (.cells #[.int .i64 v.number, .slice ab v.bytes.length cb, .slice xv v.items.length cv2] 47) := ⟨_, rfl⟩
  have hb : Below y3.heap.size y3 z3 := by subst hz; exact (Below.refl _ _).alloc (Nat.le_refl _) _
  have HBC : Hid (CellsAt y3.heap.size [.int .i64 v.number, .slice ab v.bytes.length cb, .slice xv v.items.length cv2] z3) := by subst hz; exact CellsAt.new y3 _ _
  have HN3 : Hid (z3.heap.size = y3.heap.size + 1) := by subst hz; exact World.size_alloc _ _
  have HZ := Lib.hid hz
  clear hz
  replace HRN := Lib.hid (HRN.out.below hb)
  replace HRD := Lib.hid (HRD.out.below hb)
  replace HA := Lib.hid (HA.out.trans (hb.mono HA.out.size))
  clear hb
  go_upto_region 8 with fail
  rw [← HZ.out]
  clear HZ
  obtain ⟨N, hN⟩ : ∃ N, N = y3.heap.size := ⟨_, rfl⟩
  rw [← hN] at HRN HBC ⊢
  have HNE := Lib.hid hN
  have hNz : N < z3.heap.size := by have := HN3.out; omega
  have HNZ := Lib.hid hNz
  clear hN hNz
  have b0 := (HBC.out 0 _ rfl).1
  have b1 := (HBC.out 1 _ rfl).1
  have b2 := (HBC.out 2 _ rfl).1
  have hil : v.items.length ≤ 16777216 := by have h1 := sizV_eq v; have h2 := HSV.out; omega
  have HIL := Lib.hid hil
  clear hil
  go_wp2_with (at_builtin; refine wp_pushN rfl (.tmp 31) (.tmp 33) rfl N (kk + 1) B (.slice xv v.items.length cv2) v.items (.mk (-1) [] []) [.int .i64 (-1), .slice none 0 0, .slice none 0 0] z3 (by simp [Act.eval]) (by simp [Act.eval]) HNZ.out HRN.out leaf9 HIL.out (by have h1 := hBW9.out; have h2 := HNZ.out; have h3 := HNE.out; omega) ?_)
  intro v9 w8 hrow8 hg8
  clear b0 b1 b2
  obtain ⟨a9, c9, e9, hit9⟩ := hrow8.is 2 v9
  obtain ⟨nl, hnl⟩ : ∃ nl, nl = (v.items ++ [ValueV.mk (-1) [] []]).length := ⟨_, rfl⟩
  rw [← hnl] at e9
  have HNL := Lib.hid hnl
  clear hnl
  subst e9
  have hob : ∀ g, (Value.slice xv v.items.length cv2).ownBlock = some g → B ≤ g ∧ g < N := fun g e => by have := HOW.out g e; have h3 := HNE.out; omega
  have HBC8 := Lib.hid (HBC.out.grown hg8 (fun e => by have := hob N e.symm; omega))
  obtain ⟨b0, f0⟩ := HBC8.out 0 _ rfl
  obtain ⟨b1, f1⟩ := HBC8.out 1 _ rfl
  obtain ⟨b2, f2⟩ := HBC8.out 2 _ rfl
  obtain ⟨wb, hwb⟩ : ∃ wb, wb = w8.setCell ⟨N, 2, none⟩ (.slice a9 nl c9) := ⟨_, rfl⟩
  have hgs : w8.grownBy wb (some N) := by subst hwb; exact grown_set (grown_refl w8 N) 2 _
  have hAw : Below z2.heap.size z2 wb := by subst hwb; exact (HA.out.grown hg8 HA.out.size (fun k e => by have := (hob k e).1; have := hwB9.out; omega)).setCell (p := ⟨N, 2, none⟩) (by show z2.heap.size ≤ N; have h1 := hwB9.out; have h2 := hBW9.out; have h3 := HNE.out; omega) _
  have HBB : Hid (CellsAt N [.int .i64 v.number, .slice ab v.bytes.length cb, .slice a9 nl c9] wb) := by subst hwb; have h1 := HBC8.out.set 2 (.slice a9 nl c9) (by simp); simp only [List.set] at h1; exact h1
  have hrd9 : RdN ab v.bytes cb wb := (HRD.out.grownC hg8 (fun b off e hn e2 => by have h1 := (HBL.out b off e hn).2; have h2 := (hob b e2.symm).1; omega)).grownC hgs (fun b off e hn e2 => by have h1 := (HBL.out b off e hn).2; have h2 := hBW9.out; have h3 := HNE.out; injection e2 with e2; omega)
  have HBV : Hid (IsVal (kk + 2) (badV v) [.int .i64 v.number, .slice ab v.bytes.length cb, .slice a9 nl c9] wb) := ⟨ab, cb, a9, c9, by rw [HNL.out]; rfl, hrd9, by rw [hwb]; exact hit9⟩
  replace HX := Lib.hid (HX.out.below hAw)
  replace HV3 := Lib.hid (HV3.out.below hAw)
  replace HRK := Lib.hid (HRK.out.below hAw)
  replace HVL := Lib.hid (HVL.out.below hAw)
  replace HWV := Lib.hid (HWV.out.below hAw)
  replace HWC := Lib.hid (HWC.out.below hAw)
  replace HXV := Lib.hid (HXV.out.below hAw)
  replace HXC := Lib.hid (HXC.out.below hAw)
  replace HBZ := Lib.hid (HBZ.out.trans (hAw.mono HBZ.out.size))
  have HWB := Lib.hid hwb
  clear hrow8 hg8 hit9 hob HBC8 HBC hgs hAw hrd9 hwb HRN HRD HBL HOW HA hwB9 hBW9 HN3 HNZ
  go_upto_region 9 with fail
  rw [← HWB.out]
  clear HWB b0 b1 b2 f0 f1 f2 w8
  have HF1 : Hid (∀ W, Below wb.heap.size wb W → Calls Try.prog 29 #[.agg #[.slice x rs.length cp], .int .i64 (kk : Int), .agg #[.int .i64 v.number, .slice av v.bytes.length cv, .slice iv v.items.length dvv]] W fun e w' => e = .returned (.bool true) ∧ Below W.heap.size W w') := fun W hW => by rw [← HFV.out]; exact fits_impl x rs cp (kk + 1) (kk : Int) v _ W (by omega) HSH.out HSP.out (HRK.out.rdc.below hW) (HVL.out.below hW)
  have HF2 : Hid (∀ W, Below wb.heap.size wb W → Calls Try.prog 29 #[.agg #[.slice x rs.length cp], .int .i64 (kk : Int), .agg #[.int .i64 dv.number, .slice ax dv.bytes.length cx, .slice ix dv.items.length dx]] W fun e w' => e = .returned (.bool true) ∧ Below W.heap.size W w') := fun W hW => by rw [← HFD.out]; exact fits_impl x rs cp (kk + 1) (kk : Int) dv _ W (by omega) HSH.out HSP.out (HRK.out.rdc.below hW) (HXV.out.below hW)
  have HF3 : Hid (∀ W, Below wb.heap.size wb W → Calls Try.prog 29 #[.agg #[.slice x rs.length cp], .int .i64 (kk : Int), .agg #[.int .i64 v.number, .slice ab v.bytes.length cb, .slice a9 nl c9]] W fun e w' => e = .returned (.bool false) ∧ Below W.heap.size W w') := fun W hW => by rw [← HFB.out]; exact fits_impl x rs cp (kk + 2) (kk : Int) (badV v) _ W (by omega) HSH.out HSP.out (HRK.out.rdc.below hW) (HBV.out.below hW)
  have HQ1 : Hid (∀ W, Below wb.heap.size wb W → Calls Try.prog 31 #[.agg #[.int .i64 v.number, .slice av v.bytes.length cv, .slice iv v.items.length dvv], .agg #[.int .i64 v.number, .slice aw v.bytes.length cw, .slice iw v.items.length dw]] W fun e w' => e = .returned (.bool true) ∧ Below W.heap.size W w') := fun W hW => (ieq_value (kk + 1) (hgtV v) v v _ _ W (HVL.out.below hW) (HWV.out.below hW) (by have := HSV.out; omega) (by have := HSV.out; omega)).mono fun e w' h => ⟨same_yes h.1, h.2⟩
  have HQ2 : Hid (∀ W, Below wb.heap.size wb W → Calls Try.prog 31 #[.agg #[.int .i64 v.number, .slice ab v.bytes.length cb, .slice a9 nl c9], .agg #[.int .i64 v.number, .slice av v.bytes.length cv, .slice iv v.items.length dvv]] W fun e w' => e = .returned (.bool false) ∧ Below W.heap.size W w') := fun W hW => (ieq_value (kk + 2) (kk + 1) (badV v) v _ _ W (HBV.out.below hW) (HVL.out.below hW) (by have := HSV.out; have := bad_siz v; omega) (by have := HSV.out; omega)).mono fun e w' h => ⟨same_no (bad_ne v) h.1, h.2⟩
  have HC1 : Hid (∀ W, Below wb.heap.size wb W → Calls Try.prog 30 #[.agg #[.int .i64 v.number, .slice av v.bytes.length cv, .slice iv v.items.length dvv]] W fun e w' => e = .returned (.int .i64 (cntV v : Nat)) ∧ Below W.heap.size W w') := fun W hW => count_impl (kk + 1) v _ W (HVL.out.below hW) (by have := HSV.out; omega)
  have HT1 : Hid (∀ W, Below wb.heap.size wb W → Calls Try.prog 32 #[.agg #[.int .i64 v.number, .slice aw v.bytes.length cw, .slice iw v.items.length dw]] W fun e w' => e = .returned (.int .i64 (totV v : Nat)) ∧ Below W.heap.size W w') := fun W hW => total_impl (hgtV v) v _ W (HWV.out.below hW) (by have := HSV.out; omega)
  have HT2 : Hid (∀ W, Below wb.heap.size wb W → Calls Try.prog 32 #[.agg #[.int .i64 v.number, .slice av v.bytes.length cv, .slice iv v.items.length dvv]] W fun e w' => e = .returned (.int .i64 (totV v : Nat)) ∧ Below W.heap.size W w') := fun W hW => total_impl (kk + 1) v _ W (HVL.out.below hW) (by have := HSV.out; omega)
  have HIR : Hid (∀ (j : Nat) W, j < v.items.length → Below wb.heap.size wb W → Calls Try.prog 28 #[.agg #[.slice x rs.length cp], .int .i64 (kk : Int), .agg #[.int .i64 v.number, .slice av v.bytes.length cv, .slice iv v.items.length dvv], .int .i64 (j : Int)] W fun e w' => e = .returned (.int .i64 (kidI rs[kk] v.number j)) ∧ Below W.heap.size W w') := fun j W hj hW => itemrule_impl x rs cp (kk + 1) kk j v _ W (by omega) HSH.out HSP.out (HRK.out.rdc.below hW) (HVL.out.below hW) (HOKS.out kk hkr) hkr HKI.out hj (by have := HI40.out; omega)
  obtain ⟨cV, hcV⟩ : ∃ c, c = cntV v := ⟨_, rfl⟩
  rw [← hcV] at HC1
  have HCV := Lib.hid hcV
  clear hcV
  obtain ⟨tV, htV⟩ : ∃ c, c = totV v := ⟨_, rfl⟩
  rw [← htV] at HT1 HT2
  clear htV
  have hB0 : Hid (Below wb.heap.size wb wb) := Below.refl _ _
  go_wp2
  go_loopw [9, 10] (fun n i W => ∃ j c : Nat, j ≤ v.items.length ∧ i = .int .i64 j ∧ n = .int .i64 (c : Int) ∧ Hid (c = 1 + cntL (v.items.take j)) ∧ Hid (Below wb.heap.size wb W)) (fun _ i _ => v.items.length - (intOf i).toNat)
  case atStart => exact ⟨0, 1, Nat.zero_le _, rfl, rfl, by show _ = _; simp [cntL], hB0.out⟩
  case round =>
    clear hB0
    obtain ⟨j, c, hjl, rfl, rfl, hc, hb⟩ := hrel
    have j0 : (0 : Int) ≤ (j : Int) := by omega
    have HXr := Lib.hid (HX.out.below hb.out)
    have HV3r := Lib.hid (HV3.out.below hb.out)
    have x0 := (HXr.out 0 _ rfl).1
    have v0 := (HV3r.out 0 _ rfl).1
    have v1 := (HV3r.out 1 _ rfl).1
    have v2 := (HV3r.out 2 _ rfl).1
    by_cases hjt : j < v.items.length
    · have j1 : (j : Int) < (v.items.length : Int) := by omega
      obtain ⟨b, off, a1, c1, a2, c2, hai, hiv, e0, e1, e2⟩ := item_at HVL.out hjt
      subst hai
      obtain ⟨m, hm, hmk, hmv⟩ := HIT.out j hjt
      have hir := HIR.out j wr hjt hb.out
      rw [hm] at hir
      have HIR2 := Lib.hid hir
      have hfi : fitsV rs (m : Int) v.items[j] = true := by unfold fitsV; rw [HOKS.out m (by omega), hmv]; rfl
      have HFI : Hid (∀ W, Below wb.heap.size wb W → Calls Try.prog 29 #[.agg #[.slice x rs.length cp], .int .i64 (m : Int), .agg #[.int .i64 v.items[j].number, .slice a1 v.items[j].bytes.length c1, .slice a2 v.items[j].items.length c2]] W fun e w' => e = .returned (.bool true) ∧ Below W.heap.size W w') := fun W hW => by rw [← hfi]; exact fits_impl x rs cp kk (m : Int) v.items[j] _ W (by omega) HSH.out HSP.out (HRK.out.rdc.below hW) (hiv.below hW)
      have HCI : Hid (∀ W, Below wb.heap.size wb W → Calls Try.prog 30 #[.agg #[.int .i64 v.items[j].number, .slice a1 v.items[j].bytes.length c1, .slice a2 v.items[j].items.length c2]] W fun e w' => e = .returned (.int .i64 (cntV v.items[j] : Nat)) ∧ Below W.heap.size W w') := fun W hW => count_impl kk v.items[j] _ W (hiv.below hW) (by have := siz_item hjt; have := HSV.out; omega)
      have hcn := cntL_next v.items j hjt
      have hci := cnt_siz v.items[j]
      have hcs := siz_item hjt
      have hct := cntL_take_le v.items j
      have hcl := cnt_sizL v.items
      have hsq := sizV_eq v
      generalize v.items[j] = u at hiv e0 e1 e2 HFI HCI hcn hci hcs hfi hmv
      have hcu : cntV u ≤ 16777216 := by have := HSV.out; omega
      have hc8 : c ≤ 16777216 := by have := hc.out; have := HSV.out; omega
      generalize cntV u = cu at HCI hcn hcu hci
      have HCN : Hid (c + cu = 1 + cntL (v.items.take (j + 1))) := by show _ = _; have := hc.out; omega
      have E0 := Lib.hid (cell_keep hb.out e0)
      have E1 := Lib.hid (cell_keep hb.out e1)
      have E2 := Lib.hid (cell_keep hb.out e2)
      clear hcn hci hcs hct hcl hsq hfi hmv hm hir hiv e0 e1 e2
      go_wp2_with fail
      refine HIR2.out.mono ?_
      rintro e w2 ⟨rfl, hb2⟩
      have HB2 := Lib.hid (hb.out.trans (hb2.mono hb.out.size))
      replace HXr := Lib.hid (HXr.out.below hb2)
      replace HV3r := Lib.hid (HV3r.out.below hb2)
      replace E0 := Lib.hid (cell_keep hb2 E0.out)
      replace E1 := Lib.hid (cell_keep hb2 E1.out)
      replace E2 := Lib.hid (cell_keep hb2 E2.out)
      clear hb2 x0 v0 v1 v2 HIR2
      have g1 : ¬ ((m : Int) < 0) := by omega
      have g2 : ¬ ((kk : Int) ≤ (m : Int)) := by omega
      have g1b : decide ((m : Int) < 0) = false := decide_eq_false g1
      have g2b : decide ((kk : Int) ≤ (m : Int)) = false := decide_eq_false g2
      have g2m : ¬ kk ≤ m := by omega
      have g2n : decide (kk ≤ m) = false := decide_eq_false g2m
      have g2o : decide ((m : Int) ≥ (kk : Int)) = false := g2b
      have g2p : decide (m ≥ kk) = false := g2n
      go_upto_region 14 with fail
      have hbd : Below w2.heap.size w2 w2.drew := below_drewN (Below.refl _ _) 1
      replace HB2 := Lib.hid (HB2.out.trans (hbd.mono HB2.out.size))
      replace HXr := Lib.hid (HXr.out.below hbd)
      replace HV3r := Lib.hid (HV3r.out.below hbd)
      replace E0 := Lib.hid (cell_keep hbd E0.out)
      replace E1 := Lib.hid (cell_keep hbd E1.out)
      replace E2 := Lib.hid (cell_keep hbd E2.out)
      clear hbd
      have HSW : Hid (∀ W, Below w2.drew.heap.size w2.drew W → W.cell? ⟨D, 0, none⟩ = some (.slice x rs.length cp) ∧ W.cell? ⟨D + 1, 2, none⟩ = some (.slice (some ⟨b, off, none⟩) v.items.length dvv) ∧ W.cell? ⟨b, off + j * 3, none⟩ = some (.int .i64 u.number) ∧ W.cell? ⟨b, off + j * 3 + 1, none⟩ = some (.slice a1 u.bytes.length c1) ∧ W.cell? ⟨b, off + j * 3 + 2, none⟩ = some (.slice a2 u.items.length c2)) := fun W hW => ⟨(HXr.out.below hW 0 _ rfl).1, (HV3r.out.below hW 2 _ rfl).1, cell_keep hW E0.out, cell_keep hW E1.out, cell_keep hW E2.out⟩
      have HB0 : Hid (Below w2.drew.heap.size w2.drew w2.drew) := Below.refl _ _
      refine wp_region_held_drew (S := (fun W => W.cell? ⟨D, 0, none⟩ = some (.slice x rs.length cp) ∧ W.cell? ⟨D + 1, 2, none⟩ = some (.slice (some ⟨b, off, none⟩) v.items.length dvv) ∧ W.cell? ⟨b, off + j * 3, none⟩ = some (.int .i64 u.number) ∧ W.cell? ⟨b, off + j * 3 + 1, none⟩ = some (.slice a1 u.bytes.length c1) ∧ W.cell? ⟨b, off + j * 3 + 2, none⟩ = some (.slice a2 u.items.length c2))) (by kernel_rfl) ?_ (fun hHeld => ?_)
      · (try dsimp only); exact HSW.out _ HB0.out
      refine wpAnyH_take (i := 0) (v := ?v1) (by simp only [List.getElem?_toArray, List.getElem?_cons_zero]; rfl) (by kernel_rfl) (by kernel_rfl) (by kernel_rfl) (by exact fun _ _ _ h => h) (Or.inl ⟨by rfl, ?hy1⟩) (by assumption) ?rest1
      case hy1 => ((intro W hSw; (try dsimp only at hSw); go_simp); (try with_reducible rfl))
      simp only [Act.put, List.setIfInBounds_toArray, List.set_cons_zero, List.set_cons_succ]
      refine wpAnyH_take (i := 1) (v := ?v2) (by simp only [List.getElem?_toArray, List.getElem?_cons_succ, List.getElem?_cons_zero]; rfl) (by kernel_rfl) (by kernel_rfl) (by kernel_rfl) (by exact fun _ _ _ h => h) (Or.inl ⟨by rfl, ?hy2⟩) (by assumption) ?rest2
      case hy2 => ((intro W hSw; (try dsimp only at hSw); go_simp); (try with_reducible rfl))
      simp only [Act.put, List.setIfInBounds_toArray, List.set_cons_zero, List.set_cons_succ]
      refine wpAnyH_take (i := 2) (v := ?v3) (by simp only [List.getElem?_toArray, List.getElem?_cons_succ, List.getElem?_cons_zero]; rfl) (by kernel_rfl) (by kernel_rfl) (by kernel_rfl) (by exact fun _ _ _ h => h) (Or.inl ⟨by rfl, ?hy3⟩) (by assumption) ?rest3
      case hy3 => ((intro W hSw; (try dsimp only at hSw); go_simp); (try with_reducible rfl))
      simp only [Act.put, List.setIfInBounds_toArray, List.set_cons_zero, List.set_cons_succ]
      refine wpAnyH_take (i := 3) (v := ?v4) (by simp only [List.getElem?_toArray, List.getElem?_cons_succ, List.getElem?_cons_zero]; rfl) (by kernel_rfl) (by kernel_rfl) (by kernel_rfl) (by exact fun _ _ _ h => h) (Or.inl ⟨by rfl, ?hy4⟩) (by assumption) ?rest4
      case hy4 => ((intro W hSw; (try dsimp only at hSw); go_simp); (try with_reducible rfl))
      simp only [Act.put, List.setIfInBounds_toArray, List.set_cons_zero, List.set_cons_succ]
      refine wpAnyH_take (i := 4) (v := ?v5) (by simp only [List.getElem?_toArray, List.getElem?_cons_succ, List.getElem?_cons_zero]; rfl) (by kernel_rfl) (by kernel_rfl) (by kernel_rfl) (by exact fun _ _ _ h => h) (Or.inl ⟨by rfl, ?hy5⟩) (by assumption) ?rest5
      case hy5 => ((intro W hSw; (try dsimp only at hSw); go_simp); (try with_reducible rfl))
      simp only [Act.put, List.setIfInBounds_toArray, List.set_cons_zero, List.set_cons_succ]
      refine wpAnyH_take (i := 5) (v := ?v6) (by simp only [List.getElem?_toArray, List.getElem?_cons_succ, List.getElem?_cons_zero]; rfl) (by kernel_rfl) (by kernel_rfl) (by kernel_rfl) (by exact fun _ _ _ h => h) (Or.inl ⟨by rfl, ?hy6⟩) (by assumption) ?rest6
      case hy6 => ((intro W hSw; (try dsimp only at hSw); go_simp); (try with_reducible rfl))
      simp only [Act.put, List.setIfInBounds_toArray, List.set_cons_zero, List.set_cons_succ]
      refine wpAnyH_take (i := 6) (v := ?v7) (by simp only [List.getElem?_toArray, List.getElem?_cons_succ, List.getElem?_cons_zero]; rfl) (by kernel_rfl) (by kernel_rfl) (by kernel_rfl) (by exact fun _ _ _ h => h) (Or.inl ⟨by rfl, ?hy7⟩) (by assumption) ?rest7
      case hy7 => ((intro W hSw; (try dsimp only at hSw); go_simp); (try with_reducible rfl))
      simp only [Act.put, List.setIfInBounds_toArray, List.set_cons_zero, List.set_cons_succ]
      refine wpAnyH_take (i := 7) (v := ?v8) (by simp only [List.getElem?_toArray, List.getElem?_cons_succ, List.getElem?_cons_zero]; rfl) (by kernel_rfl) (by kernel_rfl) (by kernel_rfl) (by exact fun _ _ _ h => h) (Or.inl ⟨by rfl, ?hy8⟩) (by assumption) ?rest8
      case hy8 => ((intro W hSw; (try dsimp only at hSw); go_simp); (try with_reducible rfl))
      simp only [Act.put, List.setIfInBounds_toArray, List.set_cons_zero, List.set_cons_succ]
      refine wpAnyH_take (i := 8) (v := ?v9) (by simp only [List.getElem?_toArray, List.getElem?_cons_succ, List.getElem?_cons_zero]; rfl) (by kernel_rfl) (by kernel_rfl) (by kernel_rfl) (by exact fun _ _ _ h => h) (Or.inl ⟨by rfl, ?hy9⟩) (by assumption) ?rest9
      case hy9 => ((intro W hSw; (try dsimp only at hSw); go_simp); (try with_reducible rfl))
      simp only [Act.put, List.setIfInBounds_toArray, List.set_cons_zero, List.set_cons_succ]
      refine wpAnyH_take (i := 9) (v := ?v10) (by simp only [List.getElem?_toArray, List.getElem?_cons_succ, List.getElem?_cons_zero]; rfl) (by kernel_rfl) (by kernel_rfl) (by kernel_rfl) (by exact fun _ _ _ h => h) (Or.inl ⟨by rfl, ?hy10⟩) (by assumption) ?rest10
      case hy10 => ((intro W hSw; (try dsimp only at hSw); go_simp); (try with_reducible rfl))
      simp only [Act.put, List.setIfInBounds_toArray, List.set_cons_zero, List.set_cons_succ]
      refine wpAnyH_take (i := 10) (v := ?v11) (by simp only [List.getElem?_toArray, List.getElem?_cons_succ, List.getElem?_cons_zero]; rfl) (by kernel_rfl) (by kernel_rfl) (by kernel_rfl) (by exact fun _ _ _ h => h) (Or.inl ⟨by rfl, ?hy11⟩) (by assumption) ?rest11
      case hy11 => ((intro W hSw; (try dsimp only at hSw); go_simp); (try with_reducible rfl))
      simp only [Act.put, List.setIfInBounds_toArray, List.set_cons_zero, List.set_cons_succ]
      refine wpAnyH_take (i := 11) (v := ?v12) (by simp only [List.getElem?_toArray, List.getElem?_cons_succ, List.getElem?_cons_zero]; rfl) (by kernel_rfl) (by kernel_rfl) (by kernel_rfl) (by exact fun _ _ _ h => h) (Or.inl ⟨by rfl, ?hy12⟩) (by assumption) ?rest12
      case hy12 => ((intro W hSw; (try dsimp only at hSw); go_simp); (try with_reducible rfl))
      simp only [Act.put, List.setIfInBounds_toArray, List.set_cons_zero, List.set_cons_succ]
      refine wpAnyH_take (i := 12) (v := ?v13) (by simp only [List.getElem?_toArray, List.getElem?_cons_succ, List.getElem?_cons_zero]; rfl) (by kernel_rfl) (by kernel_rfl) (by kernel_rfl) (by exact fun _ _ _ h => h) (Or.inl ⟨by rfl, ?hy13⟩) (by assumption) ?rest13
      case hy13 => ((intro W hSw; (try dsimp only at hSw); go_simp); (try with_reducible rfl))
      simp only [Act.put, List.setIfInBounds_toArray, List.set_cons_zero, List.set_cons_succ]
      refine wpAnyH_take (i := 13) (v := ?v14) (by simp only [List.getElem?_toArray, List.getElem?_cons_succ, List.getElem?_cons_zero]; rfl) (by kernel_rfl) (by kernel_rfl) (by kernel_rfl) (by exact fun _ _ _ h => h) (Or.inl ⟨by rfl, ?hy14⟩) (by assumption) ?rest14
      case hy14 => ((intro W hSw; (try dsimp only at hSw); go_simp); (try with_reducible rfl))
      simp only [Act.put, List.setIfInBounds_toArray, List.set_cons_zero, List.set_cons_succ]
      refine wpAnyH_take (i := 14) (v := ?v15) (by simp only [List.getElem?_toArray, List.getElem?_cons_succ, List.getElem?_cons_zero]; rfl) (by kernel_rfl) (by kernel_rfl) (by kernel_rfl) (by exact fun _ _ _ h => h) (Or.inl ⟨by rfl, ?hy15⟩) (by assumption) ?rest15
      case hy15 => ((intro W hSw; (try dsimp only at hSw); go_simp); (try with_reducible rfl))
      simp only [Act.put, List.setIfInBounds_toArray, List.set_cons_zero, List.set_cons_succ]
      refine wpAnyH_ready (rs := [15]) (by kernel_rfl) (by simp) ?_
      refine AllReadyH.cons (by simp only [List.getElem?_toArray, List.getElem?_cons_succ, List.getElem?_cons_zero]; rfl) (fun K hK => ?_) AllReadyH.nil
      go_simp
      (go_at_call 29; refine (HFI.out _ HB2.out).mono ?_; rintro e w3 ⟨rfl, hb3⟩; replace HB2 := Lib.hid (HB2.out.trans (hb3.mono HB2.out.size)); replace HB0 := Lib.hid (HB0.out.trans (hb3.mono HB0.out.size)); clear hb3)
      go_wp2_with fail
      refine hK.out _ _ ?_ (fun hHeld => ?_)
      · (try dsimp only); exact HSW.out _ HB0.out
      clear hK K
      refine wpAnyH_take (i := 16) (v := ?v16) (by simp only [List.getElem?_toArray, List.getElem?_cons_succ, List.getElem?_cons_zero]; rfl) (by kernel_rfl) (by kernel_rfl) (by kernel_rfl) (by exact fun _ _ _ h => h) (Or.inl ⟨by rfl, ?hy16⟩) (by assumption) ?rest16
      case hy16 => ((intro W hSw; (try dsimp only at hSw); go_simp); (try with_reducible rfl))
      simp only [Act.put, List.setIfInBounds_toArray, List.set_cons_zero, List.set_cons_succ]
      refine wpAnyH_take (i := 17) (v := ?v17) (by simp only [List.getElem?_toArray, List.getElem?_cons_succ, List.getElem?_cons_zero]; rfl) (by kernel_rfl) (by kernel_rfl) (by kernel_rfl) (by exact fun _ _ _ h => h) (Or.inl ⟨by rfl, ?hy17⟩) (by assumption) ?rest17
      case hy17 => ((intro W hSw; (try dsimp only at hSw); go_simp); (try with_reducible rfl))
      simp only [Act.put, List.setIfInBounds_toArray, List.set_cons_zero, List.set_cons_succ]
      refine wpAnyH_done (by kernel_rfl) ?_ _
      replace HXr := Lib.hid (HXr.out.below HB0.out)
      replace HV3r := Lib.hid (HV3r.out.below HB0.out)
      replace E0 := Lib.hid (cell_keep HB0.out E0.out)
      replace E1 := Lib.hid (cell_keep HB0.out E1.out)
      replace E2 := Lib.hid (cell_keep HB0.out E2.out)
      clear HSW HB0 HFI g1b g2b
      have v2 := (HV3r.out 2 _ rfl).1
      have e0 := E0.out
      have e1 := E1.out
      have e2 := E2.out
      go_wp2_with fail
      refine (HCI.out _ HB2.out).mono ?_
      rintro e w4 ⟨rfl, hb4⟩
      have HB4 := Lib.hid (HB2.out.trans (hb4.mono HB2.out.size))
      clear hb4 v2 e0 e1 e2 E0 E1 E2 HCI
      have hj16 : v.items.length ≤ 16777216 := HIL.out
      go_wp2
      go_roundw
      case rel => exact ⟨j + 1, c + cu, by omega, by go_num, by go_num, HCN.out, HB4.out⟩
      case measure => simp [intOf]; omega
    · have j1 : ¬ (j : Int) < (v.items.length : Int) := by omega
      obtain rfl : j = v.items.length := by omega
      have hcc : Hid (c = cV) := by show _ = _; have h1 := hc.out; have h2 := HCV.out; have h3 := cntV_eq v; rw [List.take_length] at h1; omega
      have hc9 := hcc.out
      subst hc9
      clear hc hcc HCV
      go_upto_region 17 with fail
      have hbd : Below wr.heap.size wr wr.drew := below_drewN (Below.refl _ _) 1
      have HB2 := Lib.hid (hb.out.trans (hbd.mono hb.out.size))
      clear hbd hb
      clear HIR HIT HXr HV3r x0 v0 v1 v2
      have HSW : Hid (∀ W, Below wb.heap.size wb W → W.cell? ⟨D, 0, none⟩ = some (.slice x rs.length cp) ∧ W.cell? ⟨D + 1, 0, none⟩ = some (.int .i64 v.number) ∧ W.cell? ⟨D + 1, 1, none⟩ = some (.slice av v.bytes.length cv) ∧ W.cell? ⟨D + 1, 2, none⟩ = some (.slice iv v.items.length dvv) ∧ W.cell? ⟨y1.heap.size, 0, none⟩ = some (.int .i64 v.number) ∧ W.cell? ⟨y1.heap.size, 1, none⟩ = some (.slice aw v.bytes.length cw) ∧ W.cell? ⟨y1.heap.size, 2, none⟩ = some (.slice iw v.items.length dw) ∧ W.cell? ⟨y2.heap.size, 0, none⟩ = some (.int .i64 dv.number) ∧ W.cell? ⟨y2.heap.size, 1, none⟩ = some (.slice ax dv.bytes.length cx) ∧ W.cell? ⟨y2.heap.size, 2, none⟩ = some (.slice ix dv.items.length dx) ∧ W.cell? ⟨N, 0, none⟩ = some (.int .i64 v.number) ∧ W.cell? ⟨N, 1, none⟩ = some (.slice ab v.bytes.length cb) ∧ W.cell? ⟨N, 2, none⟩ = some (.slice a9 nl c9)) := fun W hW => ⟨(HX.out.below hW 0 _ rfl).1, (HV3.out.below hW 0 _ rfl).1, (HV3.out.below hW 1 _ rfl).1, (HV3.out.below hW 2 _ rfl).1, (HWC.out.below hW 0 _ rfl).1, (HWC.out.below hW 1 _ rfl).1, (HWC.out.below hW 2 _ rfl).1, (HXC.out.below hW 0 _ rfl).1, (HXC.out.below hW 1 _ rfl).1, (HXC.out.below hW 2 _ rfl).1, (HBB.out.below hW 0 _ rfl).1, (HBB.out.below hW 1 _ rfl).1, (HBB.out.below hW 2 _ rfl).1⟩
      go_region_held3 (fun W => W.cell? ⟨D, 0, none⟩ = some (.slice x rs.length cp) ∧ W.cell? ⟨D + 1, 0, none⟩ = some (.int .i64 v.number) ∧ W.cell? ⟨D + 1, 1, none⟩ = some (.slice av v.bytes.length cv) ∧ W.cell? ⟨D + 1, 2, none⟩ = some (.slice iv v.items.length dvv) ∧ W.cell? ⟨y1.heap.size, 0, none⟩ = some (.int .i64 v.number) ∧ W.cell? ⟨y1.heap.size, 1, none⟩ = some (.slice aw v.bytes.length cw) ∧ W.cell? ⟨y1.heap.size, 2, none⟩ = some (.slice iw v.items.length dw) ∧ W.cell? ⟨y2.heap.size, 0, none⟩ = some (.int .i64 dv.number) ∧ W.cell? ⟨y2.heap.size, 1, none⟩ = some (.slice ax dv.bytes.length cx) ∧ W.cell? ⟨y2.heap.size, 2, none⟩ = some (.slice ix dv.items.length dx) ∧ W.cell? ⟨N, 0, none⟩ = some (.int .i64 v.number) ∧ W.cell? ⟨N, 1, none⟩ = some (.slice ab v.bytes.length cb) ∧ W.cell? ⟨N, 2, none⟩ = some (.slice a9 nl c9)) (exact HSW.out _ HB2.out) (first | (go_at_call 29; (with_reducible refine (HF1.out _ HB2.out).mono ?_); rintro e w3 ⟨rfl, hb3⟩; replace HB2 := Lib.hid (HB2.out.trans (hb3.mono HB2.out.size)); clear hb3) | (go_at_call 29; (with_reducible refine (HF2.out _ HB2.out).mono ?_); rintro e w3 ⟨rfl, hb3⟩; replace HB2 := Lib.hid (HB2.out.trans (hb3.mono HB2.out.size)); clear hb3) | (go_at_call 29; (with_reducible refine (HF3.out _ HB2.out).mono ?_); rintro e w3 ⟨rfl, hb3⟩; replace HB2 := Lib.hid (HB2.out.trans (hb3.mono HB2.out.size)); clear hb3) | (go_at_call 31; (with_reducible refine (HQ1.out _ HB2.out).mono ?_); rintro e w3 ⟨rfl, hb3⟩; replace HB2 := Lib.hid (HB2.out.trans (hb3.mono HB2.out.size)); clear hb3) | (go_at_call 31; (with_reducible refine (HQ2.out _ HB2.out).mono ?_); rintro e w3 ⟨rfl, hb3⟩; replace HB2 := Lib.hid (HB2.out.trans (hb3.mono HB2.out.size)); clear hb3) | (go_at_call 30; (with_reducible refine (HC1.out _ HB2.out).mono ?_); rintro e w3 ⟨rfl, hb3⟩; replace HB2 := Lib.hid (HB2.out.trans (hb3.mono HB2.out.size)); clear hb3) | (go_at_call 32; (with_reducible refine (HT1.out _ HB2.out).mono ?_); rintro e w3 ⟨rfl, hb3⟩; replace HB2 := Lib.hid (HB2.out.trans (hb3.mono HB2.out.size)); clear hb3) | (go_at_call 32; (with_reducible refine (HT2.out _ HB2.out).mono ?_); rintro e w3 ⟨rfl, hb3⟩; replace HB2 := Lib.hid (HB2.out.trans (hb3.mono HB2.out.size)); clear hb3))
      all_goals (try go_wp2)
      all_goals go_ret
      all_goals exact ⟨rfl, HBZ.out.trans (HB2.out.mono HBZ.out.size)⟩
theorem walk (a0 : Option Addr) (bs0 : List UInt8) (cap0 : Nat) (w : World) (r0 : Arg a0 bs0 cap0 w) :
    Calls Try.prog 6 #[.slice a0 bs0.length cap0] w fun e w' => e = .returned (.bool true) ∧ Below w.heap.size w w' := by
  by_cases h0 : 1048576 < bs0.length
  · exact walk_long a0 bs0 cap0 w h0 (by have q1 := r0.2.1; have q2 := r0.2.2.2; omega)
  · exact walk_short a0 bs0 cap0 w (by omega) r0.code
set_option maxRecDepth 100000 in
theorem lifted (os : Os) (started : os.Started) (H : Type) (enc : TypeId × Value → H) :
    ReturnsInHanded {} Try.checked os 6 .any (Rows.fnValuesSpec.pre6 enc Try.prog Try.f6 Rows.fnValuesRow.domain false) (Rows.fnValuesSpec.post enc Try.prog Try.f6 false true false false) := by
  refine returnsInHanded_of_change (C := Try.checked) own started (by kernel_rfl) Try.func6
    (ChangeSpec.witness6 (enc := enc) (C := Try.checked) false ⟨#[], #[.slice none 0 0], []⟩ 8 (by kernel_rfl) (by kernel_rfl) (by kernel_rfl) (by kernel_rfl)) ?_
  intro W base args ds gs before hval0 hW hcnd _
  have hval : ∀ (j : Nat) t v, Try.f6.params[j]? = some t → args[j]? = some v → Value.okWide Try.prog W .any base t v := hval0
  have hW' := hW
  obtain ⟨p, q, hA0, hV, rfl, hfz, hnd⟩ := hW
  have hA : DataW.TrodAll enc Try.prog W 0 (fun _ => true) true Try.f6.params.toList args.toList ds p := hA0
  rw [Try.params6] at hA hval
  obtain ⟨v0, vs0, d0, ds0, p0, q0, hargs, rfl, rfl, h0, r0⟩ := trodAll_cons hA
  obtain ⟨rfl, rfl, rfl⟩ := trodAll_nil r0
  obtain rfl : args = #[v0] := by cases args; simp_all
  obtain ⟨rfl, rfl⟩ := trodVars_none hV
  simp only [List.append_nil] at hW'
  have hlt : ∀ x ∈ p0, x.block < W.heap.size := fun x hx => hW'.lt x (by simpa using hx)
  obtain ⟨a0, len0, cap0, rfl⟩ := okWide_slice Try.underlying22 (hval 0 22 v0 rfl rfl)
  obtain ⟨bs0, rfl, hb0⟩ := bytes_arg h0
  have m0 : ∀ (W' : World), Below W.heap.size W W' → DataW.Trod enc Try.prog W' 0 (fun b => decide (b < W.heap.size)) true 22 (.slice a0 bs0.length cap0) d0 p0 := fun W' hn => Below.trod laidOut (by kernel_rfl) (of_decide_eq_true (by kernel_rfl)) h0 hn (fun x hx => hlt x (by simp [hx]))
  clear hA0 hval0
  refine (walk a0 bs0 cap0 W hb0).mono fun e W' ⟨he, hb⟩ => ?_
  subst he
  exact ⟨_, rfl, _, _, _, [], _, [], hW', trodAll_cons_mk (shut_bool Try.underlying4 _) trodAll_mk0, (trodAll_cons_mk (m0 _ hb) trodAll_mk0), rfl, hb.frame _, fun h => by cases h⟩
theorem closed : joinedFacts Try.prog 6 Try.f6 Rows.fnValuesSpec Rows.fnValuesRow = true := by
  unfold joinedFacts
  rw [may_enter, lifts_final, make_is]
  kernel_rfl
theorem over : Rows.fnValuesRow.holds Try.pinned (OpenSpec.ofChange Rows.fnValuesSpec) :=
  OpenClaim.holds_of_wide 6 Try.f6 rfl rfl rfl rfl rfl rfl rfl ⟨rfl, rfl, rfl, rfl, rfl⟩ rfl rfl rfl rfl rfl (by kernel_rfl) Try.func6 closed
    (of_decide_eq_true (by kernel_rfl)) (by unfold Func.isWrapper; first | (rw [if_pos (by decide +kernel)]; kernel_rfl) | (rw [if_neg (by decide +kernel)]; exact ⟨rfl, rfl⟩))
    (fun os started H enc _ => lifted os started H enc)
/-- THE STATEMENT -/
theorem proved : Rows.FnValuesSaid := over
end fnValues
#print axioms fnValues.proved
end Go.Proofs.Ytefkhknfjohnaaa
