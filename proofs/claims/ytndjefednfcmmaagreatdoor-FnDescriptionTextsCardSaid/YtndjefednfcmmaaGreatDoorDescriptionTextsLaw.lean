/- It is proved that the law FnDescriptionTexts returns true at every input of its parameter type and leaves its argument as it was (statement Rows.FnDescriptionTextsCardSaid), under no condition beyond the card's own: the listed variables of the library read as its text lays them. -/
import Derived.Test.YtndjefednfcmmaaGreatDoorGSP
import Derived.Test.YtndjefednfcmmaaGreatDoorDTexts
import Derived.Test.YtndjefednfcmmaaGreatDoorGCp
import Derived.Test.YtndjefednfcmmaaGreatDoorGLin
import Derived.Test.YtndjefednfcmmaaGreatDoorArg
import Derived.Deep.RegionHeld3
import Derived.Deep.CutRange
import Derived.Test.YtndjefednfcmmaaGreatDoorGPar
import Derived.Test.YtndjefednfcmmaaGreatDoorCards
import Derived.Test.YtndjefednfcmmaaGreatDoorTie
import Derived.SevenTiedAt
set_option maxRecDepth 100000
namespace Go.Proofs.YtndjefednfcmmaaGreatDoor
open Go Go.ChangeShapes Go.WideShapes Go.ChangeAt Go.RowKit
namespace fnDescriptionTexts
theorem big_no (a : Option Addr) (n cap : Nat) (w : World) (h : n ≤ 1048576) : Calls Tryz.prog 6 #[.slice a n cap] w fun e w' => e = .returned (.bool false) ∧ w = w' := by
 have g : ¬ (1048576 : Int) < (n : Int) := by omega
 go_enter Tryz.func6, Tryz.ntmps6
 go_wp2
 go_ret
 exact ⟨rfl, rfl⟩
theorem big_yes (a : Option Addr) (n cap : Nat) (w : World) (h : 1048576 < n) (_hm : n ≤ 9223372036854775807) : Calls Tryz.prog 6 #[.slice a n cap] w fun e w' => e = .returned (.bool true) ∧ w = w' := by
 have g : (1048576 : Int) < (n : Int) := by omega
 go_enter Tryz.func6, Tryz.ntmps6
 go_wp2
 go_ret
 exact ⟨rfl, rfl⟩
theorem walk_long (a0 : Option Addr) (bs0 : List UInt8) (cap0 : Nat) (w : World) (h : 1048576 < bs0.length) (hm : bs0.length ≤ 9223372036854775807) :
  Calls Tryz.prog 3 #[.slice a0 bs0.length cap0] w fun e w' => e = .returned (.bool true) ∧ Below w.heap.size w w' := by
 go_enter Tryz.func3, Tryz.ntmps3
 go_wp2_with fail
 refine (big_yes a0 bs0.length cap0 w h hm).mono ?_
 rintro e w1 ⟨rfl, rfl⟩
 go_wp2_with fail
 go_ret
 exact ⟨rfl, Below.refl _ _⟩
set_option maxHeartbeats 16000000 in
theorem walk_short (a0 : Option Addr) (bs0 : List UInt8) (cap0 : Nat) (w : World) (h : bs0.length ≤ 1048576) (hs : Code a0 bs0.length w) (ht : Tabs w) :
  Calls Tryz.prog 3 #[.slice a0 bs0.length cap0] w fun e w' => e = .returned (.bool true) ∧ Below w.heap.size w w' := by
 have HS := Lib.hid hs
 have HTW := Lib.hid ht
 clear hs ht
 go_enter Tryz.func3, Tryz.ntmps3
 go_wp2_with fail
 refine (big_no a0 bs0.length cap0 w h).mono ?_
 rintro e w1 ⟨rfl, rfl⟩
 go_wp2_with fail
 refine (drawd a0 bs0.length cap0 w (by omega) HS.out).mono ?_
 rintro e w1 ⟨rs, x, cp, rfl, hm, ⟨hn1, hn6⟩, -, hrow, hb⟩
 obtain ⟨z1, hz1⟩ : ∃ z, z = w1.alloc (.cells #[.slice x rs.length cp] 26) := ⟨_, rfl⟩
 have hbz : Below w1.heap.size w1 z1 := by subst hz1; exact (Below.refl _ _).alloc (Nat.le_refl _) _
 have HX : Hid (CellsAt w1.heap.size [.slice x rs.length cp] z1) := by subst hz1; exact CellsAt.new w1 _ _
 have HZ := Lib.hid hz1
 have HWB := Lib.hid (hb.trans (hbz.mono hb.size))
 have HRC := Lib.hid (hrow.at.below hbz)
 have HDB := Lib.hid (made_descr hm hn1 (by omega))
 have HSH := Lib.hid (made_short hm)
 have HSP := Lib.hid (made_spelt hm (by omega))
 clear hb hbz hz1 hrow hm
 go_upto_region 4 with fail
 rw [← HZ.out]
 clear HZ
 obtain ⟨d0, -⟩ := HX.out 0 _ rfl
 go_wp2_with fail
 clear d0
 refine (fdescr_impl x rs cp _ (by omega) HSH.out HSP.out (HTW.out.below HWB.out).pow HRC.out).mono ?_
 rintro e w2 ⟨rfl, hb⟩
 replace HX := Lib.hid (HX.out.below hb)
 replace HRC := Lib.hid (HRC.out.below hb)
 replace HWB := Lib.hid (HWB.out.trans (hb.mono HWB.out.size))
 have hts := textD_small (rs := rs)
 have HPT := Lib.hid (parse_text HDB.out)
 have HNT := Lib.hid (norm_text HDB.out)
 have HCT := Lib.hid (count_text HDB.out)
 obtain ⟨t, ht⟩ : ∃ t, t = textD rs := ⟨_, rfl⟩
 rw [← ht] at hts HPT HNT HCT ⊢
 clear hb ht HDB HSP
 have HIMP : Hid (∀ W, Tabs W → Calls Tryz.prog 9 #[.string t] W (DescrRead (rs, 0) W)) := fun W h => by
  have := pdescr_impl t W (by omega) h
  rw [HPT.out] at this
  exact this
 go_wp2_with fail
 refine (HIMP.out _ (HTW.out.below HWB.out)).mono ?_
 rintro e w3 ⟨xe, rs', ce, n0, rfl, hpq, hoe, hb⟩
 cases hpq
 have HOE := Lib.hid hoe.rd
 replace HX := Lib.hid (HX.out.below hb)
 replace HRC := Lib.hid (HRC.out.below hb)
 replace HWB := Lib.hid (HWB.out.trans (hb.mono HWB.out.size))
 clear hb hoe HIMP HPT
 obtain ⟨z2, hz2⟩ : ∃ z, z = w3.alloc (.cells #[.slice xe rs.length ce] 26) := ⟨_, rfl⟩
 have hbz : Below w3.heap.size w3 z2 := by subst hz2; exact (Below.refl _ _).alloc (Nat.le_refl _) _
 have HE : Hid (CellsAt w3.heap.size [.slice xe rs.length ce] z2) := by subst hz2; exact CellsAt.new w3 _ _
 have HZ := Lib.hid hz2
 replace HX := Lib.hid (HX.out.below hbz)
 replace HRC := Lib.hid (HRC.out.below hbz)
 replace HOE := Lib.hid (HOE.out.below hbz)
 replace HWB := Lib.hid (HWB.out.trans (hbz.mono HWB.out.size))
 clear hbz hz2
 go_upto_region 6 with fail
 rw [← HZ.out]
 clear HZ
 go_wp2_with fail
 refine (drawt a0 bs0.length cap0 _ (by omega) (HS.out.below HWB.out)).mono ?_
 rintro e w4 ⟨s, hsz, rfl, hb⟩
 replace HX := Lib.hid (HX.out.below hb)
 replace HRC := Lib.hid (HRC.out.below hb)
 replace HOE := Lib.hid (HOE.out.below hb)
 replace HE := Lib.hid (HE.out.below hb)
 replace HWB := Lib.hid (HWB.out.trans (hb.mono HWB.out.size))
 clear hb
 obtain ⟨⟨qs, n⟩, hps⟩ : ∃ y, parseD s = y := ⟨_, rfl⟩
 have HI2 : Hid (∀ W, Tabs W → Calls Tryz.prog 9 #[.string s] W (DescrRead (qs, n) W)) := fun W h => by
  have := pdescr_impl s W hsz h
  rw [hps] at this
  exact this
 have HS2 : Hid (∀ W, Calls Tryz.prog 11 #[.string s] W (DescrReadS (qs, n) W)) := fun W => by
  have := pdescr_spec s W hsz
  rw [hps] at this
  exact this
 obtain ⟨hqv, hq24⟩ := parseD_small s
 rw [hps] at hqv hq24
 replace hq24 : qs.length ≤ 24 := hq24
 have HQS := Lib.hid (valid_short hqv)
 have HNS := Lib.hid (norm_some s)
 rw [hps] at HNS
 have HNN := Lib.hid (norm_norm s)
 have hnz := norm_small s
 clear hps hqv
 go_wp2_with fail
 refine (HI2.out _ (HTW.out.below HWB.out)).mono ?_
 rintro e w5 ⟨xf, rs', cf, n', rfl, hpq, hof, hb⟩
 cases hpq
 have HOF := Lib.hid hof.rd
 replace HX := Lib.hid (HX.out.below hb)
 replace HRC := Lib.hid (HRC.out.below hb)
 replace HOE := Lib.hid (HOE.out.below hb)
 replace HE := Lib.hid (HE.out.below hb)
 replace HWB := Lib.hid (HWB.out.trans (hb.mono HWB.out.size))
 clear hb hof HI2
 obtain ⟨z3, hz3⟩ : ∃ z, z = w5.alloc (.cells #[.slice xf qs.length cf] 26) := ⟨_, rfl⟩
 have hbz : Below w5.heap.size w5 z3 := by subst hz3; exact (Below.refl _ _).alloc (Nat.le_refl _) _
 have HF : Hid (CellsAt w5.heap.size [.slice xf qs.length cf] z3) := by subst hz3; exact CellsAt.new w5 _ _
 have HZ := Lib.hid hz3
 replace HX := Lib.hid (HX.out.below hbz)
 replace HRC := Lib.hid (HRC.out.below hbz)
 replace HOE := Lib.hid (HOE.out.below hbz)
 replace HE := Lib.hid (HE.out.below hbz)
 replace HOF := Lib.hid (HOF.out.below hbz)
 replace HWB := Lib.hid (HWB.out.trans (hbz.mono HWB.out.size))
 clear hbz hz3
 go_upto_region 8 with fail
 rw [← HZ.out]
 clear HZ
 go_wp2_with fail
 refine (HS2.out _).mono ?_
 rintro e w6 ⟨xg, rs', cg, n', rfl, hpq, hog, hb⟩
 cases hpq
 have HOG := Lib.hid hog.rdc.rd
 replace HX := Lib.hid (HX.out.below hb)
 replace HRC := Lib.hid (HRC.out.below hb)
 replace HOE := Lib.hid (HOE.out.below hb)
 replace HE := Lib.hid (HE.out.below hb)
 replace HOF := Lib.hid (HOF.out.below hb)
 replace HF := Lib.hid (HF.out.below hb)
 replace HWB := Lib.hid (HWB.out.trans (hb.mono HWB.out.size))
 clear hb hog HS2
 obtain ⟨z4, hz4⟩ : ∃ z, z = w6.alloc (.cells #[.slice xg qs.length cg] 26) := ⟨_, rfl⟩
 have hbz : Below w6.heap.size w6 z4 := by subst hz4; exact (Below.refl _ _).alloc (Nat.le_refl _) _
 have HG : Hid (CellsAt w6.heap.size [.slice xg qs.length cg] z4) := by subst hz4; exact CellsAt.new w6 _ _
 have HZ := Lib.hid hz4
 replace HX := Lib.hid (HX.out.below hbz)
 replace HRC := Lib.hid (HRC.out.below hbz)
 replace HOE := Lib.hid (HOE.out.below hbz)
 replace HE := Lib.hid (HE.out.below hbz)
 replace HOF := Lib.hid (HOF.out.below hbz)
 replace HF := Lib.hid (HF.out.below hbz)
 replace HOG := Lib.hid (HOG.out.below hbz)
 replace HWB := Lib.hid (HWB.out.trans (hbz.mono HWB.out.size))
 clear hbz hz4
 go_upto_region 9 with fail
 rw [← HZ.out]
 clear HZ
 have hbd : Below z4.heap.size z4 z4.drew := below_drewN (Below.refl _ _) 1
 replace HX := Lib.hid (HX.out.below hbd)
 replace HRC := Lib.hid (HRC.out.below hbd)
 replace HOE := Lib.hid (HOE.out.below hbd)
 replace HE := Lib.hid (HE.out.below hbd)
 replace HOF := Lib.hid (HOF.out.below hbd)
 replace HF := Lib.hid (HF.out.below hbd)
 replace HOG := Lib.hid (HOG.out.below hbd)
 replace HG := Lib.hid (HG.out.below hbd)
 replace HWB := Lib.hid (HWB.out.trans (hbd.mono HWB.out.size))
 clear hbd
 have hss : Hid (sameD rs rs = true) := (sameD_iff rs rs).2 rfl
 have hsq : Hid (sameD qs qs = true) := (sameD_iff qs qs).2 rfl
 obtain ⟨dA, hdA⟩ : ∃ d, d = w1.heap.size := ⟨_, rfl⟩
 obtain ⟨dE, hdE⟩ : ∃ d, d = w3.heap.size := ⟨_, rfl⟩
 obtain ⟨dF, hdF⟩ : ∃ d, d = w5.heap.size := ⟨_, rfl⟩
 obtain ⟨dG, hdG⟩ : ∃ d, d = w6.heap.size := ⟨_, rfl⟩
 rw [← hdA] at HX ⊢
 rw [← hdE] at HE ⊢
 rw [← hdF] at HF ⊢
 rw [← hdG] at HG ⊢
 clear hdA hdE hdF hdG
 have gn : ((n : Int) != (n : Int)) = false := by simp
 have gr : ((rs.length : Int) != (rs.length : Int)) = false := by simp
 have g0 : (((0 : Nat) : Int) != 0) = false := rfl
 go_region_held3 (fun W => W.cell? ⟨dA, 0, none⟩ = some (.slice x rs.length cp) ∧ W.cell? ⟨dE, 0, none⟩ = some (.slice xe rs.length ce) ∧ W.cell? ⟨dF, 0, none⟩ = some (.slice xf qs.length cf) ∧ W.cell? ⟨dG, 0, none⟩ = some (.slice xg qs.length cg)) (exact ⟨(HX.out 0 _ rfl).1, (HE.out 0 _ rfl).1, (HF.out 0 _ rfl).1, (HG.out 0 _ rfl).1⟩) (first | (have hseen := HSEEN.out; go_at_call 12; refine (eqd_impl xf xg qs qs cf cg _ (by omega) (by omega) HQS.out HQS.out HOF.out HOG.out).mono ?_; rintro e v2 ⟨rfl, hbn⟩; rw [hsq.out]; replace HX := Lib.hid (HX.out.below hbn); replace HRC := Lib.hid (HRC.out.below hbn); replace HOE := Lib.hid (HOE.out.below hbn); replace HE := Lib.hid (HE.out.below hbn); replace HOF := Lib.hid (HOF.out.below hbn); replace HF := Lib.hid (HF.out.below hbn); replace HOG := Lib.hid (HOG.out.below hbn); replace HG := Lib.hid (HG.out.below hbn); replace HWB := Lib.hid (HWB.out.trans (hbn.mono HWB.out.size)); clear hbn; clear hseen) | (go_at_call 12; refine (eqd_impl xe x rs rs ce cp _ (by omega) (by omega) HSH.out HSH.out HOE.out HRC.out.rd).mono ?_; rintro e v1 ⟨rfl, hbn⟩; rw [hss.out]; have HSEEN : Hid True := trivial; replace HX := Lib.hid (HX.out.below hbn); replace HRC := Lib.hid (HRC.out.below hbn); replace HOE := Lib.hid (HOE.out.below hbn); replace HE := Lib.hid (HE.out.below hbn); replace HOF := Lib.hid (HOF.out.below hbn); replace HF := Lib.hid (HF.out.below hbn); replace HOG := Lib.hid (HOG.out.below hbn); replace HG := Lib.hid (HG.out.below hbn); replace HWB := Lib.hid (HWB.out.trans (hbn.mono HWB.out.size)); clear hbn) | (go_at_call 13; refine (countc_impl t _ (by omega)).mono ?_; rintro e v3 ⟨rfl, hbn⟩; rw [HCT.out]; replace HX := Lib.hid (HX.out.below hbn); replace HRC := Lib.hid (HRC.out.below hbn); replace HOE := Lib.hid (HOE.out.below hbn); replace HE := Lib.hid (HE.out.below hbn); replace HOF := Lib.hid (HOF.out.below hbn); replace HF := Lib.hid (HF.out.below hbn); replace HOG := Lib.hid (HOG.out.below hbn); replace HG := Lib.hid (HG.out.below hbn); replace HWB := Lib.hid (HWB.out.trans (hbn.mono HWB.out.size)); clear hbn))
 all_goals (
  clear HX HRC HOE HE HOF HF HOG HG hss hsq HSEEN gr g0 HCT HQS HSH
  have HNI : Hid (∀ u W, u.size ≤ 1048576 → Tabs W → Calls Tryz.prog 14 #[.string u] W fun e w' => e = .returned (.string (normT u)) ∧ Below W.heap.size W w') := fun u W h1 h2 => norm_impl u W h1 h2
  have gt := str_eq (rfl : t = t)
  go_wp2_with fail
  refine (HNI.out t _ (by omega) (HTW.out.below HWB.out)).mono ?_
  rintro e v4 ⟨rfl, hbn⟩
  rw [HNT.out]
  replace HWB := Lib.hid (HWB.out.trans (hbn.mono HWB.out.size))
  clear hbn
  obtain ⟨ns, hns⟩ : ∃ u, u = normT s := ⟨_, rfl⟩
  rw [← hns] at HNS HNN hnz
  have HNE := Lib.hid hns
  clear hns
  have gs := str_eq (rfl : ns = ns)
  go_wp2_with fail
  refine (HNI.out s _ (by omega) (HTW.out.below HWB.out)).mono ?_
  rintro e v5 ⟨rfl, hbn⟩
  rw [← HNE.out]
  replace HWB := Lib.hid (HWB.out.trans (hbn.mono HWB.out.size))
  clear hbn
  go_wp2_with fail
  refine (HNI.out ns _ (by omega) (HTW.out.below HWB.out)).mono ?_
  rintro e v5 ⟨rfl, hbn⟩
  rw [HNN.out]
  replace HWB := Lib.hid (HWB.out.trans (hbn.mono HWB.out.size))
  clear hbn
  go_wp2_with fail
  refine (HNI.out s _ (by omega) (HTW.out.below HWB.out)).mono ?_
  rintro e v5 ⟨rfl, hbn⟩
  rw [← HNE.out]
  replace HWB := Lib.hid (HWB.out.trans (hbn.mono HWB.out.size))
  clear hbn
  by_cases h0 : n = 0
  ·have hq0 : ns ≠ ⟨#[]⟩ := HNS.out.1 h0
   have ge : ns.toList.isEmpty = false := str_some hq0
   have gn0 : ((n : Int) == 0) = true := by simp [h0]
   clear hq0 h0 HNS
   go_wp2_with fail
   refine (HNI.out s _ (by omega) (HTW.out.below HWB.out)).mono ?_
   rintro e v6 ⟨rfl, hbn⟩
   rw [← HNE.out]
   replace HWB := Lib.hid (HWB.out.trans (hbn.mono HWB.out.size))
   clear hbn
   go_wp2
   go_ret
   exact ⟨rfl, HWB.out⟩
  ·have hq0 : ns = ⟨#[]⟩ := Classical.byContradiction fun e => h0 (HNS.out.2 e)
   have ge : ns.toList.isEmpty = true := str_none hq0
   have gn0 : ((n : Int) == 0) = false := by simp [h0]
   clear hq0 h0 HNS
   go_wp2_with fail
   refine (HNI.out s _ (by omega) (HTW.out.below HWB.out)).mono ?_
   rintro e v6 ⟨rfl, hbn⟩
   rw [← HNE.out]
   replace HWB := Lib.hid (HWB.out.trans (hbn.mono HWB.out.size))
   clear hbn
   go_wp2
   go_ret
   exact ⟨rfl, HWB.out⟩)
theorem walk (a0 : Option Addr) (bs0 : List UInt8) (cap0 : Nat) (w : World) (r0 : Arg a0 bs0 cap0 w) (ht : Tabs w) :
  Calls Tryz.prog 3 #[.slice a0 bs0.length cap0] w fun e w' => e = .returned (.bool true) ∧ Below w.heap.size w w' := by
 by_cases h0 : 1048576 < bs0.length
 ·exact walk_long a0 bs0 cap0 w h0 (by have q1 := r0.2.1; have q2 := r0.2.2.2; omega)
 ·exact walk_short a0 bs0 cap0 w (by omega) r0.code ht
theorem door_met (os : Os) (args : Array Value) : laidMetH Tryz.prog Rows.fnDescriptionTextsRow.laid ((World.doorLaid Tryz.prog 400 os).forCall (fun _ _ => 0) ⟨#[], args, []⟩).memory :=
 laidMetH_of_parts3 (fuel := 8) (laidMet_of_run' 8 (by kernel_rfl) (by kernel_rfl)) (by kernel_rfl) (by kernel_rfl)
theorem of_laid {W : World} (h : laidMetH Tryz.prog Rows.fnDescriptionTextsRow.laid W) : Tabs W := tabs_of h
theorem lifted (os : Os) (started : os.Started) (H : Type) (enc : TypeId × Value → H) :
  ReturnsInHanded {} Tryz.checked os 3 .any (fun w args => (Rows.fnDescriptionTextsSpec.pre enc Tryz.prog Tryz.f3 [] false w args ∧ laidMetH Tryz.prog Rows.fnDescriptionTextsRow.laid w) ∧ sizedMet enc Tryz.prog Tryz.f3 (OpenSpec.ofChange Rows.fnDescriptionTextsSpec) false w args)
   (Rows.fnDescriptionTextsSpec.post enc Tryz.prog Tryz.f3 false true false false) := by
 refine returnsInHanded_of_change_and (C := Tryz.checked) (X := fun w _ => laidMetH Tryz.prog Rows.fnDescriptionTextsRow.laid w) (fun _ _ _ hh h => h.of_heap hh) ownL started (by kernel_rfl) Tryz.func3
  (ChangeSpec.witness_shaped (enc := enc) (C := Tryz.checked) (os := os) (X := fun w _ => laidMetH Tryz.prog Rows.fnDescriptionTextsRow.laid w) false (World.doorLaid Tryz.prog 400 os) #[.slice none 0 0] 8 rfl (World.shaped_of_RefB (by kernel_rfl) (by kernel_rfl)) (by kernel_rfl) (by kernel_rfl) (by kernel_rfl) (door_met os _)) ?_
 intro W base args ds gs before hval0 hW _ _ hL _
 have hval : ∀ (j : Nat) t v, Tryz.f3.params[j]? = some t → args[j]? = some v → Value.okWide Tryz.prog W .any base t v := hval0
 have hW' := hW
 obtain ⟨p, q, hA0, hV, rfl, hfz, hnd⟩ := hW
 have hA : DataW.TrodAll enc Tryz.prog W 0 (fun _ => true) true Tryz.f3.params.toList args.toList ds p := hA0
 rw [Tryz.params3] at hA hval
 obtain ⟨v0, vs0, d0, ds0, p0, q0, hargs, rfl, rfl, h0, r0⟩ := trodAll_cons hA
 obtain ⟨rfl, rfl, rfl⟩ := trodAll_nil r0
 obtain rfl : args = #[v0] := by cases args; simp_all
 obtain ⟨rfl, rfl⟩ := trodVars_none hV
 simp only [List.append_nil] at hW'
 have hlt : ∀ x ∈ p0, x.block < W.heap.size := fun x hx => hW'.lt x (by simpa using hx)
 obtain ⟨a0, len0, cap0, rfl⟩ := okWide_slice Tryz.underlying22 (hval 0 22 v0 rfl rfl)
 obtain ⟨bs0, rfl, hb0⟩ := bytes_arg h0
 have m0 : ∀ (W' : World), Below W.heap.size W W' → DataW.Trod enc Tryz.prog W' 0 (fun b => decide (b < W.heap.size)) true 22 (.slice a0 bs0.length cap0) d0 p0 := fun W' hn => Below.trod laidOut (by kernel_rfl) (of_decide_eq_true (by kernel_rfl)) h0 hn (fun x hx => hlt x (by simp [hx]))
 have hT := of_laid hL
 clear hA0 hval0
 refine (walk a0 bs0 cap0 W hb0 hT).mono fun e W' ⟨he, hb⟩ => ?_
 subst he
 exact ⟨_, rfl, _, _, _, [], _, [], hW', trodAll_cons_mk (shut_bool Tryz.underlying4 _) trodAll_mk0, (trodAll_cons_mk (m0 _ hb) trodAll_mk0), rfl, hb.frame _, fun h => by cases h⟩
theorem row_holds : Rows.FnDescriptionTextsSaid :=
 OpenClaim.holds_of_wide 3 Tryz.f3 rfl rfl rfl rfl rfl rfl rfl ⟨rfl, rfl, rfl, rfl, rfl⟩ rfl rfl rfl rfl rfl (by kernel_rfl) Tryz.func3 (by kernel_rfl)
  (of_decide_eq_true (by kernel_rfl)) (by unfold Func.isWrapper; first | (rw [if_pos (by decide +kernel)]; kernel_rfl) | (rw [if_neg (by decide +kernel)]; exact ⟨rfl, rfl⟩))
  (fun os started H enc _ => lifted os started H enc)
theorem proved : Rows.FnDescriptionTextsCardSaid :=
 Claim7.holds_tied_plain_at .later [] [.data, .data, .data, .sentinel, .sentinel] true Rows.fnDescriptionTextsCard.stood.harness Rows.fnDescriptionTextsCard.stood.looks
  row_holds (fun _ h => by cases h) (by kernel_rfl) (fun _ h => by cases h) fnDescriptionTexts_row_tie rfl ⟨rfl, rfl⟩ (by kernel_rfl) rfl
  (fun f fn hf hfn => by
   obtain rfl : f = 3 := Option.some.inj ((show Tryz.prog.funcNamed Rows.fnDescriptionTextsRow.func = some 3 by kernel_rfl).symm.trans hf) |>.symm
   obtain rfl : fn = Tryz.f3 := (Option.some.inj (Tryz.func3.symm.trans hfn)).symm
   exact ⟨by kernel_rfl, fun j t ht => by
    rw [Tryz.params3] at ht
    have hm : t ∈ [22] := by simpa using Array.mem_of_getElem? ht
    have hall : ([22].all fun u => !Tryz.prog.wantsStandIn u) = true := by kernel_rfl
    exact (show Tryz.prog.wantsStandIn t = false by simpa using List.all_eq_true.1 hall t hm)⟩)
  (by kernel_rfl)
end fnDescriptionTexts
#print axioms fnDescriptionTexts.proved
end Go.Proofs.YtndjefednfcmmaaGreatDoor
