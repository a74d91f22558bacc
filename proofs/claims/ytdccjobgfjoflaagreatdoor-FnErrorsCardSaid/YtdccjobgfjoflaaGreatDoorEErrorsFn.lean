/- It is proved that the law FnErrors returns true at every input of its parameter type and leaves its argument as it was (statement Rows.FnErrorsCardSaid), under no condition beyond the card's own: the four listed variables of the library read as its text lays them. -/
import Derived.Test.YtdccjobgfjoflaaGreatDoorEM7
import Derived.Test.YtdccjobgfjoflaaGreatDoorESEqV
import Derived.Test.YtdccjobgfjoflaaGreatDoorEM6
import Derived.Test.YtdccjobgfjoflaaGreatDoorEGSz
import Derived.Test.YtdccjobgfjoflaaGreatDoorCards
import Derived.Test.YtdccjobgfjoflaaGreatDoorTie
import Derived.SevenTiedAt
import Derived.Deep.RegionHeld3
import Derived.Deep.CutRange
import Derived.IntWalk
set_option maxRecDepth 100000
namespace Go.Proofs.YtdccjobgfjoflaaGreatDoor
open Go Go.ChangeShapes Go.WideShapes Go.ChangeAt Go.RowKit
namespace fnErrors
theorem big_no (a : Option Addr) (n cap : Nat) (w : World) (h : n ≤ 1048576) : Calls Tryz.prog 10 #[.slice a n cap] w fun e w' => e = .returned (.bool false) ∧ w = w' := by
 have g : ¬ (1048576 : Int) < (n : Int) := by omega
 go_enter Tryz.func10, Tryz.ntmps10
 go_wp2
 go_ret
 exact ⟨rfl, rfl⟩
theorem big_yes (a : Option Addr) (n cap : Nat) (w : World) (h : 1048576 < n) (_hm : n ≤ 9223372036854775807) : Calls Tryz.prog 10 #[.slice a n cap] w fun e w' => e = .returned (.bool true) ∧ w = w' := by
 have g : (1048576 : Int) < (n : Int) := by omega
 go_enter Tryz.func10, Tryz.ntmps10
 go_wp2
 go_ret
 exact ⟨rfl, rfl⟩
theorem walk_long (a0 : Option Addr) (bs0 : List UInt8) (cap0 : Nat) (w : World) (h : 1048576 < bs0.length) (hm : bs0.length ≤ 9223372036854775807) :
  Calls Tryz.prog 5 #[.slice a0 bs0.length cap0] w fun e w' => e = .returned (.bool true) ∧ Below w.heap.size w w' := by
 go_enter Tryz.func5, Tryz.ntmps5
 go_wp2_with fail
 refine (big_yes a0 bs0.length cap0 w h hm).mono ?_
 rintro e w1 ⟨rfl, rfl⟩
 go_wp2
 go_ret
 exact ⟨rfl, Below.refl _ _⟩
set_option maxHeartbeats 16000000 in
theorem walk_short (a0 : Option Addr) (bs0 : List UInt8) (cap0 : Nat) (w : World) (h : bs0.length ≤ 1048576) (hs : Code a0 bs0.length w) (ht : PowTab w ∧ HandleAt w) :
  Calls Tryz.prog 5 #[.slice a0 bs0.length cap0] w fun e w' => e = .returned (.bool true) ∧ Below w.heap.size w w' := by
 have HS := kq hs
 have HT := kq ht.1
 have HG := kq ht.2
 clear hs ht
 go_enter Tryz.func5, Tryz.ntmps5
 go_wp2_with fail
 refine (big_no a0 bs0.length cap0 w h).mono ?_
 rintro e w1 ⟨rfl, rfl⟩
 go_wp2_with fail
 refine (drawfile a0 bs0.length cap0 w (by omega) HS.out).mono ?_
 rintro e w1 ⟨rs, x, cp, zb, L, cz, rfl, hm, ⟨hn1, hn6⟩, hrow, hlr, hL, hb1⟩
 obtain ⟨z, hz⟩ : ∃ z, z = w1.alloc (.cells #[.slice x rs.length cp] 26) := ⟨_, rfl⟩
 have hbz : Below w1.heap.size w1 z := by subst hz; exact (Below.refl _ _).alloc (Nat.le_refl _) _
 have HX : Hid (CellsAt w1.heap.size [.slice x rs.length cp] z) := by subst hz; exact CellsAt.new w1 _ _
 have HBZ := kq (hb1.trans (hbz.mono hb1.size))
 have HRC := kq (hrow.at.below hbz)
 have HLS := kq (hlr.srcB.below hbz)
 have HSH := kq (made_short hm)
 have HSP := kq (made_spelt hm (by omega))
 have HLL := kq hL
 obtain ⟨gg, hgg⟩ : ∃ gg, gg = fileG rs L := ⟨_, rfl⟩
 have hsv : sizV (gvOf gg) ≤ 1048576 := by rw [hgg]; exact fileG_siz rs L
 have hle : gqOf gg ≤ L.length := by rw [hgg]; exact fe_le
 have hco : gcOf gg ≤ 8 := by rw [hgg]; exact fe_code
 have hlo : 400 < L.length → gqOf gg = 0 ∧ gcOf gg = 8 := fun h => by rw [hgg, fe_long h]; exact ⟨rfl, rfl⟩
 obtain ⟨v, hv⟩ : ∃ v, v = gvOf gg := ⟨_, rfl⟩
 obtain ⟨gq, hgq⟩ : ∃ x, x = gqOf gg := ⟨_, rfl⟩
 obtain ⟨gc, hgc⟩ : ∃ x, x = gcOf gg := ⟨_, rfl⟩
 have HSS : Hid (∀ W : World, RdC x rs W → SrcB zb L cz W → Calls Tryz.prog 23 #[.agg #[.slice x rs.length cp], .slice zb L.length cz] W fun e w' => ∃ cs, e = .returned (.tuple #[.agg cs.toArray, .int .i64 (gq : Int), .int .i64 (gc : Int)]) ∧ OwnV (fun b => W.heap.size ≤ b) (rs.length + 1) v cs w' ∧ Below W.heap.size W w') := fun W h1 h2 => by rw [hv, hgq, hgc, hgg]; exact (sreadfile_spec x zb rs cp cz L W (by omega) HSH.out HSP.out h1 h2 (by omega)).mono fun e w' h => ko_got h
 have HIM : Hid (∀ W : World, RdC x rs W → SrcB zb L cz W → HandleAt W → Calls Tryz.prog 19 #[.agg #[.slice x rs.length cp], .slice zb L.length cz] W fun e w' => ∃ bl cs, e = .returned (.tuple #[.agg cs.toArray, .int .i64 (gq : Int), .int .i64 (gc : Int)]) ∧ OwnT (rs.length + 1) bl v cs w' ∧ (∀ b ∈ bl, W.heap.size ≤ b) ∧ Below W.heap.size W w') := fun W h1 h2 h3 => by rw [hv, hgq, hgc, hgg]; exact (readfile_impl x zb rs cp cz L W (by omega) HSH.out HSP.out h1 h2 (by omega) h3).mono fun e w' h => ko_res h
 rw [← hv] at hsv
 rw [← hgq] at hle
 rw [← hgc] at hco
 rw [← hgq, ← hgc] at hlo
 have HSV := kq hsv
 have HLO := kq hlo
 obtain ⟨bd, hbd⟩ : ∃ D, D = w1.heap.size := ⟨_, rfl⟩
 rw [← hbd] at HX
 have HDD := kq hbd
 have hW := kq hz
 clear hz hbz hb1 hrow hlr hm HS hbd hv hgq hgc hgg hsv hlo hn1 hn6
 go_upto_region 4 with fail
 rw [← hW.out, ← HDD.out]
 clear hW HDD
 have bx := (HX.out 0 _ rfl).1
 go_wp2_with fail
 refine (HIM.out _ HRC.out HLS.out (HG.out.below HBZ.out)).mono ?_
 rintro e y1 ⟨blg, cs1, rfl, ho, -, hb⟩
 obtain ⟨a1, c1, a2, c2, rfl⟩ := ho.cells
 have HV1 := kq ho.is
 clear ho bx HIM
 replace HX := kq (HX.out.below hb)
 replace HRC := kq (HRC.out.below hb)
 replace HLS := kq (HLS.out.below hb)
 replace HBZ := kq (HBZ.out.trans (hb.mono HBZ.out.size))
 clear hb
 obtain ⟨z1, hz1⟩ : ∃ z, z = y1.alloc (.cells #[.int .i64 v.number, .slice a1 v.bytes.length c1, .slice a2 v.items.length c2] 29) := ⟨_, rfl⟩
 have hb : Below y1.heap.size y1 z1 := by subst hz1; exact (Below.refl _ _).alloc (Nat.le_refl _) _
 have hCz1 : CellsAt y1.heap.size [.int .i64 v.number, .slice a1 v.bytes.length c1, .slice a2 v.items.length c2] z1 := by subst hz1; exact CellsAt.new y1 _ _
 have Cz1 := kq hCz1
 obtain ⟨Dz1, hDz1⟩ : ∃ D, D = y1.heap.size := ⟨_, rfl⟩
 rw [← hDz1] at Cz1
 have EDz1 := kq hDz1
 have EWz1 := kq hz1
 clear hCz1 hz1 hDz1
 replace HX := kq (HX.out.below hb)
 replace HRC := kq (HRC.out.below hb)
 replace HLS := kq (HLS.out.below hb)
 replace HV1 : Hid (IsVal (rs.length + 1) v _ _) := kq (HV1.out.below hb)
 replace HBZ := kq (HBZ.out.trans (hb.mono HBZ.out.size))
 clear hb
 go_upto_region 5 with fail
 rw [← EWz1.out, ← EDz1.out]
 clear EWz1 EDz1
 have bx := (HX.out 0 _ rfl).1
 go_wp2_with fail
 refine (HSS.out _ HRC.out HLS.out).mono ?_
 rintro e y2 ⟨cs2, rfl, ho, hb⟩
 obtain ⟨a3, c3, a4, c4, rfl⟩ := ho.cells
 have HV2 := kq ho.is
 clear ho bx HSS HRC HLS HX
 replace Cz1 := kq (Cz1.out.below hb)
 replace HV1 : Hid (IsVal (rs.length + 1) v _ _) := kq (HV1.out.below hb)
 replace HBZ := kq (HBZ.out.trans (hb.mono HBZ.out.size))
 clear hb
 obtain ⟨z2, hz2⟩ : ∃ z, z = y2.alloc (.cells #[.int .i64 v.number, .slice a3 v.bytes.length c3, .slice a4 v.items.length c4] 29) := ⟨_, rfl⟩
 have hb : Below y2.heap.size y2 z2 := by subst hz2; exact (Below.refl _ _).alloc (Nat.le_refl _) _
 have hCz2 : CellsAt y2.heap.size [.int .i64 v.number, .slice a3 v.bytes.length c3, .slice a4 v.items.length c4] z2 := by subst hz2; exact CellsAt.new y2 _ _
 have Cz2 := kq hCz2
 obtain ⟨Dz2, hDz2⟩ : ∃ D, D = y2.heap.size := ⟨_, rfl⟩
 rw [← hDz2] at Cz2
 have EDz2 := kq hDz2
 have EWz2 := kq hz2
 clear hCz2 hz2 hDz2
 replace Cz1 := kq (Cz1.out.below hb)
 replace HV1 : Hid (IsVal (rs.length + 1) v _ _) := kq (HV1.out.below hb)
 replace HV2 : Hid (IsVal (rs.length + 1) v _ _) := kq (HV2.out.below hb)
 replace HBZ := kq (HBZ.out.trans (hb.mono HBZ.out.size))
 clear hb
 go_upto_region 6 with fail
 rw [← EWz2.out, ← EDz2.out]
 clear EWz2 EDz2
 have q1 : ((gq : Int) != (gq : Int)) = false := by simp
 have q2 : ((gc : Int) != (gc : Int)) = false := by simp
 have d0 := (Cz1.out 0 _ rfl).1
 have d1 := (Cz1.out 1 _ rfl).1
 have d2 := (Cz1.out 2 _ rfl).1
 have t0 := (Cz2.out 0 _ rfl).1
 have t1 := (Cz2.out 1 _ rfl).1
 have t2 := (Cz2.out 2 _ rfl).1
 have HEQ : Hid (∀ W, IsVal (rs.length + 1) v [.int .i64 v.number, .slice a1 v.bytes.length c1, .slice a2 v.items.length c2] W → IsVal (rs.length + 1) v [.int .i64 v.number, .slice a3 v.bytes.length c3, .slice a4 v.items.length c4] W → Calls Tryz.prog 17 #[.agg #[.int .i64 v.number, .slice a1 v.bytes.length c1, .slice a2 v.items.length c2], .agg #[.int .i64 v.number, .slice a3 v.bytes.length c3, .slice a4 v.items.length c4]] W fun e w' => e = .returned (.bool true) ∧ Below W.heap.size W w') := fun W h1 h2 => (seq_value _ _ v v _ _ W h1 h2 HSV.out HSV.out).mono fun e w' h => by
  obtain ⟨⟨r, he, hr⟩, hb⟩ := h
  exact ⟨by rw [he, hr.2 rfl], hb⟩
 go_wp2_with fail
 refine (HEQ.out _ HV1.out HV2.out).mono ?_
 rintro e y3 ⟨rfl, hb⟩
 replace HBZ := kq (HBZ.out.trans (hb.mono HBZ.out.size))
 clear hb d0 d1 d2 t0 t1 t2 HV1 HV2 Cz1 Cz2 HEQ
 by_cases hlong : 400 < L.length
 ·obtain ⟨rfl, rfl⟩ := HLO.out hlong
  have g1 : (L.length : Int) > 400 := by omega
  go_wp2
  go_ret
  exact ⟨rfl, HBZ.out⟩
 ·have g1 : ¬ (L.length : Int) > 400 := by omega
  have g2 : (gq : Int) ≥ 0 := by omega
  have g3 : (gq : Int) ≤ (L.length : Int) := by omega
  have gq2 : (gq : Int) ≤ 9223372036854775807 := by have := HLL.out; omega
  obtain ⟨en, hen⟩ : ∃ s, s = errName (gc : Int) := ⟨_, rfl⟩
  obtain ⟨ed, hed⟩ : ∃ s, s = descErr (gq : Int) (gc : Int) := ⟨_, rfl⟩
  have hne : en.toList.isEmpty = false := by rw [hen]; exact fe_name hco
  have hde : (ed.toList == [111, 107]) = ((gc : Int) == 0) := by rw [hed]; exact fe_descr _ hco
  have HEN : Hid (∀ W, Calls Tryz.prog 24 #[.int .i64 (gc : Int)] W fun e w' => e = .returned (.string en) ∧ Below W.heap.size W w') := fun W => by rw [hen]; exact errname_impl _ W
  have HED : Hid (∀ W, PowTab W → Calls Tryz.prog 25 #[.int .i64 (gq : Int), .int .i64 (gc : Int)] W fun e w' => e = .returned (.string ed) ∧ Below W.heap.size W w') := fun W h => by rw [hed]; exact desce_impl _ _ W (by omega) gq2 h
  obtain ⟨bz, hbz⟩ : ∃ b, b = ((gc : Int) == 0) := ⟨_, rfl⟩
  rw [← hbz] at hde
  clear hen hed
  go_wp2_with fail
  refine (HEN.out _).mono ?_
  rintro e y4 ⟨rfl, hb⟩
  replace HBZ := kq (HBZ.out.trans (hb.mono HBZ.out.size))
  clear hb
  go_wp2_with fail
  refine (HED.out _ (HT.out.below HBZ.out)).mono ?_
  rintro e y5 ⟨rfl, hb⟩
  replace HBZ := kq (HBZ.out.trans (hb.mono HBZ.out.size))
  clear hb
  have HF := HBZ
  go_wp2
  go_ret
  exact ⟨ret_bool (by simp), HF.out⟩
theorem walk (a0 : Option Addr) (bs0 : List UInt8) (cap0 : Nat) (w : World) (r0 : Arg a0 bs0 cap0 w) (ht : PowTab w ∧ HandleAt w) :
  Calls Tryz.prog 5 #[.slice a0 bs0.length cap0] w fun e w' => e = .returned (.bool true) ∧ Below w.heap.size w w' := by
 by_cases h0 : 1048576 < bs0.length
 ·exact walk_long a0 bs0 cap0 w h0 (by have q1 := r0.2.1; have q2 := r0.2.2.2; omega)
 ·exact walk_short a0 bs0 cap0 w (by omega) r0.code ht
theorem door_met (os : Os) (args : Array Value) : laidMetH Tryz.prog Rows.fnErrorsRow.laid ((World.doorLaid Tryz.prog 400 os).forCall (fun _ _ => 0) ⟨#[], args, []⟩).memory :=
 laidMetH_of_parts3 (fuel := 8) (laidMet_of_run' 8 (by kernel_rfl) (by kernel_rfl)) (by kernel_rfl) (by kernel_rfl)
theorem of_laid {W : World} (h : laidMetH Tryz.prog Rows.fnErrorsRow.laid W) : PowTab W ∧ HandleAt W := both_of_laid h
theorem lifted (os : Os) (started : os.Started) (H : Type) (enc : TypeId × Value → H) :
  ReturnsInHanded {} Tryz.checked os 5 .any (fun w args => (Rows.fnErrorsSpec.pre enc Tryz.prog Tryz.f5 [] false w args ∧ laidMetH Tryz.prog Rows.fnErrorsRow.laid w) ∧ sizedMet enc Tryz.prog Tryz.f5 (OpenSpec.ofChange Rows.fnErrorsSpec) false w args)
   (Rows.fnErrorsSpec.post enc Tryz.prog Tryz.f5 false true false false) := by
 refine returnsInHanded_of_change_and (C := Tryz.checked) (X := fun w _ => laidMetH Tryz.prog Rows.fnErrorsRow.laid w) (fun _ _ _ hh h => h.of_heap hh) ownL started (by kernel_rfl) Tryz.func5
  (ChangeSpec.witness_shaped (enc := enc) (C := Tryz.checked) (os := os) (X := fun w _ => laidMetH Tryz.prog Rows.fnErrorsRow.laid w) false (World.doorLaid Tryz.prog 400 os) #[.slice none 0 0] 8 rfl (World.shaped_of_RefB (by kernel_rfl) (by kernel_rfl)) (by kernel_rfl) (by kernel_rfl) (by kernel_rfl) (door_met os _)) ?_
 intro W base args ds gs before hval0 hW _ _ hL _
 have hval : ∀ (j : Nat) t v, Tryz.f5.params[j]? = some t → args[j]? = some v → Value.okWide Tryz.prog W .any base t v := hval0
 have hW' := hW
 obtain ⟨p, q, hA0, hV, rfl, hfz, hnd⟩ := hW
 have hA : DataW.TrodAll enc Tryz.prog W 0 (fun _ => true) true Tryz.f5.params.toList args.toList ds p := hA0
 rw [Tryz.params5] at hA hval
 obtain ⟨v0, vs0, d0, ds0, p0, q0, hargs, rfl, rfl, h0, r0⟩ := trodAll_cons hA
 obtain ⟨rfl, rfl, rfl⟩ := trodAll_nil r0
 obtain rfl : args = #[v0] := by cases args; simp_all
 obtain ⟨rfl, rfl⟩ := trodVars_none hV
 simp only [List.append_nil] at hW'
 have hlt : ∀ x ∈ p0, x.block < W.heap.size := fun x hx => hW'.lt x (by simpa using hx)
 obtain ⟨a0, len0, cap0, rfl⟩ := okWide_slice Tryz.underlying22 (hval 0 22 v0 rfl rfl)
 obtain ⟨bs0, rfl, hb0⟩ := bytes_arg h0
 have m0 : ∀ (W' : World), Below W.heap.size W W' → DataW.Trod enc Tryz.prog W' 0 (fun b => decide (b < W.heap.size)) true 22 (.slice a0 bs0.length cap0) d0 p0 := fun W' hn => Below.trod laidOut (by kernel_rfl) (of_decide_eq_true (by kernel_rfl)) h0 hn (fun x hx => hlt x (by simp [hx]))
 have hT := of_laid hL
 clear hA0 hval0
 refine (walk a0 bs0 cap0 W hb0 hT).mono fun e W' ⟨he, hb⟩ => ?_
 subst he
 exact ⟨_, rfl, _, _, _, [], _, [], hW', trodAll_cons_mk (shut_bool Tryz.underlying4 _) trodAll_mk0, (trodAll_cons_mk (m0 _ hb) trodAll_mk0), rfl, hb.frame _, fun h => by cases h⟩
theorem row_holds : Rows.FnErrorsSaid :=
 OpenClaim.holds_of_wide 5 Tryz.f5 rfl rfl rfl rfl rfl rfl rfl ⟨rfl, rfl, rfl, rfl, rfl⟩ rfl rfl rfl rfl rfl (by kernel_rfl) Tryz.func5 (by kernel_rfl)
  (of_decide_eq_true (by kernel_rfl)) (by unfold Func.isWrapper; first | (rw [if_pos (by decide +kernel)]; kernel_rfl) | (rw [if_neg (by decide +kernel)]; exact ⟨rfl, rfl⟩))
  (fun os started H enc _ => lifted os started H enc)
theorem proved : Rows.FnErrorsCardSaid :=
 Claim7.holds_tied_plain_at .later [] [.data, .data, .data, .handle] true Rows.fnErrorsCard.stood.harness Rows.fnErrorsCard.stood.looks
  row_holds (fun _ h => by cases h) (by kernel_rfl) (fun _ h => by cases h) fnErrors_row_tie rfl ⟨rfl, rfl⟩ (by kernel_rfl) rfl
  (fun f fn hf hfn => by
   obtain rfl : f = 5 := Option.some.inj ((show Tryz.prog.funcNamed Rows.fnErrorsRow.func = some 5 by kernel_rfl).symm.trans hf) |>.symm
   obtain rfl : fn = Tryz.f5 := (Option.some.inj (Tryz.func5.symm.trans hfn)).symm
   exact ⟨by kernel_rfl, fun j t ht => by
    rw [Tryz.params5] at ht
    have hm : t ∈ [22] := by simpa using Array.mem_of_getElem? ht
    have hall : ([22].all fun u => !Tryz.prog.wantsStandIn u) = true := by kernel_rfl
    exact (show Tryz.prog.wantsStandIn t = false by simpa using List.all_eq_true.1 hall t hm)⟩)
  (by kernel_rfl)
end fnErrors
#print axioms fnErrors.proved
end Go.Proofs.YtdccjobgfjoflaaGreatDoor
