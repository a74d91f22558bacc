/- It is proved that the law FnSizes returns true at every input of its parameter type and leaves its argument as it was (statement Rows.FnSizesSaid), with no condition. -/
import Derived.Test.YtfmnjclnhppghaaFacts
import Derived.Test.YtfmnjclnhppghaaDrawV
import Derived.Test.YtfmnjclnhppghaaEncLen
import Derived.Test.YtfmnjclnhppghaaSizeImpl
import Derived.Test.YtfmnjclnhppghaaRowK
import Derived.Test.YtfmnjclnhppghaaDescrP
import Derived.Test.YtfmnjclnhppghaaGSz
import Derived.Deep.RegionHeld3
import Derived.Deep.CutRange
import Derived.IntWalk
set_option maxRecDepth 100000
namespace Go.Proofs.Ytfmnjclnhppghaa
open Go Go.ChangeShapes Go.WideShapes Go.ChangeAt Go.RowKit
namespace fnSizes
theorem big_no (a : Option Addr) (n cap : Nat) (w : World) (h : n ≤ 1048576) : Calls Try.prog 32 #[.slice a n cap] w fun e w' => e = .returned (.bool false) ∧ w = w' := by
 have g : ¬ (1048576 : Int) < (n : Int) := by omega
 go_enter Try.func32, Try.ntmps32
 go_wp2
 go_ret
 exact ⟨rfl, rfl⟩
theorem big_yes (a : Option Addr) (n cap : Nat) (w : World) (h : 1048576 < n) (_hm : n ≤ 9223372036854775807) : Calls Try.prog 32 #[.slice a n cap] w fun e w' => e = .returned (.bool true) ∧ w = w' := by
 have g : (1048576 : Int) < (n : Int) := by omega
 go_enter Try.func32, Try.ntmps32
 go_wp2
 go_ret
 exact ⟨rfl, rfl⟩
theorem walk_long (a0 : Option Addr) (bs0 : List UInt8) (cap0 : Nat) (w : World) (h : 1048576 < bs0.length) (hm : bs0.length ≤ 9223372036854775807) :
  Calls Try.prog 9 #[.slice a0 bs0.length cap0] w fun e w' => e = .returned (.bool true) ∧ Below w.heap.size w w' := by
 go_enter Try.func9, Try.ntmps9
 go_wp2_with fail
 refine (big_yes a0 bs0.length cap0 w h hm).mono ?_
 rintro e w1 ⟨rfl, rfl⟩
 go_wp2
 go_ret
 exact ⟨rfl, Below.refl _ _⟩
theorem len_of {rs : List RuleV} (hv : allV (kindI rs) rs) (h1 : 1 ≤ rs.length) (h24 : rs.length ≤ 24) {kk : Nat} (hk : kk < rs.length) {v : ValueV} (hm : MadeVal rs kk v) :
  1 ≤ sizeD minStep rs (kk : Int) ∧ (0 ≤ lenV rs (kk : Int) v → sizeD minStep rs (kk : Int) ≤ lenV rs (kk : Int) v ∧ lenV rs (kk : Int) v ≤ sizeD (maxStep rs) rs (kk : Int)) ∧ (fixedD rs (kk : Int) = true → sizeD minStep rs (kk : Int) = sizeD (maxStep rs) rs (kk : Int)) := by
 have hok : okAt rs (kk : Int) = true := by unfold okAt; rw [decide_eq_true (by omega), descrB_yes ⟨h1, h24⟩ hv]; rfl
 rw [sizeD_yes hok, sizeD_yes hok]
 refine ⟨low_pos hv kk hk, fun h0 => ?_, fun hf => ?_⟩
 ·unfold lenV at h0 ⊢
  split at h0
  ·rename_i hp
   rw [if_pos hp]
   unfold printB at hp
   rw [Bool.and_eq_true] at hp
   have h4 := of_decide_eq_true hp.2
   have h5 := plen_low hv kk hk v hm.1
   have h6 := plen_high hv kk hk v hm.1
   omega
  ·omega
 ·unfold fixedD at hf
  have h2 := of_decide_eq_true hf
  rw [sizeD_yes hok, sizeD_yes hok] at h2
  exact h2.2.1
theorem depth_of {rs : List RuleV} (hv : allV (kindI rs) rs) (h1 : 1 ≤ rs.length) (h24 : rs.length ≤ 24) {n : Nat} (hn : n < rs.length) {k : Int} (hk : k ∈ rs[n].kids) : sizeD depthStep rs k < sizeD depthStep rs (n : Int) := by
 have h2 := allV_kids hv hn k hk
 have hd := descrB_yes ⟨h1, h24⟩ hv
 rw [sizeD_yes (by unfold okAt; rw [decide_eq_true (by omega), hd]; rfl), sizeD_yes (by unfold okAt; rw [decide_eq_true (by omega), hd]; rfl)]
 exact depth_kid hv hn hk
theorem ends_of (rs : List RuleV) : sizeD minStep rs (-1) = 0 ∧ sizeD (maxStep rs) rs (rs.length : Int) = 0 :=
 ⟨sizeD_no (by unfold okAt; rw [decide_eq_false (by omega)]; rfl), sizeD_no (by unfold okAt; rw [decide_eq_false (by omega)]; rfl)⟩
set_option maxHeartbeats 16000000 in
theorem walk_short (a0 : Option Addr) (bs0 : List UInt8) (cap0 : Nat) (w : World) (h : bs0.length ≤ 1048576) (hs : Code a0 bs0.length w) :
  Calls Try.prog 9 #[.slice a0 bs0.length cap0] w fun e w' => e = .returned (.bool true) ∧ Below w.heap.size w w' := by
 have HS := Lib.hid hs
 clear hs
 go_enter Try.func9, Try.ntmps9
 go_wp2_with fail
 refine (big_no a0 bs0.length cap0 w h).mono ?_
 rintro e w1 ⟨rfl, rfl⟩
 go_wp2_with fail
 refine (drawv a0 bs0.length cap0 w (by omega) HS.out).mono ?_
 rintro e w1 ⟨rs, x, cp, v, cs, rfl, hm, ⟨hn1, hn6⟩, hrow, hmv, hval, hb1⟩
 obtain ⟨ab, cb, ai, ci, rfl⟩ := hval.cells
 obtain ⟨z, hz⟩ : ∃ z, z = (w1.alloc (.cells #[.slice x rs.length cp] 35)).alloc (.cells #[.int .i64 v.number, .slice ab v.bytes.length cb, .slice ai v.items.length ci] 39) := ⟨_, rfl⟩
 have hbz : Below w1.heap.size w1 z := by subst hz; exact ((Below.refl _ _).alloc (Nat.le_refl _) _).alloc (by simp) _
 have HX : Hid (CellsAt w1.heap.size [.slice x rs.length cp] z) := by subst hz; exact (CellsAt.new w1 _ _).below ((Below.refl _ _).alloc (Nat.le_refl _) _)
 have HV3 : Hid (CellsAt (w1.heap.size + 1) [.int .i64 v.number, .slice ab v.bytes.length cb, .slice ai v.items.length ci] z) := by subst hz; have h1 := CellsAt.new (w1.alloc (.cells #[.slice x rs.length cp] 35)) [.int .i64 v.number, .slice ab v.bytes.length cb, .slice ai v.items.length ci] 39; rw [World.size_alloc] at h1; exact h1
 have HBZ := Lib.hid (hb1.trans (hbz.mono hb1.size))
 have HRK := Lib.hid (hrow.rdk.below hbz)
 have HVL := Lib.hid (hval.below hbz)
 have hval2 := made_valid hm (by omega)
 have HSH := Lib.hid (made_short hm)
 have HSP := Lib.hid (made_spelt hm (by omega))
 obtain ⟨kk, hkk⟩ : ∃ kk : Nat, kk + 1 = rs.length := ⟨rs.length - 1, by omega⟩
 rw [show rs.length - 1 = kk from by omega] at hmv
 have hkr : kk < rs.length := by omega
 have hk1 : (rs.length : Int) - 1 = (kk : Int) := by omega
 have hwk : IntKind.i64.wrap (kk : Int) = (kk : Int) := IntWalk.i64_in _ (by omega)
 obtain ⟨hlow, hlen, hfix⟩ := len_of hval2 hn1 (by omega) hkr hmv
 have HDP : Hid (∀ n (hn : n < rs.length), ∀ k ∈ rs[n].kids, sizeD depthStep rs k < sizeD depthStep rs (n : Int)) := fun n hn k hk => depth_of hval2 hn1 (by omega) hn hk
 have HEL : Hid (∀ W, RdK x rs W → IsVal rs.length v [.int .i64 v.number, .slice ab v.bytes.length cb, .slice ai v.items.length ci] W → Calls Try.prog 25 #[.agg #[.slice x rs.length cp], .int .i64 (kk : Int), .agg #[.int .i64 v.number, .slice ab v.bytes.length cb, .slice ai v.items.length ci]] W fun e w' => e = .returned (.int .i64 (lenV rs (kk : Int) v)) ∧ Below W.heap.size W w') := fun W h1 h2 => elen_spec x rs cp rs.length (kk : Int) v _ W (by omega) HSH.out HSP.out h1.rdc h2 (made_short9 hmv (by omega))
 have HLO : Hid (∀ k W, RdK x rs W → Calls Try.prog 43 #[.agg #[.slice x rs.length cp], .int .i64 k] W fun e w' => e = .returned (.int .i64 (sizeD minStep rs k)) ∧ Below W.heap.size W w') := fun k W h1 => minsize_impl x rs cp k W (by omega) HSH.out HSP.out h1
 have HHI : Hid (∀ k W, RdK x rs W → Calls Try.prog 44 #[.agg #[.slice x rs.length cp], .int .i64 k] W fun e w' => e = .returned (.int .i64 (sizeD (maxStep rs) rs k)) ∧ Below W.heap.size W w') := fun k W h1 => maxsize_impl x rs cp k W (by omega) HSH.out HSP.out h1
 have HFI : Hid (∀ W, RdK x rs W → Calls Try.prog 45 #[.agg #[.slice x rs.length cp], .int .i64 (kk : Int)] W fun e w' => e = .returned (.bool (fixedD rs (kk : Int))) ∧ Below W.heap.size W w') := fun W h1 => fixed_impl x rs cp (kk : Int) W (by omega) HSH.out HSP.out h1
 have HDE : Hid (∀ k W, RdK x rs W → Calls Try.prog 46 #[.agg #[.slice x rs.length cp], .int .i64 k] W fun e w' => e = .returned (.int .i64 (sizeD depthStep rs k)) ∧ Below W.heap.size W w') := fun k W h1 => depth_impl x rs cp k W (by omega) HSH.out HSP.out h1
 obtain ⟨he1, he2⟩ := ends_of rs
 have HE1 := Lib.hid he1
 have HE2 := Lib.hid he2
 generalize lenV rs (kk : Int) v = n at hlen HEL
 generalize hlo : sizeD minStep rs (kk : Int) = low at hlow hlen hfix
 generalize hhi : sizeD (maxStep rs) rs (kk : Int) = high at hlen hfix
 generalize hfx : fixedD rs (kk : Int) = fx at hfix HFI
 have HLOW := Lib.hid hlo
 have HHIGH := Lib.hid hhi
 have HLEN := Lib.hid hlen
 have HFIX := Lib.hid hfix
 have hW := Lib.hid hz
 obtain ⟨D, hD⟩ : ∃ D, D = w1.heap.size := ⟨_, rfl⟩
 rw [← hD] at HX HV3
 have HDD := Lib.hid hD
 clear hz hbz hb1 hrow hm HS hD hmv hval hval2 he1 he2 hlo hhi hfx hkk hlen hfix
 go_upto_region 4 with fail
 rw [← hW.out, ← HDD.out]
 clear hW HDD
 have bx := (HX.out 0 _ rfl).1
 have v0 := (HV3.out 0 _ rfl).1
 have v1 := (HV3.out 1 _ rfl).1
 have v2 := (HV3.out 2 _ rfl).1
 go_wp2_with fail
 refine (HEL.out _ HRK.out HVL.out).mono ?_
 rintro e y1 ⟨rfl, hb1⟩
 replace HX := Lib.hid (HX.out.below hb1)
 replace HV3 := Lib.hid (HV3.out.below hb1)
 replace HRK := Lib.hid (HRK.out.below hb1)
 replace HVL : Hid (IsVal rs.length v _ _) := HVL.out.below hb1
 replace HBZ := Lib.hid (HBZ.out.trans (hb1.mono HBZ.out.size))
 clear hb1 bx v0 v1 v2 HEL
 have bx := (HX.out 0 _ rfl).1
 go_wp2_with fail
 refine (HLO.out _ _ HRK.out).mono ?_
 rintro e y2 ⟨rfl, hb2⟩
 rw [HLOW.out]
 replace HX := Lib.hid (HX.out.below hb2)
 replace HV3 := Lib.hid (HV3.out.below hb2)
 replace HRK := Lib.hid (HRK.out.below hb2)
 replace HVL : Hid (IsVal rs.length v _ _) := HVL.out.below hb2
 replace HBZ := Lib.hid (HBZ.out.trans (hb2.mono HBZ.out.size))
 clear hb2 bx
 have bx := (HX.out 0 _ rfl).1
 go_wp2_with fail
 refine (HHI.out _ _ HRK.out).mono ?_
 rintro e y3 ⟨rfl, hb3⟩
 rw [HHIGH.out]
 replace HX := Lib.hid (HX.out.below hb3)
 replace HV3 := Lib.hid (HV3.out.below hb3)
 replace HRK := Lib.hid (HRK.out.below hb3)
 replace HVL : Hid (IsVal rs.length v _ _) := HVL.out.below hb3
 replace HBZ := Lib.hid (HBZ.out.trans (hb3.mono HBZ.out.size))
 clear hb3 bx
 have bx := (HX.out 0 _ rfl).1
 have g1 : ¬ low < 1 := by omega
 by_cases hn0 : 0 ≤ n
 ·have hle := HLEN.out hn0
  have g2 : ¬ n < low := by omega
  have g3 : ¬ high < n := by omega
  go_wp2_with fail
  refine (HFI.out _ HRK.out).mono ?_
  rintro e y4 ⟨rfl, hb4⟩
  replace HX := Lib.hid (HX.out.below hb4)
  replace HRK := Lib.hid (HRK.out.below hb4)
  replace HBZ := Lib.hid (HBZ.out.trans (hb4.mono HBZ.out.size))
  clear hb4 bx HV3 HVL
  have bx := (HX.out 0 _ rfl).1
  cases fx with
  | false =>
   have HB0 := Lib.hid (Below.refl y4.heap.size y4)
   clear bx
   go_wp2
   go_loopw [9] (fun i W => ∃ n : Nat, n ≤ rs.length ∧ i = .int .i64 n ∧ Hid (Below y4.heap.size y4 W)) (fun i _ => rs.length - (intOf i).toNat)
   case atStart => exact ⟨0, Nat.zero_le _, rfl, HB0⟩
   case round =>
    obtain ⟨n, hnl, rfl, hb⟩ := hrel
    have n0 : (0 : Int) ≤ (n : Int) := by omega
    have bx := (HX.out.below hb.out 0 _ rfl).1
    by_cases hlt : n < rs.length
    ·have n1 : (n : Int) < (rs.length : Int) := by omega
     obtain ⟨b0, off, a4, c4, a5, c5, a6, c6, a7, c7, hx, ⟨d0, d1, d2, d3, d4, d5, d6, d7⟩, r4, r5, r6, r7⟩ := HRK.out.rd.at n hlt
     subst hx
     have hsh : rs[n].kids.length ≤ 1048576 := (HSH.out _ (List.getElem_mem hlt)).2.2.2
     have HKU := Lib.hid (HDP.out n hlt)
     obtain ⟨ks, hks⟩ : ∃ ks, ks = rs[n].kids := ⟨_, rfl⟩
     rw [← hks] at d7 r7 HKU hsh
     have HR7 := Lib.hid r7
     have HD7 := Lib.hid d7
     clear hks d0 d1 d2 d3 d4 d5 d6 d7 r4 r5 r6 r7
     obtain ⟨di, hdi⟩ : ∃ z, z = sizeD depthStep rs (n : Int) := ⟨_, rfl⟩
     rw [← hdi] at HKU
     have HDI := Lib.hid hdi
     clear hdi
     go_wp2
     go_loopw [10] (fun i W => ∃ l : Nat, l ≤ ks.length ∧ i = .int .i64 l ∧ Hid (Below y4.heap.size y4 W)) (fun i _ => ks.length - (intOf i).toNat)
     case atStart => exact ⟨0, Nat.zero_le _, rfl, hb⟩
     case round =>
      clear hb bx
      obtain ⟨l, hll, rfl, hb⟩ := hrel
      have l0 : (0 : Int) ≤ (l : Int) := by omega
      have bx := (HX.out.below hb.out 0 _ rfl).1
      have b7c := cell_keep hb.out HD7.out
      by_cases hl2 : l < ks.length
      ·have l1 : (l : Int) < (ks.length : Int) := by omega
       have hin := Lib.hid (HKU.out _ (List.getElem_mem hl2))
       obtain ⟨b7, o7, ha7, hc7⟩ := HR7.out.cellAt hl2
       subst ha7
       have HC7 := Lib.hid hc7
       generalize ks[l] = kid at HC7 hin
       clear hc7
       obtain ⟨dk, hdk⟩ : ∃ z, z = sizeD depthStep rs kid := ⟨_, rfl⟩
       rw [← hdk] at hin
       have HDK := Lib.hid hdk
       clear hdk
       have e1 : ¬ di ≤ dk := by have h := hin.out; omega
       have HSW : Hid (∀ W, Below y4.heap.size y4 W → W.cell? ⟨D, 0, none⟩ = some (.slice (some ⟨b0, off, none⟩) rs.length cp) ∧ W.cell? ⟨b0, off + n * 8 + 7, none⟩ = some (.slice (some ⟨b7, o7, none⟩) ks.length c7) ∧ W.cell? ⟨b7, o7 + l, none⟩ = some (.int .i64 kid)) := fun W hW => ⟨(HX.out.below hW 0 _ rfl).1, cell_keep hW HD7.out, cell_keep hW HC7.out⟩
       go_upto_region 16 with fail
       clear bx b7c
       replace hb : Hid (Below y4.heap.size y4 wr.drew) := below_drewN hb.out 1
       go_region_held3 (fun W => W.cell? ⟨D, 0, none⟩ = some (.slice (some ⟨b0, off, none⟩) rs.length cp) ∧ W.cell? ⟨b0, off + n * 8 + 7, none⟩ = some (.slice (some ⟨b7, o7, none⟩) ks.length c7) ∧ W.cell? ⟨b7, o7 + l, none⟩ = some (.int .i64 kid)) (exact HSW.out _ hb.out) (first | (go_at_call 46; refine (HDE.out kid _ (HRK.out.below hb.out)).mono ?_; rintro e y5 ⟨rfl, hb5⟩; rw [← HDK.out]; replace hb := Lib.hid (hb.out.trans (hb5.mono hb.out.size)); clear hb5) | (go_at_call 46; refine (HDE.out (n : Int) _ (HRK.out.below hb.out)).mono ?_; rintro e y6 ⟨rfl, hb6⟩; rw [← HDI.out]; replace hb := Lib.hid (hb.out.trans (hb6.mono hb.out.size)); clear hb6))
       all_goals go_wp2
       all_goals go_roundw
       all_goals first | exact ⟨l + 1, by omega, by go_num, hb⟩ | (simp [intOf]; omega)
      ·have l1 : ¬ (l : Int) < (ks.length : Int) := by omega
       go_wp2
       go_roundw
       case rel => exact ⟨n + 1, by omega, by go_num, hb⟩
       case measure => simp [intOf]; omega
    ·have n1 : ¬ (n : Int) < (rs.length : Int) := by omega
     go_wp2_with fail
     refine (HLO.out (-1) _ (HRK.out.below hb.out)).mono ?_
     rintro e y5 ⟨rfl, hb5⟩
     rw [HE1.out]
     clear bx
     have hb9 := Lib.hid (hb.out.trans (hb5.mono hb.out.size))
     clear hb5
     have bx := (HX.out.below hb9.out 0 _ rfl).1
     go_wp2_with fail
     refine (HHI.out (rs.length : Int) _ (HRK.out.below hb9.out)).mono ?_
     rintro e y6 ⟨rfl, hb6⟩
     rw [HE2.out]
     have HF := Lib.hid (HBZ.out.trans ((hb9.out.trans (hb6.mono hb9.out.size)).mono HBZ.out.size))
     clear hb6 bx
     go_wp2
     go_ret
     exact ⟨rfl, HF.out⟩
  | true =>
   have hnl : (n != low) = false := by have h1 := HFIX.out rfl; simp; omega
   have HB0 := Lib.hid (Below.refl y4.heap.size y4)
   clear bx
   go_wp2
   go_loopw [9] (fun i W => ∃ n : Nat, n ≤ rs.length ∧ i = .int .i64 n ∧ Hid (Below y4.heap.size y4 W)) (fun i _ => rs.length - (intOf i).toNat)
   case atStart => exact ⟨0, Nat.zero_le _, rfl, HB0⟩
   case round =>
    obtain ⟨n, hnl, rfl, hb⟩ := hrel
    have n0 : (0 : Int) ≤ (n : Int) := by omega
    have bx := (HX.out.below hb.out 0 _ rfl).1
    by_cases hlt : n < rs.length
    ·have n1 : (n : Int) < (rs.length : Int) := by omega
     obtain ⟨b0, off, a4, c4, a5, c5, a6, c6, a7, c7, hx, ⟨d0, d1, d2, d3, d4, d5, d6, d7⟩, r4, r5, r6, r7⟩ := HRK.out.rd.at n hlt
     subst hx
     have hsh : rs[n].kids.length ≤ 1048576 := (HSH.out _ (List.getElem_mem hlt)).2.2.2
     have HKU := Lib.hid (HDP.out n hlt)
     obtain ⟨ks, hks⟩ : ∃ ks, ks = rs[n].kids := ⟨_, rfl⟩
     rw [← hks] at d7 r7 HKU hsh
     have HR7 := Lib.hid r7
     have HD7 := Lib.hid d7
     clear hks d0 d1 d2 d3 d4 d5 d6 d7 r4 r5 r6 r7
     obtain ⟨di, hdi⟩ : ∃ z, z = sizeD depthStep rs (n : Int) := ⟨_, rfl⟩
     rw [← hdi] at HKU
     have HDI := Lib.hid hdi
     clear hdi
     go_wp2
     go_loopw [10] (fun i W => ∃ l : Nat, l ≤ ks.length ∧ i = .int .i64 l ∧ Hid (Below y4.heap.size y4 W)) (fun i _ => ks.length - (intOf i).toNat)
     case atStart => exact ⟨0, Nat.zero_le _, rfl, hb⟩
     case round =>
      clear hb bx
      obtain ⟨l, hll, rfl, hb⟩ := hrel
      have l0 : (0 : Int) ≤ (l : Int) := by omega
      have bx := (HX.out.below hb.out 0 _ rfl).1
      have b7c := cell_keep hb.out HD7.out
      by_cases hl2 : l < ks.length
      ·have l1 : (l : Int) < (ks.length : Int) := by omega
       have hin := Lib.hid (HKU.out _ (List.getElem_mem hl2))
       obtain ⟨b7, o7, ha7, hc7⟩ := HR7.out.cellAt hl2
       subst ha7
       have HC7 := Lib.hid hc7
       generalize ks[l] = kid at HC7 hin
       clear hc7
       obtain ⟨dk, hdk⟩ : ∃ z, z = sizeD depthStep rs kid := ⟨_, rfl⟩
       rw [← hdk] at hin
       have HDK := Lib.hid hdk
       clear hdk
       have e1 : ¬ di ≤ dk := by have h := hin.out; omega
       have HSW : Hid (∀ W, Below y4.heap.size y4 W → W.cell? ⟨D, 0, none⟩ = some (.slice (some ⟨b0, off, none⟩) rs.length cp) ∧ W.cell? ⟨b0, off + n * 8 + 7, none⟩ = some (.slice (some ⟨b7, o7, none⟩) ks.length c7) ∧ W.cell? ⟨b7, o7 + l, none⟩ = some (.int .i64 kid)) := fun W hW => ⟨(HX.out.below hW 0 _ rfl).1, cell_keep hW HD7.out, cell_keep hW HC7.out⟩
       go_upto_region 16 with fail
       clear bx b7c
       replace hb : Hid (Below y4.heap.size y4 wr.drew) := below_drewN hb.out 1
       go_region_held3 (fun W => W.cell? ⟨D, 0, none⟩ = some (.slice (some ⟨b0, off, none⟩) rs.length cp) ∧ W.cell? ⟨b0, off + n * 8 + 7, none⟩ = some (.slice (some ⟨b7, o7, none⟩) ks.length c7) ∧ W.cell? ⟨b7, o7 + l, none⟩ = some (.int .i64 kid)) (exact HSW.out _ hb.out) (first | (go_at_call 46; refine (HDE.out kid _ (HRK.out.below hb.out)).mono ?_; rintro e y5 ⟨rfl, hb5⟩; rw [← HDK.out]; replace hb := Lib.hid (hb.out.trans (hb5.mono hb.out.size)); clear hb5) | (go_at_call 46; refine (HDE.out (n : Int) _ (HRK.out.below hb.out)).mono ?_; rintro e y6 ⟨rfl, hb6⟩; rw [← HDI.out]; replace hb := Lib.hid (hb.out.trans (hb6.mono hb.out.size)); clear hb6))
       all_goals go_wp2
       all_goals go_roundw
       all_goals first | exact ⟨l + 1, by omega, by go_num, hb⟩ | (simp [intOf]; omega)
      ·have l1 : ¬ (l : Int) < (ks.length : Int) := by omega
       go_wp2
       go_roundw
       case rel => exact ⟨n + 1, by omega, by go_num, hb⟩
       case measure => simp [intOf]; omega
    ·have n1 : ¬ (n : Int) < (rs.length : Int) := by omega
     go_wp2_with fail
     refine (HLO.out (-1) _ (HRK.out.below hb.out)).mono ?_
     rintro e y5 ⟨rfl, hb5⟩
     rw [HE1.out]
     clear bx
     have hb9 := Lib.hid (hb.out.trans (hb5.mono hb.out.size))
     clear hb5
     have bx := (HX.out.below hb9.out 0 _ rfl).1
     go_wp2_with fail
     refine (HHI.out (rs.length : Int) _ (HRK.out.below hb9.out)).mono ?_
     rintro e y6 ⟨rfl, hb6⟩
     rw [HE2.out]
     have HF := Lib.hid (HBZ.out.trans ((hb9.out.trans (hb6.mono hb9.out.size)).mono HBZ.out.size))
     clear hb6 bx
     go_wp2
     go_ret
     exact ⟨rfl, HF.out⟩
 ·have g4 := hn0
  go_wp2_with fail
  refine (HFI.out _ HRK.out).mono ?_
  rintro e y4 ⟨rfl, hb4⟩
  replace HX := Lib.hid (HX.out.below hb4)
  replace HRK := Lib.hid (HRK.out.below hb4)
  replace HBZ := Lib.hid (HBZ.out.trans (hb4.mono HBZ.out.size))
  clear hb4 bx HV3 HVL
  have bx := (HX.out 0 _ rfl).1
  cases fx with
  | false =>
   have HB0 := Lib.hid (Below.refl y4.heap.size y4)
   clear bx
   go_wp2
   go_loopw [9] (fun i W => ∃ n : Nat, n ≤ rs.length ∧ i = .int .i64 n ∧ Hid (Below y4.heap.size y4 W)) (fun i _ => rs.length - (intOf i).toNat)
   case atStart => exact ⟨0, Nat.zero_le _, rfl, HB0⟩
   case round =>
    obtain ⟨n, hnl, rfl, hb⟩ := hrel
    have n0 : (0 : Int) ≤ (n : Int) := by omega
    have bx := (HX.out.below hb.out 0 _ rfl).1
    by_cases hlt : n < rs.length
    ·have n1 : (n : Int) < (rs.length : Int) := by omega
     obtain ⟨b0, off, a4, c4, a5, c5, a6, c6, a7, c7, hx, ⟨d0, d1, d2, d3, d4, d5, d6, d7⟩, r4, r5, r6, r7⟩ := HRK.out.rd.at n hlt
     subst hx
     have hsh : rs[n].kids.length ≤ 1048576 := (HSH.out _ (List.getElem_mem hlt)).2.2.2
     have HKU := Lib.hid (HDP.out n hlt)
     obtain ⟨ks, hks⟩ : ∃ ks, ks = rs[n].kids := ⟨_, rfl⟩
     rw [← hks] at d7 r7 HKU hsh
     have HR7 := Lib.hid r7
     have HD7 := Lib.hid d7
     clear hks d0 d1 d2 d3 d4 d5 d6 d7 r4 r5 r6 r7
     obtain ⟨di, hdi⟩ : ∃ z, z = sizeD depthStep rs (n : Int) := ⟨_, rfl⟩
     rw [← hdi] at HKU
     have HDI := Lib.hid hdi
     clear hdi
     go_wp2
     go_loopw [10] (fun i W => ∃ l : Nat, l ≤ ks.length ∧ i = .int .i64 l ∧ Hid (Below y4.heap.size y4 W)) (fun i _ => ks.length - (intOf i).toNat)
     case atStart => exact ⟨0, Nat.zero_le _, rfl, hb⟩
     case round =>
      clear hb bx
      obtain ⟨l, hll, rfl, hb⟩ := hrel
      have l0 : (0 : Int) ≤ (l : Int) := by omega
      have bx := (HX.out.below hb.out 0 _ rfl).1
      have b7c := cell_keep hb.out HD7.out
      by_cases hl2 : l < ks.length
      ·have l1 : (l : Int) < (ks.length : Int) := by omega
       have hin := Lib.hid (HKU.out _ (List.getElem_mem hl2))
       obtain ⟨b7, o7, ha7, hc7⟩ := HR7.out.cellAt hl2
       subst ha7
       have HC7 := Lib.hid hc7
       generalize ks[l] = kid at HC7 hin
       clear hc7
       obtain ⟨dk, hdk⟩ : ∃ z, z = sizeD depthStep rs kid := ⟨_, rfl⟩
       rw [← hdk] at hin
       have HDK := Lib.hid hdk
       clear hdk
       have e1 : ¬ di ≤ dk := by have h := hin.out; omega
       have HSW : Hid (∀ W, Below y4.heap.size y4 W → W.cell? ⟨D, 0, none⟩ = some (.slice (some ⟨b0, off, none⟩) rs.length cp) ∧ W.cell? ⟨b0, off + n * 8 + 7, none⟩ = some (.slice (some ⟨b7, o7, none⟩) ks.length c7) ∧ W.cell? ⟨b7, o7 + l, none⟩ = some (.int .i64 kid)) := fun W hW => ⟨(HX.out.below hW 0 _ rfl).1, cell_keep hW HD7.out, cell_keep hW HC7.out⟩
       go_upto_region 16 with fail
       clear bx b7c
       replace hb : Hid (Below y4.heap.size y4 wr.drew) := below_drewN hb.out 1
       go_region_held3 (fun W => W.cell? ⟨D, 0, none⟩ = some (.slice (some ⟨b0, off, none⟩) rs.length cp) ∧ W.cell? ⟨b0, off + n * 8 + 7, none⟩ = some (.slice (some ⟨b7, o7, none⟩) ks.length c7) ∧ W.cell? ⟨b7, o7 + l, none⟩ = some (.int .i64 kid)) (exact HSW.out _ hb.out) (first | (go_at_call 46; refine (HDE.out kid _ (HRK.out.below hb.out)).mono ?_; rintro e y5 ⟨rfl, hb5⟩; rw [← HDK.out]; replace hb := Lib.hid (hb.out.trans (hb5.mono hb.out.size)); clear hb5) | (go_at_call 46; refine (HDE.out (n : Int) _ (HRK.out.below hb.out)).mono ?_; rintro e y6 ⟨rfl, hb6⟩; rw [← HDI.out]; replace hb := Lib.hid (hb.out.trans (hb6.mono hb.out.size)); clear hb6))
       all_goals go_wp2
       all_goals go_roundw
       all_goals first | exact ⟨l + 1, by omega, by go_num, hb⟩ | (simp [intOf]; omega)
      ·have l1 : ¬ (l : Int) < (ks.length : Int) := by omega
       go_wp2
       go_roundw
       case rel => exact ⟨n + 1, by omega, by go_num, hb⟩
       case measure => simp [intOf]; omega
    ·have n1 : ¬ (n : Int) < (rs.length : Int) := by omega
     go_wp2_with fail
     refine (HLO.out (-1) _ (HRK.out.below hb.out)).mono ?_
     rintro e y5 ⟨rfl, hb5⟩
     rw [HE1.out]
     clear bx
     have hb9 := Lib.hid (hb.out.trans (hb5.mono hb.out.size))
     clear hb5
     have bx := (HX.out.below hb9.out 0 _ rfl).1
     go_wp2_with fail
     refine (HHI.out (rs.length : Int) _ (HRK.out.below hb9.out)).mono ?_
     rintro e y6 ⟨rfl, hb6⟩
     rw [HE2.out]
     have HF := Lib.hid (HBZ.out.trans ((hb9.out.trans (hb6.mono hb9.out.size)).mono HBZ.out.size))
     clear hb6 bx
     go_wp2
     go_ret
     exact ⟨rfl, HF.out⟩
  | true =>
   have HB0 := Lib.hid (Below.refl y4.heap.size y4)
   clear bx
   go_wp2
   go_loopw [9] (fun i W => ∃ n : Nat, n ≤ rs.length ∧ i = .int .i64 n ∧ Hid (Below y4.heap.size y4 W)) (fun i _ => rs.length - (intOf i).toNat)
   case atStart => exact ⟨0, Nat.zero_le _, rfl, HB0⟩
   case round =>
    obtain ⟨n, hnl, rfl, hb⟩ := hrel
    have n0 : (0 : Int) ≤ (n : Int) := by omega
    have bx := (HX.out.below hb.out 0 _ rfl).1
    by_cases hlt : n < rs.length
    ·have n1 : (n : Int) < (rs.length : Int) := by omega
     obtain ⟨b0, off, a4, c4, a5, c5, a6, c6, a7, c7, hx, ⟨d0, d1, d2, d3, d4, d5, d6, d7⟩, r4, r5, r6, r7⟩ := HRK.out.rd.at n hlt
     subst hx
     have hsh : rs[n].kids.length ≤ 1048576 := (HSH.out _ (List.getElem_mem hlt)).2.2.2
     have HKU := Lib.hid (HDP.out n hlt)
     obtain ⟨ks, hks⟩ : ∃ ks, ks = rs[n].kids := ⟨_, rfl⟩
     rw [← hks] at d7 r7 HKU hsh
     have HR7 := Lib.hid r7
     have HD7 := Lib.hid d7
     clear hks d0 d1 d2 d3 d4 d5 d6 d7 r4 r5 r6 r7
     obtain ⟨di, hdi⟩ : ∃ z, z = sizeD depthStep rs (n : Int) := ⟨_, rfl⟩
     rw [← hdi] at HKU
     have HDI := Lib.hid hdi
     clear hdi
     go_wp2
     go_loopw [10] (fun i W => ∃ l : Nat, l ≤ ks.length ∧ i = .int .i64 l ∧ Hid (Below y4.heap.size y4 W)) (fun i _ => ks.length - (intOf i).toNat)
     case atStart => exact ⟨0, Nat.zero_le _, rfl, hb⟩
     case round =>
      clear hb bx
      obtain ⟨l, hll, rfl, hb⟩ := hrel
      have l0 : (0 : Int) ≤ (l : Int) := by omega
      have bx := (HX.out.below hb.out 0 _ rfl).1
      have b7c := cell_keep hb.out HD7.out
      by_cases hl2 : l < ks.length
      ·have l1 : (l : Int) < (ks.length : Int) := by omega
       have hin := Lib.hid (HKU.out _ (List.getElem_mem hl2))
       obtain ⟨b7, o7, ha7, hc7⟩ := HR7.out.cellAt hl2
       subst ha7
       have HC7 := Lib.hid hc7
       generalize ks[l] = kid at HC7 hin
       clear hc7
       obtain ⟨dk, hdk⟩ : ∃ z, z = sizeD depthStep rs kid := ⟨_, rfl⟩
       rw [← hdk] at hin
       have HDK := Lib.hid hdk
       clear hdk
       have e1 : ¬ di ≤ dk := by have h := hin.out; omega
       have HSW : Hid (∀ W, Below y4.heap.size y4 W → W.cell? ⟨D, 0, none⟩ = some (.slice (some ⟨b0, off, none⟩) rs.length cp) ∧ W.cell? ⟨b0, off + n * 8 + 7, none⟩ = some (.slice (some ⟨b7, o7, none⟩) ks.length c7) ∧ W.cell? ⟨b7, o7 + l, none⟩ = some (.int .i64 kid)) := fun W hW => ⟨(HX.out.below hW 0 _ rfl).1, cell_keep hW HD7.out, cell_keep hW HC7.out⟩
       go_upto_region 16 with fail
       clear bx b7c
       replace hb : Hid (Below y4.heap.size y4 wr.drew) := below_drewN hb.out 1
       go_region_held3 (fun W => W.cell? ⟨D, 0, none⟩ = some (.slice (some ⟨b0, off, none⟩) rs.length cp) ∧ W.cell? ⟨b0, off + n * 8 + 7, none⟩ = some (.slice (some ⟨b7, o7, none⟩) ks.length c7) ∧ W.cell? ⟨b7, o7 + l, none⟩ = some (.int .i64 kid)) (exact HSW.out _ hb.out) (first | (go_at_call 46; refine (HDE.out kid _ (HRK.out.below hb.out)).mono ?_; rintro e y5 ⟨rfl, hb5⟩; rw [← HDK.out]; replace hb := Lib.hid (hb.out.trans (hb5.mono hb.out.size)); clear hb5) | (go_at_call 46; refine (HDE.out (n : Int) _ (HRK.out.below hb.out)).mono ?_; rintro e y6 ⟨rfl, hb6⟩; rw [← HDI.out]; replace hb := Lib.hid (hb.out.trans (hb6.mono hb.out.size)); clear hb6))
       all_goals go_wp2
       all_goals go_roundw
       all_goals first | exact ⟨l + 1, by omega, by go_num, hb⟩ | (simp [intOf]; omega)
      ·have l1 : ¬ (l : Int) < (ks.length : Int) := by omega
       go_wp2
       go_roundw
       case rel => exact ⟨n + 1, by omega, by go_num, hb⟩
       case measure => simp [intOf]; omega
    ·have n1 : ¬ (n : Int) < (rs.length : Int) := by omega
     go_wp2_with fail
     refine (HLO.out (-1) _ (HRK.out.below hb.out)).mono ?_
     rintro e y5 ⟨rfl, hb5⟩
     rw [HE1.out]
     clear bx
     have hb9 := Lib.hid (hb.out.trans (hb5.mono hb.out.size))
     clear hb5
     have bx := (HX.out.below hb9.out 0 _ rfl).1
     go_wp2_with fail
     refine (HHI.out (rs.length : Int) _ (HRK.out.below hb9.out)).mono ?_
     rintro e y6 ⟨rfl, hb6⟩
     rw [HE2.out]
     have HF := Lib.hid (HBZ.out.trans ((hb9.out.trans (hb6.mono hb9.out.size)).mono HBZ.out.size))
     clear hb6 bx
     go_wp2
     go_ret
     exact ⟨rfl, HF.out⟩
theorem walk (a0 : Option Addr) (bs0 : List UInt8) (cap0 : Nat) (w : World) (r0 : Arg a0 bs0 cap0 w) :
  Calls Try.prog 9 #[.slice a0 bs0.length cap0] w fun e w' => e = .returned (.bool true) ∧ Below w.heap.size w w' := by
 by_cases h0 : 1048576 < bs0.length
 ·exact walk_long a0 bs0 cap0 w h0 (by have q1 := r0.2.1; have q2 := r0.2.2.2; omega)
 ·exact walk_short a0 bs0 cap0 w (by omega) r0.code
theorem lifted (os : Os) (started : os.Started) (H : Type) (enc : TypeId × Value → H) :
  ReturnsInHanded {} Try.checked os 9 .any (Rows.fnSizesSpec.pre6 enc Try.prog Try.f9 Rows.fnSizesRow.domain false) (Rows.fnSizesSpec.post enc Try.prog Try.f9 false true false false) := by
 refine returnsInHanded_of_change (C := Try.checked) own started (by kernel_rfl) Try.func9
  (ChangeSpec.witness6 (enc := enc) (C := Try.checked) false ⟨#[], #[.slice none 0 0], []⟩ 8 (by kernel_rfl) (by kernel_rfl) (by kernel_rfl) (by kernel_rfl)) ?_
 intro W base args ds gs before hval0 hW hcnd _
 have hval : ∀ (j : Nat) t v, Try.f9.params[j]? = some t → args[j]? = some v → Value.okWide Try.prog W .any base t v := hval0
 have hW' := hW
 obtain ⟨p, q, hA0, hV, rfl, hfz, hnd⟩ := hW
 have hA : DataW.TrodAll enc Try.prog W 0 (fun _ => true) true Try.f9.params.toList args.toList ds p := hA0
 rw [Try.params9] at hA hval
 obtain ⟨v0, vs0, d0, ds0, p0, q0, hargs, rfl, rfl, h0, r0⟩ := trodAll_cons hA
 obtain ⟨rfl, rfl, rfl⟩ := trodAll_nil r0
 obtain rfl : args = #[v0] := by cases args; simp_all
 obtain ⟨rfl, rfl⟩ := trodVars_none hV
 simp only [List.append_nil] at hW'
 have hlt : ∀ x ∈ p0, x.block < W.heap.size := fun x hx => hW'.lt x (by simpa using hx)
 obtain ⟨a0, len0, cap0, rfl⟩ := okWide_slice Try.underlying25 (hval 0 25 v0 rfl rfl)
 obtain ⟨bs0, rfl, hb0⟩ := bytes_arg h0
 have m0 : ∀ (W' : World), Below W.heap.size W W' → DataW.Trod enc Try.prog W' 0 (fun b => decide (b < W.heap.size)) true 25 (.slice a0 bs0.length cap0) d0 p0 := fun W' hn => Below.trod laidOut (by kernel_rfl) (of_decide_eq_true (by kernel_rfl)) h0 hn (fun x hx => hlt x (by simp [hx]))
 clear hA0 hval0
 refine (walk a0 bs0 cap0 W hb0).mono fun e W' ⟨he, hb⟩ => ?_
 subst he
 exact ⟨_, rfl, _, _, _, [], _, [], hW', trodAll_cons_mk (shut_bool Try.underlying4 _) trodAll_mk0, (trodAll_cons_mk (m0 _ hb) trodAll_mk0), rfl, hb.frame _, fun h => by cases h⟩
theorem closed : joinedFacts Try.prog 9 Try.f9 Rows.fnSizesSpec Rows.fnSizesRow = true := by
 unfold joinedFacts
 rw [may_enter, lifts_final, make_is]
 kernel_rfl
theorem over : Rows.fnSizesRow.holds Try.pinned (OpenSpec.ofChange Rows.fnSizesSpec) :=
 OpenClaim.holds_of_wide 9 Try.f9 rfl rfl rfl rfl rfl rfl rfl ⟨rfl, rfl, rfl, rfl, rfl⟩ rfl rfl rfl rfl rfl (by kernel_rfl) Try.func9 closed
  (of_decide_eq_true (by kernel_rfl)) (by unfold Func.isWrapper; first | (rw [if_pos (by decide +kernel)]; kernel_rfl) | (rw [if_neg (by decide +kernel)]; exact ⟨rfl, rfl⟩))
  (fun os started H enc _ => lifted os started H enc)
theorem proved : Rows.FnSizesSaid := over
end fnSizes
#print axioms fnSizes.proved
end Go.Proofs.Ytfmnjclnhppghaa
