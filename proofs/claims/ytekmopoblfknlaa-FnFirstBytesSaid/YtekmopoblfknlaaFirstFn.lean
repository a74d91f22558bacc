/- It is proved that the law FnFirstBytes returns true at every input of its parameter type and leaves its argument as it was (statement Rows.FnFirstBytesSaid), with no condition. -/
import Derived.Test.YtekmopoblfknlaaFacts
import Derived.Test.YtekmopoblfknlaaDrawV
import Derived.Test.YtekmopoblfknlaaPrintVE
import Derived.Test.YtekmopoblfknlaaFirstB
import Derived.Test.YtekmopoblfknlaaIFirst
import Derived.Test.YtekmopoblfknlaaRowK
import Derived.Test.YtekmopoblfknlaaDescrP
import Derived.Test.YtekmopoblfknlaaGSz
import Derived.Deep.RegionHeld3
import Derived.Deep.CutRange
import Derived.IntWalk
namespace Go.Proofs.Ytekmopoblfknlaa
open Go Go.ChangeShapes Go.WideShapes Go.ChangeAt Go.RowKit
namespace fnFirstBytes
theorem big_no (a : Option Addr) (n cap : Nat) (w : World) (h : n ≤ 1048576) : Calls Try.prog 10 #[.slice a n cap] w fun e w' => e = .returned (.bool false) ∧ w = w' := by
  have g : ¬ (1048576 : Int) < (n : Int) := by omega
  go_enter Try.func10, Try.ntmps10
  go_wp2
  go_ret
  exact ⟨rfl, rfl⟩
theorem big_yes (a : Option Addr) (n cap : Nat) (w : World) (h : 1048576 < n) (_hm : n ≤ 9223372036854775807) : Calls Try.prog 10 #[.slice a n cap] w fun e w' => e = .returned (.bool true) ∧ w = w' := by
  have g : (1048576 : Int) < (n : Int) := by omega
  go_enter Try.func10, Try.ntmps10
  go_wp2
  go_ret
  exact ⟨rfl, rfl⟩
theorem walk_long (a0 : Option Addr) (bs0 : List UInt8) (cap0 : Nat) (w : World) (h : 1048576 < bs0.length) (hm : bs0.length ≤ 9223372036854775807) :
    Calls Try.prog 3 #[.slice a0 bs0.length cap0] w fun e w' => e = .returned (.bool true) ∧ Below w.heap.size w w' := by
  go_enter Try.func3, Try.ntmps3
  go_wp2_with fail
  refine (big_yes a0 bs0.length cap0 w h hm).mono ?_
  rintro e w1 ⟨rfl, rfl⟩
  go_wp2
  go_ret
  exact ⟨rfl, Below.refl _ _⟩
set_option maxRecDepth 100000 in
set_option maxHeartbeats 16000000 in
theorem walk_short (a0 : Option Addr) (bs0 : List UInt8) (cap0 : Nat) (w : World) (h : bs0.length ≤ 1048576) (hs : Code a0 bs0.length w) :
    Calls Try.prog 3 #[.slice a0 bs0.length cap0] w fun e w' => e = .returned (.bool true) ∧ Below w.heap.size w w' := by
  have HS := Lib.hid hs
  clear hs
  go_enter Try.func3, Try.ntmps3
  go_wp2_with fail
  refine (big_no a0 bs0.length cap0 w h).mono ?_
  rintro e w1 ⟨rfl, rfl⟩
  go_wp2_with fail
  refine (drawv a0 bs0.length cap0 w (by omega) HS.out).mono ?_
  rintro e w1 ⟨rs, x, cp, v, cs, rfl, hm, ⟨hn1, hn6⟩, hrow, hmv, hval, hb1⟩
  obtain ⟨ab, cb, ai, ci, rfl⟩ := hval.cells
  obtain ⟨z, hz⟩ : ∃ z, z = (w1.alloc (.cells #[.slice x rs.length cp] 26)).alloc (.cells #[.int .i64 v.number, .slice ab v.bytes.length cb, .slice ai v.items.length ci] 29) := ⟨_, rfl⟩
  have hbz : Below w1.heap.size w1 z := by subst hz; exact ((Below.refl _ _).alloc (Nat.le_refl _) _).alloc (by simp) _
  have HX : Hid (CellsAt w1.heap.size [.slice x rs.length cp] z) := by subst hz; exact (CellsAt.new w1 _ _).below ((Below.refl _ _).alloc (Nat.le_refl _) _)
  have HV3 : Hid (CellsAt (w1.heap.size + 1) [.int .i64 v.number, .slice ab v.bytes.length cb, .slice ai v.items.length ci] z) := by subst hz; have h1 := CellsAt.new (w1.alloc (.cells #[.slice x rs.length cp] 26)) [.int .i64 v.number, .slice ab v.bytes.length cb, .slice ai v.items.length ci] 29; rw [World.size_alloc] at h1; exact h1
  have HBZ := Lib.hid (hb1.trans (hbz.mono hb1.size))
  have HRK := Lib.hid (hrow.rdk.rdc.below hbz)
  have HVL := Lib.hid (hval.below hbz)
  have hval2 := made_valid hm (by omega)
  have HSH := Lib.hid (made_short hm)
  have HSP := Lib.hid (made_spelt hm (by omega))
  obtain ⟨kk, hkk⟩ : ∃ kk : Nat, kk + 1 = rs.length := ⟨rs.length - 1, by omega⟩
  rw [show rs.length - 1 = kk from by omega] at hmv
  have hkr : kk < rs.length := by omega
  have hk1 : (rs.length : Int) - 1 = (kk : Int) := by omega
  have hwk : IntKind.i64.wrap (kk : Int) = (kk : Int) := IntWalk.i64_in _ (by omega)
  have hok : okAt rs (kk : Int) = true := by unfold okAt; rw [decide_eq_true (by omega), descrB_yes ⟨hn1, by omega⟩ hval2]; rfl
  have hoks : ∀ i : Nat, i < rs.length → okAt rs (i : Int) = true := fun i hi => by unfold okAt; rw [decide_eq_true (by omega), descrB_yes ⟨hn1, by omega⟩ hval2]; rfl
  obtain ⟨hc1, hc2, hce, hco, hcn⟩ := firsts_of hval2 hkr hok hmv.1
  obtain ⟨b0, rest, hb0, hbs0⟩ := first_byte hval2 kk hkr v hmv.1
  have hcan0 : canB rs (kk : Int) (b0.toNat : Int) = true := by rw [canB_byte rs _ b0.toNat_lt]; unfold startK; rw [hok, Bool.true_and, Int.toNat_natCast]; exact hbs0
  have HPF : Hid (∀ W, RdC x rs W → IsVal rs.length v [.int .i64 v.number, .slice ab v.bytes.length cb, .slice ai v.items.length ci] W → Calls Try.prog 12 #[.agg #[.slice x rs.length cp], .agg #[.int .i64 v.number, .slice ab v.bytes.length cb, .slice ai v.items.length ci]] W (PvE (printB rs (kk : Int) v) (b0 :: rest) W)) := fun W h1 h2 => by rw [← hb0, ← hk1]; exact printf_spec x rs cp rs.length v _ W (by omega) HSH.out HSP.out h1 h2 (by rw [hk1]; exact made_short9 hmv (by omega))
  have HCS : Hid (∀ k b W, RdC x rs W → Calls Try.prog 13 #[.agg #[.slice x rs.length cp], .int .i64 k, .int .i64 b] W fun e w' => e = .returned (.bool (canB rs k b)) ∧ Below W.heap.size W w') := fun k b W h1 => cans_impl x rs cp k b W (by omega) HSH.out HSP.out h1
  have HCF : Hid (∀ W, RdC x rs W → Calls Try.prog 14 #[.agg #[.slice x rs.length cp], .int .i64 (kk : Int)] W fun e w' => e = .returned (.int .i64 (countD rs (kk : Int))) ∧ Below W.heap.size W w') := fun W h1 => countf_impl x rs cp (kk : Int) W (by omega) HSH.out HSP.out h1
  have HOS : Hid (∀ W, RdC x rs W → Calls Try.prog 15 #[.agg #[.slice x rs.length cp], .int .i64 (kk : Int)] W fun e w' => e = .returned (.int .i64 (onlyD rs (kk : Int))) ∧ Below W.heap.size W w') := fun W h1 => only_impl8 x rs cp (kk : Int) W (by omega) HSH.out HSP.out h1
  have HCM : Hid (∀ k W, RdC x rs W → Calls Try.prog 16 #[.agg #[.slice x rs.length cp], .int .i64 k, .int .i64 (kk : Int)] W fun e w' => e = .returned (.int .i64 (commonD rs k (kk : Int))) ∧ Below W.heap.size W w') := fun k W h1 => common_impl x rs cp k (kk : Int) W (by omega) HSH.out HSP.out h1
  have HDJ : Hid (∀ k W, RdC x rs W → Calls Try.prog 17 #[.agg #[.slice x rs.length cp], .int .i64 k, .int .i64 (kk : Int)] W fun e w' => e = .returned (.bool (disjD rs k (kk : Int))) ∧ Below W.heap.size W w') := fun k W h1 => disj_impl x rs cp k (kk : Int) W (by omega) HSH.out HSP.out h1
  have HDD2 : Hid (∀ i : Nat, i < rs.length → disjD rs (i : Int) (kk : Int) = decide (commonD rs (i : Int) (kk : Int) < 0)) := fun i hi => by unfold disjD; rw [hoks i hi, decide_eq_true (show (0 : Int) ≤ (kk : Int) ∧ (kk : Int) < (rs.length : Int) by omega), Bool.true_and, Bool.true_and]
  obtain ⟨n, hn⟩ : ∃ n, n = countD rs (kk : Int) := ⟨_, rfl⟩
  obtain ⟨oy, hoy⟩ : ∃ oy, oy = onlyD rs (kk : Int) := ⟨_, rfl⟩
  rw [← hn] at hc1 hc2 hce HCF
  rw [← hoy] at hce hco HOS
  have HCE := Lib.hid hce
  have HCO := Lib.hid hco
  have HCN := Lib.hid hcn
  have HC0 := Lib.hid hcan0
  obtain ⟨pb, hpb⟩ : ∃ b, b = printB rs (kk : Int) v := ⟨_, rfl⟩
  rw [← hpb] at HPF
  obtain ⟨nb, hnb⟩ : ∃ nb, nb = b0.toNat := ⟨_, rfl⟩
  have hn256 : nb < 256 := by rw [hnb]; exact b0.toNat_lt
  rw [← hnb] at HC0
  have HNB := Lib.hid hnb
  have hW := Lib.hid hz
  obtain ⟨D, hD⟩ : ∃ D, D = w1.heap.size := ⟨_, rfl⟩
  rw [← hD] at HX HV3
  have HDD := Lib.hid hD
  clear hz hbz hb1 hrow hm HS hD hmv hval hval2 hkk hok hoks hce hco hcn hcan0 hb0 hbs0 hpb hn hoy hnb
  go_upto_region 4 with fail
  rw [← hW.out, ← HDD.out]
  clear hW HDD
  have bx := (HX.out 0 _ rfl).1
  have v0 := (HV3.out 0 _ rfl).1
  have v1 := (HV3.out 1 _ rfl).1
  have v2 := (HV3.out 2 _ rfl).1
  go_wp2_with fail
  refine (HPF.out _ HRK.out HVL.out).mono ?_
  rintro e y1 ⟨az, bs, cz, rfl, hbs, hrow, hb1⟩
  have HRW := Lib.hid hrow
  have HBS := Lib.hid hbs
  replace HX := Lib.hid (HX.out.below hb1)
  replace HRK := Lib.hid (HRK.out.below hb1)
  replace HBZ := Lib.hid (HBZ.out.trans (hb1.mono HBZ.out.size))
  clear hb1 bx
  have bx := (HX.out 0 _ rfl).1
  clear hrow hbs v0 v1 v2 HV3 HVL HPF
  obtain ⟨y2, hy2⟩ : ∃ y2, y2 = y1.drew := ⟨_, rfl⟩
  have HY2 := Lib.hid hy2
  clear hy2
  cases pb with
  | false =>
    clear HRW HBS bx
    go_upto_region 6 with fail
    refine wp_region_held_drew (S := (fun W => W.cell? ⟨D, 0, none⟩ = some (.slice x rs.length cp))) (by kernel_rfl) ?_ (fun hHeld => ?_)
    · (try dsimp only); exact (HX.out 0 _ rfl).1
    refine wpAnyH_take (i := 0) (v := ?v1) (by simp only [List.getElem?_toArray, List.getElem?_cons_zero]; rfl) (by kernel_rfl) (by kernel_rfl) (by kernel_rfl) (by exact fun _ _ _ h => h) (Or.inl ⟨by rfl, ?hy1⟩) (by assumption) ?rest1
    case hy1 => ((intro W hSw; (try dsimp only at hSw); go_simp); (try with_reducible rfl))
    simp only [Act.put, List.setIfInBounds_toArray, List.set_cons_zero, List.set_cons_succ]
    refine wpAnyH_take (i := 1) (v := ?v2) (by simp only [List.getElem?_toArray, List.getElem?_cons_succ, List.getElem?_cons_zero]; rfl) (by kernel_rfl) (by kernel_rfl) (by kernel_rfl) (by exact fun _ _ _ h => h) (Or.inl ⟨by rfl, ?hy2⟩) (by assumption) ?rest2
    case hy2 => ((intro W hSw; (try dsimp only at hSw); go_simp); (try with_reducible rfl))
    simp only [Act.put, List.setIfInBounds_toArray, List.set_cons_zero, List.set_cons_succ]
    refine wpAnyH_take (i := 2) (v := undef) (by simp only [List.getElem?_toArray, List.getElem?_cons_succ, List.getElem?_cons_zero]; rfl) (by kernel_rfl) (by kernel_rfl) (by kernel_rfl) (by exact fun _ _ _ h => h) (Or.inr ⟨by rfl, rfl⟩) (by assumption) ?_
    simp only [Act.put, List.setIfInBounds_toArray, List.set_cons_zero, List.set_cons_succ]
    refine wpAnyH_take (i := 3) (v := undef) (by simp only [List.getElem?_toArray, List.getElem?_cons_succ, List.getElem?_cons_zero]; rfl) (by kernel_rfl) (by kernel_rfl) (by kernel_rfl) (by exact fun _ _ _ h => h) (Or.inr ⟨by rfl, rfl⟩) (by assumption) ?_
    simp only [Act.put, List.setIfInBounds_toArray, List.set_cons_zero, List.set_cons_succ]
    refine wpAnyH_take (i := 4) (v := undef) (by simp only [List.getElem?_toArray, List.getElem?_cons_succ, List.getElem?_cons_zero]; rfl) (by kernel_rfl) (by kernel_rfl) (by kernel_rfl) (by exact fun _ _ _ h => h) (Or.inr ⟨by rfl, rfl⟩) (by assumption) ?_
    simp only [Act.put, List.setIfInBounds_toArray, List.set_cons_zero, List.set_cons_succ]
    refine wpAnyH_take (i := 5) (v := undef) (by simp only [List.getElem?_toArray, List.getElem?_cons_succ, List.getElem?_cons_zero]; rfl) (by kernel_rfl) (by kernel_rfl) (by kernel_rfl) (by exact fun _ _ _ h => h) (Or.inr ⟨by rfl, rfl⟩) (by assumption) ?_
    simp only [Act.put, List.setIfInBounds_toArray, List.set_cons_zero, List.set_cons_succ]
    refine wpAnyH_take (i := 6) (v := undef) (by simp only [List.getElem?_toArray, List.getElem?_cons_succ, List.getElem?_cons_zero]; rfl) (by kernel_rfl) (by kernel_rfl) (by kernel_rfl) (by exact fun _ _ _ h => h) (Or.inr ⟨by rfl, rfl⟩) (by assumption) ?_
    simp only [Act.put, List.setIfInBounds_toArray, List.set_cons_zero, List.set_cons_succ]
    refine wpAnyH_take (i := 7) (v := undef) (by simp only [List.getElem?_toArray, List.getElem?_cons_succ, List.getElem?_cons_zero]; rfl) (by kernel_rfl) (by kernel_rfl) (by kernel_rfl) (by exact fun _ _ _ h => h) (Or.inr ⟨by rfl, rfl⟩) (by assumption) ?_
    simp only [Act.put, List.setIfInBounds_toArray, List.set_cons_zero, List.set_cons_succ]
    refine wpAnyH_take (i := 8) (v := undef) (by simp only [List.getElem?_toArray, List.getElem?_cons_succ, List.getElem?_cons_zero]; rfl) (by kernel_rfl) (by kernel_rfl) (by kernel_rfl) (by exact fun _ _ _ h => h) (Or.inr ⟨by rfl, rfl⟩) (by assumption) ?_
    simp only [Act.put, List.setIfInBounds_toArray, List.set_cons_zero, List.set_cons_succ]
    refine wpAnyH_take (i := 9) (v := undef) (by simp only [List.getElem?_toArray, List.getElem?_cons_succ, List.getElem?_cons_zero]; rfl) (by kernel_rfl) (by kernel_rfl) (by kernel_rfl) (by exact fun _ _ _ h => h) (Or.inr ⟨by rfl, rfl⟩) (by assumption) ?_
    simp only [Act.put, List.setIfInBounds_toArray, List.set_cons_zero, List.set_cons_succ]
    refine wpAnyH_take (i := 10) (v := ?v3) (by simp only [List.getElem?_toArray, List.getElem?_cons_succ, List.getElem?_cons_zero]; rfl) (by kernel_rfl) (by kernel_rfl) (by kernel_rfl) (by exact fun _ _ _ h => h) (Or.inl ⟨by rfl, ?hy3⟩) (by assumption) ?rest3
    case hy3 => ((intro W hSw; (try dsimp only at hSw); go_simp); (try with_reducible rfl))
    simp only [Act.put, List.setIfInBounds_toArray, List.set_cons_zero, List.set_cons_succ]
    refine wpAnyH_done (by kernel_rfl) ?_ _
    rw [← HY2.out]
    replace HX : Hid (CellsAt D [.slice x rs.length cp] y2) := by show CellsAt _ _ _; rw [HY2.out]; exact HX.out
    replace HRK : Hid (RdC x rs y2) := by show RdC _ _ _; rw [HY2.out]; exact HRK.out
    replace HBZ : Hid (Below w.heap.size w y2) := by show Below _ _ _; rw [HY2.out]; exact below_drewN HBZ.out 1
    clear HY2
    have bx := (HX.out 0 _ rfl).1
    go_wp2_with fail
    refine (HCF.out _ HRK.out).mono ?_
    rintro e y3 ⟨rfl, hb3⟩
    replace HX := Lib.hid (HX.out.below hb3)
    replace HRK := Lib.hid (HRK.out.below hb3)
    replace HBZ := Lib.hid (HBZ.out.trans (hb3.mono HBZ.out.size))
    clear hb3 bx
    have bx := (HX.out 0 _ rfl).1
    go_wp2_with fail
    refine (HOS.out _ HRK.out).mono ?_
    rintro e y4 ⟨rfl, hb4⟩
    replace HX := Lib.hid (HX.out.below hb4)
    replace HRK := Lib.hid (HRK.out.below hb4)
    replace HBZ := Lib.hid (HBZ.out.trans (hb4.mono HBZ.out.size))
    clear hb4 bx
    have bx := (HX.out 0 _ rfl).1
    have HB0 := Lib.hid (Below.refl y4.heap.size y4)
    clear bx HCF HOS
    go_wp2
    go_loopw [10] (fun i W => ∃ j : Nat, j ≤ rs.length ∧ i = .int .i64 j ∧ Hid (Below y4.heap.size y4 W)) (fun i _ => rs.length - (intOf i).toNat)
    case atStart => exact ⟨0, Nat.zero_le _, rfl, HB0⟩
    case round =>
      clear HB0
      obtain ⟨j, hjl, rfl, hb⟩ := hrel
      have j0 : (0 : Int) ≤ (j : Int) := by omega
      have bx := (HX.out.below hb.out 0 _ rfl).1
      by_cases hlt : j < rs.length
      · have j1 : (j : Int) < (rs.length : Int) := by omega
        have hdj := HDD2.out j hlt
        have hsd := common_sound (rs := rs) (a := (j : Int)) (b := (kk : Int))
        have HCJ := Lib.hid (HCM.out (j : Int))
        have HDW := Lib.hid (HDJ.out (j : Int))
        obtain ⟨c, hc⟩ : ∃ c, c = commonD rs (j : Int) (kk : Int) := ⟨_, rfl⟩
        rw [← hc] at hdj hsd HCJ
        rw [hdj] at HDW
        have HSD := Lib.hid hsd
        clear hc hdj hsd
        go_wp2_with fail
        refine (HCJ.out _ (HRK.out.below hb.out)).mono ?_
        rintro e y5 ⟨rfl, hb5⟩
        replace hb := Lib.hid (hb.out.trans (hb5.mono hb.out.size))
        clear hb5 bx
        have bx := (HX.out.below hb.out 0 _ rfl).1
        by_cases hc0 : c < 0
        · have hd1 : decide (c < 0) = true := decide_eq_true hc0
          have hd2 : decide (0 ≤ c) = false := decide_eq_false (by omega)
          rw [hd1] at HDW
          go_wp2_with fail
          refine (HDW.out _ (HRK.out.below hb.out)).mono ?_
          rintro e y6 ⟨rfl, hb6⟩
          replace hb := Lib.hid (hb.out.trans (hb6.mono hb.out.size))
          clear hb6 bx
          have bx := (HX.out.below hb.out 0 _ rfl).1
          clear bx HDW HCJ HSD
          go_wp2
          go_roundw
          case rel => exact ⟨j + 1, by omega, by go_num, hb⟩
          case measure => simp [intOf]; omega
        · have hd1 : decide (c < 0) = false := decide_eq_false hc0
          have hd2 : decide (0 ≤ c) = true := decide_eq_true (by omega)
          obtain ⟨hs1, hs2, hs3⟩ := HSD.out (by omega)
          have HS1 : Hid (∀ W, RdC x rs W → Calls Try.prog 13 #[.agg #[.slice x rs.length cp], .int .i64 (j : Int), .int .i64 c] W fun e w' => e = .returned (.bool true) ∧ Below W.heap.size W w') := fun W h1 => by rw [← hs1]; exact HCS.out _ _ W h1
          have HS2 : Hid (∀ W, RdC x rs W → Calls Try.prog 13 #[.agg #[.slice x rs.length cp], .int .i64 (kk : Int), .int .i64 c] W fun e w' => e = .returned (.bool true) ∧ Below W.heap.size W w') := fun W h1 => by rw [← hs2]; exact HCS.out _ _ W h1
          rw [hd1] at HDW
          clear hs1 hs2 hs3
          go_wp2_with fail
          refine (HDW.out _ (HRK.out.below hb.out)).mono ?_
          rintro e y6 ⟨rfl, hb6⟩
          replace hb := Lib.hid (hb.out.trans (hb6.mono hb.out.size))
          clear hb6 bx
          have bx := (HX.out.below hb.out 0 _ rfl).1
          go_wp2_with fail
          refine (HS1.out _ (HRK.out.below hb.out)).mono ?_
          rintro e y7 ⟨rfl, hb7⟩
          replace hb := Lib.hid (hb.out.trans (hb7.mono hb.out.size))
          clear hb7 bx
          have bx := (HX.out.below hb.out 0 _ rfl).1
          go_wp2_with fail
          refine (HS2.out _ (HRK.out.below hb.out)).mono ?_
          rintro e y8 ⟨rfl, hb8⟩
          replace hb := Lib.hid (hb.out.trans (hb8.mono hb.out.size))
          clear hb8 bx
          have bx := (HX.out.below hb.out 0 _ rfl).1
          clear bx HDW HCJ HSD HS1 HS2
          go_wp2
          go_roundw
          case rel => exact ⟨j + 1, by omega, by go_num, hb⟩
          case measure => simp [intOf]; omega
      · have j1 : ¬ (j : Int) < (rs.length : Int) := by omega
        have g1 : decide (1 ≤ n) = true := decide_eq_true hc1
        have g2 : decide (n ≤ 256) = true := decide_eq_true hc2
        have HC6 : Hid (∀ W, RdC x rs W → Calls Try.prog 13 #[.agg #[.slice x rs.length cp], .int .i64 (kk : Int), .int .i64 256] W fun e w' => e = .returned (.bool false) ∧ Below W.heap.size W w') := fun W h1 => by rw [← HCN.out]; exact HCS.out _ _ W h1
        by_cases ho : 0 ≤ oy
        · have g3 : decide (0 ≤ oy) = true := decide_eq_true ho
          have g4 : decide (oy < 0) = false := decide_eq_false (by omega)
          have g5 : (n == 1) = true := by rw [HCE.out, g3]
          have HC5 : Hid (∀ W, RdC x rs W → Calls Try.prog 13 #[.agg #[.slice x rs.length cp], .int .i64 (kk : Int), .int .i64 oy] W fun e w' => e = .returned (.bool true) ∧ Below W.heap.size W w') := fun W h1 => by rw [← HCO.out ho]; exact HCS.out _ _ W h1
          go_wp2_with fail
          refine (HC5.out _ (HRK.out.below hb.out)).mono ?_
          rintro e y7 ⟨rfl, hb7⟩
          replace hb := Lib.hid (hb.out.trans (hb7.mono hb.out.size))
          clear hb7 bx
          have bx := (HX.out.below hb.out 0 _ rfl).1
          go_wp2_with fail
          refine (HC6.out _ (HRK.out.below hb.out)).mono ?_
          rintro e y8 ⟨rfl, hb8⟩
          replace hb := Lib.hid (hb.out.trans (hb8.mono hb.out.size))
          clear hb8 bx
          have bx := (HX.out.below hb.out 0 _ rfl).1
          have HF := Lib.hid (HBZ.out.trans (hb.out.mono HBZ.out.size))
          clear bx
          go_wp2
          go_ret
          exact ⟨rfl, HF.out⟩
        · have g3 : decide (0 ≤ oy) = false := decide_eq_false ho
          have g4 : decide (oy < 0) = true := decide_eq_true (by omega)
          have g5 : (n == 1) = false := by rw [HCE.out, g3]
          go_wp2_with fail
          refine (HC6.out _ (HRK.out.below hb.out)).mono ?_
          rintro e y8 ⟨rfl, hb8⟩
          replace hb := Lib.hid (hb.out.trans (hb8.mono hb.out.size))
          clear hb8 bx
          have bx := (HX.out.below hb.out 0 _ rfl).1
          have HF := Lib.hid (HBZ.out.trans (hb.out.mono HBZ.out.size))
          clear bx
          go_wp2
          go_ret
          exact ⟨rfl, HF.out⟩
  | true =>
    obtain rfl : bs = b0 :: rest := HBS.out
    obtain ⟨bz, oz, hz0, hcz⟩ := HRW.out.rd 0 (by simp)
    subst hz0
    simp only [Nat.add_zero, List.getElem_cons_zero] at hcz
    rw [← HNB.out] at hcz
    have hbl0 : 0 < (b0 :: rest).length := by simp
    have hbl1 : (0 : Int) < ((b0 :: rest).length : Int) := by omega
    have n0 : (0 : Int) ≤ (nb : Int) := by omega
    have n1 : (nb : Int) ≤ 255 := by omega
    have hwx : IntKind.i64.wrap (nb : Int) = (nb : Int) := IntWalk.i64_in _ (by omega)
    have HCZ := Lib.hid hcz
    obtain ⟨bl, hbl⟩ : ∃ bl, bl = (b0 :: rest).length := ⟨_, rfl⟩
    rw [← hbl] at hbl0 hbl1 ⊢
    clear hcz HRW HBS bx hbl
    have HC0C : Hid (∀ W, RdC x rs W → Calls Try.prog 13 #[.agg #[.slice x rs.length cp], .int .i64 (kk : Int), .int .i64 (nb : Int)] W fun e w' => e = .returned (.bool true) ∧ Below W.heap.size W w') := fun W h1 => by rw [← HC0.out]; exact HCS.out _ _ W h1
    have HB1 := Lib.hid (below_drewN (Below.refl y1.heap.size y1) 1)
    go_upto_region 6 with fail
    go_region_held3 (fun W => W.cell? ⟨D, 0, none⟩ = some (.slice x rs.length cp) ∧ W.cell? ⟨bz, oz, none⟩ = some (.int .u8 (nb : Int))) (exact ⟨(HX.out.below HB1.out 0 _ rfl).1, cell_keep HB1.out HCZ.out⟩) (first | (go_at_call 13; refine (HC0C.out _ (HRK.out.below HB1.out)).mono ?_; rintro e y2 ⟨rfl, hb2⟩; replace HB1 := Lib.hid (HB1.out.trans (hb2.mono HB1.out.size)); clear hb2))
    clear HY2 HCZ HC0C
    replace HX := Lib.hid (HX.out.below HB1.out)
    replace HRK := Lib.hid (HRK.out.below HB1.out)
    replace HBZ := Lib.hid (HBZ.out.trans (HB1.out.mono HBZ.out.size))
    clear HB1 hwx n0 n1
    have bx := (HX.out 0 _ rfl).1
    go_wp2_with fail
    refine (HCF.out _ HRK.out).mono ?_
    rintro e y3 ⟨rfl, hb3⟩
    replace HX := Lib.hid (HX.out.below hb3)
    replace HRK := Lib.hid (HRK.out.below hb3)
    replace HBZ := Lib.hid (HBZ.out.trans (hb3.mono HBZ.out.size))
    clear hb3 bx
    have bx := (HX.out 0 _ rfl).1
    go_wp2_with fail
    refine (HOS.out _ HRK.out).mono ?_
    rintro e y4 ⟨rfl, hb4⟩
    replace HX := Lib.hid (HX.out.below hb4)
    replace HRK := Lib.hid (HRK.out.below hb4)
    replace HBZ := Lib.hid (HBZ.out.trans (hb4.mono HBZ.out.size))
    clear hb4 bx
    have bx := (HX.out 0 _ rfl).1
    have HB0 := Lib.hid (Below.refl y4.heap.size y4)
    clear bx HCF HOS
    go_wp2
    go_loopw [10] (fun i W => ∃ j : Nat, j ≤ rs.length ∧ i = .int .i64 j ∧ Hid (Below y4.heap.size y4 W)) (fun i _ => rs.length - (intOf i).toNat)
    case atStart => exact ⟨0, Nat.zero_le _, rfl, HB0⟩
    case round =>
      clear HB0
      obtain ⟨j, hjl, rfl, hb⟩ := hrel
      have j0 : (0 : Int) ≤ (j : Int) := by omega
      have bx := (HX.out.below hb.out 0 _ rfl).1
      by_cases hlt : j < rs.length
      · have j1 : (j : Int) < (rs.length : Int) := by omega
        have hdj := HDD2.out j hlt
        have hsd := common_sound (rs := rs) (a := (j : Int)) (b := (kk : Int))
        have HCJ := Lib.hid (HCM.out (j : Int))
        have HDW := Lib.hid (HDJ.out (j : Int))
        obtain ⟨c, hc⟩ : ∃ c, c = commonD rs (j : Int) (kk : Int) := ⟨_, rfl⟩
        rw [← hc] at hdj hsd HCJ
        rw [hdj] at HDW
        have HSD := Lib.hid hsd
        clear hc hdj hsd
        go_wp2_with fail
        refine (HCJ.out _ (HRK.out.below hb.out)).mono ?_
        rintro e y5 ⟨rfl, hb5⟩
        replace hb := Lib.hid (hb.out.trans (hb5.mono hb.out.size))
        clear hb5 bx
        have bx := (HX.out.below hb.out 0 _ rfl).1
        by_cases hc0 : c < 0
        · have hd1 : decide (c < 0) = true := decide_eq_true hc0
          have hd2 : decide (0 ≤ c) = false := decide_eq_false (by omega)
          rw [hd1] at HDW
          go_wp2_with fail
          refine (HDW.out _ (HRK.out.below hb.out)).mono ?_
          rintro e y6 ⟨rfl, hb6⟩
          replace hb := Lib.hid (hb.out.trans (hb6.mono hb.out.size))
          clear hb6 bx
          have bx := (HX.out.below hb.out 0 _ rfl).1
          clear bx HDW HCJ HSD
          go_wp2
          go_roundw
          case rel => exact ⟨j + 1, by omega, by go_num, hb⟩
          case measure => simp [intOf]; omega
        · have hd1 : decide (c < 0) = false := decide_eq_false hc0
          have hd2 : decide (0 ≤ c) = true := decide_eq_true (by omega)
          obtain ⟨hs1, hs2, hs3⟩ := HSD.out (by omega)
          have HS1 : Hid (∀ W, RdC x rs W → Calls Try.prog 13 #[.agg #[.slice x rs.length cp], .int .i64 (j : Int), .int .i64 c] W fun e w' => e = .returned (.bool true) ∧ Below W.heap.size W w') := fun W h1 => by rw [← hs1]; exact HCS.out _ _ W h1
          have HS2 : Hid (∀ W, RdC x rs W → Calls Try.prog 13 #[.agg #[.slice x rs.length cp], .int .i64 (kk : Int), .int .i64 c] W fun e w' => e = .returned (.bool true) ∧ Below W.heap.size W w') := fun W h1 => by rw [← hs2]; exact HCS.out _ _ W h1
          rw [hd1] at HDW
          clear hs1 hs2 hs3
          go_wp2_with fail
          refine (HDW.out _ (HRK.out.below hb.out)).mono ?_
          rintro e y6 ⟨rfl, hb6⟩
          replace hb := Lib.hid (hb.out.trans (hb6.mono hb.out.size))
          clear hb6 bx
          have bx := (HX.out.below hb.out 0 _ rfl).1
          go_wp2_with fail
          refine (HS1.out _ (HRK.out.below hb.out)).mono ?_
          rintro e y7 ⟨rfl, hb7⟩
          replace hb := Lib.hid (hb.out.trans (hb7.mono hb.out.size))
          clear hb7 bx
          have bx := (HX.out.below hb.out 0 _ rfl).1
          go_wp2_with fail
          refine (HS2.out _ (HRK.out.below hb.out)).mono ?_
          rintro e y8 ⟨rfl, hb8⟩
          replace hb := Lib.hid (hb.out.trans (hb8.mono hb.out.size))
          clear hb8 bx
          have bx := (HX.out.below hb.out 0 _ rfl).1
          clear bx HDW HCJ HSD HS1 HS2
          go_wp2
          go_roundw
          case rel => exact ⟨j + 1, by omega, by go_num, hb⟩
          case measure => simp [intOf]; omega
      · have j1 : ¬ (j : Int) < (rs.length : Int) := by omega
        have g1 : decide (1 ≤ n) = true := decide_eq_true hc1
        have g2 : decide (n ≤ 256) = true := decide_eq_true hc2
        have HC6 : Hid (∀ W, RdC x rs W → Calls Try.prog 13 #[.agg #[.slice x rs.length cp], .int .i64 (kk : Int), .int .i64 256] W fun e w' => e = .returned (.bool false) ∧ Below W.heap.size W w') := fun W h1 => by rw [← HCN.out]; exact HCS.out _ _ W h1
        by_cases ho : 0 ≤ oy
        · have g3 : decide (0 ≤ oy) = true := decide_eq_true ho
          have g4 : decide (oy < 0) = false := decide_eq_false (by omega)
          have g5 : (n == 1) = true := by rw [HCE.out, g3]
          have HC5 : Hid (∀ W, RdC x rs W → Calls Try.prog 13 #[.agg #[.slice x rs.length cp], .int .i64 (kk : Int), .int .i64 oy] W fun e w' => e = .returned (.bool true) ∧ Below W.heap.size W w') := fun W h1 => by rw [← HCO.out ho]; exact HCS.out _ _ W h1
          go_wp2_with fail
          refine (HC5.out _ (HRK.out.below hb.out)).mono ?_
          rintro e y7 ⟨rfl, hb7⟩
          replace hb := Lib.hid (hb.out.trans (hb7.mono hb.out.size))
          clear hb7 bx
          have bx := (HX.out.below hb.out 0 _ rfl).1
          go_wp2_with fail
          refine (HC6.out _ (HRK.out.below hb.out)).mono ?_
          rintro e y8 ⟨rfl, hb8⟩
          replace hb := Lib.hid (hb.out.trans (hb8.mono hb.out.size))
          clear hb8 bx
          have bx := (HX.out.below hb.out 0 _ rfl).1
          have HF := Lib.hid (HBZ.out.trans (hb.out.mono HBZ.out.size))
          clear bx
          go_wp2
          go_ret
          exact ⟨rfl, HF.out⟩
        · have g3 : decide (0 ≤ oy) = false := decide_eq_false ho
          have g4 : decide (oy < 0) = true := decide_eq_true (by omega)
          have g5 : (n == 1) = false := by rw [HCE.out, g3]
          go_wp2_with fail
          refine (HC6.out _ (HRK.out.below hb.out)).mono ?_
          rintro e y8 ⟨rfl, hb8⟩
          replace hb := Lib.hid (hb.out.trans (hb8.mono hb.out.size))
          clear hb8 bx
          have bx := (HX.out.below hb.out 0 _ rfl).1
          have HF := Lib.hid (HBZ.out.trans (hb.out.mono HBZ.out.size))
          clear bx
          go_wp2
          go_ret
          exact ⟨rfl, HF.out⟩
theorem walk (a0 : Option Addr) (bs0 : List UInt8) (cap0 : Nat) (w : World) (r0 : Arg a0 bs0 cap0 w) :
    Calls Try.prog 3 #[.slice a0 bs0.length cap0] w fun e w' => e = .returned (.bool true) ∧ Below w.heap.size w w' := by
  by_cases h0 : 1048576 < bs0.length
  · exact walk_long a0 bs0 cap0 w h0 (by have q1 := r0.2.1; have q2 := r0.2.2.2; omega)
  · exact walk_short a0 bs0 cap0 w (by omega) r0.code
set_option maxRecDepth 100000 in
theorem lifted (os : Os) (started : os.Started) (H : Type) (enc : TypeId × Value → H) :
    ReturnsInHanded {} Try.checked os 3 .any (Rows.fnFirstBytesSpec.pre6 enc Try.prog Try.f3 Rows.fnFirstBytesRow.domain false) (Rows.fnFirstBytesSpec.post enc Try.prog Try.f3 false true false false) := by
  refine returnsInHanded_of_change (C := Try.checked) own started (by kernel_rfl) Try.func3
    (ChangeSpec.witness6 (enc := enc) (C := Try.checked) false ⟨#[], #[.slice none 0 0], []⟩ 8 (by kernel_rfl) (by kernel_rfl) (by kernel_rfl) (by kernel_rfl)) ?_
  intro W base args ds gs before hval0 hW hcnd _
  have hval : ∀ (j : Nat) t v, Try.f3.params[j]? = some t → args[j]? = some v → Value.okWide Try.prog W .any base t v := hval0
  have hW' := hW
  obtain ⟨p, q, hA0, hV, rfl, hfz, hnd⟩ := hW
  have hA : DataW.TrodAll enc Try.prog W 0 (fun _ => true) true Try.f3.params.toList args.toList ds p := hA0
  rw [Try.params3] at hA hval
  obtain ⟨v0, vs0, d0, ds0, p0, q0, hargs, rfl, rfl, h0, r0⟩ := trodAll_cons hA
  obtain ⟨rfl, rfl, rfl⟩ := trodAll_nil r0
  obtain rfl : args = #[v0] := by cases args; simp_all
  obtain ⟨rfl, rfl⟩ := trodVars_none hV
  simp only [List.append_nil] at hW'
  have hlt : ∀ x ∈ p0, x.block < W.heap.size := fun x hx => hW'.lt x (by simpa using hx)
  obtain ⟨a0, len0, cap0, rfl⟩ := okWide_slice Try.underlying22 (hval 0 22 v0 rfl rfl)
  obtain ⟨bs0, rfl, hb0⟩ := bytes_arg h0
  have m0 : ∀ (W' : World), Below W.heap.size W W' → DataW.Trod enc Try.prog W' 0 (fun b => decide (b < W.heap.size)) true 22 (.slice a0 bs0.length cap0) d0 p0 := fun W' hn => Below.trod laidOut (by kernel_rfl) (of_decide_eq_true (by kernel_rfl)) h0 hn (fun x hx => hlt x (by simp [hx]))
  clear hA0 hval0
  refine (walk a0 bs0 cap0 W hb0).mono fun e W' ⟨he, hb⟩ => ?_
  subst he
  exact ⟨_, rfl, _, _, _, [], _, [], hW', trodAll_cons_mk (shut_bool Try.underlying4 _) trodAll_mk0, (trodAll_cons_mk (m0 _ hb) trodAll_mk0), rfl, hb.frame _, fun h => by cases h⟩
theorem closed : joinedFacts Try.prog 3 Try.f3 Rows.fnFirstBytesSpec Rows.fnFirstBytesRow = true := by
  unfold joinedFacts
  rw [may_enter, lifts_final, make_is]
  kernel_rfl
theorem over : Rows.fnFirstBytesRow.holds Try.pinned (OpenSpec.ofChange Rows.fnFirstBytesSpec) :=
  OpenClaim.holds_of_wide 3 Try.f3 rfl rfl rfl rfl rfl rfl rfl ⟨rfl, rfl, rfl, rfl, rfl⟩ rfl rfl rfl rfl rfl (by kernel_rfl) Try.func3 closed
    (of_decide_eq_true (by kernel_rfl)) (by unfold Func.isWrapper; first | (rw [if_pos (by decide +kernel)]; kernel_rfl) | (rw [if_neg (by decide +kernel)]; exact ⟨rfl, rfl⟩))
    (fun os started H enc _ => lifted os started H enc)
/-- THE STATEMENT -/
theorem proved : Rows.FnFirstBytesSaid := over
end fnFirstBytes
#print axioms fnFirstBytes.proved
end Go.Proofs.Ytekmopoblfknlaa

