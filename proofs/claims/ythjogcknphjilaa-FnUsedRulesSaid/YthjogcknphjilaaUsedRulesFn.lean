/- It is proved that the law FnUsedRules returns true at every input of its parameter type and leaves its argument as it was (statement Rows.FnUsedRulesSaid), with no condition. -/
import Derived.Test.YthjogcknphjilaaFacts
import Derived.Test.YthjogcknphjilaaBinary
import Derived.Test.YthjogcknphjilaaDescrP
import Derived.Test.YthjogcknphjilaaGSz
import Derived.Deep.RegionHeld3
import Derived.Deep.CutRange
import Derived.IntWalk
namespace Go.Proofs.Ythjogcknphjilaa
open Go Go.ChangeShapes Go.WideShapes Go.ChangeAt Go.RowKit
namespace fnUsedRules
theorem big_no (a : Option Addr) (n cap : Nat) (w : World) (h : n ≤ 1048576) : Calls Try.prog 19 #[.slice a n cap] w fun e w' => e = .returned (.bool false) ∧ w = w' := by
  have g : ¬ (1048576 : Int) < (n : Int) := by omega
  go_enter Try.func19, Try.ntmps19
  go_wp2
  go_ret
  exact ⟨rfl, rfl⟩
theorem big_yes (a : Option Addr) (n cap : Nat) (w : World) (h : 1048576 < n) (_hm : n ≤ 9223372036854775807) : Calls Try.prog 19 #[.slice a n cap] w fun e w' => e = .returned (.bool true) ∧ w = w' := by
  have g : (1048576 : Int) < (n : Int) := by omega
  go_enter Try.func19, Try.ntmps19
  go_wp2
  go_ret
  exact ⟨rfl, rfl⟩
theorem walk_long (a0 : Option Addr) (bs0 : List UInt8) (cap0 : Nat) (w : World) (h : 1048576 < bs0.length) (hm : bs0.length ≤ 9223372036854775807) :
    Calls Try.prog 11 #[.slice a0 bs0.length cap0] w fun e w' => e = .returned (.bool true) ∧ Below w.heap.size w w' := by
  go_enter Try.func11, Try.ntmps11
  go_wp2_with fail
  refine (big_yes a0 bs0.length cap0 w h hm).mono ?_
  rintro e w1 ⟨rfl, rfl⟩
  go_wp2
  go_ret
  exact ⟨rfl, Below.refl _ _⟩
set_option maxRecDepth 100000 in
theorem contains_any (a : Option Addr) (ls : List Int) (cap : Nat) (x : Int) (w : World) (hl : ls.length ≤ 1048576) (h : RdI a ls w) :
    Calls Try.prog 51 #[.slice a ls.length cap, .int .i64 x] w fun e w' => e = .returned (.bool (inI ls x)) ∧ w = w' := by
  have H := Lib.hid h
  clear h
  go_enter Try.func51, Try.ntmps51
  go_wp2
  go_loop [5] (fun i => ∃ n : Nat, n ≤ ls.length ∧ i = .int .i64 n ∧ Hid (inI (ls.take n) x = false)) (fun i => ls.length - (intOf i).toNat)
  case atStart => exact ⟨0, Nat.zero_le _, rfl, rfl⟩
  case round =>
    obtain ⟨n, hnl, rfl, hf⟩ := hrel
    have n0 : (0 : Int) ≤ (n : Int) := by omega
    by_cases hlt : n < ls.length
    · have n1 : (n : Int) < (ls.length : Int) := by omega
      have hnx := Lib.hid (inI_next (x := x) hlt)
      have hmem := Lib.hid (List.getElem_mem hlt)
      obtain ⟨b, off, rfl, hc⟩ := H.out.cellAt hlt
      rw [hf.out] at hnx
      generalize ls[n] = y at hc hnx hmem
      cases hy : (y == x) with
      | true =>
        have hr : Hid (inI ls x = true) := by show _ = _; rw [inI_mem, ← eq_of_beq hy]; exact hmem.out
        go_wp2
        go_ret
        exact ⟨ret_bool hr.out.symm, rfl⟩
      | false =>
        have hf2 : Hid (inI (ls.take (n + 1)) x = false) := by show _ = _; rw [hnx.out, hy]; rfl
        go_wp2
        go_round
        case rel => exact ⟨n + 1, by omega, by go_num, hf2⟩
        case measure => simp [intOf]; omega
    · have n1 : ¬ (n : Int) < (ls.length : Int) := by omega
      have hr : Hid (inI ls x = false) := by have := hf.out; rw [List.take_of_length_le (by omega)] at this; exact this
      go_wp2
      go_ret
      exact ⟨ret_bool hr.out.symm, rfl⟩
/-- What the law asks of the two lists. -/
theorem lists_of {rs : List RuleV} (hv : allV (kindI rs) rs) (h1 : 1 ≤ rs.length) (h24 : rs.length ≤ 24) :
    (usedD rs ((rs.length : Int) - 1)).length + (unusedD rs).length = rs.length ∧ inI (usedD rs ((rs.length : Int) - 1)) ((rs.length : Int) - 1) = true ∧
    (∀ x ∈ usedD rs ((rs.length : Int) - 1), inI (unusedD rs) x = false) ∧ (∀ j (h : j < rs.length), (j : Int) ∈ usedD rs ((rs.length : Int) - 1) → ∀ k ∈ rs[j].kids, inI (usedD rs ((rs.length : Int) - 1)) k = true) := by
  obtain ⟨m, hm⟩ : ∃ m : Nat, m + 1 = rs.length := ⟨rs.length - 1, by omega⟩
  have hd : descrB (kindI rs) rs = true := descrB_yes ⟨h1, h24⟩ hv
  have e1 : (rs.length : Int) - 1 = (m : Int) := by omega
  have e2 : usedD rs (m : Int) = picks (usedBy rs m) rs.length := usedD_yes (by unfold okAt; rw [hd, decide_eq_true (by omega)]; rfl)
  have e3 : unusedD rs = picks (fun i => !usedBy rs m i) rs.length := by rw [unusedD_yes hd, show rs.length - 1 = m from by omega]
  rw [e1, e2, e3]
  refine ⟨picks_both _ _, ?_, fun x hx => ?_, fun j hj hx k hk => ?_⟩
  · rw [inI_picks _ (by omega)]
    exact usedBy_self
  · obtain ⟨i, h3, h4, rfl⟩ := (picks_mem _ _ _).1 hx
    rw [inI_picks _ h3, h4]
    rfl
  · obtain ⟨i, h3, h4, h5⟩ := (picks_mem _ _ _).1 hx
    obtain rfl : i = j := by omega
    have h6 := usedBy_kids hv hj (by omega) h4 k hk
    have h7 := allV_kids hv hj k hk
    obtain ⟨q, rfl⟩ : ∃ q : Nat, k = (q : Int) := ⟨k.toNat, by omega⟩
    rw [inI_picks _ (by omega)]
    simpa using h6
set_option maxRecDepth 100000 in
set_option maxHeartbeats 16000000 in
theorem walk_short (a0 : Option Addr) (bs0 : List UInt8) (cap0 : Nat) (w : World) (h : bs0.length ≤ 1048576) (hs : Code a0 bs0.length w) :
    Calls Try.prog 11 #[.slice a0 bs0.length cap0] w fun e w' => e = .returned (.bool true) ∧ Below w.heap.size w w' := by
  have HS := Lib.hid hs
  clear hs
  go_enter Try.func11, Try.ntmps11
  go_wp2_with fail
  refine (big_no a0 bs0.length cap0 w h).mono ?_
  rintro e w1 ⟨rfl, rfl⟩
  go_wp2_with fail
  refine (drawd a0 bs0.length cap0 w (by omega) HS.out).mono ?_
  rintro e w1 ⟨rs, x, cp, rfl, hm, ⟨hn1, hn6⟩, hk0, hrow, hb1⟩
  obtain ⟨z, hz⟩ : ∃ z, z = w1.alloc (.cells #[.slice x rs.length cp] 26) := ⟨_, rfl⟩
  have hbz : Below w1.heap.size w1 z := by subst hz; exact (Below.refl _ _).alloc (Nat.le_refl _) _
  have HX : Hid (CellsAt w1.heap.size [.slice x rs.length cp] z) := by subst hz; exact CellsAt.new w1 _ _
  have HBZ := Lib.hid (hb1.trans (hbz.mono hb1.size))
  have HRC := Lib.hid (hrow.at.below hbz)
  have HV := Lib.hid (made_valid hm (by omega))
  have HSH := Lib.hid (made_short hm)
  have HSP := Lib.hid (made_spelt hm (by omega))
  obtain ⟨us, hus⟩ : ∃ us, us = usedD rs ((rs.length : Int) - 1) := ⟨_, rfl⟩
  obtain ⟨re, hre⟩ : ∃ re, re = unusedD rs := ⟨_, rfl⟩
  have hls := lists_of (made_valid hm (by omega)) hn1 (by omega)
  have HBI : Hid (binD rs = allBin rs us) := by show _ = _; unfold binD; rw [← hus, made_descr hm hn1 (by omega), Bool.and_true]
  have hul : us.length ≤ 6 := by rw [hus]; exact Nat.le_trans (usedD_len _ _) hn6
  have hrl : re.length ≤ 6 := by rw [hre]; exact Nat.le_trans (unusedD_len _) hn6
  have HUM : Hid (∀ y ∈ us, ∃ j : Nat, y = (j : Int) ∧ j < rs.length) := fun y hy => by rw [hus] at hy; exact usedD_mem hy
  have HUF : Hid (∀ W, RdC x rs W → Calls Try.prog 49 #[.agg #[.slice x rs.length cp], .int .i64 ((rs.length : Int) - 1)] W (IntsOut us W)) := fun W hW => by rw [hus]; exact used_impl x rs cp _ W (by omega) HSH.out HSP.out hW
  have HRF : Hid (∀ W, RdC x rs W → Calls Try.prog 50 #[.agg #[.slice x rs.length cp]] W (IntsOut re W)) := fun W hW => by rw [hre]; exact unused_impl x rs cp W (by omega) HSH.out HSP.out hW
  rw [← hus, ← hre] at hls
  have e1 : ((us.length : Int) + (re.length : Int) != (rs.length : Int)) = false := by have := hls.1; simp; omega
  have HUL := Lib.hid hls.2.1
  have HUR := Lib.hid hls.2.2.1
  have HUK := Lib.hid hls.2.2.2
  have hW := Lib.hid hz
  obtain ⟨D, hD⟩ : ∃ D, D = w1.heap.size := ⟨_, rfl⟩
  rw [← hD] at HX
  have HDD := Lib.hid hD
  clear hz hbz hb1 hrow hm hk0 HS hD hus hre hls
  go_upto_region 4 with fail
  rw [← hW.out, ← HDD.out]
  clear hW HDD
  have bx := (HX.out 0 _ rfl).1
  go_wp2_with fail
  refine (HUF.out _ HRC.out).mono ?_
  rintro e y1 ⟨xu, cu, rfl, hru, hb1⟩
  have HRU := Lib.hid hru.rd
  replace HX := Lib.hid (HX.out.below hb1)
  replace HRC := Lib.hid (HRC.out.below hb1)
  replace HBZ := Lib.hid (HBZ.out.trans (hb1.mono HBZ.out.size))
  clear hb1 hru bx HUF
  have bx := (HX.out 0 _ rfl).1
  go_wp2_with fail
  refine (HRF.out _ HRC.out).mono ?_
  rintro e y2 ⟨xr, cr, rfl, hrr, hb2⟩
  have HRR := Lib.hid hrr.rd
  replace HRU : Hid (RdI xu us y2) := HRU.out.below hb2
  replace HX := Lib.hid (HX.out.below hb2)
  replace HRC := Lib.hid (HRC.out.below hb2)
  replace HBZ := Lib.hid (HBZ.out.trans (hb2.mono HBZ.out.size))
  clear hb2 hrr bx HRF
  have bx := (HX.out 0 _ rfl).1
  go_wp2_with fail
  refine (contains_any xu us cu ((rs.length : Int) - 1) _ (by omega) HRU.out).mono ?_
  rintro e y3 ⟨rfl, rfl⟩
  rw [HUL.out]
  clear e1 bx
  go_wp2
  go_loopw [6] (fun i W => ∃ n : Nat, n ≤ us.length ∧ i = .int .i64 n ∧ Hid (Below y2.heap.size y2 W)) (fun i _ => us.length - (intOf i).toNat)
  case atStart => exact ⟨0, Nat.zero_le _, rfl, Below.refl _ _⟩
  case round =>
    obtain ⟨n, hnl, rfl, hb⟩ := hrel
    have n0 : (0 : Int) ≤ (n : Int) := by omega
    by_cases hlt : n < us.length
    · have n1 : (n : Int) < (us.length : Int) := by omega
      have hmem := List.getElem_mem hlt
      obtain ⟨j, hj, hjr⟩ := HUM.out _ hmem
      obtain ⟨bu, ou, hxu, hcu⟩ := HRU.out.cellAt hlt
      subst hxu
      rw [hj] at hmem hcu
      have hnr := Lib.hid (HUR.out _ hmem)
      have HKU := Lib.hid (HUK.out j hjr hmem)
      have j0 : (0 : Int) ≤ (j : Int) := by omega
      have j1 : (j : Int) < (rs.length : Int) := by omega
      have hsh : rs[j].kids.length ≤ 1048576 := (HSH.out _ (List.getElem_mem hjr)).2.2.2
      obtain ⟨b0, off, a4, c4, a5, c5, a6, c6, a7, c7, rfl, ⟨d0, d1, d2, d3, d4, d5, d6, d7⟩, r4, r5, r6, r7⟩ := HRC.out.rd.at j hjr
      obtain ⟨ks, hks⟩ : ∃ ks, ks = rs[j].kids := ⟨_, rfl⟩
      rw [← hks] at d7 r7 HKU hsh
      have HR7 := Lib.hid r7
      have HD7 := Lib.hid d7
      have HCU := Lib.hid hcu
      clear hks hmem hj d0 d1 d2 d3 d4 d5 d6 d7 r4 r5 r6 r7
      replace hcu := cell_keep hb.out hcu
      go_wp2_with fail
      refine (contains_any xr re cr (j : Int) _ (by omega) (HRR.out.below hb.out)).mono ?_
      rintro e y4 ⟨rfl, rfl⟩
      rw [hnr.out]
      clear hcu
      go_wp2
      go_loopw [7] (fun i W => ∃ l : Nat, l ≤ ks.length ∧ i = .int .i64 l ∧ Hid (Below y2.heap.size y2 W)) (fun i _ => ks.length - (intOf i).toNat)
      case atStart => exact ⟨0, Nat.zero_le _, rfl, hb⟩
      case round =>
        clear hb
        obtain ⟨l, hll, rfl, hb⟩ := hrel
        have l0 : (0 : Int) ≤ (l : Int) := by omega
        have HSW : Hid (∀ W, Below y2.heap.size y2 W → W.cell? ⟨D, 0, none⟩ = some (.slice (some ⟨b0, off, none⟩) rs.length cp) ∧ W.cell? ⟨bu, ou + n, none⟩ = some (.int .i64 (j : Int)) ∧ W.cell? ⟨b0, off + j * 8 + 7, none⟩ = some (.slice a7 ks.length c7)) := fun W hW => ⟨(HX.out.below hW 0 _ rfl).1, cell_keep hW HCU.out, cell_keep hW HD7.out⟩
        replace hb : Hid (Below y2.heap.size y2 wr.drew) := below_drewN hb.out 1
        by_cases hl2 : l < ks.length
        · have l1 : (l : Int) < (ks.length : Int) := by omega
          have hin := Lib.hid (HKU.out _ (List.getElem_mem hl2))
          obtain ⟨b7, o7, ha7, hc7⟩ := HR7.out.cellAt hl2
          subst ha7
          have HC7 := Lib.hid hc7
          generalize ks[l] = kk at HC7 hin
          clear hc7
          go_upto_region 14 with fail
          go_region_held3 (fun W => W.cell? ⟨D, 0, none⟩ = some (.slice (some ⟨b0, off, none⟩) rs.length cp) ∧ W.cell? ⟨bu, ou + n, none⟩ = some (.int .i64 (j : Int)) ∧ W.cell? ⟨b0, off + j * 8 + 7, none⟩ = some (.slice (some ⟨b7, o7, none⟩) ks.length c7)) (exact HSW.out _ hb.out) (fail)
          go_upto_region 16 with fail
          replace hb : Hid (Below y2.heap.size y2 wr.drew.drew) := below_drewN hb.out 1
          go_region_held3 (fun W => (W.cell? ⟨D, 0, none⟩ = some (.slice (some ⟨b0, off, none⟩) rs.length cp) ∧ W.cell? ⟨bu, ou + n, none⟩ = some (.int .i64 (j : Int)) ∧ W.cell? ⟨b0, off + j * 8 + 7, none⟩ = some (.slice (some ⟨b7, o7, none⟩) ks.length c7)) ∧ W.cell? ⟨b7, o7 + l, none⟩ = some (.int .i64 kk)) (exact ⟨HSW.out _ hb.out, cell_keep hb.out HC7.out⟩) ((go_at_call 51; refine (contains_any (some ⟨bu, ou, none⟩) us cu kk _ (by omega) (HRU.out.below hb.out)).mono ?_; rintro e y5 ⟨rfl, rfl⟩; rw [hin.out]))
          go_wp2
          go_roundw
          case rel => exact ⟨l + 1, by omega, by go_num, hb⟩
          case measure => simp [intOf]; omega
        · have l1 : ¬ (l : Int) < (ks.length : Int) := by omega
          go_upto_region 14 with fail
          go_region_held3 (fun W => W.cell? ⟨D, 0, none⟩ = some (.slice (some ⟨b0, off, none⟩) rs.length cp) ∧ W.cell? ⟨bu, ou + n, none⟩ = some (.int .i64 (j : Int)) ∧ W.cell? ⟨b0, off + j * 8 + 7, none⟩ = some (.slice a7 ks.length c7)) (exact HSW.out _ hb.out) (fail)
          go_wp2
          go_roundw
          case rel => exact ⟨n + 1, by omega, by go_num, hb⟩
          case measure => simp [intOf]; omega
    · have n1 : ¬ (n : Int) < (us.length : Int) := by omega
      go_wp2
      go_loopw [8, 9] (fun c i W => ∃ (n : Nat) (c0 : Bool), n ≤ us.length ∧ i = .int .i64 n ∧ c = .bool c0 ∧ Hid (c0 = allBin rs (us.take n)) ∧ Hid (Below y2.heap.size y2 W)) (fun _ i _ => us.length - (intOf i).toNat)
      case atStart => exact ⟨0, true, Nat.zero_le _, rfl, rfl, rfl, hb⟩
      case round =>
        clear hb
        obtain ⟨n, c0, hnl, rfl, rfl, hcc, hb⟩ := hrel
        have n0 : (0 : Int) ≤ (n : Int) := by omega
        by_cases hlt : n < us.length
        · have n1 : (n : Int) < (us.length : Int) := by omega
          obtain ⟨j, hj, hjr⟩ := HUM.out _ (List.getElem_mem hlt)
          have hnx := Lib.hid (allBin_next (rs := rs) hlt)
          obtain ⟨bu, ou, hxu, hcu⟩ := HRU.out.cellAt hlt
          rw [hj] at hcu hnx
          rw [kindOf_at hjr, ← hcc.out] at hnx
          have j0 : (0 : Int) ≤ (j : Int) := by omega
          have j1 : (j : Int) < (rs.length : Int) := by omega
          obtain ⟨b0, off, a4, c4, a5, c5, a6, c6, a7, c7, hx0, ⟨d0, d1, d2, d3, d4, d5, d6, d7⟩, -⟩ := HRC.out.rd.at j hjr
          clear hj d0 d2 d3 d4 d5 d6 d7
          subst hxu
          generalize rs[j].kind = kd at d1 hnx
          replace hb : Hid (Below y2.heap.size y2 wr.drew) := below_drewN hb.out 1
          have bx := (HX.out.below hb.out 0 _ rfl).1
          replace hcu := cell_keep hb.out hcu
          replace d1 := cell_keep hb.out d1
          cases c0 with
          | true =>
            have h2 : Hid ((kd != 10) = allBin rs (us.take (n + 1))) := by show _ = _; rw [hnx.out]; rfl
            go_upto_region 22 with fail
            subst hx0
            go_region_held3 (fun W => W.cell? ⟨D, 0, none⟩ = some (.slice (some ⟨b0, off, none⟩) rs.length cp) ∧ W.cell? ⟨bu, ou + n, none⟩ = some (.int .i64 (j : Int)) ∧ W.cell? ⟨b0, off + j * 8 + 1, none⟩ = some (.int .i64 kd)) (exact ⟨bx, hcu, d1⟩) (fail)
            go_wp2
            go_roundw
            case rel => exact ⟨n + 1, kd != 10, by omega, by go_num, rfl, h2, hb⟩
            case measure => simp [intOf]; omega
          | false =>
            have h2 : Hid (false = allBin rs (us.take (n + 1))) := by show _ = _; rw [hnx.out]; rfl
            clear bx hcu d1 hx0
            go_upto_region 22 with fail
            refine wp_region_held_drew (S := (fun _ => True)) (by kernel_rfl) ?_ (fun hHeld => ?_)
            · (try dsimp only); (try trivial)
            refine wpAnyH_take (i := 0) (v := ?v1) (by simp only [List.getElem?_toArray, List.getElem?_cons_zero]; rfl) (by kernel_rfl) (by kernel_rfl) (by kernel_rfl) (by exact fun _ _ _ h => h) (Or.inl ⟨by rfl, ?hy1⟩) (by assumption) ?rest1
            case hy1 => ((intro W hSw; (try dsimp only at hSw); go_simp); (try with_reducible rfl))
            simp only [Act.put, List.setIfInBounds_toArray, List.set_cons_zero, List.set_cons_succ]
            refine wpAnyH_take (i := 1) (v := ?v2) (by simp only [List.getElem?_toArray, List.getElem?_cons_succ, List.getElem?_cons_zero]; rfl) (by kernel_rfl) (by kernel_rfl) (by kernel_rfl) (by exact fun _ _ _ h => h) (Or.inl ⟨by rfl, ?hy2⟩) (by assumption) ?rest2
            case hy2 => ((intro W hSw; (try dsimp only at hSw); go_simp); (try with_reducible rfl))
            simp only [Act.put, List.setIfInBounds_toArray, List.set_cons_zero, List.set_cons_succ]
            refine wpAnyH_take (i := 2) (v := undef) (by simp only [List.getElem?_toArray, List.getElem?_cons_succ, List.getElem?_cons_zero]; rfl) (by kernel_rfl) (by kernel_rfl) (by kernel_rfl) (by exact fun _ _ _ h => h) (Or.inr ⟨by rfl, rfl⟩) (by assumption) ?_
            simp only [Act.put, List.setIfInBounds_toArray, List.set_cons_zero, List.set_cons_succ]
            refine wpAnyH_take (i := 3) (v := undef) (by simp only [List.getElem?_toArray, List.getElem?_cons_succ, List.getElem?_cons_zero]; rfl) (by kernel_rfl) (by kernel_rfl) (by kernel_rfl) (by exact fun _ _ _ h => h) (Or.inr ⟨by rfl, rfl⟩) (by assumption) ?_
            simp only [Act.put, List.setIfInBounds_toArray, List.set_cons_zero, List.set_cons_succ]
            refine wpAnyH_take (i := 4) (v := undef) (by simp only [List.getElem?_toArray, List.getElem?_cons_succ, List.getElem?_cons_zero]; rfl) (by kernel_rfl) (by kernel_rfl) (by kernel_rfl) (by exact fun _ _ _ h => h) (Or.inr ⟨by rfl, rfl⟩) (by assumption) ?_
            simp only [Act.put, List.setIfInBounds_toArray, List.set_cons_zero, List.set_cons_succ]
            refine wpAnyH_take (i := 5) (v := undef) (by simp only [List.getElem?_toArray, List.getElem?_cons_succ, List.getElem?_cons_zero]; rfl) (by kernel_rfl) (by kernel_rfl) (by kernel_rfl) (by exact fun _ _ _ h => h) (Or.inr ⟨by rfl, rfl⟩) (by assumption) ?_
            simp only [Act.put, List.setIfInBounds_toArray, List.set_cons_zero, List.set_cons_succ]
            refine wpAnyH_take (i := 6) (v := undef) (by simp only [List.getElem?_toArray, List.getElem?_cons_succ, List.getElem?_cons_zero]; rfl) (by kernel_rfl) (by kernel_rfl) (by kernel_rfl) (by exact fun _ _ _ h => h) (Or.inr ⟨by rfl, rfl⟩) (by assumption) ?_
            simp only [Act.put, List.setIfInBounds_toArray, List.set_cons_zero, List.set_cons_succ]
            refine wpAnyH_take (i := 7) (v := undef) (by simp only [List.getElem?_toArray, List.getElem?_cons_succ, List.getElem?_cons_zero]; rfl) (by kernel_rfl) (by kernel_rfl) (by kernel_rfl) (by exact fun _ _ _ h => h) (Or.inr ⟨by rfl, rfl⟩) (by assumption) ?_
            simp only [Act.put, List.setIfInBounds_toArray, List.set_cons_zero, List.set_cons_succ]
            refine wpAnyH_take (i := 8) (v := undef) (by simp only [List.getElem?_toArray, List.getElem?_cons_succ, List.getElem?_cons_zero]; rfl) (by kernel_rfl) (by kernel_rfl) (by kernel_rfl) (by exact fun _ _ _ h => h) (Or.inr ⟨by rfl, rfl⟩) (by assumption) ?_
            simp only [Act.put, List.setIfInBounds_toArray, List.set_cons_zero, List.set_cons_succ]
            refine wpAnyH_take (i := 9) (v := undef) (by simp only [List.getElem?_toArray, List.getElem?_cons_succ, List.getElem?_cons_zero]; rfl) (by kernel_rfl) (by kernel_rfl) (by kernel_rfl) (by exact fun _ _ _ h => h) (Or.inr ⟨by rfl, rfl⟩) (by assumption) ?_
            simp only [Act.put, List.setIfInBounds_toArray, List.set_cons_zero, List.set_cons_succ]
            refine wpAnyH_take (i := 10) (v := undef) (by simp only [List.getElem?_toArray, List.getElem?_cons_succ, List.getElem?_cons_zero]; rfl) (by kernel_rfl) (by kernel_rfl) (by kernel_rfl) (by exact fun _ _ _ h => h) (Or.inr ⟨by rfl, rfl⟩) (by assumption) ?_
            simp only [Act.put, List.setIfInBounds_toArray, List.set_cons_zero, List.set_cons_succ]
            refine wpAnyH_take (i := 11) (v := undef) (by simp only [List.getElem?_toArray, List.getElem?_cons_succ, List.getElem?_cons_zero]; rfl) (by kernel_rfl) (by kernel_rfl) (by kernel_rfl) (by exact fun _ _ _ h => h) (Or.inr ⟨by rfl, rfl⟩) (by assumption) ?_
            simp only [Act.put, List.setIfInBounds_toArray, List.set_cons_zero, List.set_cons_succ]
            refine wpAnyH_take (i := 12) (v := ?v3) (by simp only [List.getElem?_toArray, List.getElem?_cons_succ, List.getElem?_cons_zero]; rfl) (by kernel_rfl) (by kernel_rfl) (by kernel_rfl) (by exact fun _ _ _ h => h) (Or.inl ⟨by rfl, ?hy3⟩) (by assumption) ?rest3
            case hy3 => ((intro W hSw; (try dsimp only at hSw); go_simp); (try with_reducible rfl))
            simp only [Act.put, List.setIfInBounds_toArray, List.set_cons_zero, List.set_cons_succ]
            refine wpAnyH_take (i := 13) (v := ?v4) (by simp only [List.getElem?_toArray, List.getElem?_cons_succ, List.getElem?_cons_zero]; rfl) (by kernel_rfl) (by kernel_rfl) (by kernel_rfl) (by exact fun _ _ _ h => h) (Or.inl ⟨by rfl, ?hy4⟩) (by assumption) ?rest4
            case hy4 => ((intro W hSw; (try dsimp only at hSw); go_simp); (try with_reducible rfl))
            simp only [Act.put, List.setIfInBounds_toArray, List.set_cons_zero, List.set_cons_succ]
            refine wpAnyH_done (by kernel_rfl) ?_ _
            go_wp2
            go_roundw
            case rel => exact ⟨n + 1, false, by omega, by go_num, rfl, h2, hb⟩
            case measure => simp [intOf]; omega
        · have n1 : ¬ (n : Int) < (us.length : Int) := by omega
          have hfin : Hid (binD rs = c0) := by show _ = _; have := hcc.out; rw [List.take_of_length_le (by omega)] at this; rw [HBI.out, this]
          have bx := (HX.out.below hb.out 0 _ rfl).1
          go_wp2_with fail
          refine (binary_impl x rs cp _ (by omega) HSH.out HSP.out (HRC.out.below hb.out)).mono ?_
          rintro e y6 ⟨rfl, hb6⟩
          rw [hfin.out]
          have HBF := Lib.hid (HBZ.out.trans ((hb.out.trans (hb6.mono hb.out.size)).mono HBZ.out.size))
          clear hb6 bx hb
          have ec : (c0 == c0) = true := by cases c0 <;> rfl
          go_wp2
          go_ret
          first | exact ⟨rfl, HBF.out⟩ | exact ⟨ret_bool ec, HBF.out⟩
theorem walk (a0 : Option Addr) (bs0 : List UInt8) (cap0 : Nat) (w : World) (r0 : Arg a0 bs0 cap0 w) :
    Calls Try.prog 11 #[.slice a0 bs0.length cap0] w fun e w' => e = .returned (.bool true) ∧ Below w.heap.size w w' := by
  by_cases h0 : 1048576 < bs0.length
  · exact walk_long a0 bs0 cap0 w h0 (by have q1 := r0.2.1; have q2 := r0.2.2.2; omega)
  · exact walk_short a0 bs0 cap0 w (by omega) r0.code
set_option maxRecDepth 100000 in
theorem lifted (os : Os) (started : os.Started) (H : Type) (enc : TypeId × Value → H) :
    ReturnsInHanded {} Try.checked os 11 .any (Rows.fnUsedRulesSpec.pre6 enc Try.prog Try.f11 Rows.fnUsedRulesRow.domain false) (Rows.fnUsedRulesSpec.post enc Try.prog Try.f11 false true false false) := by
  refine returnsInHanded_of_change (C := Try.checked) own started (by kernel_rfl) Try.func11
    (ChangeSpec.witness6 (enc := enc) (C := Try.checked) false ⟨#[], #[.slice none 0 0], []⟩ 8 (by kernel_rfl) (by kernel_rfl) (by kernel_rfl) (by kernel_rfl)) ?_
  intro W base args ds gs before hval0 hW hcnd _
  have hval : ∀ (j : Nat) t v, Try.f11.params[j]? = some t → args[j]? = some v → Value.okWide Try.prog W .any base t v := hval0
  have hW' := hW
  obtain ⟨p, q, hA0, hV, rfl, hfz, hnd⟩ := hW
  have hA : DataW.TrodAll enc Try.prog W 0 (fun _ => true) true Try.f11.params.toList args.toList ds p := hA0
  rw [Try.params11] at hA hval
  obtain ⟨v0, vs0, d0, ds0, p0, q0, hargs, rfl, rfl, h0, r0⟩ := trodAll_cons hA
  obtain ⟨rfl, rfl, rfl⟩ := trodAll_nil r0
  obtain rfl : args = #[v0] := by cases args; simp_all
  obtain ⟨rfl, rfl⟩ := trodVars_none hV
  simp only [List.append_nil] at hW'
  have hlt : ∀ x ∈ p0, x.block < W.heap.size := fun x hx => hW'.lt x (by simpa using hx)
  obtain ⟨a0, len0, cap0, rfl⟩ := okWide_slice Try.underlying22 (hval 0 22 v0 rfl rfl)
  obtain ⟨bs0, rfl, hb0⟩ := bytes_arg h0
  have m0 : ∀ (W' : World), Below W.heap.size W W' → DataW.Trod enc Try.prog W' 0 (fun b => decide (b < W.heap.size)) true 22 (.slice a0 bs0.length cap0) d0 p0 := fun W' hn => Below.trod laidOut (by kernel_rfl) (of_decide_eq_true (by kernel_rfl)) h0 hn (fun x hx => hlt x (by simp [hx]))
  clear hA0 hval0
  refine (walk a0 bs0 cap0 W hb0).mono fun e W' ⟨he, hb⟩ => ?_
  subst he
  exact ⟨_, rfl, _, _, _, [], _, [], hW', trodAll_cons_mk (shut_bool Try.underlying4 _) trodAll_mk0, (trodAll_cons_mk (m0 _ hb) trodAll_mk0), rfl, hb.frame _, fun h => by cases h⟩
theorem closed : joinedFacts Try.prog 11 Try.f11 Rows.fnUsedRulesSpec Rows.fnUsedRulesRow = true := by
  unfold joinedFacts
  rw [may_enter, lifts_final, make_is]
  kernel_rfl
theorem over : Rows.fnUsedRulesRow.holds Try.pinned (OpenSpec.ofChange Rows.fnUsedRulesSpec) :=
  OpenClaim.holds_of_wide 11 Try.f11 rfl rfl rfl rfl rfl rfl rfl ⟨rfl, rfl, rfl, rfl, rfl⟩ rfl rfl rfl rfl rfl (by kernel_rfl) Try.func11 closed
    (of_decide_eq_true (by kernel_rfl)) (by unfold Func.isWrapper; first | (rw [if_pos (by decide +kernel)]; kernel_rfl) | (rw [if_neg (by decide +kernel)]; exact ⟨rfl, rfl⟩))
    (fun os started H enc _ => lifted os started H enc)
/-- THE STATEMENT -/
theorem proved : Rows.FnUsedRulesSaid := over
end fnUsedRules
#print axioms fnUsedRules.proved
end Go.Proofs.Ythjogcknphjilaa
