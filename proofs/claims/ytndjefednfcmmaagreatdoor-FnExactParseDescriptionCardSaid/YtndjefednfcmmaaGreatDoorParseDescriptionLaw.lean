/- It is proved that the law FnExactParseDescription returns true at every input of its parameter type and leaves its argument as it was (statement Rows.FnExactParseDescriptionCardSaid), under no condition beyond the card's own: the listed variables of the library read as its text lays them. -/
import Derived.Test.YtndjefednfcmmaaGreatDoorGSP
import Derived.Test.YtndjefednfcmmaaGreatDoorGMk
import Derived.Test.YtndjefednfcmmaaGreatDoorRuleEq
import Derived.Test.YtndjefednfcmmaaGreatDoorGPar
import Derived.Test.YtndjefednfcmmaaGreatDoorCards
import Derived.Test.YtndjefednfcmmaaGreatDoorTie
import Derived.SevenTiedAt
namespace Go.Proofs.YtndjefednfcmmaaGreatDoor
open Go Go.ChangeShapes Go.WideShapes Go.ChangeAt Go.RowKit
open Go.ChangeMaps (open_string shut_string)
namespace fnExactParseDescription
theorem sumW_short {rs : List RuleV} (hs : ∀ r ∈ rs, Short r) : ∀ k, k ≤ rs.length → sumW rs k ≤ k * 4194308
  | 0, _ => by simp [sumW]
  | k + 1, h => by
    have ih := sumW_short hs k (by omega)
    have h1 := sumW_next rs k (by omega)
    obtain ⟨q1, q2, q3, q4⟩ := hs _ (List.getElem_mem (show k < rs.length by omega))
    rw [h1]
    unfold widthR
    omega
theorem walk_long (s0 : ByteArray) (w : World) (h : 1048576 < s0.size) :
    Calls Tryz.prog 4 #[.string s0] w fun e w' => e = .returned (.bool true) ∧ Below w.heap.size w w' := by
  have g : (1048576 : Int) < (s0.size : Int) := by omega
  go_enter Tryz.func4, Tryz.ntmps4
  go_wp2
  go_ret
  exact ⟨rfl, Below.refl _ _⟩
set_option maxRecDepth 100000 in
set_option maxHeartbeats 8000000 in
theorem walk_short (s0 : ByteArray) (w : World) (h0 : s0.size ≤ 1048576) (ht : Tabs w) :
    Calls Tryz.prog 4 #[.string s0] w fun e w' => e = .returned (.bool true) ∧ Below w.heap.size w w' := by
  have g0 : ¬ (1048576 : Int) < (s0.size : Int) := by omega
  have HTB := Lib.hid ht
  clear ht
  go_enter Tryz.func4, Tryz.ntmps4
  go_wp2_with fail
  refine (pdescr_spec s0 _ h0).mono ?_
  rintro e w3 ⟨xw, rs, yw, n, rfl, hout, hrw, hb3⟩
  have HIMP : Hid (∀ W, Tabs W → Calls Tryz.prog 9 #[.string s0] W (DescrRead (rs, n) W)) := fun W h => by
    have := pdescr_impl s0 W h0 h
    rw [hout] at this
    exact this
  obtain ⟨hv, hl24⟩ := parseD_small s0
  rw [hout] at hv hl24
  replace hl24 : rs.length ≤ 24 := hl24
  have HS : Hid (∀ r ∈ rs, Short r) := valid_short hv
  have hlen : rs.length ≤ 1048576 := by omega
  have hk1 : 1 + sumW rs rs.length ≤ 1073741824 := by
    have := sumW_short HS.out rs.length (Nat.le_refl _)
    omega
  obtain ⟨T, hT⟩ : ∃ T, T = 1 + sumW rs rs.length := ⟨_, rfl⟩
  have HT := Lib.hid hT
  have hT1 : T ≤ 1073741824 := by omega
  have hT0 : ¬ ((T : Int) < 0) := by omega
  have HK1 := Lib.hid hk1
  clear hT hk1 hv hl24 hout
  obtain ⟨z4, hz4⟩ : ∃ z, z = w3.alloc (.cells #[.slice xw rs.length yw] 26) := ⟨_, rfl⟩
  have hb4 : Below w3.heap.size w3 z4 := by subst hz4; exact (Below.refl _ _).alloc (Nat.le_refl _) _
  have hT4 : CellsAt w3.heap.size [.slice xw rs.length yw] z4 := by subst hz4; exact CellsAt.new w3 _ _
  have HT4 := Lib.hid hT4
  have HW := Lib.hid (hrw.below hb4).rdc.rd
  have HB := Lib.hid (hb3.trans (hb4.mono hb3.size))
  have hn4 : Hid (w3.heap.size < z4.heap.size) := by subst hz4; show _ < _; simp
  have HZ := Lib.hid hz4
  clear hb3 hb4 hT4 hrw hz4
  go_wp2_with fail
  rw [← HZ.out]
  clear HZ
  refine (HIMP.out _ (HTB.out.below HB.out)).mono ?_
  rintro e v6 ⟨xg, rs', yg, n', rfl, hpq, hog, hb⟩
  cases hpq
  have HA := Lib.hid hb
  have HOG := Lib.hid hog
  have hs6 := Lib.hid hb.size
  clear hog hb
  obtain ⟨z6, hz6⟩ : ∃ z, z = v6.alloc (.cells #[.slice xg rs.length yg] 26) := ⟨_, rfl⟩
  have hb : Below v6.heap.size v6 z6 := by subst hz6; exact (Below.refl _ _).alloc (Nat.le_refl _) _
  have hT6 : CellsAt v6.heap.size [.slice xg rs.length yg] z6 := by subst hz6; exact CellsAt.new v6 _ _
  have HT6 := Lib.hid hT6
  replace HA := Lib.hid (HA.out.trans (hb.mono HA.out.size))
  replace HOG := Lib.hid (HOG.out.below hb)
  have HZ := Lib.hid hz6
  clear hb hT6
  have b4 := (HT4.out.below HA.out 0 _ rfl).1
  have b6 := (HT6.out 0 _ rfl).1
  clear hz6
  go_upto_region 5 with fail
  rw [← HZ.out]
  clear HZ
  go_wp2_with fail
  clear b4 b6
  refine (eq_descr xg xw rs yg yw _ hlen HS.out HOG.out.rd (HW.out.below HA.out)).mono ?_
  rintro e v7 ⟨rfl, hb⟩
  replace HA := Lib.hid (HA.out.trans (hb.mono HA.out.size))
  replace HOG := Lib.hid (HOG.out.below hb)
  replace HT6 := Lib.hid (HT6.out.below hb)
  clear hb
  have b6 := (HT6.out 0 _ rfl).1
  go_wp2_with fail
  clear b6
  refine (mark_descr z4.heap.size v6.heap.size xg rs yg 1 _ hlen HS.out (by omega) HK1.out HOG.out).mono ?_
  rintro e v12 ⟨rfl, L, hmix, hoL, ha⟩
  rw [← HT.out]
  have sz := HA.out.size
  replace HA := Lib.hid (HA.out.trans (ha.toBelow (Nat.le_refl _) sz))
  replace HT6 := Lib.hid (HT6.out.apart ha (.inr (Nat.le_refl _)))
  have HOL := Lib.hid hoL
  have HM := Lib.hid hmix
  clear hmix hoL ha HOG sz
  have b6 := (HT6.out 0 _ rfl).1
  go_wp2_with fail
  clear b6
  refine (held_descr xg rs L yg 1 _ hlen HS.out (by omega) HK1.out HM.out HOL.out.rd).mono ?_
  rintro e v13 ⟨rfl, hb⟩
  rw [← HT.out]
  replace HA := Lib.hid (HA.out.trans (hb.mono HA.out.size))
  replace HOL := Lib.hid (HOL.out.below hb)
  replace HT6 := Lib.hid (HT6.out.below hb)
  clear hb
  have hzw : z4.heap.size ≤ v13.heap.size := HA.out.size
  have HWA := Lib.hid (HB.out.trans (HA.out.mono HB.out.size))
  go_wp2_with fail
  refine (HIMP.out _ (HTB.out.below HWA.out)).mono ?_
  rintro e v15 ⟨xc, rs', yc, n', rfl, hpq, hoc, hb⟩
  cases hpq
  have HOC := Lib.hid hoc
  replace HA := Lib.hid (HA.out.trans (hb.mono HA.out.size))
  replace HOL := Lib.hid (HOL.out.below hb)
  replace HT6 := Lib.hid (HT6.out.below hb)
  clear hb hoc
  obtain ⟨z10, hz10⟩ : ∃ z, z = v15.alloc (.cells #[.slice xc rs.length yc] 26) := ⟨_, rfl⟩
  have hb : Below v15.heap.size v15 z10 := by subst hz10; exact (Below.refl _ _).alloc (Nat.le_refl _) _
  have hT10 : CellsAt v15.heap.size [.slice xc rs.length yc] z10 := by subst hz10; exact CellsAt.new v15 _ _
  have HT10 := Lib.hid hT10
  replace HOC := Lib.hid (HOC.out.below hb)
  replace HA := Lib.hid (HA.out.trans (hb.mono HA.out.size))
  replace HOL := Lib.hid (HOL.out.below hb)
  replace HT6 := Lib.hid (HT6.out.below hb)
  have HZ := Lib.hid hz10
  clear hb hT10 hz10
  have b4 := (HT4.out.below HA.out 0 _ rfl).1
  have b10 := (HT10.out 0 _ rfl).1
  go_upto_region 16 with fail
  rw [← HZ.out]
  clear HZ
  go_wp2_with fail
  clear b4 b10
  refine (eq_descr xc xw rs yc yw _ hlen HS.out HOC.out.rd (HW.out.below HA.out)).mono ?_
  rintro e v16 ⟨rfl, hb⟩
  replace HA := Lib.hid (HA.out.trans (hb.mono HA.out.size))
  replace HOL := Lib.hid (HOL.out.below hb)
  replace HT6 := Lib.hid (HT6.out.below hb)
  clear hb
  have b6 := (HT6.out 0 _ rfl).1
  go_wp2_with fail
  clear b6
  refine (held_descr xg rs L yg 1 _ hlen HS.out (by omega) HK1.out HM.out HOL.out.rd).mono ?_
  rintro e v17 ⟨rfl, hb⟩
  rw [← HT.out]
  replace HA := Lib.hid (HA.out.trans (hb.mono HA.out.size))
  have hfin := Lib.hid (HB.out.trans (HA.out.mono HB.out.size))
  clear hb
  go_wp2
  go_ret
  exact ⟨rfl, hfin.out⟩
theorem walk (s0 : ByteArray) (w : World) (z0 : s0.size ≤ 9223372036854775807) (ht : Tabs w) :
    Calls Tryz.prog 4 #[.string s0] w fun e w' => e = .returned (.bool true) ∧ Below w.heap.size w w' := by
  have := z0
  by_cases h0 : 1048576 < s0.size
  · exact walk_long s0 w h0
  · exact walk_short s0 w (by omega) ht
theorem door_met (os : Os) (args : Array Value) : laidMetH Tryz.prog Rows.fnExactParseDescriptionRow.laid ((World.doorLaid Tryz.prog 400 os).forCall (fun _ _ => 0) ⟨#[], args, []⟩).memory :=
  laidMetH_of_parts3 (fuel := 8) (laidMet_of_run' 8 (by kernel_rfl) (by kernel_rfl)) (by kernel_rfl) (by kernel_rfl)
theorem of_laid {W : World} (h : laidMetH Tryz.prog Rows.fnExactParseDescriptionRow.laid W) : Tabs W := tabs_of h
set_option maxRecDepth 100000 in
theorem lifted (os : Os) (started : os.Started) (H : Type) (enc : TypeId × Value → H) :
    ReturnsInHanded {} Tryz.checked os 4 .any (fun w args => (Rows.fnExactParseDescriptionSpec.pre enc Tryz.prog Tryz.f4 [] false w args ∧ laidMetH Tryz.prog Rows.fnExactParseDescriptionRow.laid w) ∧ sizedMet enc Tryz.prog Tryz.f4 (OpenSpec.ofChange Rows.fnExactParseDescriptionSpec) false w args)
      (Rows.fnExactParseDescriptionSpec.post enc Tryz.prog Tryz.f4 false true false false) := by
  refine returnsInHanded_of_change_and (C := Tryz.checked) (X := fun w _ => laidMetH Tryz.prog Rows.fnExactParseDescriptionRow.laid w) (fun _ _ _ hh h => h.of_heap hh) ownL started (by kernel_rfl) Tryz.func4
    (ChangeSpec.witness_shaped (enc := enc) (C := Tryz.checked) (os := os) (X := fun w _ => laidMetH Tryz.prog Rows.fnExactParseDescriptionRow.laid w) false (World.doorLaid Tryz.prog 400 os) #[.string ⟨#[]⟩] 8 rfl (World.shaped_of_RefB (by kernel_rfl) (by kernel_rfl)) (by kernel_rfl) (by kernel_rfl) (by kernel_rfl) (door_met os _)) ?_
  intro W base args ds gs before hval0 hW _ _ hL _
  have hval : ∀ (j : Nat) t v, Tryz.f4.params[j]? = some t → args[j]? = some v → Value.okWide Tryz.prog W .any base t v := hval0
  have hW' := hW
  obtain ⟨p, q, hA0, hV, rfl, hfz, hnd⟩ := hW
  have hA : DataW.TrodAll enc Tryz.prog W 0 (fun _ => true) true Tryz.f4.params.toList args.toList ds p := hA0
  rw [Tryz.params4] at hA hval
  obtain ⟨v0, vs0, d0, ds0, p0, q0, hargs, rfl, rfl, h0, r0⟩ := trodAll_cons hA
  obtain ⟨rfl, rfl, rfl⟩ := trodAll_nil r0
  obtain rfl : args = #[v0] := by cases args; simp_all
  obtain ⟨rfl, rfl⟩ := trodVars_none hV
  simp only [List.append_nil] at hW'
  have hlt : ∀ x ∈ p0, x.block < W.heap.size := fun x hx => hW'.lt x (by simpa using hx)
  obtain ⟨s0, rfl, rfl, rfl, w0⟩ := open_string Tryz.underlying9 (hval 0 9 v0 rfl rfl) h0
  have hT := of_laid hL
  clear hA0 hval0
  refine (walk s0 W (by unfold maxLen at w0; omega) hT).mono fun e W' ⟨he, hb⟩ => ?_
  subst he
  exact ⟨_, rfl, _, _, _, [], _, [], hW', trodAll_cons_mk (shut_bool Tryz.underlying4 _) trodAll_mk0, (trodAll_cons_mk (shut_string Tryz.underlying9 w0) trodAll_mk0), rfl, hb.frame _, fun h => by cases h⟩
theorem row_holds : Rows.FnExactParseDescriptionSaid :=
  OpenClaim.holds_of_wide 4 Tryz.f4 rfl rfl rfl rfl rfl rfl rfl ⟨rfl, rfl, rfl, rfl, rfl⟩ rfl rfl rfl rfl rfl (by kernel_rfl) Tryz.func4 (by kernel_rfl)
    (of_decide_eq_true (by kernel_rfl)) (by unfold Func.isWrapper; first | (rw [if_pos (by decide +kernel)]; kernel_rfl) | (rw [if_neg (by decide +kernel)]; exact ⟨rfl, rfl⟩))
    (fun os started H enc _ => lifted os started H enc)
/-- THE STATEMENT -/
theorem proved : Rows.FnExactParseDescriptionCardSaid :=
  Claim7.holds_tied_plain_at .later [] [.data, .data, .data, .sentinel, .sentinel] true Rows.fnExactParseDescriptionCard.stood.harness Rows.fnExactParseDescriptionCard.stood.looks
    row_holds (fun _ h => by cases h) (by kernel_rfl) (fun _ h => by cases h) fnExactParseDescription_row_tie rfl ⟨rfl, rfl⟩ (by kernel_rfl) rfl
    (fun f fn hf hfn => by
      obtain rfl : f = 4 := Option.some.inj ((show Tryz.prog.funcNamed Rows.fnExactParseDescriptionRow.func = some 4 by kernel_rfl).symm.trans hf) |>.symm
      obtain rfl : fn = Tryz.f4 := (Option.some.inj (Tryz.func4.symm.trans hfn)).symm
      exact ⟨by kernel_rfl, fun j t ht => by
        rw [Tryz.params4] at ht
        have hm : t ∈ [9] := by simpa using Array.mem_of_getElem? ht
        have hall : ([9].all fun u => !Tryz.prog.wantsStandIn u) = true := by kernel_rfl
        exact (show Tryz.prog.wantsStandIn t = false by simpa using List.all_eq_true.1 hall t hm)⟩)
    (by kernel_rfl)
end fnExactParseDescription
#print axioms fnExactParseDescription.proved
end Go.Proofs.YtndjefednfcmmaaGreatDoor
