/- It is proved that the law FnExactEscapeAll returns true at every input of its parameter types and leaves its arguments as they were (statement Rows.FnExactEscapeAllSaid), with no condition. -/
import Derived.Test.YtefkhknfjohnaaaGKG
import Derived.Test.YtefkhknfjohnaaaEscAI
import Derived.Test.YtefkhknfjohnaaaGSz
namespace Go.Proofs.Ytefkhknfjohnaaa
open Go Go.ChangeShapes Go.WideShapes Go.ChangeAt Go.RowKit
namespace fnExactEscapeAll
theorem walk_long0 (a0 : Option Addr) (bs0 : List UInt8) (cap0 : Nat) (c1 : UInt8) (w : World) (h : 1048576 < bs0.length) (hm : bs0.length ≤ 9223372036854775807) :
    Calls Try.prog 5 #[.slice a0 bs0.length cap0, .int .u8 (c1.toNat : Int)] w fun e w' => e = .returned (.bool true) ∧ Below w.heap.size w w' := by
  have g : (1048576 : Int) < (bs0.length : Int) := by omega
  go_enter Try.func5, Try.ntmps5
  go_wp2
  go_ret
  exact ⟨rfl, Below.refl _ _⟩
set_option maxRecDepth 100000 in
set_option maxHeartbeats 2000000 in
theorem walk_short (a0 : Option Addr) (bs0 : List UInt8) (cap0 : Nat) (c1 : UInt8) (w : World) (h0 : bs0.length ≤ 1048576) (r0 : Arg a0 bs0 cap0 w) :
    Calls Try.prog 5 #[.slice a0 bs0.length cap0, .int .u8 (c1.toNat : Int)] w fun e w' => e = .returned (.bool true) ∧ Below w.heap.size w w' := by
  have g0 : ¬ (1048576 : Int) < (bs0.length : Int) := by omega
  have HA0 := Lib.hid r0
  clear r0
  go_enter Try.func5, Try.ntmps5
  go_wp2_with fail
  refine (to_any a0 bs0 cap0 _ (by omega) HA0.out.1).mono ?_
  rintro e w1 ⟨xs0, cs0, rfl, hf1, hb1⟩
  have Qs0 : Hid (w.heap.size ≤ (w).heap.size) := Nat.le_refl _
  have HB0 := Lib.hid hb1
  have Hs0 := Lib.hid hf1
  clear hf1 hb1
  go_wp2_with fail
  refine (escA_spec xs0 bs0 cs0 c1 _ (by omega) Hs0.out.rd ).mono ?_
  rintro e w2 ⟨xws, cws, rfl, hf2, hb2⟩
  have Qws : Hid (w.heap.size ≤ (w1).heap.size) := HB0.out.size
  have Os0_ws := Lib.hid Hs0.out.old
  have Ls0 := Lib.hid (Hs0.out.below hb2)
  clear Hs0
  have Hs0 := Lib.hid Ls0.out
  clear Ls0
  have HB2 := Lib.hid (HB0.out.trans (hb2.mono HB0.out.size))
  clear HB0
  have Hws := Lib.hid hf2
  clear hf2 hb2
  go_wp2_with fail
  refine (to_any a0 bs0 cap0 _ (by omega) (HA0.out.1.below HB2.out)).mono ?_
  rintro e w3 ⟨xy0, cy0, rfl, hf3, hb3⟩
  have Qy0 : Hid (w.heap.size ≤ (w2).heap.size) := HB2.out.size
  have Ows_y0 := Lib.hid Hws.out.old
  have Lws := Lib.hid (Hws.out.below hb3)
  clear Hws
  have Hws := Lib.hid Lws.out
  clear Lws
  have HB3 := Lib.hid (HB2.out.trans (hb3.mono HB2.out.size))
  clear HB2
  have Hy0 := Lib.hid hf3
  clear hf3 hb3
  go_wp2_with fail
  refine (escA_impl xy0 bs0 cy0 c1 _ (by omega) Hy0.out.rd ).mono ?_
  rintro e w4 ⟨xgs, cgs, rfl, hf4, hb4⟩
  have Qgs : Hid (w.heap.size ≤ (w3).heap.size) := HB3.out.size
  have Ows_gs := Lib.hid Hws.out.old
  have Oy0_gs := Lib.hid Hy0.out.old
  have Lws := Lib.hid (Hws.out.below hb4)
  clear Hws
  have Hws := Lib.hid Lws.out
  clear Lws
  have Ly0 := Lib.hid (Hy0.out.below hb4)
  clear Hy0
  have Hy0 := Lib.hid Ly0.out
  clear Ly0
  have HB4 := Lib.hid (HB3.out.trans (hb4.mono HB3.out.size))
  clear HB3
  have Hgs := Lib.hid hf4
  clear hf4 hb4
  go_wp2_with fail
  refine (eq_any xgs xws ((escAF c1 bs0)) ((escAF c1 bs0)) cgs cws _ (by have h1 := escAF_length c1 bs0; omega) Hgs.out.rd Hws.out.rd).mono ?_
  rintro e w5 ⟨rfl, n5', rfl⟩
  have hb5 : Below (w4).heap.size (w4) ((w4).drewN n5') := below_drewN (Below.refl _ _) n5'
  have Lws := Lib.hid (Hws.out.below hb5)
  clear Hws
  have Hws := Lib.hid Lws.out
  clear Lws
  have Ly0 := Lib.hid (Hy0.out.below hb5)
  clear Hy0
  have Hy0 := Lib.hid Ly0.out
  clear Ly0
  have Lgs := Lib.hid (Hgs.out.below hb5)
  clear Hgs
  have Hgs := Lib.hid Lgs.out
  clear Lgs
  have HB5 := Lib.hid (HB4.out.trans (hb5.mono HB4.out.size))
  clear HB4
  clear hb5
  have hd5 : decide ((escAF c1 bs0) = (escAF c1 bs0)) = true := by simp
  go_wp2_with fail
  refine (to_any a0 bs0 cap0 _ (by omega) (HA0.out.1.below HB5.out)).mono ?_
  rintro e w6 ⟨xt0, ct0, rfl, hf6, hb6⟩
  have Qt0 : Hid (w.heap.size ≤ ((w4).drewN n5').heap.size) := HB5.out.size
  have Ows_t0 := Lib.hid Hws.out.old
  have Oy0_t0 := Lib.hid Hy0.out.old
  have Ogs_t0 := Lib.hid Hgs.out.old
  have Lws := Lib.hid (Hws.out.below hb6)
  clear Hws
  have Hws := Lib.hid Lws.out
  clear Lws
  have Ly0 := Lib.hid (Hy0.out.below hb6)
  clear Hy0
  have Hy0 := Lib.hid Ly0.out
  clear Ly0
  have Lgs := Lib.hid (Hgs.out.below hb6)
  clear Hgs
  have Hgs := Lib.hid Lgs.out
  clear Lgs
  have HB6 := Lib.hid (HB5.out.trans (hb6.mono HB5.out.size))
  clear HB5
  have Ht0 := Lib.hid hf6
  clear hf6 hb6
  go_wp2_with fail
  refine (eq_any xy0 xt0 (bs0) (bs0) cy0 ct0 _ (by have h1 := escAF_length c1 bs0; omega) Hy0.out.rd Ht0.out.rd).mono ?_
  rintro e w7 ⟨rfl, n7', rfl⟩
  have hb7 : Below (w6).heap.size (w6) ((w6).drewN n7') := below_drewN (Below.refl _ _) n7'
  have Lws := Lib.hid (Hws.out.below hb7)
  clear Hws
  have Hws := Lib.hid Lws.out
  clear Lws
  have Ly0 := Lib.hid (Hy0.out.below hb7)
  clear Hy0
  have Hy0 := Lib.hid Ly0.out
  clear Ly0
  have Lgs := Lib.hid (Hgs.out.below hb7)
  clear Hgs
  have Hgs := Lib.hid Lgs.out
  clear Lgs
  have Lt0 := Lib.hid (Ht0.out.below hb7)
  clear Ht0
  have Ht0 := Lib.hid Lt0.out
  clear Lt0
  have HB7 := Lib.hid (HB6.out.trans (hb7.mono HB6.out.size))
  clear HB6
  clear hb7
  have hd7 : decide (bs0 = bs0) = true := by simp
  go_wp2_with fail
  refine (mark_any (w2).heap.size xy0 (bs0) cy0 (1) _ (by have h1 := escAF_length c1 bs0; omega) (by have h1 := escAF_length c1 bs0; omega) Hy0.out).mono ?_
  rintro e w8 ⟨rfl, hf8, ht8⟩
  have Lws := Lib.hid (Hws.out.keepOld Ows_y0.out ht8)
  clear Hws
  have Hws := Lib.hid Lws.out
  clear Lws
  have Lgs := Lib.hid (Hgs.out.keepNew Oy0_gs.out ht8)
  clear Hgs
  have Hgs := Lib.hid Lgs.out
  clear Lgs
  have HB8 := Lib.hid (ht8.below HB7.out HB7.out.size Qy0.out)
  clear HB7
  clear Hy0
  have Hy0 := Lib.hid hf8
  clear hf8 ht8
  go_wp2_with fail
  refine (eq_any xgs xws ((escAF c1 bs0)) ((escAF c1 bs0)) cgs cws _ (by have h1 := escAF_length c1 bs0; omega) Hgs.out.rd Hws.out.rd).mono ?_
  rintro e w9 ⟨rfl, n9', rfl⟩
  have hb9 : Below (w8).heap.size (w8) ((w8).drewN n9') := below_drewN (Below.refl _ _) n9'
  have Lws := Lib.hid (Hws.out.below hb9)
  clear Hws
  have Hws := Lib.hid Lws.out
  clear Lws
  have Lgs := Lib.hid (Hgs.out.below hb9)
  clear Hgs
  have Hgs := Lib.hid Lgs.out
  clear Lgs
  have HB9 := Lib.hid (HB8.out.trans (hb9.mono HB8.out.size))
  clear HB8
  clear hb9
  have hd9 : decide ((escAF c1 bs0) = (escAF c1 bs0)) = true := by simp
  go_wp2_with fail
  refine (mark_any (w3).heap.size xgs ((escAF c1 bs0)) cgs (1) _ (by have h1 := escAF_length c1 bs0; omega) (by have h1 := escAF_length c1 bs0; omega) Hgs.out).mono ?_
  rintro e w10 ⟨rfl, hf10, ht10⟩
  have Lws := Lib.hid (Hws.out.keepOld Ows_gs.out ht10)
  clear Hws
  have Hws := Lib.hid Lws.out
  clear Lws
  have HB10 := Lib.hid (ht10.below HB9.out HB9.out.size Qgs.out)
  clear HB9
  clear Hgs
  have Hgs := Lib.hid hf10
  clear hf10 ht10
  go_wp2_with fail
  refine (held_any xgs ((escAF c1 bs0)).length cgs (1) _ (by have h1 := escAF_length c1 bs0; omega) (by have h1 := escAF_length c1 bs0; omega) Hgs.out.rd).mono ?_
  rintro e w11 ⟨rfl, rfl⟩
  go_wp2_with fail
  refine (to_any a0 bs0 cap0 _ (by omega) (HA0.out.1.below HB10.out)).mono ?_
  rintro e w12 ⟨xv0, cv0, rfl, hf12, hb12⟩
  have Qv0 : Hid (w.heap.size ≤ (w10).heap.size) := HB10.out.size
  have Ows_v0 := Lib.hid Hws.out.old
  have Ogs_v0 := Lib.hid Hgs.out.old
  have Lws := Lib.hid (Hws.out.below hb12)
  clear Hws
  have Hws := Lib.hid Lws.out
  clear Lws
  have Lgs := Lib.hid (Hgs.out.below hb12)
  clear Hgs
  have Hgs := Lib.hid Lgs.out
  clear Lgs
  have HB12 := Lib.hid (HB10.out.trans (hb12.mono HB10.out.size))
  clear HB10
  have Hv0 := Lib.hid hf12
  clear hf12 hb12
  go_wp2_with fail
  refine (escA_impl xv0 bs0 cv0 c1 _ (by omega) Hv0.out.rd ).mono ?_
  rintro e w13 ⟨xhs, chs, rfl, hf13, hb13⟩
  have Qhs : Hid (w.heap.size ≤ (w12).heap.size) := HB12.out.size
  have Ows_hs := Lib.hid Hws.out.old
  have Ogs_hs := Lib.hid Hgs.out.old
  have Ov0_hs := Lib.hid Hv0.out.old
  have Lws := Lib.hid (Hws.out.below hb13)
  clear Hws
  have Hws := Lib.hid Lws.out
  clear Lws
  have Lgs := Lib.hid (Hgs.out.below hb13)
  clear Hgs
  have Hgs := Lib.hid Lgs.out
  clear Lgs
  have Lv0 := Lib.hid (Hv0.out.below hb13)
  clear Hv0
  have Hv0 := Lib.hid Lv0.out
  clear Lv0
  have HB13 := Lib.hid (HB12.out.trans (hb13.mono HB12.out.size))
  clear HB12
  have Hhs := Lib.hid hf13
  clear hf13 hb13
  go_wp2_with fail
  refine (eq_any xhs xws ((escAF c1 bs0)) ((escAF c1 bs0)) chs cws _ (by have h1 := escAF_length c1 bs0; omega) Hhs.out.rd Hws.out.rd).mono ?_
  rintro e w14 ⟨rfl, n14', rfl⟩
  have hb14 : Below (w13).heap.size (w13) ((w13).drewN n14') := below_drewN (Below.refl _ _) n14'
  have Lws := Lib.hid (Hws.out.below hb14)
  clear Hws
  have Hws := Lib.hid Lws.out
  clear Lws
  have Lgs := Lib.hid (Hgs.out.below hb14)
  clear Hgs
  have Hgs := Lib.hid Lgs.out
  clear Lgs
  have Lv0 := Lib.hid (Hv0.out.below hb14)
  clear Hv0
  have Hv0 := Lib.hid Lv0.out
  clear Lv0
  have Lhs := Lib.hid (Hhs.out.below hb14)
  clear Hhs
  have Hhs := Lib.hid Lhs.out
  clear Lhs
  have HB14 := Lib.hid (HB13.out.trans (hb14.mono HB13.out.size))
  clear HB13
  clear hb14
  have hd14 : decide ((escAF c1 bs0) = (escAF c1 bs0)) = true := by simp
  go_wp2_with fail
  refine (held_any xgs ((escAF c1 bs0)).length cgs (1) _ (by have h1 := escAF_length c1 bs0; omega) (by have h1 := escAF_length c1 bs0; omega) Hgs.out.rd).mono ?_
  rintro e w15 ⟨rfl, rfl⟩
  go_wp2_with fail
  go_ret
  exact ⟨rfl, HB14.out⟩
theorem walk (a0 : Option Addr) (bs0 : List UInt8) (cap0 : Nat) (c1 : UInt8) (w : World) (r0 : Arg a0 bs0 cap0 w) :
    Calls Try.prog 5 #[.slice a0 bs0.length cap0, .int .u8 (c1.toNat : Int)] w fun e w' => e = .returned (.bool true) ∧ Below w.heap.size w w' := by
  by_cases h0 : 1048576 < bs0.length
  · exact walk_long0 a0 bs0 cap0 c1 w  h0 (by have q1 := r0.2.1; have q2 := r0.2.2.2; omega)
  exact walk_short a0 bs0 cap0 c1 w (by omega)  r0 
set_option maxRecDepth 100000 in
theorem lifted (os : Os) (started : os.Started) (H : Type) (enc : TypeId × Value → H) :
    ReturnsInHanded {} Try.checked os 5 .any (Rows.fnExactEscapeAllSpec.pre6 enc Try.prog Try.f5 Rows.fnExactEscapeAllRow.domain false) (Rows.fnExactEscapeAllSpec.post enc Try.prog Try.f5 false true false false) := by
  refine returnsInHanded_of_change (C := Try.checked) own started (by kernel_rfl) Try.func5
    (ChangeSpec.witness6 (enc := enc) (C := Try.checked) false ⟨#[], #[.slice none 0 0, .int .u8 0], []⟩ 8 (by kernel_rfl) (by kernel_rfl) (by kernel_rfl) (by kernel_rfl)) ?_
  intro W base args ds gs before hval0 hW hcnd _
  have hval : ∀ (j : Nat) t v, Try.f5.params[j]? = some t → args[j]? = some v → Value.okWide Try.prog W .any base t v := hval0
  have hW' := hW
  obtain ⟨p, q, hA0, hV, rfl, hfz, hnd⟩ := hW
  have hA : DataW.TrodAll enc Try.prog W 0 (fun _ => true) true Try.f5.params.toList args.toList ds p := hA0
  rw [Try.params5] at hA hval
  obtain ⟨v0, vs0, d0, ds0, p0, q0, hargs, rfl, rfl, h0, r0⟩ := trodAll_cons hA
  obtain ⟨v1, vs1, d1, ds1, p1, q1, rfl, rfl, rfl, h1, r1⟩ := trodAll_cons r0
  obtain ⟨rfl, rfl, rfl⟩ := trodAll_nil r1
  obtain rfl : args = #[v0, v1] := by cases args; simp_all
  obtain ⟨rfl, rfl⟩ := trodVars_none hV
  simp only [List.append_nil] at hW'
  have hlt : ∀ x ∈ p0 ++ p1, x.block < W.heap.size := fun x hx => hW'.lt x (by simpa using hx)
  obtain ⟨a0, len0, cap0, rfl⟩ := okWide_slice Try.underlying22 (hval 0 22 v0 rfl rfl)
  obtain ⟨bs0, rfl, hb0⟩ := bytes_arg h0
  have m0 : ∀ (W' : World), Below W.heap.size W W' → DataW.Trod enc Try.prog W' 0 (fun b => decide (b < W.heap.size)) true 22 (.slice a0 bs0.length cap0) d0 p0 := fun W' hn => Below.trod laidOut (by kernel_rfl) (of_decide_eq_true (by kernel_rfl)) h0 hn (fun x hx => hlt x (by simp [hx]))
  obtain ⟨n1, rfl, rfl, rfl, w1⟩ := open_int Try.underlying5 (hval 1 5 v1 rfl rfl) h1
  obtain ⟨c1, rfl⟩ := u8_byte w1
  clear hA0 hval0
  refine (walk a0 bs0 cap0 c1 W hb0).mono fun e W' ⟨he, hb⟩ => ?_
  subst he
  exact ⟨_, rfl, _, _, _, [], _, [], hW', trodAll_cons_mk (shut_bool Try.underlying4 _) trodAll_mk0, (trodAll_cons_mk (m0 _ hb) (trodAll_cons_mk (shut_int Try.underlying5 w1) trodAll_mk0)), rfl, hb.frame _, fun h => by cases h⟩
theorem closed : joinedFacts Try.prog 5 Try.f5 Rows.fnExactEscapeAllSpec Rows.fnExactEscapeAllRow = true := by
  unfold joinedFacts
  rw [may_enter, lifts_final, make_is]
  kernel_rfl
theorem over : Rows.fnExactEscapeAllRow.holds Try.pinned (OpenSpec.ofChange Rows.fnExactEscapeAllSpec) :=
  OpenClaim.holds_of_wide 5 Try.f5 rfl rfl rfl rfl rfl rfl rfl ⟨rfl, rfl, rfl, rfl, rfl⟩ rfl rfl rfl rfl rfl (by kernel_rfl) Try.func5 closed
    (of_decide_eq_true (by kernel_rfl)) (by unfold Func.isWrapper; first | (rw [if_pos (by decide +kernel)]; kernel_rfl) | (rw [if_neg (by decide +kernel)]; exact ⟨rfl, rfl⟩))
    (fun os started H enc _ => lifted os started H enc)
/-- THE STATEMENT -/
theorem proved : Rows.FnExactEscapeAllSaid := over
end fnExactEscapeAll
#print axioms fnExactEscapeAll.proved
end Go.Proofs.Ytefkhknfjohnaaa
