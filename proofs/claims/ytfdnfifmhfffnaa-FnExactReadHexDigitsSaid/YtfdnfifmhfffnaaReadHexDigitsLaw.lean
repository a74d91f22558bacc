/- It is proved that the law FnExactReadHexDigits returns true at every input of its parameter types and leaves its arguments as they were (statement Rows.FnExactReadHexDigitsSaid), with no condition. -/
import Derived.Test.YtfdnfifmhfffnaaSHexR
import Derived.Test.YtfdnfifmhfffnaaArg
namespace Go.Proofs.Ytfdnfifmhfffnaa
open Go Go.ChangeShapes Go.WideShapes Go.ChangeAt Go.RowKit
open Go.ChangeMaps (open_string shut_string)
namespace fnExactReadHexDigits
theorem walk_long0 (s0 : ByteArray) (n1 : Int) (w : World) (h : 1048576 < s0.size) (hm : s0.size ≤ 9223372036854775807) :
    Calls Try.prog 4 #[.string s0, .int .i64 n1] w fun e w' => e = .returned (.bool true) ∧ Below w.heap.size w w' := by
  have g : (1048576 : Int) < (s0.size : Int) := by omega
  go_enter Try.func4, Try.ntmps4
  go_wp2
  go_ret
  exact ⟨rfl, Below.refl _ _⟩
set_option maxRecDepth 100000 in
set_option maxHeartbeats 2000000 in
theorem walk_short (s0 : ByteArray) (n1 : Int) (w : World) (h0 : s0.size ≤ 1048576) (i1 : I64 n1) :
    Calls Try.prog 4 #[.string s0, .int .i64 n1] w fun e w' => e = .returned (.bool true) ∧ Below w.heap.size w w' := by
  have g0 : ¬ (1048576 : Int) < (s0.size : Int) := by omega
  have HI1 := Lib.hid i1
  clear i1
  go_enter Try.func4, Try.ntmps4
  go_wp2_with fail
  refine (hexread_spec s0 n1 _ (by omega) ).mono ?_
  rintro e w1 ⟨xws, cws, rfl, hf1, hb1⟩
  have Qws : Hid (w.heap.size ≤ (w).heap.size) := Nat.le_refl _
  have HB0 := Lib.hid hb1
  have Hws := Lib.hid hf1
  clear hf1 hb1
  go_wp2_with fail
  refine (hexread_impl s0 n1 _ (by omega) ).mono ?_
  rintro e w2 ⟨xgs, cgs, rfl, hf2, hb2⟩
  have Qgs : Hid (w.heap.size ≤ (w1).heap.size) := HB0.out.size
  have Ows_gs := Lib.hid Hws.out.old
  have Lws := Lib.hid (Hws.out.below hb2)
  clear Hws
  have Hws := Lib.hid Lws.out
  clear Lws
  have HB2 := Lib.hid (HB0.out.trans (hb2.mono HB0.out.size))
  clear HB0
  have Hgs := Lib.hid hf2
  clear hf2 hb2
  go_wp2_with fail
  refine (eq_any xgs xws (hexRB s0 n1) (hexRB s0 n1) cgs cws _ (by have := hexRB_length s0 n1; omega) Hgs.out.rd Hws.out.rd).mono ?_
  rintro e w3 ⟨rfl, n3', rfl⟩
  have hb3 : Below (w2).heap.size (w2) ((w2).drewN n3') := below_drewN (Below.refl _ _) n3'
  have Lws := Lib.hid (Hws.out.below hb3)
  clear Hws
  have Hws := Lib.hid Lws.out
  clear Lws
  have Lgs := Lib.hid (Hgs.out.below hb3)
  clear Hgs
  have Hgs := Lib.hid Lgs.out
  clear Lgs
  have HB3 := Lib.hid (HB2.out.trans (hb3.mono HB2.out.size))
  clear HB2
  clear hb3
  have hd3 : decide (hexRB s0 n1 = hexRB s0 n1) = true := by simp
  go_wp2_with fail
  refine (mark_any (w1).heap.size xgs (hexRB s0 n1) cgs (1) _ (by have := hexRB_length s0 n1; omega) (by omega) Hgs.out).mono ?_
  rintro e w4 ⟨rfl, hf4, ht4⟩
  have Lws := Lib.hid (Hws.out.keepOld Ows_gs.out ht4)
  clear Hws
  have Hws := Lib.hid Lws.out
  clear Lws
  have HB4 := Lib.hid (ht4.below HB3.out HB3.out.size Qgs.out)
  clear HB3
  clear Hgs
  have Hgs := Lib.hid hf4
  clear hf4 ht4
  go_wp2_with fail
  refine (held_any xgs (hexRB s0 n1).length cgs (1) _ (by have := hexRB_length s0 n1; omega) (by omega) Hgs.out.rd).mono ?_
  rintro e w5 ⟨rfl, rfl⟩
  go_wp2_with fail
  refine (hexread_impl s0 n1 _ (by omega) ).mono ?_
  rintro e w6 ⟨xhs, chs, rfl, hf6, hb6⟩
  have Qhs : Hid (w.heap.size ≤ (w4).heap.size) := HB4.out.size
  have Ows_hs := Lib.hid Hws.out.old
  have Ogs_hs := Lib.hid Hgs.out.old
  have Lws := Lib.hid (Hws.out.below hb6)
  clear Hws
  have Hws := Lib.hid Lws.out
  clear Lws
  have Lgs := Lib.hid (Hgs.out.below hb6)
  clear Hgs
  have Hgs := Lib.hid Lgs.out
  clear Lgs
  have HB6 := Lib.hid (HB4.out.trans (hb6.mono HB4.out.size))
  clear HB4
  have Hhs := Lib.hid hf6
  clear hf6 hb6
  go_wp2_with fail
  refine (eq_any xhs xws (hexRB s0 n1) (hexRB s0 n1) chs cws _ (by have := hexRB_length s0 n1; omega) Hhs.out.rd Hws.out.rd).mono ?_
  rintro e w7 ⟨rfl, n7', rfl⟩
  have hb7 : Below (w6).heap.size (w6) ((w6).drewN n7') := below_drewN (Below.refl _ _) n7'
  have Lws := Lib.hid (Hws.out.below hb7)
  clear Hws
  have Hws := Lib.hid Lws.out
  clear Lws
  have Lgs := Lib.hid (Hgs.out.below hb7)
  clear Hgs
  have Hgs := Lib.hid Lgs.out
  clear Lgs
  have Lhs := Lib.hid (Hhs.out.below hb7)
  clear Hhs
  have Hhs := Lib.hid Lhs.out
  clear Lhs
  have HB7 := Lib.hid (HB6.out.trans (hb7.mono HB6.out.size))
  clear HB6
  clear hb7
  have hd7 : decide (hexRB s0 n1 = hexRB s0 n1) = true := by simp
  go_wp2_with fail
  refine (held_any xgs (hexRB s0 n1).length cgs (1) _ (by have := hexRB_length s0 n1; omega) (by omega) Hgs.out.rd).mono ?_
  rintro e w8 ⟨rfl, rfl⟩
  go_wp2_with fail
  go_ret
  exact ⟨rfl, HB7.out⟩
theorem walk (s0 : ByteArray) (n1 : Int) (w : World) (z0 : s0.size ≤ 9223372036854775807) (i1 : I64 n1) :
    Calls Try.prog 4 #[.string s0, .int .i64 n1] w fun e w' => e = .returned (.bool true) ∧ Below w.heap.size w w' := by
  by_cases h0 : 1048576 < s0.size
  · exact walk_long0 s0 n1 w  h0 (z0)
  exact walk_short s0 n1 w (by omega)   i1
set_option maxRecDepth 100000 in
theorem lifted (os : Os) (started : os.Started) (H : Type) (enc : TypeId × Value → H) :
    ReturnsInHanded {} Try.checked os 4 .any (Rows.fnExactReadHexDigitsSpec.pre6 enc Try.prog Try.f4 Rows.fnExactReadHexDigitsRow.domain false) (Rows.fnExactReadHexDigitsSpec.post enc Try.prog Try.f4 false true false false) := by
  refine returnsInHanded_of_change (C := Try.checked) own started (by kernel_rfl) Try.func4
    (ChangeSpec.witness6 (enc := enc) (C := Try.checked) false ⟨#[], #[.string ⟨#[]⟩, .int .i64 0], []⟩ 8 (by kernel_rfl) (by kernel_rfl) (by kernel_rfl) (by kernel_rfl)) ?_
  intro W base args ds gs before hval0 hW hcnd _
  have hval : ∀ (j : Nat) t v, Try.f4.params[j]? = some t → args[j]? = some v → Value.okWide Try.prog W .any base t v := hval0
  have hW' := hW
  obtain ⟨p, q, hA0, hV, rfl, hfz, hnd⟩ := hW
  have hA : DataW.TrodAll enc Try.prog W 0 (fun _ => true) true Try.f4.params.toList args.toList ds p := hA0
  rw [Try.params4] at hA hval
  obtain ⟨v0, vs0, d0, ds0, p0, q0, hargs, rfl, rfl, h0, r0⟩ := trodAll_cons hA
  obtain ⟨v1, vs1, d1, ds1, p1, q1, rfl, rfl, rfl, h1, r1⟩ := trodAll_cons r0
  obtain ⟨rfl, rfl, rfl⟩ := trodAll_nil r1
  obtain rfl : args = #[v0, v1] := by cases args; simp_all
  obtain ⟨rfl, rfl⟩ := trodVars_none hV
  simp only [List.append_nil] at hW'
  have hlt : ∀ x ∈ p0 ++ p1, x.block < W.heap.size := fun x hx => hW'.lt x (by simpa using hx)
  obtain ⟨s0, rfl, rfl, rfl, w0⟩ := open_string Try.underlying9 (hval 0 9 v0 rfl rfl) h0
  obtain ⟨n1, rfl, rfl, rfl, w1⟩ := open_int Try.underlying3 (hval 1 3 v1 rfl rfl) h1
  clear hA0 hval0
  refine (walk s0 n1 W (by unfold maxLen at w0; omega) (i64_arg w1)).mono fun e W' ⟨he, hb⟩ => ?_
  subst he
  exact ⟨_, rfl, _, _, _, [], _, [], hW', trodAll_cons_mk (shut_bool Try.underlying4 _) trodAll_mk0, (trodAll_cons_mk (shut_string Try.underlying9 w0) (trodAll_cons_mk (shut_int Try.underlying3 w1) trodAll_mk0)), rfl, hb.frame _, fun h => by cases h⟩
theorem over : Rows.fnExactReadHexDigitsRow.holds Try.pinned (OpenSpec.ofChange Rows.fnExactReadHexDigitsSpec) :=
  OpenClaim.holds_of_wide 4 Try.f4 rfl rfl rfl rfl rfl rfl rfl ⟨rfl, rfl, rfl, rfl, rfl⟩ rfl rfl rfl rfl rfl (by kernel_rfl) Try.func4 (by kernel_rfl)
    (of_decide_eq_true (by kernel_rfl)) (by unfold Func.isWrapper; first | (rw [if_pos (by decide +kernel)]; kernel_rfl) | (rw [if_neg (by decide +kernel)]; exact ⟨rfl, rfl⟩))
    (fun os started H enc _ => lifted os started H enc)
/-- THE STATEMENT -/
theorem proved : Rows.FnExactReadHexDigitsSaid := over
end fnExactReadHexDigits
#print axioms fnExactReadHexDigits.proved
end Go.Proofs.Ytfdnfifmhfffnaa
