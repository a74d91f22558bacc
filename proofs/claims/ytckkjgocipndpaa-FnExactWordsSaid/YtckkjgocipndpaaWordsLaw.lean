/- It is proved that the law FnExactWords returns true at every input of its parameter types and leaves its arguments as they were (statement Rows.FnExactWordsSaid), with no condition. -/
import Derived.Test.YtckkjgocipndpaaExact3
import Derived.Test.YtckkjgocipndpaaArg
namespace Go.Proofs.Ytckkjgocipndpaa
open Go Go.ChangeShapes Go.WideShapes Go.ChangeAt Go.RowKit
open Go.ChangeMaps (open_string shut_string)
namespace fnExactWords
theorem walk_long0 (s0 : ByteArray) (w : World) (h : 1048576 < s0.size) (hm : s0.size ≤ 9223372036854775807) :
    Calls Try.prog 7 #[.string s0] w fun e w' => e = .returned (.bool true) ∧ Below w.heap.size w w' := by
  have g : (1048576 : Int) < (s0.size : Int) := by omega
  go_enter Try.func7, Try.ntmps7
  go_wp2
  go_ret
  exact ⟨rfl, Below.refl _ _⟩
set_option maxRecDepth 100000 in
set_option maxHeartbeats 2000000 in
theorem walk_short (s0 : ByteArray) (w : World) (h0 : s0.size ≤ 1048576) :
    Calls Try.prog 7 #[.string s0] w fun e w' => e = .returned (.bool true) ∧ Below w.heap.size w w' := by
  have g0 : ¬ (1048576 : Int) < (s0.size : Int) := by omega
  go_enter Try.func7, Try.ntmps7
  go_wp2_with fail
  refine (words_spec s0 _ (by omega)).mono ?_
  rintro e w1 ⟨xws, cws, rfl, hf1, hb1⟩
  have Qws : Hid (w.heap.size ≤ (w).heap.size) := Nat.le_refl _
  have HB0 := Lib.hid hb1
  have Hws := Lib.hid hf1
  clear hf1 hb1
  go_wp2_with fail
  refine (words_impl s0 _ (by omega)).mono ?_
  rintro e w2 ⟨xgs, cgs, rfl, hf2, hb2⟩
  have Qgs : Hid (w.heap.size ≤ (w1).heap.size) := HB0.out.size
  have Ows_gs := Lib.hid Hws.out.old
  have Lws := Lib.hid (Hws.out.below hb2)
  clear Hws
  have Hws := Lib.hid Lws.out
  clear Lws
  have HB2 := Lib.hid (HB0.out.trans (hb2.mono HB0.out.size))
  clear HB0
  have Hgs := Lib.hid hf2
  clear hf2 hb2
  go_wp2_with fail
  refine (eq_strs xgs xws (wordsS s0) (wordsS s0) cgs cws _ (by have := words_lens s0; omega) Hgs.out.rd Hws.out.rd).mono ?_
  rintro e w3 ⟨rfl, n3', rfl⟩
  have hb3 : Below (w2).heap.size (w2) ((w2).drewN n3') := below_drewN (Below.refl _ _) n3'
  have Lws := Lib.hid (Hws.out.below hb3)
  clear Hws
  have Hws := Lib.hid Lws.out
  clear Lws
  have Lgs := Lib.hid (Hgs.out.below hb3)
  clear Hgs
  have Hgs := Lib.hid Lgs.out
  clear Lgs
  have HB3 := Lib.hid (HB2.out.trans (hb3.mono HB2.out.size))
  clear HB2
  clear hb3
  have hd3 : decide (wordsS s0 = wordsS s0) = true := by simp
  go_wp2_with fail
  refine (mark_strs (w1).heap.size xgs (wordsS s0) cgs (1) _ (by have := words_lens s0; omega) (by omega) (by omega) Hgs.out).mono ?_
  rintro e w4 ⟨rfl, hf4, ht4⟩
  have Lws := Lib.hid (Hws.out.keepOld Ows_gs.out ht4)
  clear Hws
  have Hws := Lib.hid Lws.out
  clear Lws
  have HB4 := Lib.hid (ht4.below HB3.out HB3.out.size Qgs.out)
  clear HB3
  clear Hgs
  have Hgs := Lib.hid hf4
  clear hf4 ht4
  go_wp2_with fail
  refine (held_strs xgs (wordsS s0).length cgs (1) _ (by have := words_lens s0; omega) (by omega) (by omega) Hgs.out.rd).mono ?_
  rintro e w5 ⟨rfl, hb5⟩
  have Lws := Lib.hid (Hws.out.below hb5)
  clear Hws
  have Hws := Lib.hid Lws.out
  clear Lws
  have Lgs := Lib.hid (Hgs.out.below hb5)
  clear Hgs
  have Hgs := Lib.hid Lgs.out
  clear Lgs
  have HB5 := Lib.hid (HB4.out.trans (hb5.mono HB4.out.size))
  clear HB4
  clear hb5
  go_wp2_with fail
  refine (words_impl s0 _ (by omega)).mono ?_
  rintro e w6 ⟨xhs, chs, rfl, hf6, hb6⟩
  have Qhs : Hid (w.heap.size ≤ (w5).heap.size) := HB5.out.size
  have Ows_hs := Lib.hid Hws.out.old
  have Ogs_hs := Lib.hid Hgs.out.old
  have Lws := Lib.hid (Hws.out.below hb6)
  clear Hws
  have Hws := Lib.hid Lws.out
  clear Lws
  have Lgs := Lib.hid (Hgs.out.below hb6)
  clear Hgs
  have Hgs := Lib.hid Lgs.out
  clear Lgs
  have HB6 := Lib.hid (HB5.out.trans (hb6.mono HB5.out.size))
  clear HB5
  have Hhs := Lib.hid hf6
  clear hf6 hb6
  go_wp2_with fail
  refine (eq_strs xhs xws (wordsS s0) (wordsS s0) chs cws _ (by have := words_lens s0; omega) Hhs.out.rd Hws.out.rd).mono ?_
  rintro e w7 ⟨rfl, n7', rfl⟩
  have hb7 : Below (w6).heap.size (w6) ((w6).drewN n7') := below_drewN (Below.refl _ _) n7'
  have Lws := Lib.hid (Hws.out.below hb7)
  clear Hws
  have Hws := Lib.hid Lws.out
  clear Lws
  have Lgs := Lib.hid (Hgs.out.below hb7)
  clear Hgs
  have Hgs := Lib.hid Lgs.out
  clear Lgs
  have Lhs := Lib.hid (Hhs.out.below hb7)
  clear Hhs
  have Hhs := Lib.hid Lhs.out
  clear Lhs
  have HB7 := Lib.hid (HB6.out.trans (hb7.mono HB6.out.size))
  clear HB6
  clear hb7
  have hd7 : decide (wordsS s0 = wordsS s0) = true := by simp
  go_wp2_with fail
  refine (held_strs xgs (wordsS s0).length cgs (1) _ (by have := words_lens s0; omega) (by omega) (by omega) Hgs.out.rd).mono ?_
  rintro e w8 ⟨rfl, hb8⟩
  have Lws := Lib.hid (Hws.out.below hb8)
  clear Hws
  have Hws := Lib.hid Lws.out
  clear Lws
  have Lgs := Lib.hid (Hgs.out.below hb8)
  clear Hgs
  have Hgs := Lib.hid Lgs.out
  clear Lgs
  have Lhs := Lib.hid (Hhs.out.below hb8)
  clear Hhs
  have Hhs := Lib.hid Lhs.out
  clear Lhs
  have HB8 := Lib.hid (HB7.out.trans (hb8.mono HB7.out.size))
  clear HB7
  clear hb8
  go_wp2_with fail
  go_ret
  exact ⟨rfl, HB8.out⟩
theorem walk (s0 : ByteArray) (w : World) (z0 : s0.size ≤ 9223372036854775807) :
    Calls Try.prog 7 #[.string s0] w fun e w' => e = .returned (.bool true) ∧ Below w.heap.size w w' := by
  by_cases h0 : 1048576 < s0.size
  · exact walk_long0 s0 w  h0 (z0)
  exact walk_short s0 w (by omega)   
set_option maxRecDepth 100000 in
theorem lifted (os : Os) (started : os.Started) (H : Type) (enc : TypeId × Value → H) :
    ReturnsInHanded {} Try.checked os 7 .any (Rows.fnExactWordsSpec.pre6 enc Try.prog Try.f7 Rows.fnExactWordsRow.domain false) (Rows.fnExactWordsSpec.post enc Try.prog Try.f7 false true false false) := by
  refine returnsInHanded_of_change (C := Try.checked) own started (by kernel_rfl) Try.func7
    (ChangeSpec.witness6 (enc := enc) (C := Try.checked) false ⟨#[], #[.string ⟨#[]⟩], []⟩ 8 (by kernel_rfl) (by kernel_rfl) (by kernel_rfl) (by kernel_rfl)) ?_
  intro W base args ds gs before hval0 hW hcnd _
  have hval : ∀ (j : Nat) t v, Try.f7.params[j]? = some t → args[j]? = some v → Value.okWide Try.prog W .any base t v := hval0
  have hW' := hW
  obtain ⟨p, q, hA0, hV, rfl, hfz, hnd⟩ := hW
  have hA : DataW.TrodAll enc Try.prog W 0 (fun _ => true) true Try.f7.params.toList args.toList ds p := hA0
  rw [Try.params7] at hA hval
  obtain ⟨v0, vs0, d0, ds0, p0, q0, hargs, rfl, rfl, h0, r0⟩ := trodAll_cons hA
  obtain ⟨rfl, rfl, rfl⟩ := trodAll_nil r0
  obtain rfl : args = #[v0] := by cases args; simp_all
  obtain ⟨rfl, rfl⟩ := trodVars_none hV
  simp only [List.append_nil] at hW'
  have hlt : ∀ x ∈ p0, x.block < W.heap.size := fun x hx => hW'.lt x (by simpa using hx)
  obtain ⟨s0, rfl, rfl, rfl, w0⟩ := open_string Try.underlying9 (hval 0 9 v0 rfl rfl) h0
  clear hA0 hval0
  refine (walk s0 W (by unfold maxLen at w0; omega)).mono fun e W' ⟨he, hb⟩ => ?_
  subst he
  exact ⟨_, rfl, _, _, _, [], _, [], hW', trodAll_cons_mk (shut_bool Try.underlying4 _) trodAll_mk0, (trodAll_cons_mk (shut_string Try.underlying9 w0) trodAll_mk0), rfl, hb.frame _, fun h => by cases h⟩
theorem over : Rows.fnExactWordsRow.holds Try.pinned (OpenSpec.ofChange Rows.fnExactWordsSpec) :=
  OpenClaim.holds_of_wide 7 Try.f7 rfl rfl rfl rfl rfl rfl rfl ⟨rfl, rfl, rfl, rfl, rfl⟩ rfl rfl rfl rfl rfl (by kernel_rfl) Try.func7 (by kernel_rfl)
    (of_decide_eq_true (by kernel_rfl)) (by unfold Func.isWrapper; first | (rw [if_pos (by decide +kernel)]; kernel_rfl) | (rw [if_neg (by decide +kernel)]; exact ⟨rfl, rfl⟩))
    (fun os started H enc _ => lifted os started H enc)
/-- THE STATEMENT -/
theorem proved : Rows.FnExactWordsSaid := over
end fnExactWords
#print axioms fnExactWords.proved
end Go.Proofs.Ytckkjgocipndpaa
