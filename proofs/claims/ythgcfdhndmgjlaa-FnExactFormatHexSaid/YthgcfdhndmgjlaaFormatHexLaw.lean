/- It is proved that the law FnExactFormatHex returns true at every input of its parameter types and leaves its arguments as they were (statement Rows.FnExactFormatHexSaid), with no condition. -/
import Derived.Test.YthgcfdhndmgjlaaParseHex
import Derived.Test.YthgcfdhndmgjlaaSplice
import Derived.Test.YthgcfdhndmgjlaaBytesImpl
import Derived.Test.YthgcfdhndmgjlaaArg
namespace Go.Proofs.Ythgcfdhndmgjlaa
open Go Go.ChangeShapes Go.WideShapes Go.ChangeAt Go.RowKit
namespace fnExactFormatHex
theorem walk_long0 (a0 : Option Addr) (bs0 : List UInt8) (cap0 : Nat) (w : World) (h : 1048576 < bs0.length) (hm : bs0.length ≤ 9223372036854775807) :
    Calls Try.prog 7 #[.slice a0 bs0.length cap0] w fun e w' => e = .returned (.bool true) ∧ Below w.heap.size w w' := by
  have g : (1048576 : Int) < (bs0.length : Int) := by omega
  go_enter Try.func7, Try.ntmps7
  go_wp2
  go_ret
  exact ⟨rfl, Below.refl _ _⟩
set_option maxRecDepth 100000 in
set_option maxHeartbeats 2000000 in
theorem walk_short (a0 : Option Addr) (bs0 : List UInt8) (cap0 : Nat) (w : World) (h0 : bs0.length ≤ 1048576) (r0 : Arg a0 bs0 cap0 w) :
    Calls Try.prog 7 #[.slice a0 bs0.length cap0] w fun e w' => e = .returned (.bool true) ∧ Below w.heap.size w w' := by
  have g0 : ¬ (1048576 : Int) < (bs0.length : Int) := by omega
  have HA0 := Lib.hid r0
  clear r0
  go_enter Try.func7, Try.ntmps7
  go_wp2_with fail
  refine (to_any a0 bs0 cap0 _ (by omega) HA0.out.1).mono ?_
  rintro e w1 ⟨xs0, cs0, rfl, hf1, hb1⟩
  have HB0 := Lib.hid hb1
  have Hs0 := Lib.hid hf1
  clear hf1 hb1
  go_wp2_with fail
  refine (fmthex_spec xs0 bs0 cs0 _ (by omega) Hs0.out.rd).mono ?_
  rintro e w2 ⟨rfl, n2', rfl⟩
  have hb2 : Below (w1).heap.size (w1) ((w1).drewN n2') := below_drewN (Below.refl _ _) n2'
  have Ls0 := Lib.hid (Hs0.out.below hb2)
  clear Hs0
  have Hs0 := Lib.hid Ls0.out
  clear Ls0
  have HB2 := Lib.hid (HB0.out.trans (hb2.mono HB0.out.size))
  clear HB0
  clear hb2
  go_wp2_with fail
  refine (to_any a0 bs0 cap0 _ (by omega) (HA0.out.1.below HB2.out)).mono ?_
  rintro e w3 ⟨xy0, cy0, rfl, hf3, hb3⟩
  have HB3 := Lib.hid (HB2.out.trans (hb3.mono HB2.out.size))
  clear HB2
  have Hy0 := Lib.hid hf3
  clear hf3 hb3
  go_wp2_with fail
  refine (fmthex_impl xy0 bs0 cy0 _ (by omega) Hy0.out.rd).mono ?_
  rintro e w4 ⟨rfl, hb4⟩
  have Ly0 := Lib.hid (Hy0.out.below hb4)
  clear Hy0
  have Hy0 := Lib.hid Ly0.out
  clear Ly0
  have HB4 := Lib.hid (HB3.out.trans (hb4.mono HB3.out.size))
  clear HB3
  clear hb4
  go_wp2_with fail
  refine (to_any a0 bs0 cap0 _ (by omega) (HA0.out.1.below HB4.out)).mono ?_
  rintro e w5 ⟨xt0, ct0, rfl, hf5, hb5⟩
  have Ly0 := Lib.hid (Hy0.out.below hb5)
  clear Hy0
  have Hy0 := Lib.hid Ly0.out
  clear Ly0
  have HB5 := Lib.hid (HB4.out.trans (hb5.mono HB4.out.size))
  clear HB4
  have Ht0 := Lib.hid hf5
  clear hf5 hb5
  go_wp2_with fail
  refine (eq_any xy0 xt0 (bs0) (bs0) cy0 ct0 _ (by omega) Hy0.out.rd Ht0.out.rd).mono ?_
  rintro e w6 ⟨rfl, n6', rfl⟩
  have hb6 : Below (w5).heap.size (w5) ((w5).drewN n6') := below_drewN (Below.refl _ _) n6'
  have Ly0 := Lib.hid (Hy0.out.below hb6)
  clear Hy0
  have Hy0 := Lib.hid Ly0.out
  clear Ly0
  have Lt0 := Lib.hid (Ht0.out.below hb6)
  clear Ht0
  have Ht0 := Lib.hid Lt0.out
  clear Lt0
  have HB6 := Lib.hid (HB5.out.trans (hb6.mono HB5.out.size))
  clear HB5
  clear hb6
  have hd6 : decide (bs0 = bs0) = true := by simp
  go_wp2_with fail
  go_ret
  exact ⟨rfl, HB6.out⟩
theorem walk (a0 : Option Addr) (bs0 : List UInt8) (cap0 : Nat) (w : World) (r0 : Arg a0 bs0 cap0 w) :
    Calls Try.prog 7 #[.slice a0 bs0.length cap0] w fun e w' => e = .returned (.bool true) ∧ Below w.heap.size w w' := by
  by_cases h0 : 1048576 < bs0.length
  · exact walk_long0 a0 bs0 cap0 w  h0 (by have q1 := r0.2.1; have q2 := r0.2.2.2; omega)
  exact walk_short a0 bs0 cap0 w (by omega) r0 
set_option maxRecDepth 100000 in
theorem lifted (os : Os) (started : os.Started) (H : Type) (enc : TypeId × Value → H) :
    ReturnsInHanded {} Try.checked os 7 .any (Rows.fnExactFormatHexSpec.pre6 enc Try.prog Try.f7 Rows.fnExactFormatHexRow.domain false) (Rows.fnExactFormatHexSpec.post enc Try.prog Try.f7 false true false false) := by
  refine returnsInHanded_of_change (C := Try.checked) own started (by kernel_rfl) Try.func7
    (ChangeSpec.witness6 (enc := enc) (C := Try.checked) false ⟨#[], #[.slice none 0 0], []⟩ 8 (by kernel_rfl) (by kernel_rfl) (by kernel_rfl) (by kernel_rfl)) ?_
  intro W base args ds gs before hval0 hW hcnd _
  have hval : ∀ (j : Nat) t v, Try.f7.params[j]? = some t → args[j]? = some v → Value.okWide Try.prog W .any base t v := hval0
  have hW' := hW
  obtain ⟨p, q, hA0, hV, rfl, hfz, hnd⟩ := hW
  have hA : DataW.TrodAll enc Try.prog W 0 (fun _ => true) true Try.f7.params.toList args.toList ds p := hA0
  rw [Try.params7] at hA hval
  obtain ⟨v0, vs0, d0, ds0, p0, q0, hargs, rfl, rfl, h0, r0⟩ := trodAll_cons hA
  obtain ⟨rfl, rfl, rfl⟩ := trodAll_nil r0
  obtain rfl : args = #[v0] := by cases args; simp_all
  obtain ⟨rfl, rfl⟩ := trodVars_none hV
  simp only [List.append_nil] at hW'
  have hlt : ∀ x ∈ p0, x.block < W.heap.size := fun x hx => hW'.lt x (by simpa using hx)
  obtain ⟨a0, len0, cap0, rfl⟩ := okWide_slice Try.underlying22 (hval 0 22 v0 rfl rfl)
  obtain ⟨bs0, rfl, hb0⟩ := bytes_arg h0
  have m0 : ∀ (W' : World), Below W.heap.size W W' → DataW.Trod enc Try.prog W' 0 (fun b => decide (b < W.heap.size)) true 22 (.slice a0 bs0.length cap0) d0 p0 := fun W' hn => Below.trod laidOut (by kernel_rfl) (of_decide_eq_true (by kernel_rfl)) h0 hn (fun x hx => hlt x (by simp [hx]))
  clear hA0 hval0
  refine (walk a0 bs0 cap0 W hb0).mono fun e W' ⟨he, hb⟩ => ?_
  subst he
  exact ⟨_, rfl, _, _, _, [], _, [], hW', trodAll_cons_mk (shut_bool Try.underlying4 _) trodAll_mk0, (trodAll_cons_mk (m0 _ hb) trodAll_mk0), rfl, hb.frame _, fun h => by cases h⟩
theorem over : Rows.fnExactFormatHexRow.holds Try.pinned (OpenSpec.ofChange Rows.fnExactFormatHexSpec) :=
  OpenClaim.holds_of_wide 7 Try.f7 rfl rfl rfl rfl rfl rfl rfl ⟨rfl, rfl, rfl, rfl, rfl⟩ rfl rfl rfl rfl rfl (by kernel_rfl) Try.func7 (by kernel_rfl)
    (of_decide_eq_true (by kernel_rfl)) (by unfold Func.isWrapper; first | (rw [if_pos (by decide +kernel)]; kernel_rfl) | (rw [if_neg (by decide +kernel)]; exact ⟨rfl, rfl⟩))
    (fun os started H enc _ => lifted os started H enc)
/-- THE STATEMENT -/
theorem proved : Rows.FnExactFormatHexSaid := over
end fnExactFormatHex
#print axioms fnExactFormatHex.proved
end Go.Proofs.Ythgcfdhndmgjlaa
