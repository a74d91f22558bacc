/- It is proved that the law FnExactEqualBytes returns true at every input of its parameter types and leaves its arguments as they were (statement Rows.FnExactEqualBytesSaid), with no condition. -/
import Derived.Test.YthgcfdhndmgjlaaParseHex
import Derived.Test.YthgcfdhndmgjlaaSplice
import Derived.Test.YthgcfdhndmgjlaaBytesImpl
import Derived.Test.YthgcfdhndmgjlaaArg
namespace Go.Proofs.Ythgcfdhndmgjlaa
open Go Go.ChangeShapes Go.WideShapes Go.ChangeAt Go.RowKit
namespace fnExactEqualBytes
theorem walk_long0 (a0 : Option Addr) (bs0 : List UInt8) (cap0 : Nat) (a1 : Option Addr) (bs1 : List UInt8) (cap1 : Nat) (w : World) (h : 1048576 < bs0.length) (hm : bs0.length ≤ 9223372036854775807) :
    Calls Try.prog 6 #[.slice a0 bs0.length cap0, .slice a1 bs1.length cap1] w fun e w' => e = .returned (.bool true) ∧ Below w.heap.size w w' := by
  have g : (1048576 : Int) < (bs0.length : Int) := by omega
  go_enter Try.func6, Try.ntmps6
  go_wp2
  go_ret
  exact ⟨rfl, Below.refl _ _⟩
theorem walk_long1 (a0 : Option Addr) (bs0 : List UInt8) (cap0 : Nat) (a1 : Option Addr) (bs1 : List UInt8) (cap1 : Nat) (w : World) (h0 : bs0.length ≤ 1048576) (h : 1048576 < bs1.length) (hm : bs1.length ≤ 9223372036854775807) :
    Calls Try.prog 6 #[.slice a0 bs0.length cap0, .slice a1 bs1.length cap1] w fun e w' => e = .returned (.bool true) ∧ Below w.heap.size w w' := by
  have g0 : ¬ (1048576 : Int) < (bs0.length : Int) := by omega
  have g : (1048576 : Int) < (bs1.length : Int) := by omega
  go_enter Try.func6, Try.ntmps6
  go_wp2
  go_ret
  exact ⟨rfl, Below.refl _ _⟩
set_option maxRecDepth 100000 in
set_option maxHeartbeats 2000000 in
theorem walk_short (a0 : Option Addr) (bs0 : List UInt8) (cap0 : Nat) (a1 : Option Addr) (bs1 : List UInt8) (cap1 : Nat) (w : World) (h0 : bs0.length ≤ 1048576) (h1 : bs1.length ≤ 1048576) (r0 : Arg a0 bs0 cap0 w) (r1 : Arg a1 bs1 cap1 w) :
    Calls Try.prog 6 #[.slice a0 bs0.length cap0, .slice a1 bs1.length cap1] w fun e w' => e = .returned (.bool true) ∧ Below w.heap.size w w' := by
  have g0 : ¬ (1048576 : Int) < (bs0.length : Int) := by omega
  have g1 : ¬ (1048576 : Int) < (bs1.length : Int) := by omega
  have HA0 := Lib.hid r0
  clear r0
  have HA1 := Lib.hid r1
  clear r1
  go_enter Try.func6, Try.ntmps6
  go_wp2_with fail
  refine (to_any a0 bs0 cap0 _ (by omega) HA0.out.1).mono ?_
  rintro e w1 ⟨xs0, cs0, rfl, hf1, hb1⟩
  have HB0 := Lib.hid hb1
  have Hs0 := Lib.hid hf1
  clear hf1 hb1
  go_wp2_with fail
  refine (to_any a1 bs1 cap1 _ (by omega) (HA1.out.1.below HB0.out)).mono ?_
  rintro e w2 ⟨xs1, cs1, rfl, hf2, hb2⟩
  have Ls0 := Lib.hid (Hs0.out.below hb2)
  clear Hs0
  have Hs0 := Lib.hid Ls0.out
  clear Ls0
  have HB2 := Lib.hid (HB0.out.trans (hb2.mono HB0.out.size))
  clear HB0
  have Hs1 := Lib.hid hf2
  clear hf2 hb2
  go_wp2_with fail
  refine (eqb_specc xs0 bs0 cs0 xs1 bs1 cs1 _ (by omega) Hs0.out.rd (by omega) Hs1.out.rd).mono ?_
  rintro e w3 ⟨rfl, n3', rfl⟩
  have hb3 : Below (w2).heap.size (w2) ((w2).drewN n3') := below_drewN (Below.refl _ _) n3'
  have Ls0 := Lib.hid (Hs0.out.below hb3)
  clear Hs0
  have Hs0 := Lib.hid Ls0.out
  clear Ls0
  have Ls1 := Lib.hid (Hs1.out.below hb3)
  clear Hs1
  have Hs1 := Lib.hid Ls1.out
  clear Ls1
  have HB3 := Lib.hid (HB2.out.trans (hb3.mono HB2.out.size))
  clear HB2
  clear hb3
  go_wp2_with fail
  refine (to_any a0 bs0 cap0 _ (by omega) (HA0.out.1.below HB3.out)).mono ?_
  rintro e w4 ⟨xy0, cy0, rfl, hf4, hb4⟩
  have HB4 := Lib.hid (HB3.out.trans (hb4.mono HB3.out.size))
  clear HB3
  have Hy0 := Lib.hid hf4
  clear hf4 hb4
  go_wp2_with fail
  refine (to_any a1 bs1 cap1 _ (by omega) (HA1.out.1.below HB4.out)).mono ?_
  rintro e w5 ⟨xy1, cy1, rfl, hf5, hb5⟩
  have Ly0 := Lib.hid (Hy0.out.below hb5)
  clear Hy0
  have Hy0 := Lib.hid Ly0.out
  clear Ly0
  have HB5 := Lib.hid (HB4.out.trans (hb5.mono HB4.out.size))
  clear HB4
  have Hy1 := Lib.hid hf5
  clear hf5 hb5
  go_wp2_with fail
  refine (eqb_impl xy0 bs0 cy0 xy1 bs1 cy1 _ (by omega) Hy0.out.rd (by omega) Hy1.out.rd).mono ?_
  rintro e w6 ⟨rfl, hb6⟩
  have Ly0 := Lib.hid (Hy0.out.below hb6)
  clear Hy0
  have Hy0 := Lib.hid Ly0.out
  clear Ly0
  have Ly1 := Lib.hid (Hy1.out.below hb6)
  clear Hy1
  have Hy1 := Lib.hid Ly1.out
  clear Ly1
  have HB6 := Lib.hid (HB5.out.trans (hb6.mono HB5.out.size))
  clear HB5
  clear hb6
  go_wp2_with fail
  refine (to_any a0 bs0 cap0 _ (by omega) (HA0.out.1.below HB6.out)).mono ?_
  rintro e w7 ⟨xt0, ct0, rfl, hf7, hb7⟩
  have Ly0 := Lib.hid (Hy0.out.below hb7)
  clear Hy0
  have Hy0 := Lib.hid Ly0.out
  clear Ly0
  have Ly1 := Lib.hid (Hy1.out.below hb7)
  clear Hy1
  have Hy1 := Lib.hid Ly1.out
  clear Ly1
  have HB7 := Lib.hid (HB6.out.trans (hb7.mono HB6.out.size))
  clear HB6
  have Ht0 := Lib.hid hf7
  clear hf7 hb7
  go_wp2_with fail
  refine (eq_any xy0 xt0 (bs0) (bs0) cy0 ct0 _ (by omega) Hy0.out.rd Ht0.out.rd).mono ?_
  rintro e w8 ⟨rfl, n8', rfl⟩
  have hb8 : Below (w7).heap.size (w7) ((w7).drewN n8') := below_drewN (Below.refl _ _) n8'
  have Ly0 := Lib.hid (Hy0.out.below hb8)
  clear Hy0
  have Hy0 := Lib.hid Ly0.out
  clear Ly0
  have Ly1 := Lib.hid (Hy1.out.below hb8)
  clear Hy1
  have Hy1 := Lib.hid Ly1.out
  clear Ly1
  have Lt0 := Lib.hid (Ht0.out.below hb8)
  clear Ht0
  have Ht0 := Lib.hid Lt0.out
  clear Lt0
  have HB8 := Lib.hid (HB7.out.trans (hb8.mono HB7.out.size))
  clear HB7
  clear hb8
  have hd8 : decide (bs0 = bs0) = true := by simp
  go_wp2_with fail
  refine (to_any a1 bs1 cap1 _ (by omega) (HA1.out.1.below HB8.out)).mono ?_
  rintro e w9 ⟨xt1, ct1, rfl, hf9, hb9⟩
  have Ly0 := Lib.hid (Hy0.out.below hb9)
  clear Hy0
  have Hy0 := Lib.hid Ly0.out
  clear Ly0
  have Ly1 := Lib.hid (Hy1.out.below hb9)
  clear Hy1
  have Hy1 := Lib.hid Ly1.out
  clear Ly1
  have HB9 := Lib.hid (HB8.out.trans (hb9.mono HB8.out.size))
  clear HB8
  have Ht1 := Lib.hid hf9
  clear hf9 hb9
  go_wp2_with fail
  refine (eq_any xy1 xt1 (bs1) (bs1) cy1 ct1 _ (by omega) Hy1.out.rd Ht1.out.rd).mono ?_
  rintro e w10 ⟨rfl, n10', rfl⟩
  have hb10 : Below (w9).heap.size (w9) ((w9).drewN n10') := below_drewN (Below.refl _ _) n10'
  have Ly0 := Lib.hid (Hy0.out.below hb10)
  clear Hy0
  have Hy0 := Lib.hid Ly0.out
  clear Ly0
  have Ly1 := Lib.hid (Hy1.out.below hb10)
  clear Hy1
  have Hy1 := Lib.hid Ly1.out
  clear Ly1
  have Lt1 := Lib.hid (Ht1.out.below hb10)
  clear Ht1
  have Ht1 := Lib.hid Lt1.out
  clear Lt1
  have HB10 := Lib.hid (HB9.out.trans (hb10.mono HB9.out.size))
  clear HB9
  clear hb10
  have hd10 : decide (bs1 = bs1) = true := by simp
  go_wp2_with fail
  go_ret
  exact ⟨rfl, HB10.out⟩
theorem walk (a0 : Option Addr) (bs0 : List UInt8) (cap0 : Nat) (a1 : Option Addr) (bs1 : List UInt8) (cap1 : Nat) (w : World) (r0 : Arg a0 bs0 cap0 w) (r1 : Arg a1 bs1 cap1 w) :
    Calls Try.prog 6 #[.slice a0 bs0.length cap0, .slice a1 bs1.length cap1] w fun e w' => e = .returned (.bool true) ∧ Below w.heap.size w w' := by
  by_cases h0 : 1048576 < bs0.length
  · exact walk_long0 a0 bs0 cap0 a1 bs1 cap1 w  h0 (by have q1 := r0.2.1; have q2 := r0.2.2.2; omega)
  by_cases h1 : 1048576 < bs1.length
  · exact walk_long1 a0 bs0 cap0 a1 bs1 cap1 w (by omega) h1 (by have q1 := r1.2.1; have q2 := r1.2.2.2; omega)
  exact walk_short a0 bs0 cap0 a1 bs1 cap1 w (by omega) (by omega) r0 r1 
set_option maxRecDepth 100000 in
theorem lifted (os : Os) (started : os.Started) (H : Type) (enc : TypeId × Value → H) :
    ReturnsInHanded {} Try.checked os 6 .any (Rows.fnExactEqualBytesSpec.pre6 enc Try.prog Try.f6 Rows.fnExactEqualBytesRow.domain false) (Rows.fnExactEqualBytesSpec.post enc Try.prog Try.f6 false true false false) := by
  refine returnsInHanded_of_change (C := Try.checked) own started (by kernel_rfl) Try.func6
    (ChangeSpec.witness6 (enc := enc) (C := Try.checked) false ⟨#[], #[.slice none 0 0, .slice none 0 0], []⟩ 8 (by kernel_rfl) (by kernel_rfl) (by kernel_rfl) (by kernel_rfl)) ?_
  intro W base args ds gs before hval0 hW hcnd _
  have hval : ∀ (j : Nat) t v, Try.f6.params[j]? = some t → args[j]? = some v → Value.okWide Try.prog W .any base t v := hval0
  have hW' := hW
  obtain ⟨p, q, hA0, hV, rfl, hfz, hnd⟩ := hW
  have hA : DataW.TrodAll enc Try.prog W 0 (fun _ => true) true Try.f6.params.toList args.toList ds p := hA0
  rw [Try.params6] at hA hval
  obtain ⟨v0, vs0, d0, ds0, p0, q0, hargs, rfl, rfl, h0, r0⟩ := trodAll_cons hA
  obtain ⟨v1, vs1, d1, ds1, p1, q1, rfl, rfl, rfl, h1, r1⟩ := trodAll_cons r0
  obtain ⟨rfl, rfl, rfl⟩ := trodAll_nil r1
  obtain rfl : args = #[v0, v1] := by cases args; simp_all
  obtain ⟨rfl, rfl⟩ := trodVars_none hV
  simp only [List.append_nil] at hW'
  have hlt : ∀ x ∈ p0 ++ p1, x.block < W.heap.size := fun x hx => hW'.lt x (by simpa using hx)
  obtain ⟨a0, len0, cap0, rfl⟩ := okWide_slice Try.underlying22 (hval 0 22 v0 rfl rfl)
  obtain ⟨bs0, rfl, hb0⟩ := bytes_arg h0
  have m0 : ∀ (W' : World), Below W.heap.size W W' → DataW.Trod enc Try.prog W' 0 (fun b => decide (b < W.heap.size)) true 22 (.slice a0 bs0.length cap0) d0 p0 := fun W' hn => Below.trod laidOut (by kernel_rfl) (of_decide_eq_true (by kernel_rfl)) h0 hn (fun x hx => hlt x (by simp [hx]))
  obtain ⟨a1, len1, cap1, rfl⟩ := okWide_slice Try.underlying22 (hval 1 22 v1 rfl rfl)
  obtain ⟨bs1, rfl, hb1⟩ := bytes_arg h1
  have m1 : ∀ (W' : World), Below W.heap.size W W' → DataW.Trod enc Try.prog W' 0 (fun b => decide (b < W.heap.size)) true 22 (.slice a1 bs1.length cap1) d1 p1 := fun W' hn => Below.trod laidOut (by kernel_rfl) (of_decide_eq_true (by kernel_rfl)) h1 hn (fun x hx => hlt x (by simp [hx]))
  clear hA0 hval0
  refine (walk a0 bs0 cap0 a1 bs1 cap1 W hb0 hb1).mono fun e W' ⟨he, hb⟩ => ?_
  subst he
  exact ⟨_, rfl, _, _, _, [], _, [], hW', trodAll_cons_mk (shut_bool Try.underlying4 _) trodAll_mk0, (trodAll_cons_mk (m0 _ hb) (trodAll_cons_mk (m1 _ hb) trodAll_mk0)), rfl, hb.frame _, fun h => by cases h⟩
theorem over : Rows.fnExactEqualBytesRow.holds Try.pinned (OpenSpec.ofChange Rows.fnExactEqualBytesSpec) :=
  OpenClaim.holds_of_wide 6 Try.f6 rfl rfl rfl rfl rfl rfl rfl ⟨rfl, rfl, rfl, rfl, rfl⟩ rfl rfl rfl rfl rfl (by kernel_rfl) Try.func6 (by kernel_rfl)
    (of_decide_eq_true (by kernel_rfl)) (by unfold Func.isWrapper; first | (rw [if_pos (by decide +kernel)]; kernel_rfl) | (rw [if_neg (by decide +kernel)]; exact ⟨rfl, rfl⟩))
    (fun os started H enc _ => lifted os started H enc)
/-- THE STATEMENT -/
theorem proved : Rows.FnExactEqualBytesSaid := over
end fnExactEqualBytes
#print axioms fnExactEqualBytes.proved
end Go.Proofs.Ythgcfdhndmgjlaa
