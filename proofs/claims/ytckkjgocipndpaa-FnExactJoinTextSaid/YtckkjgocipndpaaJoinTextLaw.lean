/- It is proved that the law FnExactJoinText returns true at every input of its parameter types and leaves its arguments as they were (statement Rows.FnExactJoinTextSaid), with no condition. -/
import Derived.Test.YtckkjgocipndpaaExact3
import Derived.Test.YtckkjgocipndpaaArg
namespace Go.Proofs.Ytckkjgocipndpaa
open Go Go.ChangeShapes Go.WideShapes Go.ChangeAt Go.RowKit
open Go.ChangeMaps (open_string shut_string)
namespace fnExactJoinText
theorem walk_long1 (a0 : Option Addr) (ss0 : List ByteArray) (cap0 : Nat) (s1 : ByteArray) (w : World) (h : 1048576 < s1.size) (hm : s1.size ≤ 9223372036854775807) :
    Calls Try.prog 5 #[.slice a0 ss0.length cap0, .string s1] w fun e w' => e = .returned (.bool true) ∧ Below w.heap.size w w' := by
  have g : (1048576 : Int) < (s1.size : Int) := by omega
  go_enter Try.func5, Try.ntmps5
  go_wp2
  go_ret
  exact ⟨rfl, Below.refl _ _⟩
theorem walk_long0 (a0 : Option Addr) (ss0 : List ByteArray) (cap0 : Nat) (s1 : ByteArray) (w : World) (h1 : s1.size ≤ 1048576) (r0 : ArgS a0 ss0 cap0 w) (h : 1048576 < sizeS ss0) :
    Calls Try.prog 5 #[.slice a0 ss0.length cap0, .string s1] w fun e w' => e = .returned (.bool true) ∧ Below w.heap.size w w' := by
  have g1 : ¬ (1048576 : Int) < (s1.size : Int) := by omega
  have gl : leftS ss0 = -1 := by unfold leftS; rw [if_neg (by omega)]
  have HA := Lib.hid r0
  clear r0
  go_enter Try.func5, Try.ntmps5
  go_wp2_with fail
  refine (sz_strs a0 ss0 cap0 _ (by have q1 := HA.out.2.1; have q2 := HA.out.2.2.2.1; omega) HA.out.2.2.2.2 HA.out.1).mono ?_
  rintro e w0' ⟨rfl, rfl⟩
  go_wp2
  go_ret
  exact ⟨rfl, Below.refl _ _⟩
set_option maxRecDepth 100000 in
set_option maxHeartbeats 2000000 in
theorem walk_short (a0 : Option Addr) (ss0 : List ByteArray) (cap0 : Nat) (s1 : ByteArray) (w : World) (h1 : s1.size ≤ 1048576) (h0 : sizeS ss0 ≤ 1048576) (r0 : ArgS a0 ss0 cap0 w) :
    Calls Try.prog 5 #[.slice a0 ss0.length cap0, .string s1] w fun e w' => e = .returned (.bool true) ∧ Below w.heap.size w w' := by
  have g1 : ¬ (1048576 : Int) < (s1.size : Int) := by omega
  obtain ⟨q0, hq0, hq0'⟩ : ∃ q : Nat, leftS ss0 = (q : Int) ∧ q ≤ 1048576 := ⟨1048576 - sizeS ss0, by unfold leftS; rw [if_pos h0]; omega, by omega⟩
  have hlen0 : ss0.length ≤ 1048576 := by unfold sizeS at h0; omega
  have HS0 := Lib.hid h0
  clear h0
  have HA0 := Lib.hid r0
  clear r0
  go_enter Try.func5, Try.ntmps5
  go_wp2_with fail
  refine (sz_strs a0 ss0 cap0 _ (by omega) HA0.out.2.2.2.2 HA0.out.1).mono ?_
  rintro e w0' ⟨rfl, rfl⟩
  go_wp2_with fail
  refine (to_strs a0 ss0 cap0 _ (by omega) HA0.out.1).mono ?_
  rintro e w1 ⟨xs0, cs0, rfl, hf1, hb1⟩
  have HB0 := Lib.hid hb1
  have Hs0 := Lib.hid hf1
  clear hf1 hb1
  go_wp2_with fail
  refine (join_spec0 xs0 ss0 cs0 s1 _ (by omega) (join_small ss0 s1 HS0.out (by omega)) Hs0.out  ).mono ?_
  rintro e w2 ⟨rfl, rfl⟩
  go_wp2_with fail
  refine (to_strs a0 ss0 cap0 _ (by omega) (HA0.out.1.below HB0.out)).mono ?_
  rintro e w3 ⟨xy0, cy0, rfl, hf3, hb3⟩
  have HB3 := Lib.hid (HB0.out.trans (hb3.mono HB0.out.size))
  clear HB0
  have Hy0 := Lib.hid hf3
  clear hf3 hb3
  go_wp2_with fail
  refine (join_impl0 xy0 ss0 cy0 s1 _ (by omega) (join_small ss0 s1 HS0.out (by omega)) Hy0.out  ).mono ?_
  rintro e w4 ⟨rfl, hb4⟩
  have Ly0 := Lib.hid (Hy0.out.below hb4)
  clear Hy0
  have Hy0 := Lib.hid Ly0.out
  clear Ly0
  have HB4 := Lib.hid (HB3.out.trans (hb4.mono HB3.out.size))
  clear HB3
  clear hb4
  go_wp2_with fail
  refine (to_strs a0 ss0 cap0 _ (by omega) (HA0.out.1.below HB4.out)).mono ?_
  rintro e w5 ⟨xt0, ct0, rfl, hf5, hb5⟩
  have Ly0 := Lib.hid (Hy0.out.below hb5)
  clear Hy0
  have Hy0 := Lib.hid Ly0.out
  clear Ly0
  have HB5 := Lib.hid (HB4.out.trans (hb5.mono HB4.out.size))
  clear HB4
  have Ht0 := Lib.hid hf5
  clear hf5 hb5
  go_wp2_with fail
  refine (eq_strs xy0 xt0 (ss0) (ss0) cy0 ct0 _ (by omega) Hy0.out.rd Ht0.out.rd).mono ?_
  rintro e w6 ⟨rfl, n6', rfl⟩
  have hb6 : Below (w5).heap.size (w5) ((w5).drewN n6') := below_drewN (Below.refl _ _) n6'
  have Ly0 := Lib.hid (Hy0.out.below hb6)
  clear Hy0
  have Hy0 := Lib.hid Ly0.out
  clear Ly0
  have Lt0 := Lib.hid (Ht0.out.below hb6)
  clear Ht0
  have Ht0 := Lib.hid Lt0.out
  clear Lt0
  have HB6 := Lib.hid (HB5.out.trans (hb6.mono HB5.out.size))
  clear HB5
  clear hb6
  have hd6 : decide (ss0 = ss0) = true := by simp
  go_wp2_with fail
  go_ret
  exact ⟨rfl, HB6.out⟩
theorem walk (a0 : Option Addr) (ss0 : List ByteArray) (cap0 : Nat) (s1 : ByteArray) (w : World) (r0 : ArgS a0 ss0 cap0 w) (z1 : s1.size ≤ 9223372036854775807) :
    Calls Try.prog 5 #[.slice a0 ss0.length cap0, .string s1] w fun e w' => e = .returned (.bool true) ∧ Below w.heap.size w w' := by
  by_cases h1 : 1048576 < s1.size
  · exact walk_long1 a0 ss0 cap0 s1 w  h1 (z1)
  by_cases h0 : 1048576 < sizeS ss0
  · exact walk_long0 a0 ss0 cap0 s1 w (by omega) r0 h0
  exact walk_short a0 ss0 cap0 s1 w (by omega) (by omega) r0  
set_option maxRecDepth 100000 in
theorem lifted (os : Os) (started : os.Started) (H : Type) (enc : TypeId × Value → H) :
    ReturnsInHanded {} Try.checked os 5 .any (Rows.fnExactJoinTextSpec.pre6 enc Try.prog Try.f5 Rows.fnExactJoinTextRow.domain false) (Rows.fnExactJoinTextSpec.post enc Try.prog Try.f5 false true false false) := by
  refine returnsInHanded_of_change (C := Try.checked) own started (by kernel_rfl) Try.func5
    (ChangeSpec.witness6 (enc := enc) (C := Try.checked) false ⟨#[], #[.slice none 0 0, .string ⟨#[]⟩], []⟩ 8 (by kernel_rfl) (by kernel_rfl) (by kernel_rfl) (by kernel_rfl)) ?_
  intro W base args ds gs before hval0 hW hcnd _
  have hval : ∀ (j : Nat) t v, Try.f5.params[j]? = some t → args[j]? = some v → Value.okWide Try.prog W .any base t v := hval0
  have hW' := hW
  obtain ⟨p, q, hA0, hV, rfl, hfz, hnd⟩ := hW
  have hA : DataW.TrodAll enc Try.prog W 0 (fun _ => true) true Try.f5.params.toList args.toList ds p := hA0
  rw [Try.params5] at hA hval
  obtain ⟨v0, vs0, d0, ds0, p0, q0, hargs, rfl, rfl, h0, r0⟩ := trodAll_cons hA
  obtain ⟨v1, vs1, d1, ds1, p1, q1, rfl, rfl, rfl, h1, r1⟩ := trodAll_cons r0
  obtain ⟨rfl, rfl, rfl⟩ := trodAll_nil r1
  obtain rfl : args = #[v0, v1] := by cases args; simp_all
  obtain ⟨rfl, rfl⟩ := trodVars_none hV
  simp only [List.append_nil] at hW'
  have hlt : ∀ x ∈ p0 ++ p1, x.block < W.heap.size := fun x hx => hW'.lt x (by simpa using hx)
  obtain ⟨a0, len0, cap0, rfl⟩ := okWide_slice Try.underlying26 (hval 0 26 v0 rfl rfl)
  obtain ⟨ss0, rfl, hb0⟩ := strings_arg Try.underlying26 Try.underlying9 (by kernel_rfl) h0
  have m0 : ∀ (W' : World), Below W.heap.size W W' → DataW.Trod enc Try.prog W' 0 (fun b => decide (b < W.heap.size)) true 26 (.slice a0 ss0.length cap0) d0 p0 := fun W' hn => Below.trod laidOut (by kernel_rfl) (of_decide_eq_true (by kernel_rfl)) h0 hn (fun x hx => hlt x (by simp [hx]))
  obtain ⟨s1, rfl, rfl, rfl, w1⟩ := open_string Try.underlying9 (hval 1 9 v1 rfl rfl) h1
  clear hA0 hval0
  refine (walk a0 ss0 cap0 s1 W hb0 (by unfold maxLen at w1; omega)).mono fun e W' ⟨he, hb⟩ => ?_
  subst he
  exact ⟨_, rfl, _, _, _, [], _, [], hW', trodAll_cons_mk (shut_bool Try.underlying4 _) trodAll_mk0, (trodAll_cons_mk (m0 _ hb) (trodAll_cons_mk (shut_string Try.underlying9 w1) trodAll_mk0)), rfl, hb.frame _, fun h => by cases h⟩
theorem over : Rows.fnExactJoinTextRow.holds Try.pinned (OpenSpec.ofChange Rows.fnExactJoinTextSpec) :=
  OpenClaim.holds_of_wide 5 Try.f5 rfl rfl rfl rfl rfl rfl rfl ⟨rfl, rfl, rfl, rfl, rfl⟩ rfl rfl rfl rfl rfl (by kernel_rfl) Try.func5 (by kernel_rfl)
    (of_decide_eq_true (by kernel_rfl)) (by unfold Func.isWrapper; first | (rw [if_pos (by decide +kernel)]; kernel_rfl) | (rw [if_neg (by decide +kernel)]; exact ⟨rfl, rfl⟩))
    (fun os started H enc _ => lifted os started H enc)
/-- THE STATEMENT -/
theorem proved : Rows.FnExactJoinTextSaid := over
end fnExactJoinText
#print axioms fnExactJoinText.proved
end Go.Proofs.Ytckkjgocipndpaa
