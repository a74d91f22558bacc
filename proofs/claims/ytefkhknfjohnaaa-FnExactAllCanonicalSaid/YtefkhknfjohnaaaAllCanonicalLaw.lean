/- It is proved that the law FnExactAllCanonical returns true at every input of its parameter types and leaves its arguments as they were (statement Rows.FnExactAllCanonicalSaid), with no condition. -/
import Derived.Test.YtefkhknfjohnaaaGKG
import Derived.Test.YtefkhknfjohnaaaAllCan
import Derived.Test.YtefkhknfjohnaaaGSz
import Derived.Deep.RegionWith
namespace Go.Proofs.Ytefkhknfjohnaaa
open Go Go.ChangeShapes Go.WideShapes Go.ChangeAt Go.RowKit
namespace fnExactAllCanonical
set_option maxRecDepth 100000 in
theorem walk_large (a0 : Option Addr) (rs0 : List RuleV) (cap0 : Nat)  (w : World) (r0 : ArgD a0 rs0 cap0 w) (h : 1048576 < sizeR rs0) :
    Calls Try.prog 4 #[.agg #[.slice a0 rs0.length cap0]] w fun e w' => e = .returned (.bool true) ∧ Below w.heap.size w w' := by
  obtain ⟨hrd, hlc, hfit, hrng⟩ := r0
  obtain ⟨w0, hw0⟩ : ∃ w0, w0 = w.alloc (.cells #[.slice a0 rs0.length cap0] 33) := ⟨_, rfl⟩
  have hB0 : Below w.heap.size w w0 := by subst hw0; exact (Below.refl _ _).alloc (Nat.le_refl _) _
  have hX0 : CellsAt w.heap.size [.slice a0 rs0.length cap0] w0 := by subst hw0; exact CellsAt.new w _ _
  have HB0 := Lib.hid hB0
  have HX0 := Lib.hid hX0
  have HR := Lib.hid hrd
  have HF := Lib.hid hfit
  have HG := Lib.hid hrng
  clear hrd hfit hrng hB0 hX0
  go_enter Try.func4, Try.ntmps4
  go_wp2_with fail
  rw [← hw0]
  clear hw0
  refine (sz_descr0 a0 rs0 cap0 _ (by omega) HF.out (HR.out.below HB0.out)).mono ?_
  rintro e w1 ⟨rfl, hb1⟩
  have HB1 := Lib.hid (HB0.out.trans (hb1.mono HB0.out.size))
  clear hb1
  rw [leftN_no h]
  go_wp2
  go_ret
  exact ⟨rfl, HB1.out⟩
set_option maxRecDepth 100000 in
set_option maxHeartbeats 2000000 in
theorem walk_short (a0 : Option Addr) (rs0 : List RuleV) (cap0 : Nat)  (w : World) (r0 : ArgD a0 rs0 cap0 w) (h : sizeR rs0 ≤ 1048576) :
    Calls Try.prog 4 #[.agg #[.slice a0 rs0.length cap0]] w fun e w' => e = .returned (.bool true) ∧ Below w.heap.size w w' := by
  have hlen : rs0.length ≤ 1048576 := by unfold sizeR at h; omega
  have HS := Lib.hid (short_of h)
  have HP := Lib.hid (spelt_of h)
  obtain ⟨hrd, hlc, hfit, hrng⟩ := r0
  obtain ⟨w0, hw0⟩ : ∃ w0, w0 = w.alloc (.cells #[.slice a0 rs0.length cap0] 33) := ⟨_, rfl⟩
  have hB0 : Below w.heap.size w w0 := by subst hw0; exact (Below.refl _ _).alloc (Nat.le_refl _) _
  have hX0 : CellsAt w.heap.size [.slice a0 rs0.length cap0] w0 := by subst hw0; exact CellsAt.new w _ _
  have HB0 := Lib.hid hB0
  have HX0 := Lib.hid hX0
  have HR := Lib.hid hrd
  have HF := Lib.hid hfit
  have HG := Lib.hid hrng
  clear hrd hfit hrng hB0 hX0
  go_enter Try.func4, Try.ntmps4
  go_wp2_with fail
  rw [← hw0]
  clear hw0
  refine (sz_descr0 a0 rs0 cap0 _ (by omega) HF.out (HR.out.below HB0.out)).mono ?_
  rintro e w1 ⟨rfl, hb1⟩
  rw [leftN_yes h]
  obtain ⟨q, hq⟩ : ∃ q, q = 1048576 - sizeR rs0 := ⟨_, rfl⟩
  rw [← hq]
  have hq1 : q ≤ 1048576 := by omega
  clear hq h
  have HX1 := Lib.hid (HX0.out.below hb1)
  clear HX0
  have HB1 := Lib.hid (HB0.out.trans (hb1.mono HB0.out.size))
  clear HB0
  have bx1 := (HX1.out 0 _ rfl).1
  clear hb1
  go_wp2_with fail
  refine (to_descr a0 rs0 cap0 _ hlen HS.out (HR.out.below HB1.out)).mono ?_
  rintro e w2 ⟨xs, ys, rfl, ho2, hb2⟩
  have HX2 := Lib.hid (HX1.out.below hb2)
  clear HX1
  have HB2 := Lib.hid (HB1.out.trans (hb2.mono HB1.out.size))
  clear HB1
  have bx2 := (HX2.out 0 _ rfl).1
  clear bx1
  have Hs := Lib.hid ho2
  clear ho2 hb2
  go_wp2_with fail
  refine (allcan_spec xs rs0 ys  _ hlen HS.out HP.out Hs.out.rdc).mono ?_
  rintro e w3 ⟨rfl, hb3⟩
  have HX3 := Lib.hid (HX2.out.below hb3)
  clear HX2
  have HB3 := Lib.hid (HB2.out.trans (hb3.mono HB2.out.size))
  clear HB2
  have bx3 := (HX3.out 0 _ rfl).1
  clear bx2
  clear hb3 Hs
  go_wp2_with fail
  refine (to_descr a0 rs0 cap0 _ hlen HS.out (HR.out.below HB3.out)).mono ?_
  rintro e w4 ⟨xy, yy, rfl, ho4, hb4⟩
  have HX4 := Lib.hid (HX3.out.below hb4)
  clear HX3
  have HB4 := Lib.hid (HB3.out.trans (hb4.mono HB3.out.size))
  clear HB3
  have bx4 := (HX4.out 0 _ rfl).1
  clear bx3
  have Hy := Lib.hid ho4
  clear ho4 hb4
  obtain ⟨v, hv⟩ : ∃ v, v = w4.alloc (.cells #[.slice xy rs0.length yy] 38) := ⟨_, rfl⟩
  have hbv : Below w4.heap.size w4 v := by subst hv; exact (Below.refl _ _).alloc (Nat.le_refl _) _
  have hY : CellsAt w4.heap.size [.slice xy rs0.length yy] v := by subst hv; exact CellsAt.new w4 _ _
  have HXv := Lib.hid (HX4.out.below hbv)
  have HBv := Lib.hid (HB4.out.trans (hbv.mono HB4.out.size))
  have HYv := Lib.hid hY
  have Hv := Lib.hid (Hy.out.below hbv)
  clear hbv hY HX4 HB4 Hy
  go_wp2_with fail
  rw [← hv]
  clear hv
  refine (allcan_impl xy rs0 yy  _ hlen HS.out HP.out Hv.out.rdc).mono ?_
  rintro e u ⟨rfl, hbu⟩
  have bx := (HXv.out.below hbu 0 _ rfl).1
  have by' := (HYv.out.below hbu 0 _ rfl).1
  have HBu := Lib.hid (HBv.out.trans (hbu.mono HBv.out.size))
  have Hu := Lib.hid (Hv.out.below hbu)
  have HYu := Lib.hid (HYv.out.below hbu)
  clear hbu HXv HYv HBv Hv bx4
  have hud : Below w.heap.size w u.drew := ⟨HBu.out.os, HBu.out.tape, HBu.out.output, HBu.out.size, HBu.out.block⟩
  have HUD := Lib.hid hud
  clear hud
  go_wp2
  go_region_with (first | (go_at_call 16; refine (to_descr a0 rs0 cap0 _ hlen HS.out (HR.out.below HUD.out)).mono ?_; rintro e w8 ⟨x8, y8, rfl, ho8, hb8⟩; have H8 := Lib.hid ho8; have by8 := ((show CellsAt _ _ u.drew from HYu.out).below hb8 0 _ rfl).1; have Hu8 := Lib.hid ((show OwnR _ _ xy rs0 yy u.drew from Hu.out).below hb8); have HB8 := Lib.hid (HUD.out.trans (hb8.mono HUD.out.size)); clear ho8 hb8) | (go_at_call 18; refine (eq_descr xy x8 rs0 yy y8 _ hlen HS.out Hu8.out.rd H8.out.rd).mono ?_; rintro e w9 ⟨rfl, hb9⟩; have HB9 := Lib.hid (HB8.out.trans (hb9.mono HB8.out.size)); clear hb9))
  all_goals (go_wp2; go_ret; exact ⟨rfl, HB9.out⟩)
theorem walk (a0 : Option Addr) (rs0 : List RuleV) (cap0 : Nat)  (w : World) (r0 : ArgD a0 rs0 cap0 w) :
    Calls Try.prog 4 #[.agg #[.slice a0 rs0.length cap0]] w fun e w' => e = .returned (.bool true) ∧ Below w.heap.size w w' := by
  by_cases h : 1048576 < sizeR rs0
  · exact walk_large a0 rs0 cap0 w  r0 h
  exact walk_short a0 rs0 cap0 w   r0 (by omega)
set_option maxRecDepth 100000 in
theorem lifted (os : Os) (started : os.Started) (H : Type) (enc : TypeId × Value → H) :
    ReturnsInHanded {} Try.checked os 4 .any (Rows.fnExactAllCanonicalSpec.pre6 enc Try.prog Try.f4 Rows.fnExactAllCanonicalRow.domain false) (Rows.fnExactAllCanonicalSpec.post enc Try.prog Try.f4 false true false false) := by
  refine returnsInHanded_of_change (C := Try.checked) own started (by kernel_rfl) Try.func4
    (ChangeSpec.witness6 (enc := enc) (C := Try.checked) false ⟨#[], #[.agg #[.slice none 0 0]], []⟩ 8 (by kernel_rfl) (by kernel_rfl) (by kernel_rfl) (by kernel_rfl)) ?_
  intro W base args ds gs before hval0 hW hcnd _
  have hval : ∀ (j : Nat) t v, Try.f4.params[j]? = some t → args[j]? = some v → Value.okWide Try.prog W .any base t v := hval0
  have hW' := hW
  obtain ⟨p, q, hA0, hV, rfl, hfz, hnd⟩ := hW
  have hA : DataW.TrodAll enc Try.prog W 0 (fun _ => true) true Try.f4.params.toList args.toList ds p := hA0
  rw [Try.params4] at hA hval
  obtain ⟨v0, vs0, d0, ds0, p0, q0, hargs, rfl, rfl, h0, r0⟩ := trodAll_cons hA
  obtain ⟨rfl, rfl, rfl⟩ := trodAll_nil r0
  obtain rfl : args = #[v0] := by cases args; simp_all
  obtain ⟨rfl, rfl⟩ := trodVars_none hV
  simp only [List.append_nil] at hW'
  have hlt : ∀ x ∈ p0, x.block < W.heap.size := fun x hx => hW'.lt x (by simpa using hx)
  obtain ⟨a0, rs0, cap0, rfl, hb0⟩ := descr_arg (hval 0 33 v0 rfl rfl) h0
  have m0 : ∀ (W' : World), Below W.heap.size W W' → DataW.Trod enc Try.prog W' 0 (fun b => decide (b < W.heap.size)) true 33 (.agg #[.slice a0 rs0.length cap0]) d0 p0 := fun W' hn => Below.trod laidOut (by kernel_rfl) (of_decide_eq_true (by kernel_rfl)) h0 hn (fun x hx => hlt x (by simp [hx]))
  clear hA0 hval0
  refine (walk a0 rs0 cap0 W hb0).mono fun e W' ⟨he, hb⟩ => ?_
  subst he
  exact ⟨_, rfl, _, _, _, [], _, [], hW', trodAll_cons_mk (shut_bool Try.underlying4 _) trodAll_mk0, (trodAll_cons_mk (m0 _ hb) trodAll_mk0), rfl, hb.frame _, fun h => by cases h⟩
theorem closed : joinedFacts Try.prog 4 Try.f4 Rows.fnExactAllCanonicalSpec Rows.fnExactAllCanonicalRow = true := by
  unfold joinedFacts
  rw [may_enter, lifts_final, make_is]
  kernel_rfl
theorem over : Rows.fnExactAllCanonicalRow.holds Try.pinned (OpenSpec.ofChange Rows.fnExactAllCanonicalSpec) :=
  OpenClaim.holds_of_wide 4 Try.f4 rfl rfl rfl rfl rfl rfl rfl ⟨rfl, rfl, rfl, rfl, rfl⟩ rfl rfl rfl rfl rfl (by kernel_rfl) Try.func4 closed
    (of_decide_eq_true (by kernel_rfl)) (by unfold Func.isWrapper; first | (rw [if_pos (by decide +kernel)]; kernel_rfl) | (rw [if_neg (by decide +kernel)]; exact ⟨rfl, rfl⟩))
    (fun os started H enc _ => lifted os started H enc)
/-- THE STATEMENT -/
theorem proved : Rows.FnExactAllCanonicalSaid := over
end fnExactAllCanonical
#print axioms fnExactAllCanonical.proved
end Go.Proofs.Ytefkhknfjohnaaa
