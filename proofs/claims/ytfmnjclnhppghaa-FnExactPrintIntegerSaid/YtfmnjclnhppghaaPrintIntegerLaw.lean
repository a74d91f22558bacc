/- It is proved that the law FnExactPrintInteger returns true at every input of its parameter types and leaves its arguments as they were (statement Rows.FnExactPrintIntegerSaid), with no condition. -/
import Derived.Test.YtfmnjclnhppghaaFacts
import Derived.Test.YtfmnjclnhppghaaSPInt
import Derived.Test.YtfmnjclnhppghaaIPInt
import Derived.Test.YtfmnjclnhppghaaGMk
import Derived.Test.YtfmnjclnhppghaaGSz
import Derived.Deep.RegionHeld3
import Derived.Deep.CutRange
namespace Go.Proofs.Ytfmnjclnhppghaa
open Go Go.ChangeShapes Go.WideShapes Go.ChangeAt Go.RowKit
namespace fnExactPrintInteger
theorem sumW_small (rs : List RuleV) : ∀ k, k ≤ rs.length → sumW rs k ≤ 4 * k + sumR rs k
  | 0, _ => by simp [sumW]
  | k + 1, h => by
    have ih := sumW_small rs k (by omega)
    have h1 := sumW_next rs k (by omega)
    have h2 := sumR_next rs k (by omega)
    rw [h1, h2]
    unfold widthR ruleSize sizeS
    omega
theorem sumW_of {rs : List RuleV} (h : sizeR rs ≤ 1048576) : 1 + sumW rs rs.length ≤ 1073741824 := by
  have h1 := sumW_small rs rs.length (Nat.le_refl _)
  unfold sizeR at h
  omega
theorem row_apart {lo hi B : Nat} {a : Option Addr} {xs : List UInt8} {cap : Nat} {w w' : World} (h : Row B a xs cap w) (ha : Apart lo hi w w') (hB : hi ≤ B) : Row B a xs cap w' := by
  refine ⟨?_, h.2⟩
  rcases h.1 with e | ⟨b, off, e, hb, hc⟩
  · exact .inl e
  · exact h.1.apart ha fun b' off' e' _ => by
      rw [e] at e'
      injection e' with e'
      injection e' with e1
      omega
set_option maxRecDepth 100000 in
theorem walk_large (a0 : Option Addr) (rs0 : List RuleV) (cap0 : Nat) (n1 : Int) (n2 : Int) (w : World) (r0 : ArgD a0 rs0 cap0 w) (h : 1048576 < sizeR rs0) :
    Calls Try.prog 6 #[.agg #[.slice a0 rs0.length cap0], .int .i64 n1, .int .i64 n2] w fun e w' => e = .returned (.bool true) ∧ Below w.heap.size w w' := by
  obtain ⟨hrd, hlc, hfit, -⟩ := r0
  obtain ⟨w0, hw0⟩ : ∃ w0, w0 = w.alloc (.cells #[.slice a0 rs0.length cap0] 24) := ⟨_, rfl⟩
  have hB0 : Below w.heap.size w w0 := by subst hw0; exact (Below.refl _ _).alloc (Nat.le_refl _) _
  have hX0 : CellsAt w.heap.size [.slice a0 rs0.length cap0] w0 := by subst hw0; exact CellsAt.new w _ _
  have HB := Lib.hid hB0
  have HX := Lib.hid hX0
  have HR := Lib.hid hrd
  have HF := Lib.hid hfit
  clear hrd hfit hB0 hX0
  go_enter Try.func6, Try.ntmps6
  go_wp2_with fail
  rw [← hw0]
  clear hw0
  refine (sz_descr0 a0 rs0 cap0 _ (by omega) HF.out (HR.out.below HB.out)).mono ?_
  rintro e w1 ⟨rfl, hb⟩
  replace HB := Lib.hid (HB.out.trans (hb.mono HB.out.size))
  replace HX := Lib.hid (HX.out.below hb)
  clear hb
  rw [leftN_no h]
  go_wp2
  go_ret
  exact ⟨rfl, HB.out⟩
set_option maxRecDepth 100000 in
set_option maxHeartbeats 8000000 in
theorem walk_short (a0 : Option Addr) (rs0 : List RuleV) (cap0 : Nat) (n1 : Int) (n2 : Int) (w : World) (r0 : ArgD a0 rs0 cap0 w) (h : sizeR rs0 ≤ 1048576) :
    Calls Try.prog 6 #[.agg #[.slice a0 rs0.length cap0], .int .i64 n1, .int .i64 n2] w fun e w' => e = .returned (.bool true) ∧ Below w.heap.size w w' := by
  have hlen : rs0.length ≤ 1048576 := by unfold sizeR at h; omega
  have HS := Lib.hid (short_of h)
  have hk1 := sumW_of h
  have HP := Lib.hid (spelt_of h)
  obtain ⟨ok, hok⟩ : ∃ b, b = pintB rs0 n1 n2 := ⟨_, rfl⟩
  obtain ⟨ns, hns⟩ : ∃ ns, ns = (if pintB rs0 n1 n2 = true then pintL rs0 n1 n2 else []) := ⟨_, rfl⟩
  have hnl : ns.length ≤ 1048576 := by rw [hns]; exact Nat.le_trans (pint_len rs0 n1 n2) (by omega)
  have HSP : Hid (∀ (x : Option Addr) (y : Nat) (W : World), RdC x rs0 W → Calls Try.prog 30 #[.agg #[.slice x rs0.length y], .int .i64 n1, .int .i64 n2] W (ByteB ns ok W)) := fun x y W hW => by rw [hns, hok]; exact (pint_spec x rs0 y n1 n2 W hlen HS.out HP.out hW).mono fun _ _ h => pve_bytes h
  have HIM : Hid (∀ (x : Option Addr) (y : Nat) (W : World), RdC x rs0 W → Calls Try.prog 31 #[.agg #[.slice x rs0.length y], .int .i64 n1, .int .i64 n2] W (ByteB ns ok W)) := fun x y W hW => by rw [hns, hok]; exact (pint_impl x rs0 y n1 n2 W hlen HS.out HP.out hW).mono fun _ _ h => pve_bytes h
  clear hns
  clear hok
  have er : (ok != ok) = false := by simp
  obtain ⟨hrd, hlc, hfit, -⟩ := r0
  obtain ⟨w0, hw0⟩ : ∃ w0, w0 = w.alloc (.cells #[.slice a0 rs0.length cap0] 24) := ⟨_, rfl⟩
  have hB0 : Below w.heap.size w w0 := by subst hw0; exact (Below.refl _ _).alloc (Nat.le_refl _) _
  have hX0 : CellsAt w.heap.size [.slice a0 rs0.length cap0] w0 := by subst hw0; exact CellsAt.new w _ _
  have HB := Lib.hid hB0
  have HX := Lib.hid hX0
  have HR := Lib.hid hrd
  have HF := Lib.hid hfit
  clear hrd hfit hB0 hX0
  go_enter Try.func6, Try.ntmps6
  go_wp2_with fail
  rw [← hw0]
  clear hw0
  refine (sz_descr0 a0 rs0 cap0 _ (by omega) HF.out (HR.out.below HB.out)).mono ?_
  rintro e w1 ⟨rfl, hb⟩
  replace HB := Lib.hid (HB.out.trans (hb.mono HB.out.size))
  replace HX := Lib.hid (HX.out.below hb)
  clear hb
  rw [leftN_yes h]
  obtain ⟨q, hq⟩ : ∃ q, q = 1048576 - sizeR rs0 := ⟨_, rfl⟩
  rw [← hq]
  have hq1 : q ≤ 1048576 := by omega
  clear hq h
  obtain ⟨T, hT⟩ : ∃ T, T = 1 + sumW rs0 rs0.length := ⟨_, rfl⟩
  have HT := Lib.hid hT
  have hT1 : T ≤ 1073741824 := by omega
  have hT0 : ¬ ((T : Int) < 0) := by omega
  clear hT
  have HK1 := Lib.hid hk1
  clear hk1
  obtain ⟨M, hM⟩ : ∃ M, M = 1 + ns.length := ⟨_, rfl⟩
  have HM := Lib.hid hM
  have hM1 : M ≤ 1073741824 := by omega
  have hM0 : ¬ ((M : Int) < 0) := by omega
  clear hM
  have bx := (HX.out 0 _ rfl).1
  go_wp2_with fail
  refine (to_descr a0 rs0 cap0 _ hlen HS.out (HR.out.below HB.out)).mono ?_
  rintro e w2 ⟨xs, ys, rfl, ho, hb⟩
  replace HB := Lib.hid (HB.out.trans (hb.mono HB.out.size))
  replace HX := Lib.hid (HX.out.below hb)
  have HO := Lib.hid ho
  clear hb ho bx
  go_wp2_with fail
  refine (HSP.out xs ys _ HO.out.rdc).mono ?_
  rintro e z4 ⟨xw, cw, rfl, hrw, hb⟩
  replace HB := Lib.hid (HB.out.trans (hb.mono HB.out.size))
  replace HX := Lib.hid (HX.out.below hb)
  have HW := Lib.hid hrw.rd
  clear hb HO hrw
  have hnw : Hid (w.heap.size < z4.heap.size) := by have := cell_lt (HX.out 0 _ rfl).1; exact this
  have bx := (HX.out 0 _ rfl).1
  go_wp2_with fail
  clear bx
  refine (to_descr a0 rs0 cap0 _ hlen HS.out (HR.out.below HB.out)).mono ?_
  rintro e v5 ⟨xx, yx, rfl, hox, hb⟩
  have HA := Lib.hid hb
  have HOX := Lib.hid hox
  have hs5 := Lib.hid hb.size
  clear hox hb
  obtain ⟨z5, hz5⟩ : ∃ z, z = v5.alloc (.cells #[.slice xx rs0.length yx] 35) := ⟨_, rfl⟩
  have hb : Below v5.heap.size v5 z5 := by subst hz5; exact (Below.refl _ _).alloc (Nat.le_refl _) _
  have hT : CellsAt v5.heap.size [.slice xx rs0.length yx] z5 := by subst hz5; exact CellsAt.new v5 _ _
  have HT5 := Lib.hid hT
  have hn5 : Hid (z5.heap.size = v5.heap.size + 1) := by subst hz5; exact World.size_alloc _ _
  replace HA := Lib.hid (HA.out.trans (hb.mono HA.out.size))
  replace HOX := Lib.hid (HOX.out.below hb)
  clear hb hT
  go_wp2_with fail
  rw [← hz5]
  clear hz5
  refine (HIM.out xx yx _ HOX.out.rdc).mono ?_
  rintro e v6 ⟨xg, cg, rfl, hog, hb⟩
  replace HA := Lib.hid (HA.out.trans (hb.mono HA.out.size))
  replace HOX := Lib.hid (HOX.out.below hb)
  replace HT5 := Lib.hid (HT5.out.below hb)
  have HOG := Lib.hid hog
  clear hog hb
  go_wp2_with fail
  refine (eq_any xg xw ns ns cg cw _ (by omega) HOG.out.rd (HW.out.below HA.out)).mono ?_
  rintro e v7 ⟨rfl, n7', hv7⟩
  rw [decide_eq_true (rfl : ns = ns)]
  have hb : Below v6.heap.size v6 v7 := by subst hv7; exact below_drewN (Below.refl _ _) n7'
  replace HA := Lib.hid (HA.out.trans (hb.mono HA.out.size))
  replace HOX := Lib.hid (HOX.out.below hb)
  replace HT5 := Lib.hid (HT5.out.below hb)
  replace HOG := Lib.hid (HOG.out.below hb)
  clear hb hv7
  go_upto_region 10 with fail
  replace HA : Hid (Below z4.heap.size z4 v7.drew) := below_drewN HA.out 1
  replace HOX : Hid (OwnR _ _ xx rs0 yx v7.drew) := HOX.out
  replace HOG : Hid (Row _ xg ns cg v7.drew) := HOG.out
  replace HT5 : Hid (CellsAt _ [.slice xx rs0.length yx] v7.drew) := HT5.out
  go_region_held3 (fun W => W.cell? ⟨v5.heap.size, 0, none⟩ = some (.slice xx rs0.length yx) ∧ W.cell? ⟨w.heap.size, 0, none⟩ = some (.slice a0 rs0.length cap0)) (exact ⟨(HT5.out 0 _ rfl).1, (HX.out.below HA.out 0 _ rfl).1⟩) (first | (go_at_call 15; refine (to_descr a0 rs0 cap0 _ hlen HS.out ((HR.out.below HB.out).below HA.out)).mono ?_; rintro e v8 ⟨x8, y8, rfl, ho8, hb⟩; have H8 := Lib.hid ho8; replace HA := Lib.hid (HA.out.trans (hb.mono HA.out.size)); replace HOX := Lib.hid (HOX.out.below hb); replace HT5 := Lib.hid (HT5.out.below hb); replace HOG := Lib.hid (HOG.out.below hb); clear hb ho8) | (go_at_call 19; refine (eq_descr xx x8 rs0 yx y8 _ hlen HS.out HOX.out.rd H8.out.rd).mono ?_; rintro e v9 ⟨rfl, hb⟩; replace HA := Lib.hid (HA.out.trans (hb.mono HA.out.size)); replace HOX := Lib.hid (HOX.out.below hb); replace HT5 := Lib.hid (HT5.out.below hb); replace HOG := Lib.hid (HOG.out.below hb); clear hb))
  clear H8
  have b5 := (HT5.out 0 _ rfl).1
  go_wp2_with fail
  refine (mark_descr z4.heap.size v5.heap.size xx rs0 yx 1 _ hlen HS.out (by omega) HK1.out HOX.out).mono ?_
  rintro e v10 ⟨rfl, L, hmix, hoL, ha⟩
  rw [← HT.out]
  have p5 := hn5.out
  have sz := HA.out.size
  replace HA := Lib.hid (HA.out.trans (ha.toBelow (Nat.le_refl _) sz))
  replace HOG := Lib.hid (row_apart HOG.out ha (by omega))
  clear hmix hoL ha HOX p5 sz b5 L HT5
  go_wp2_with fail
  refine (eq_any xg xw ns ns cg cw _ (by omega) HOG.out.rd (HW.out.below HA.out)).mono ?_
  rintro e v11 ⟨rfl, n11', hv11⟩
  rw [decide_eq_true (rfl : ns = ns)]
  have hb : Below v10.heap.size v10 v11 := by subst hv11; exact below_drewN (Below.refl _ _) n11'
  replace HA := Lib.hid (HA.out.trans (hb.mono HA.out.size))
  replace HOG := Lib.hid (HOG.out.below hb)
  clear hb hv11
  go_wp2_with fail
  refine (mark_any z5.heap.size xg ns cg 1 _ (by omega) (by omega) HOG.out).mono ?_
  rintro e v12 ⟨rfl, hf, ht⟩
  rw [← HM.out]
  have o5 := hs5.out
  have p5 := hn5.out
  replace HA := Lib.hid (ht.below HA.out HA.out.size (by omega))
  replace HOG := Lib.hid hf
  clear hf ht o5 p5
  go_wp2_with fail
  refine (held_any xg ns.length cg 1 _ (by omega) (by omega) HOG.out.rd).mono ?_
  rintro e v13 ⟨rfl, rfl⟩
  rw [← HM.out]
  have bx := (HX.out.below HA.out 0 _ rfl).1
  go_wp2_with fail
  refine (to_descr a0 rs0 cap0 _ hlen HS.out ((HR.out.below HB.out).below HA.out)).mono ?_
  rintro e v14 ⟨xh, yh, rfl, hoh, hb⟩
  have HOH := Lib.hid hoh
  replace HA := Lib.hid (HA.out.trans (hb.mono HA.out.size))
  replace HOG := Lib.hid (HOG.out.below hb)
  clear hb
  clear hoh bx
  go_wp2_with fail
  refine (HIM.out xh yh _ HOH.out.rdc).mono ?_
  rintro e v15 ⟨xc, yc, rfl, hoc, hb⟩
  have HOC := Lib.hid hoc
  replace HA := Lib.hid (HA.out.trans (hb.mono HA.out.size))
  replace HOG := Lib.hid (HOG.out.below hb)
  clear hb
  clear hoc HOH
  go_wp2_with fail
  refine (eq_any xc xw ns ns yc cw _ (by omega) HOC.out.rd (HW.out.below HA.out)).mono ?_
  rintro e v16 ⟨rfl, n16', hv16⟩
  rw [decide_eq_true (rfl : ns = ns)]
  have hb : Below v15.heap.size v15 v16 := by subst hv16; exact below_drewN (Below.refl _ _) n16'
  replace HA := Lib.hid (HA.out.trans (hb.mono HA.out.size))
  replace HOG := Lib.hid (HOG.out.below hb)
  clear hb
  clear hv16 HOC
  go_wp2_with fail
  refine (held_any xg ns.length cg 1 _ (by omega) (by omega) HOG.out.rd).mono ?_
  rintro e v17 ⟨rfl, rfl⟩
  rw [← HM.out]
  have hfin := Lib.hid (HB.out.trans (HA.out.mono (by have := hnw.out; omega)))
  go_wp2
  go_ret
  exact ⟨rfl, hfin.out⟩
theorem walk (a0 : Option Addr) (rs0 : List RuleV) (cap0 : Nat) (n1 : Int) (n2 : Int) (w : World) (r0 : ArgD a0 rs0 cap0 w) (_ : I64 n1) (_ : I64 n2) :
    Calls Try.prog 6 #[.agg #[.slice a0 rs0.length cap0], .int .i64 n1, .int .i64 n2] w fun e w' => e = .returned (.bool true) ∧ Below w.heap.size w w' := by
  by_cases h : 1048576 < sizeR rs0
  · exact walk_large a0 rs0 cap0 n1 n2 w r0 h
  exact walk_short a0 rs0 cap0 n1 n2 w r0 (by omega)
set_option maxRecDepth 100000 in
theorem lifted (os : Os) (started : os.Started) (H : Type) (enc : TypeId × Value → H) :
    ReturnsInHanded {} Try.checked os 6 .any (Rows.fnExactPrintIntegerSpec.pre6 enc Try.prog Try.f6 Rows.fnExactPrintIntegerRow.domain false) (Rows.fnExactPrintIntegerSpec.post enc Try.prog Try.f6 false true false false) := by
  refine returnsInHanded_of_change (C := Try.checked) own started (by kernel_rfl) Try.func6
    (ChangeSpec.witness6 (enc := enc) (C := Try.checked) false ⟨#[], #[.agg #[.slice none 0 0], .int .i64 0, .int .i64 0], []⟩ 8 (by kernel_rfl) (by kernel_rfl) (by kernel_rfl) (by kernel_rfl)) ?_
  intro W base args ds gs before hval0 hW hcnd _
  have hval : ∀ (j : Nat) t v, Try.f6.params[j]? = some t → args[j]? = some v → Value.okWide Try.prog W .any base t v := hval0
  have hW' := hW
  obtain ⟨p, q, hA0, hV, rfl, hfz, hnd⟩ := hW
  have hA : DataW.TrodAll enc Try.prog W 0 (fun _ => true) true Try.f6.params.toList args.toList ds p := hA0
  rw [Try.params6] at hA hval
  obtain ⟨v0, vs0, d0, ds0, p0, q0, hargs, rfl, rfl, h0, r0⟩ := trodAll_cons hA
  obtain ⟨v1, vs1, d1, ds1, p1, q1, rfl, rfl, rfl, h1, r1⟩ := trodAll_cons r0
  obtain ⟨v2, vs2, d2, ds2, p2, q2, rfl, rfl, rfl, h2, r2⟩ := trodAll_cons r1
  obtain ⟨rfl, rfl, rfl⟩ := trodAll_nil r2
  obtain rfl : args = #[v0, v1, v2] := by cases args; simp_all
  obtain ⟨rfl, rfl⟩ := trodVars_none hV
  simp only [List.append_nil] at hW'
  have hlt : ∀ x ∈ p0 ++ p1 ++ p2, x.block < W.heap.size := fun x hx => hW'.lt x (by simpa using hx)
  obtain ⟨a0, rs0, cap0, rfl, hb0⟩ := descr_arg (hval 0 24 v0 rfl rfl) h0
  have m0 : ∀ (W' : World), Below W.heap.size W W' → DataW.Trod enc Try.prog W' 0 (fun b => decide (b < W.heap.size)) true 24 (.agg #[.slice a0 rs0.length cap0]) d0 p0 := fun W' hn => Below.trod laidOut (by kernel_rfl) (of_decide_eq_true (by kernel_rfl)) h0 hn (fun x hx => hlt x (by simp [hx]))
  obtain ⟨n1, rfl, rfl, rfl, w1⟩ := open_int Try.underlying3 (hval 1 3 v1 rfl rfl) h1
  obtain ⟨n2, rfl, rfl, rfl, w2⟩ := open_int Try.underlying3 (hval 2 3 v2 rfl rfl) h2
  clear hA0 hval0
  refine (walk a0 rs0 cap0 n1 n2 W hb0 (i64_arg w1) (i64_arg w2)).mono fun e W' ⟨he, hb⟩ => ?_
  subst he
  exact ⟨_, rfl, _, _, _, [], _, [], hW', trodAll_cons_mk (shut_bool Try.underlying4 _) trodAll_mk0, (trodAll_cons_mk (m0 _ hb) (trodAll_cons_mk (shut_int Try.underlying3 w1) (trodAll_cons_mk (shut_int Try.underlying3 w2) trodAll_mk0))), rfl, hb.frame _, fun h => by cases h⟩
theorem closed : joinedFacts Try.prog 6 Try.f6 Rows.fnExactPrintIntegerSpec Rows.fnExactPrintIntegerRow = true := by
  unfold joinedFacts
  rw [may_enter, lifts_final, make_is]
  kernel_rfl
theorem over : Rows.fnExactPrintIntegerRow.holds Try.pinned (OpenSpec.ofChange Rows.fnExactPrintIntegerSpec) :=
  OpenClaim.holds_of_wide 6 Try.f6 rfl rfl rfl rfl rfl rfl rfl ⟨rfl, rfl, rfl, rfl, rfl⟩ rfl rfl rfl rfl rfl (by kernel_rfl) Try.func6 closed
    (of_decide_eq_true (by kernel_rfl)) (by unfold Func.isWrapper; first | (rw [if_pos (by decide +kernel)]; kernel_rfl) | (rw [if_neg (by decide +kernel)]; exact ⟨rfl, rfl⟩))
    (fun os started H enc _ => lifted os started H enc)
/-- THE STATEMENT -/
theorem proved : Rows.FnExactPrintIntegerSaid := over
end fnExactPrintInteger
#print axioms fnExactPrintInteger.proved
end Go.Proofs.Ytfmnjclnhppghaa
