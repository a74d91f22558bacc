/- It is proved that the law FnExactTotalBytes returns true at every input of its parameter types and leaves its arguments as they were (statement Rows.FnExactTotalBytesSaid), with no condition. -/
import Derived.Test.YtdbpjaeekhgfgaaFacts
import Derived.Test.YtdbpjaeekhgfgaaCImpl
import Derived.Test.YtdbpjaeekhgfgaaArgV
import Derived.Test.YtdbpjaeekhgfgaaEqV
import Derived.Test.YtdbpjaeekhgfgaaToV
import Derived.Deep.RegionHeld3
import Derived.Deep.CutRange
namespace Go.Proofs.Ytdbpjaeekhgfgaa
open Go Go.ChangeShapes Go.WideShapes Go.ChangeAt Go.RowKit
namespace fnExactTotalBytes
set_option maxRecDepth 100000 in
theorem walk_large (g0 : Nat) (u0 : ValueV) (cs0 : List Value) (w : World) (r0 : IsVal g0 u0 cs0 w) (f0 : fitV u0) (h : 1048576 < sizV u0) :
    Calls Try.prog 10 #[.agg cs0.toArray] w fun e w' => e = .returned (.bool true) ∧ Below w.heap.size w w' := by
  obtain ⟨ab, cb, ai, ci, rfl⟩ := r0.three
  obtain ⟨w0, hw0⟩ : ∃ w0, w0 = w.alloc (.cells #[.int .i64 u0.number, .slice ab u0.bytes.length cb, .slice ai u0.items.length ci] 43) := ⟨_, rfl⟩
  have hB0 : Below w.heap.size w w0 := by subst hw0; exact (Below.refl _ _).alloc (Nat.le_refl _) _
  have hX0 : CellsAt w.heap.size [.int .i64 u0.number, .slice ab u0.bytes.length cb, .slice ai u0.items.length ci] w0 := by subst hw0; exact CellsAt.new w _ _
  have HB := Lib.hid hB0
  have HX := Lib.hid hX0
  have HR := Lib.hid r0
  have HF := Lib.hid f0
  have HW := Lib.hid hw0
  clear hB0 hX0 r0 f0 hw0
  go_enter Try.func10, Try.ntmps10
  go_upto_region 1 with fail
  rw [← HW.out]
  clear HW
  have b0 := (HX.out 0 _ rfl).1
  have b1 := (HX.out 1 _ rfl).1
  have b2 := (HX.out 2 _ rfl).1
  go_wp2_with fail
  refine (sz_value g0 u0 _ 1048576 _ (HR.out.below HB.out) (Nat.le_refl _) HF.out).mono ?_
  rintro e w1 ⟨rfl, hb⟩
  replace HX := Lib.hid (HX.out.below hb)
  replace HB := Lib.hid (HB.out.trans (hb.mono HB.out.size))
  clear hb
  clear b0 b1 b2
  rw [leftN_no h]
  go_wp2
  go_ret
  exact ⟨rfl, HB.out⟩
set_option maxRecDepth 100000 in
set_option maxHeartbeats 4000000 in
theorem walk_short (g0 : Nat) (u0 : ValueV) (cs0 : List Value) (w : World) (r0 : IsVal g0 u0 cs0 w) (f0 : fitV u0) (h : sizV u0 ≤ 1048576) :
    Calls Try.prog 10 #[.agg cs0.toArray] w fun e w' => e = .returned (.bool true) ∧ Below w.heap.size w w' := by
  have HS := Lib.hid h
  obtain ⟨ab, cb, ai, ci, rfl⟩ := r0.three
  obtain ⟨w0, hw0⟩ : ∃ w0, w0 = w.alloc (.cells #[.int .i64 u0.number, .slice ab u0.bytes.length cb, .slice ai u0.items.length ci] 43) := ⟨_, rfl⟩
  have hB0 : Below w.heap.size w w0 := by subst hw0; exact (Below.refl _ _).alloc (Nat.le_refl _) _
  have hX0 : CellsAt w.heap.size [.int .i64 u0.number, .slice ab u0.bytes.length cb, .slice ai u0.items.length ci] w0 := by subst hw0; exact CellsAt.new w _ _
  have HB := Lib.hid hB0
  have HX := Lib.hid hX0
  have HR := Lib.hid r0
  have HF := Lib.hid f0
  have HW := Lib.hid hw0
  clear hB0 hX0 r0 f0 hw0
  go_enter Try.func10, Try.ntmps10
  go_upto_region 1 with fail
  rw [← HW.out]
  clear HW
  have b0 := (HX.out 0 _ rfl).1
  have b1 := (HX.out 1 _ rfl).1
  have b2 := (HX.out 2 _ rfl).1
  go_wp2_with fail
  refine (sz_value g0 u0 _ 1048576 _ (HR.out.below HB.out) (Nat.le_refl _) HF.out).mono ?_
  rintro e w1 ⟨rfl, hb⟩
  replace HX := Lib.hid (HX.out.below hb)
  replace HB := Lib.hid (HB.out.trans (hb.mono HB.out.size))
  clear hb
  clear b0 b1 b2
  rw [leftN_yes h]
  obtain ⟨q, hq⟩ : ∃ q, q = 1048576 - sizV u0 := ⟨_, rfl⟩
  rw [← hq]
  have hq1 : q ≤ 1048576 := by omega
  obtain ⟨N, hN⟩ : ∃ N, N = totV u0 := ⟨_, rfl⟩
  have HN := Lib.hid hN
  clear hq h hN
  have b0 := (HX.out 0 _ rfl).1
  have b1 := (HX.out 1 _ rfl).1
  have b2 := (HX.out 2 _ rfl).1
  go_wp2_with fail
  refine (to_value g0 u0 _ _ (HR.out.below HB.out) HS.out).mono ?_
  rintro e w2 ⟨xs, bl, rfl, ho, _, hb⟩
  have Hs := Lib.hid ho
  obtain ⟨a1s, c1s, a2s, c2s, rfl⟩ := ho.cells
  clear ho
  replace HX := Lib.hid (HX.out.below hb)
  replace HB := Lib.hid (HB.out.trans (hb.mono HB.out.size))
  clear hb
  clear b0 b1 b2
  go_wp2_with fail
  refine (total_spec g0 u0 _ _ Hs.out.is HS.out).mono ?_
  rintro e w3 ⟨rfl, hb⟩
  replace HX := Lib.hid (HX.out.below hb)
  replace HB := Lib.hid (HB.out.trans (hb.mono HB.out.size))
  clear hb
  rw [← HN.out]
  clear Hs
  have b0 := (HX.out 0 _ rfl).1
  have b1 := (HX.out 1 _ rfl).1
  have b2 := (HX.out 2 _ rfl).1
  go_wp2_with fail
  refine (to_value g0 u0 _ _ (HR.out.below HB.out) HS.out).mono ?_
  rintro e w4 ⟨xs, bl, rfl, ho, _, hb⟩
  have Hy := Lib.hid ho
  obtain ⟨a1y, c1y, a2y, c2y, rfl⟩ := ho.cells
  clear ho
  replace HX := Lib.hid (HX.out.below hb)
  replace HB := Lib.hid (HB.out.trans (hb.mono HB.out.size))
  clear hb
  clear b0 b1 b2
  obtain ⟨z, hz⟩ : ∃ z, z = w4.alloc (.cells #[.int .i64 u0.number, .slice a1y u0.bytes.length c1y, .slice a2y u0.items.length c2y] 29) := ⟨_, rfl⟩
  have hb : Below w4.heap.size w4 z := by subst hz; exact (Below.refl _ _).alloc (Nat.le_refl _) _
  have hY : CellsAt w4.heap.size [.int .i64 u0.number, .slice a1y u0.bytes.length c1y, .slice a2y u0.items.length c2y] z := by subst hz; exact CellsAt.new w4 _ _
  have HY := Lib.hid hY
  have HZ := Lib.hid hz
  replace Hy := Lib.hid (Hy.out.below hb)
  clear hY hz
  replace HX := Lib.hid (HX.out.below hb)
  replace HB := Lib.hid (HB.out.trans (hb.mono HB.out.size))
  clear hb
  go_upto_region 7 with fail
  rw [← HZ.out]
  clear HZ
  have y0 := (HY.out 0 _ rfl).1
  have y1 := (HY.out 1 _ rfl).1
  have y2 := (HY.out 2 _ rfl).1
  go_wp2_with fail
  refine (total_impl g0 u0 _ _ Hy.out.is HS.out).mono ?_
  rintro e w5 ⟨rfl, hb⟩
  clear y0 y1 y2
  replace HX := Lib.hid (HX.out.below hb)
  replace HY := Lib.hid (HY.out.below hb)
  replace Hy := Lib.hid (Hy.out.below hb)
  replace HB := Lib.hid (HB.out.trans (hb.mono HB.out.size))
  clear hb
  rw [← HN.out]
  clear HN
  have e0 : ((N : Int) != (N : Int)) = false := by simp
  go_upto_region 10 with fail
  clear e0
  replace HB := Lib.hid (below_drewN HB.out 1)
  replace HX : Hid (CellsAt _ _ (w5.drewN 1)) := HX.out
  replace HY : Hid (CellsAt _ _ (w5.drewN 1)) := HY.out
  replace Hy : Hid (OwnT _ _ _ _ (w5.drewN 1)) := Hy.out.below (below_drewN (Below.refl _ _) 1)
  go_region_held3 (fun W => W.cell? ⟨w.heap.size, 0, none⟩ = some (.int .i64 u0.number) ∧ W.cell? ⟨w.heap.size, 1, none⟩ = some (.slice ab u0.bytes.length cb) ∧ W.cell? ⟨w.heap.size, 2, none⟩ = some (.slice ai u0.items.length ci) ∧ W.cell? ⟨w4.heap.size, 0, none⟩ = some (.int .i64 u0.number) ∧ W.cell? ⟨w4.heap.size, 1, none⟩ = some (.slice a1y u0.bytes.length c1y) ∧ W.cell? ⟨w4.heap.size, 2, none⟩ = some (.slice a2y u0.items.length c2y)) (exact ⟨(HX.out 0 _ rfl).1, (HX.out 1 _ rfl).1, (HX.out 2 _ rfl).1, (HY.out 0 _ rfl).1, (HY.out 1 _ rfl).1, (HY.out 2 _ rfl).1⟩) (first | (go_at_call 25; refine (to_value g0 u0 _ _ (HR.out.below HB.out) HS.out).mono ?_; rintro e w8 ⟨xs, bl, rfl, ho, _, hb⟩; have H8 := Lib.hid ho; obtain ⟨a18, c18, a28, c28, rfl⟩ := ho.cells; clear ho; replace HX := Lib.hid (HX.out.below hb); replace HY := Lib.hid (HY.out.below hb); replace Hy := Lib.hid (Hy.out.below hb); replace HB := Lib.hid (HB.out.trans (hb.mono HB.out.size)); clear hb) | (go_at_call 27; refine (eq_value g0 g0 u0 _ _ _ Hy.out.is H8.out.is HS.out).mono ?_; rintro e w9 ⟨rfl, hb⟩; replace HX := Lib.hid (HX.out.below hb); replace HY := Lib.hid (HY.out.below hb); replace Hy := Lib.hid (Hy.out.below hb); replace HB := Lib.hid (HB.out.trans (hb.mono HB.out.size)); clear hb))
  all_goals (go_wp2; go_ret; exact ⟨rfl, HB.out⟩)
theorem walk (g0 : Nat) (u0 : ValueV) (cs0 : List Value) (w : World) (r0 : IsVal g0 u0 cs0 w) (f0 : fitV u0) (_ : intV u0) :
    Calls Try.prog 10 #[.agg cs0.toArray] w fun e w' => e = .returned (.bool true) ∧ Below w.heap.size w w' := by
  by_cases h : 1048576 < sizV u0
  · exact walk_large g0 u0 cs0 w r0 f0 h
  exact walk_short g0 u0 cs0 w r0 f0 (by omega)
set_option maxRecDepth 100000 in
theorem lifted (os : Os) (started : os.Started) (H : Type) (enc : TypeId × Value → H) :
    ReturnsInHanded {} Try.checked os 10 .any (Rows.fnExactTotalBytesSpec.pre6 enc Try.prog Try.f10 Rows.fnExactTotalBytesRow.domain false) (Rows.fnExactTotalBytesSpec.post enc Try.prog Try.f10 false true false false) := by
  refine returnsInHanded_of_change (C := Try.checked) own started (by kernel_rfl) Try.func10
    (ChangeSpec.witness6 (enc := enc) (C := Try.checked) false ⟨#[], #[.agg #[.int .i64 0, .slice none 0 0, .slice none 0 0]], []⟩ 8 (by kernel_rfl) (by kernel_rfl) (by kernel_rfl) (by kernel_rfl)) ?_
  intro W base args ds gs before hval0 hW hcnd _
  have hval : ∀ (j : Nat) t v, Try.f10.params[j]? = some t → args[j]? = some v → Value.okWide Try.prog W .any base t v := hval0
  have hW' := hW
  obtain ⟨p, q, hA0, hV, rfl, hfz, hnd⟩ := hW
  have hA : DataW.TrodAll enc Try.prog W 0 (fun _ => true) true Try.f10.params.toList args.toList ds p := hA0
  rw [Try.params10] at hA hval
  obtain ⟨v0, vs0, d0, ds0, p0, q0, hargs, rfl, rfl, h0, r0⟩ := trodAll_cons hA
  obtain ⟨rfl, rfl, rfl⟩ := trodAll_nil r0
  obtain rfl : args = #[v0] := by cases args; simp_all
  obtain ⟨rfl, rfl⟩ := trodVars_none hV
  simp only [List.append_nil] at hW'
  have hlt : ∀ x ∈ p0, x.block < W.heap.size := fun x hx => hW'.lt x (by simpa using hx)
  obtain ⟨g0, u0, cs0, rfl, hb0, hf0, hi0⟩ := value_arg (hval 0 43 v0 rfl rfl) h0
  have m0 : ∀ (W' : World), Below W.heap.size W W' → DataW.Trod enc Try.prog W' 0 (fun b => decide (b < W.heap.size)) true 43 (.agg cs0.toArray) d0 p0 := fun W' hn => Below.trod laidOut (by kernel_rfl) (of_decide_eq_true (by kernel_rfl)) h0 hn (fun x hx => hlt x (by simp [hx]))
  clear hA0 hval0
  refine (walk g0 u0 cs0 W hb0 hf0 hi0).mono fun e W' ⟨he, hb⟩ => ?_
  subst he
  exact ⟨_, rfl, _, _, _, [], _, [], hW', trodAll_cons_mk (shut_bool Try.underlying4 _) trodAll_mk0, (trodAll_cons_mk (m0 _ hb) trodAll_mk0), rfl, hb.frame _, fun h => by cases h⟩
theorem closed : joinedFacts Try.prog 10 Try.f10 Rows.fnExactTotalBytesSpec Rows.fnExactTotalBytesRow = true := by
  unfold joinedFacts
  rw [may_enter, lifts_final, make_is]
  kernel_rfl
theorem over : Rows.fnExactTotalBytesRow.holds Try.pinned (OpenSpec.ofChange Rows.fnExactTotalBytesSpec) :=
  OpenClaim.holds_of_wide 10 Try.f10 rfl rfl rfl rfl rfl rfl rfl ⟨rfl, rfl, rfl, rfl, rfl⟩ rfl rfl rfl rfl rfl (by kernel_rfl) Try.func10 closed
    (of_decide_eq_true (by kernel_rfl)) (by unfold Func.isWrapper; first | (rw [if_pos (by decide +kernel)]; kernel_rfl) | (rw [if_neg (by decide +kernel)]; exact ⟨rfl, rfl⟩))
    (fun os started H enc _ => lifted os started H enc)
/-- THE STATEMENT -/
theorem proved : Rows.FnExactTotalBytesSaid := over
end fnExactTotalBytes
#print axioms fnExactTotalBytes.proved
end Go.Proofs.Ytdbpjaeekhgfgaa
