/- It is proved that the law FnExactEqualDescriptions returns true at every input of its parameter types and leaves its arguments as they were (statement Rows.FnExactEqualDescriptionsSaid), with no condition. -/
import Derived.Test.YtdhfcopfoknokaaEqDescr
import Derived.Test.YtdhfcopfoknokaaArgR
import Derived.Test.YtdhfcopfoknokaaRuleEq
import Derived.Deep.RegionWith
import Derived.Deep.CutRange
namespace Go.Proofs.Ytdhfcopfoknokaa
open Go Go.ChangeShapes Go.WideShapes Go.ChangeAt Go.RowKit
namespace fnExactEqualDescriptions
set_option maxRecDepth 100000 in
theorem walk_large0 (a0 : Option Addr) (rs0 : List RuleV) (cap0 : Nat) (a1 : Option Addr) (rs1 : List RuleV) (cap1 : Nat) (w : World) (r0 : ArgD a0 rs0 cap0 w) (r1 : ArgD a1 rs1 cap1 w) (h : 1048576 < sizeR rs0) :
    Calls Try.prog 12 #[.agg #[.slice a0 rs0.length cap0], .agg #[.slice a1 rs1.length cap1]] w fun e w' => e = .returned (.bool true) ∧ Below w.heap.size w w' := by
  obtain ⟨hrd0, hlc0, hfit0, -⟩ := r0
  obtain ⟨hrd1, hlc1, hfit1, -⟩ := r1
  obtain ⟨w0, hw0⟩ : ∃ w0, w0 = (w.alloc (.cells #[.slice a0 rs0.length cap0] 44)).alloc (.cells #[.slice a1 rs1.length cap1] 44) := ⟨_, rfl⟩
  have hB0 : Below w.heap.size w w0 := by subst hw0; exact ((Below.refl _ _).alloc (Nat.le_refl _) _).alloc (by simp) _
  have hX0 : CellsAt w.heap.size [.slice a0 rs0.length cap0] w0 := by subst hw0; exact (CellsAt.new w _ _).below ((Below.refl _ _).alloc (Nat.le_refl _) _)
  have hY0 : CellsAt (w.heap.size + 1) [.slice a1 rs1.length cap1] w0 := by
    subst hw0
    have h1 := CellsAt.new (w.alloc (.cells #[.slice a0 rs0.length cap0] 44)) [.slice a1 rs1.length cap1] 44
    simpa using h1
  have HB := Lib.hid hB0
  have HX := Lib.hid hX0
  have HY := Lib.hid hY0
  have HR0 := Lib.hid hrd0
  have HR1 := Lib.hid hrd1
  have HF0 := Lib.hid hfit0
  have HF1 := Lib.hid hfit1
  clear hB0 hX0 hY0 hrd0 hrd1 hfit0 hfit1
  go_enter Try.func12, Try.ntmps12
  go_wp2_with fail
  rw [← hw0]
  clear hw0
  refine (sz_descr0 a0 rs0 cap0 _ (by omega) HF0.out (HR0.out.below HB.out)).mono ?_
  rintro e w1 ⟨rfl, hb⟩
  replace HB := Lib.hid (HB.out.trans (hb.mono HB.out.size))
  replace HX := Lib.hid (HX.out.below hb)
  replace HY := Lib.hid (HY.out.below hb)
  have bx := (HX.out 0 _ rfl).1
  have by' := (HY.out 0 _ rfl).1
  clear hb
  rw [leftN_no h]
  go_wp2
  go_ret
  exact ⟨rfl, HB.out⟩
set_option maxRecDepth 100000 in
theorem walk_large1 (a0 : Option Addr) (rs0 : List RuleV) (cap0 : Nat) (a1 : Option Addr) (rs1 : List RuleV) (cap1 : Nat) (w : World) (r0 : ArgD a0 rs0 cap0 w) (r1 : ArgD a1 rs1 cap1 w) (h0 : sizeR rs0 ≤ 1048576) (h : 1048576 < sizeR rs0 + sizeR rs1) :
    Calls Try.prog 12 #[.agg #[.slice a0 rs0.length cap0], .agg #[.slice a1 rs1.length cap1]] w fun e w' => e = .returned (.bool true) ∧ Below w.heap.size w w' := by
  obtain ⟨hrd0, hlc0, hfit0, -⟩ := r0
  obtain ⟨hrd1, hlc1, hfit1, -⟩ := r1
  obtain ⟨w0, hw0⟩ : ∃ w0, w0 = (w.alloc (.cells #[.slice a0 rs0.length cap0] 44)).alloc (.cells #[.slice a1 rs1.length cap1] 44) := ⟨_, rfl⟩
  have hB0 : Below w.heap.size w w0 := by subst hw0; exact ((Below.refl _ _).alloc (Nat.le_refl _) _).alloc (by simp) _
  have hX0 : CellsAt w.heap.size [.slice a0 rs0.length cap0] w0 := by subst hw0; exact (CellsAt.new w _ _).below ((Below.refl _ _).alloc (Nat.le_refl _) _)
  have hY0 : CellsAt (w.heap.size + 1) [.slice a1 rs1.length cap1] w0 := by
    subst hw0
    have h1 := CellsAt.new (w.alloc (.cells #[.slice a0 rs0.length cap0] 44)) [.slice a1 rs1.length cap1] 44
    simpa using h1
  have HB := Lib.hid hB0
  have HX := Lib.hid hX0
  have HY := Lib.hid hY0
  have HR0 := Lib.hid hrd0
  have HR1 := Lib.hid hrd1
  have HF0 := Lib.hid hfit0
  have HF1 := Lib.hid hfit1
  clear hB0 hX0 hY0 hrd0 hrd1 hfit0 hfit1
  go_enter Try.func12, Try.ntmps12
  go_wp2_with fail
  rw [← hw0]
  clear hw0
  refine (sz_descr0 a0 rs0 cap0 _ (by omega) HF0.out (HR0.out.below HB.out)).mono ?_
  rintro e w1 ⟨rfl, hb⟩
  replace HB := Lib.hid (HB.out.trans (hb.mono HB.out.size))
  replace HX := Lib.hid (HX.out.below hb)
  replace HY := Lib.hid (HY.out.below hb)
  have bx := (HX.out 0 _ rfl).1
  have by' := (HY.out 0 _ rfl).1
  clear hb
  rw [leftN_yes h0]
  obtain ⟨q, hq⟩ : ∃ q, q = 1048576 - sizeR rs0 := ⟨_, rfl⟩
  rw [← hq]
  have hq1 : q ≤ 1048576 := by omega
  have HQ := Lib.hid hq
  clear hq
  go_wp2_with fail
  refine (sz_descr a1 rs1 cap1 q _ hq1 (by omega) HF1.out (HR1.out.below HB.out)).mono ?_
  rintro e w2 ⟨rfl, hb⟩
  replace HB := Lib.hid (HB.out.trans (hb.mono HB.out.size))
  replace HX := Lib.hid (HX.out.below hb)
  replace HY := Lib.hid (HY.out.below hb)
  have bx := (HX.out 0 _ rfl).1
  have by' := (HY.out 0 _ rfl).1
  clear hb
  rw [leftN_no (by have := HQ.out; omega)]
  go_wp2
  go_ret
  exact ⟨rfl, HB.out⟩
set_option maxRecDepth 100000 in
set_option maxHeartbeats 4000000 in
theorem walk_short (a0 : Option Addr) (rs0 : List RuleV) (cap0 : Nat) (a1 : Option Addr) (rs1 : List RuleV) (cap1 : Nat) (w : World) (r0 : ArgD a0 rs0 cap0 w) (r1 : ArgD a1 rs1 cap1 w) (h0 : sizeR rs0 ≤ 1048576) (h : sizeR rs0 + sizeR rs1 ≤ 1048576) :
    Calls Try.prog 12 #[.agg #[.slice a0 rs0.length cap0], .agg #[.slice a1 rs1.length cap1]] w fun e w' => e = .returned (.bool true) ∧ Below w.heap.size w w' := by
  have hl0 : rs0.length ≤ 1048576 := by unfold sizeR at h0; omega
  have hl1 : rs1.length ≤ 1048576 := by unfold sizeR at h; omega
  have HS0 := Lib.hid (short_of h0)
  have HS1 := Lib.hid (short_of (rs := rs1) (by omega))
  obtain ⟨hrd0, hlc0, hfit0, -⟩ := r0
  obtain ⟨hrd1, hlc1, hfit1, -⟩ := r1
  obtain ⟨w0, hw0⟩ : ∃ w0, w0 = (w.alloc (.cells #[.slice a0 rs0.length cap0] 44)).alloc (.cells #[.slice a1 rs1.length cap1] 44) := ⟨_, rfl⟩
  have hB0 : Below w.heap.size w w0 := by subst hw0; exact ((Below.refl _ _).alloc (Nat.le_refl _) _).alloc (by simp) _
  have hX0 : CellsAt w.heap.size [.slice a0 rs0.length cap0] w0 := by subst hw0; exact (CellsAt.new w _ _).below ((Below.refl _ _).alloc (Nat.le_refl _) _)
  have hY0 : CellsAt (w.heap.size + 1) [.slice a1 rs1.length cap1] w0 := by
    subst hw0
    have h1 := CellsAt.new (w.alloc (.cells #[.slice a0 rs0.length cap0] 44)) [.slice a1 rs1.length cap1] 44
    simpa using h1
  have HB := Lib.hid hB0
  have HX := Lib.hid hX0
  have HY := Lib.hid hY0
  have HR0 := Lib.hid hrd0
  have HR1 := Lib.hid hrd1
  have HF0 := Lib.hid hfit0
  have HF1 := Lib.hid hfit1
  clear hB0 hX0 hY0 hrd0 hrd1 hfit0 hfit1
  go_enter Try.func12, Try.ntmps12
  go_wp2_with fail
  rw [← hw0]
  clear hw0
  refine (sz_descr0 a0 rs0 cap0 _ (by omega) HF0.out (HR0.out.below HB.out)).mono ?_
  rintro e w1 ⟨rfl, hb⟩
  replace HB := Lib.hid (HB.out.trans (hb.mono HB.out.size))
  replace HX := Lib.hid (HX.out.below hb)
  replace HY := Lib.hid (HY.out.below hb)
  have bx := (HX.out 0 _ rfl).1
  have by' := (HY.out 0 _ rfl).1
  clear hb
  rw [leftN_yes h0]
  obtain ⟨q, hq⟩ : ∃ q, q = 1048576 - sizeR rs0 := ⟨_, rfl⟩
  rw [← hq]
  have hq1 : q ≤ 1048576 := by omega
  have HQ := Lib.hid hq
  clear hq
  go_wp2_with fail
  refine (sz_descr a1 rs1 cap1 q _ hq1 (by omega) HF1.out (HR1.out.below HB.out)).mono ?_
  rintro e w2 ⟨rfl, hb⟩
  replace HB := Lib.hid (HB.out.trans (hb.mono HB.out.size))
  replace HX := Lib.hid (HX.out.below hb)
  replace HY := Lib.hid (HY.out.below hb)
  have bx := (HX.out 0 _ rfl).1
  have by' := (HY.out 0 _ rfl).1
  clear hb
  rw [leftN_yes (by have := HQ.out; omega)]
  obtain ⟨q2, hq2⟩ : ∃ q2, q2 = q - sizeR rs1 := ⟨_, rfl⟩
  rw [← hq2]
  have hq3 : q2 ≤ 1048576 := by omega
  clear hq2 h h0 HQ hq1
  go_upto_region 8 with fail
  go_cut [6] from 20 to 24 (fun s wx => s = .bool (sameD rs0 rs1) ∧ Hid (Below w.heap.size w wx) ∧ Hid (CellsAt w.heap.size [.slice a0 rs0.length cap0] wx) ∧ Hid (CellsAt (w.heap.size + 1) [.slice a1 rs1.length cap1] wx))
  case first =>
    replace HB : Hid (Below w.heap.size w w2.drew) := ⟨HB.out.os, HB.out.tape, HB.out.output, HB.out.size, HB.out.block⟩
    replace HX : Hid (CellsAt w.heap.size [.slice a0 rs0.length cap0] w2.drew) := HX.out
    replace HY : Hid (CellsAt (w.heap.size + 1) [.slice a1 rs1.length cap1] w2.drew) := HY.out
    go_region_with (first | (go_at_call 28; first | (refine (to_descr a0 rs0 cap0 _ hl0 HS0.out (HR0.out.below HB.out)).mono ?_; rintro e v ⟨xA, yA, rfl, ho, hb⟩; have HOA := Lib.hid ho; (try (replace HOB := Lib.hid (HOB.out.below hb))); replace HB := Lib.hid (HB.out.trans (hb.mono HB.out.size)); replace HX := Lib.hid (HX.out.below hb); replace HY := Lib.hid (HY.out.below hb); have bx := (HX.out 0 _ rfl).1; have by' := (HY.out 0 _ rfl).1; clear hb ho) | (refine (to_descr a1 rs1 cap1 _ hl1 HS1.out (HR1.out.below HB.out)).mono ?_; rintro e v ⟨xB, yB, rfl, ho, hb⟩; have HOB := Lib.hid ho; (try (replace HOA := Lib.hid (HOA.out.below hb))); replace HB := Lib.hid (HB.out.trans (hb.mono HB.out.size)); replace HX := Lib.hid (HX.out.below hb); replace HY := Lib.hid (HY.out.below hb); have bx := (HX.out 0 _ rfl).1; have by' := (HY.out 0 _ rfl).1; clear hb ho)) | (go_at_call 38; refine (eqd_spec xA xB rs0 rs1 yA yB _ hl0 hl1 HS0.out HS1.out HOA.out.rd HOB.out.rd).mono ?_; rintro e v ⟨rfl, hb⟩; replace HB := Lib.hid (HB.out.trans (hb.mono HB.out.size)); replace HX := Lib.hid (HX.out.below hb); replace HY := Lib.hid (HY.out.below hb); have bx := (HX.out 0 _ rfl).1; have by' := (HY.out 0 _ rfl).1; clear hb))
    all_goals (go_wp2_with fail; go_meet; exact ⟨rfl, HB, HX, HY⟩)
  case rest =>
    clear HB HX HY bx by'
    obtain ⟨rfl, HB, HX, HY⟩ := hcut
    have bx := (HX.out 0 _ rfl).1
    have by' := (HY.out 0 _ rfl).1
    go_wp2_with fail
    refine (to_descr a0 rs0 cap0 _ hl0 HS0.out (HR0.out.below HB.out)).mono ?_
    rintro e v0 ⟨x0, y0, rfl, ho0, hb⟩
    have HO0 := Lib.hid ho0
    clear ho0
    replace HB := Lib.hid (HB.out.trans (hb.mono HB.out.size))
    replace HX := Lib.hid (HX.out.below hb)
    replace HY := Lib.hid (HY.out.below hb)
    have bx := (HX.out 0 _ rfl).1
    have by' := (HY.out 0 _ rfl).1
    clear hb
    obtain ⟨z0, hz0⟩ : ∃ z, z = v0.alloc (.cells #[.slice x0 rs0.length y0] 29) := ⟨_, rfl⟩
    have hb : Below v0.heap.size v0 z0 := by subst hz0; exact (Below.refl _ _).alloc (Nat.le_refl _) _
    have hv : CellsAt v0.heap.size [.slice x0 rs0.length y0] z0 := by subst hz0; exact CellsAt.new v0 _ _
    have HV0 := Lib.hid hv
    have bv0 := (HV0.out 0 _ rfl).1
    replace HB := Lib.hid (HB.out.trans (hb.mono HB.out.size))
    replace HX := Lib.hid (HX.out.below hb)
    replace HY := Lib.hid (HY.out.below hb)
    have bx := (HX.out 0 _ rfl).1
    have by' := (HY.out 0 _ rfl).1
    replace HO0 := Lib.hid (HO0.out.below hb)
    clear hb hv
    have bz := by'
    rw [hz0] at bz
    have HZ := Lib.hid hz0
    clear hz0
    go_wp2_with fail
    rw [← HZ.out]
    clear HZ bz
    refine (to_descr a1 rs1 cap1 _ hl1 HS1.out (HR1.out.below HB.out)).mono ?_
    rintro e v1 ⟨x1, y1, rfl, ho1, hb⟩
    have HO1 := Lib.hid ho1
    clear ho1
    replace HB := Lib.hid (HB.out.trans (hb.mono HB.out.size))
    replace HX := Lib.hid (HX.out.below hb)
    replace HY := Lib.hid (HY.out.below hb)
    have bx := (HX.out 0 _ rfl).1
    have by' := (HY.out 0 _ rfl).1
    replace HO0 := Lib.hid (HO0.out.below hb)
    replace HV0 := Lib.hid (HV0.out.below hb)
    have bv0 := (HV0.out 0 _ rfl).1
    clear hb
    obtain ⟨z1, hz1⟩ : ∃ z, z = v1.alloc (.cells #[.slice x1 rs1.length y1] 29) := ⟨_, rfl⟩
    have hb : Below v1.heap.size v1 z1 := by subst hz1; exact (Below.refl _ _).alloc (Nat.le_refl _) _
    have hv : CellsAt v1.heap.size [.slice x1 rs1.length y1] z1 := by subst hz1; exact CellsAt.new v1 _ _
    have HV1 := Lib.hid hv
    have bv1 := (HV1.out 0 _ rfl).1
    replace HB := Lib.hid (HB.out.trans (hb.mono HB.out.size))
    replace HX := Lib.hid (HX.out.below hb)
    replace HY := Lib.hid (HY.out.below hb)
    have bx := (HX.out 0 _ rfl).1
    have by' := (HY.out 0 _ rfl).1
    replace HO0 := Lib.hid (HO0.out.below hb)
    replace HV0 := Lib.hid (HV0.out.below hb)
    have bv0 := (HV0.out 0 _ rfl).1
    replace HO1 := Lib.hid (HO1.out.below hb)
    clear hb hv
    have bz := bv0
    rw [hz1] at bz
    have HZ := Lib.hid hz1
    clear hz1
    go_wp2_with fail
    rw [← HZ.out]
    clear HZ bz
    refine (eqd_impl x0 x1 rs0 rs1 y0 y1 _ hl0 hl1 HS0.out HS1.out HO0.out.rd HO1.out.rd).mono ?_
    rintro e v2 ⟨rfl, hb⟩
    replace HB := Lib.hid (HB.out.trans (hb.mono HB.out.size))
    replace HX := Lib.hid (HX.out.below hb)
    replace HY := Lib.hid (HY.out.below hb)
    have bx := (HX.out 0 _ rfl).1
    have by' := (HY.out 0 _ rfl).1
    replace HO0 := Lib.hid (HO0.out.below hb)
    replace HV0 := Lib.hid (HV0.out.below hb)
    have bv0 := (HV0.out 0 _ rfl).1
    replace HO1 := Lib.hid (HO1.out.below hb)
    replace HV1 := Lib.hid (HV1.out.below hb)
    have bv1 := (HV1.out 0 _ rfl).1
    clear hb
    generalize (sameD rs0 rs1) = res
    go_upto_region 14 with fail
    go_cut [39] from 35 to 39 (fun s wx => s = .bool false ∧ Hid (Below w.heap.size w wx) ∧ Hid (CellsAt w.heap.size [.slice a0 rs0.length cap0] wx) ∧ Hid (CellsAt (w.heap.size + 1) [.slice a1 rs1.length cap1] wx) ∧ Hid (CellsAt v0.heap.size [.slice x0 rs0.length y0] wx) ∧ Hid (CellsAt v1.heap.size [.slice x1 rs1.length y1] wx) ∧ Hid (OwnR _ _ x0 rs0 y0 wx) ∧ Hid (OwnR _ _ x1 rs1 y1 wx))
    case first =>
      replace HB : Hid (Below w.heap.size w v2.drew) := ⟨HB.out.os, HB.out.tape, HB.out.output, HB.out.size, HB.out.block⟩
      replace HX : Hid (CellsAt w.heap.size [.slice a0 rs0.length cap0] v2.drew) := HX.out
      replace HY : Hid (CellsAt (w.heap.size + 1) [.slice a1 rs1.length cap1] v2.drew) := HY.out
      replace HV0 : Hid (CellsAt v0.heap.size [.slice x0 rs0.length y0] v2.drew) := HV0.out
      replace HO0 : Hid (OwnR _ _ x0 rs0 y0 v2.drew) := HO0.out
      replace HV1 : Hid (CellsAt v1.heap.size [.slice x1 rs1.length y1] v2.drew) := HV1.out
      replace HO1 : Hid (OwnR _ _ x1 rs1 y1 v2.drew) := HO1.out
      go_region_with (first | (go_at_call 28; refine (to_descr a0 rs0 cap0 _ hl0 HS0.out (HR0.out.below HB.out)).mono ?_; rintro e v8 ⟨x8, y8, rfl, ho8, hb⟩; have H8 := Lib.hid ho8; replace HB := Lib.hid (HB.out.trans (hb.mono HB.out.size)); replace HX := Lib.hid (HX.out.below hb); replace HY := Lib.hid (HY.out.below hb); have bx := (HX.out 0 _ rfl).1; have by' := (HY.out 0 _ rfl).1; replace HO0 := Lib.hid (HO0.out.below hb); replace HV0 := Lib.hid (HV0.out.below hb); have bv0 := (HV0.out 0 _ rfl).1; replace HO1 := Lib.hid (HO1.out.below hb); replace HV1 := Lib.hid (HV1.out.below hb); have bv1 := (HV1.out 0 _ rfl).1; clear ho8 hb) | (go_at_call 29; refine (eq_descr x0 x8 rs0 y0 y8 _ hl0 HS0.out HO0.out.rd H8.out.rd).mono ?_; rintro e v9 ⟨rfl, hb⟩; replace HB := Lib.hid (HB.out.trans (hb.mono HB.out.size)); replace HX := Lib.hid (HX.out.below hb); replace HY := Lib.hid (HY.out.below hb); have bx := (HX.out 0 _ rfl).1; have by' := (HY.out 0 _ rfl).1; replace HO0 := Lib.hid (HO0.out.below hb); replace HV0 := Lib.hid (HV0.out.below hb); have bv0 := (HV0.out 0 _ rfl).1; replace HO1 := Lib.hid (HO1.out.below hb); replace HV1 := Lib.hid (HV1.out.below hb); have bv1 := (HV1.out 0 _ rfl).1; clear hb))
      all_goals (go_wp2_with fail; go_meet; exact ⟨rfl, HB, HX, HY, HV0, HV1, HO0, HO1⟩)
    case rest =>
      clear HB HX HY HV0 HV1 HO0 HO1 bx by' bv0 bv1
      obtain ⟨rfl, HB, HX, HY, HV0, HV1, HO0, HO1⟩ := hcut
      have bx := (HX.out 0 _ rfl).1
      have by' := (HY.out 0 _ rfl).1
      have bv0 := (HV0.out 0 _ rfl).1
      have bv1 := (HV1.out 0 _ rfl).1
      go_upto_region 16 with fail
      replace HB : Hid (Below w.heap.size w wc.drew) := ⟨HB.out.os, HB.out.tape, HB.out.output, HB.out.size, HB.out.block⟩
      replace HX : Hid (CellsAt w.heap.size [.slice a0 rs0.length cap0] wc.drew) := HX.out
      replace HY : Hid (CellsAt (w.heap.size + 1) [.slice a1 rs1.length cap1] wc.drew) := HY.out
      replace HV0 : Hid (CellsAt v0.heap.size [.slice x0 rs0.length y0] wc.drew) := HV0.out
      replace HO0 : Hid (OwnR _ _ x0 rs0 y0 wc.drew) := HO0.out
      replace HV1 : Hid (CellsAt v1.heap.size [.slice x1 rs1.length y1] wc.drew) := HV1.out
      replace HO1 : Hid (OwnR _ _ x1 rs1 y1 wc.drew) := HO1.out
      go_region_with (first | (go_at_call 28; refine (to_descr a1 rs1 cap1 _ hl1 HS1.out (HR1.out.below HB.out)).mono ?_; rintro e v8 ⟨x8, y8, rfl, ho8, hb⟩; have H8 := Lib.hid ho8; replace HB := Lib.hid (HB.out.trans (hb.mono HB.out.size)); replace HX := Lib.hid (HX.out.below hb); replace HY := Lib.hid (HY.out.below hb); have bx := (HX.out 0 _ rfl).1; have by' := (HY.out 0 _ rfl).1; replace HO0 := Lib.hid (HO0.out.below hb); replace HV0 := Lib.hid (HV0.out.below hb); have bv0 := (HV0.out 0 _ rfl).1; replace HO1 := Lib.hid (HO1.out.below hb); replace HV1 := Lib.hid (HV1.out.below hb); have bv1 := (HV1.out 0 _ rfl).1; clear ho8 hb) | (go_at_call 29; refine (eq_descr x1 x8 rs1 y1 y8 _ hl1 HS1.out HO1.out.rd H8.out.rd).mono ?_; rintro e v9 ⟨rfl, hb⟩; replace HB := Lib.hid (HB.out.trans (hb.mono HB.out.size)); replace HX := Lib.hid (HX.out.below hb); replace HY := Lib.hid (HY.out.below hb); have bx := (HX.out 0 _ rfl).1; have by' := (HY.out 0 _ rfl).1; replace HO0 := Lib.hid (HO0.out.below hb); replace HV0 := Lib.hid (HV0.out.below hb); have bv0 := (HV0.out 0 _ rfl).1; replace HO1 := Lib.hid (HO1.out.below hb); replace HV1 := Lib.hid (HV1.out.below hb); have bv1 := (HV1.out 0 _ rfl).1; clear hb))
      all_goals (go_wp2; go_ret; exact ⟨rfl, HB.out⟩)
theorem walk (a0 : Option Addr) (rs0 : List RuleV) (cap0 : Nat) (a1 : Option Addr) (rs1 : List RuleV) (cap1 : Nat) (w : World) (r0 : ArgD a0 rs0 cap0 w) (r1 : ArgD a1 rs1 cap1 w) :
    Calls Try.prog 12 #[.agg #[.slice a0 rs0.length cap0], .agg #[.slice a1 rs1.length cap1]] w fun e w' => e = .returned (.bool true) ∧ Below w.heap.size w w' := by
  by_cases h0 : 1048576 < sizeR rs0
  · exact walk_large0 a0 rs0 cap0 a1 rs1 cap1 w r0 r1 h0
  by_cases h : 1048576 < sizeR rs0 + sizeR rs1
  · exact walk_large1 a0 rs0 cap0 a1 rs1 cap1 w r0 r1 (by omega) h
  exact walk_short a0 rs0 cap0 a1 rs1 cap1 w r0 r1 (by omega) (by omega)
set_option maxRecDepth 100000 in
theorem lifted (os : Os) (started : os.Started) (H : Type) (enc : TypeId × Value → H) :
    ReturnsInHanded {} Try.checked os 12 .any (Rows.fnExactEqualDescriptionsSpec.pre6 enc Try.prog Try.f12 Rows.fnExactEqualDescriptionsRow.domain false) (Rows.fnExactEqualDescriptionsSpec.post enc Try.prog Try.f12 false true false false) := by
  refine returnsInHanded_of_change (C := Try.checked) own started (by kernel_rfl) Try.func12
    (ChangeSpec.witness6 (enc := enc) (C := Try.checked) false ⟨#[], #[.agg #[.slice none 0 0], .agg #[.slice none 0 0]], []⟩ 8 (by kernel_rfl) (by kernel_rfl) (by kernel_rfl) (by kernel_rfl)) ?_
  intro W base args ds gs before hval0 hW hcnd _
  have hval : ∀ (j : Nat) t v, Try.f12.params[j]? = some t → args[j]? = some v → Value.okWide Try.prog W .any base t v := hval0
  have hW' := hW
  obtain ⟨p, q, hA0, hV, rfl, hfz, hnd⟩ := hW
  have hA : DataW.TrodAll enc Try.prog W 0 (fun _ => true) true Try.f12.params.toList args.toList ds p := hA0
  rw [Try.params12] at hA hval
  obtain ⟨v0, vs0, d0, ds0, p0, q0, hargs, rfl, rfl, h0, r0⟩ := trodAll_cons hA
  obtain ⟨v1, vs1, d1, ds1, p1, q1, rfl, rfl, rfl, h1, r1⟩ := trodAll_cons r0
  obtain ⟨rfl, rfl, rfl⟩ := trodAll_nil r1
  obtain rfl : args = #[v0, v1] := by cases args; simp_all
  obtain ⟨rfl, rfl⟩ := trodVars_none hV
  simp only [List.append_nil] at hW'
  have hlt : ∀ x ∈ p0 ++ p1, x.block < W.heap.size := fun x hx => hW'.lt x (by simpa using hx)
  obtain ⟨a0, rs0, cap0, rfl, hb0⟩ := descr_arg (hval 0 44 v0 rfl rfl) h0
  have m0 : ∀ (W' : World), Below W.heap.size W W' → DataW.Trod enc Try.prog W' 0 (fun b => decide (b < W.heap.size)) true 44 (.agg #[.slice a0 rs0.length cap0]) d0 p0 := fun W' hn => Below.trod laidOut (by kernel_rfl) (of_decide_eq_true (by kernel_rfl)) h0 hn (fun x hx => hlt x (by simp [hx]))
  obtain ⟨a1, rs1, cap1, rfl, hb1⟩ := descr_arg (hval 1 44 v1 rfl rfl) h1
  have m1 : ∀ (W' : World), Below W.heap.size W W' → DataW.Trod enc Try.prog W' 0 (fun b => decide (b < W.heap.size)) true 44 (.agg #[.slice a1 rs1.length cap1]) d1 p1 := fun W' hn => Below.trod laidOut (by kernel_rfl) (of_decide_eq_true (by kernel_rfl)) h1 hn (fun x hx => hlt x (by simp [hx]))
  clear hA0 hval0
  refine (walk a0 rs0 cap0 a1 rs1 cap1 W hb0 hb1).mono fun e W' ⟨he, hb⟩ => ?_
  subst he
  exact ⟨_, rfl, _, _, _, [], _, [], hW', trodAll_cons_mk (shut_bool Try.underlying4 _) trodAll_mk0, (trodAll_cons_mk (m0 _ hb) (trodAll_cons_mk (m1 _ hb) trodAll_mk0)), rfl, hb.frame _, fun h => by cases h⟩
theorem over : Rows.fnExactEqualDescriptionsRow.holds Try.pinned (OpenSpec.ofChange Rows.fnExactEqualDescriptionsSpec) :=
  OpenClaim.holds_of_wide 12 Try.f12 rfl rfl rfl rfl rfl rfl rfl ⟨rfl, rfl, rfl, rfl, rfl⟩ rfl rfl rfl rfl rfl (by kernel_rfl) Try.func12 (by kernel_rfl)
    (of_decide_eq_true (by kernel_rfl)) (by unfold Func.isWrapper; first | (rw [if_pos (by decide +kernel)]; kernel_rfl) | (rw [if_neg (by decide +kernel)]; exact ⟨rfl, rfl⟩))
    (fun os started H enc _ => lifted os started H enc)
/-- THE STATEMENT -/
theorem proved : Rows.FnExactEqualDescriptionsSaid := over
end fnExactEqualDescriptions
#print axioms fnExactEqualDescriptions.proved
end Go.Proofs.Ytdhfcopfoknokaa
