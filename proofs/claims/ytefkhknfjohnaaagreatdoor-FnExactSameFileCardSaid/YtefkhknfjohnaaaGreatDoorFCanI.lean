/- The contracts of CanonicalFile, IsCanonical, CountRedundant and SameFile, of the model and of the program. -/
import Derived.Test.YtefkhknfjohnaaaGreatDoorFCanP
import Derived.Test.YtefkhknfjohnaaaGreatDoorFPP
import Derived.Test.YtefkhknfjohnaaaGreatDoorFPA
import Derived.Test.YtefkhknfjohnaaaGreatDoorFGSF
import Derived.Test.YtefkhknfjohnaaaGreatDoorFGIF
import Derived.Test.YtefkhknfjohnaaaGreatDoorFGKG
import Derived.Test.YtefkhknfjohnaaaGreatDoorFSEqV
import Derived.Test.YtefkhknfjohnaaaGreatDoorFIEqV
import Derived.Deep.RegionHeld3
import Derived.Deep.CutRange
namespace Go.Proofs.YtefkhknfjohnaaaGreatDoor
open Go Go.RowKit
set_option maxRecDepth 100000 in
set_option maxHeartbeats 8000000 in
theorem ssame_spec (a ab ac : Option Addr) (rs : List RuleV) (cap cb cc : Nat) (L L2 : List UInt8) (w : World) (hl : rs.length ≤ 1048576) (hs : ∀ r ∈ rs, Short r) (hsp : ∀ r ∈ rs, Spelt r) (hrd : RdC a rs w) (hsrc : SrcB ab L cb w) (hsrc2 : SrcB ac L2 cc w) (hLb : L.length ≤ 1099511627776) (hLb2 : L2.length ≤ 1099511627776) :
    Calls Tryz.prog 28 #[.agg #[.slice a rs.length cap], .slice ab L.length cb, .slice ac L2.length cc] w fun e w' => e = .returned (.bool (sameG rs L L2)) ∧ Below w.heap.size w w' := by
  obtain ⟨w0, hw0⟩ : ∃ w0, w0 = w.alloc (.cells #[.slice a rs.length cap] 26) := ⟨_, rfl⟩
  have hB : Below w.heap.size w w0 := by subst hw0; exact (Below.refl _ _).alloc (Nat.le_refl _) _
  have hD : CellsAt w.heap.size [.slice a rs.length cap] w0 := by subst hw0; exact CellsAt.new w _ _
  have HB := Lib.hid hB
  have HD := Lib.hid hD
  have HW := Lib.hid hw0
  have HRD := Lib.hid hrd
  have x0 := (hD 0 _ rfl).1
  have HRF := Lib.hid (sreadfile_spec a ab rs cap cb L w0 hl hs hsp (hrd.below hB) (hsrc.below hB) hLb)
  have HR2 : Hid (∀ W, Below w.heap.size w W → Calls Tryz.prog 43 #[.agg #[.slice a rs.length cap], .slice ac L2.length cc] W (SGot rs.length (fileG rs L2) W)) := fun W hW => sreadfile_spec a ac rs cap cc L2 W hl hs hsp (hrd.below hW) (hsrc2.below hW) hLb2
  have hc1 := fun q c => fileG_code (rs := rs) (L := L) (q := q) (c := c)
  have hz1 := fileG_siz rs L
  have hc2 := fun q c => fileG_code (rs := rs) (L := L2) (q := q) (c := c)
  have hz2 := fileG_siz rs L2
  unfold sameG
  generalize fileG rs L = g1 at HRF hc1 hz1 ⊢
  generalize fileG rs L2 = g2 at HR2 hc2 hz2 ⊢
  clear hrd hsrc hsrc2 hs hsp hB hD hw0
  cases g1 with
  | bad p1 e1 =>
    cases g2 with
    | bad p2 e2 =>
      have k1 : ((e1 : Int) == 0) = false := by have := hc1 p1 e1 rfl; rw [beq_eq_false_iff_ne]; omega
      have k2 : ((e2 : Int) == 0) = false := by have := hc2 p2 e2 rfl; rw [beq_eq_false_iff_ne]; omega
      have HZ1 := Lib.hid hz1
      have HZ2 := Lib.hid hz2
      obtain ⟨rr, hrr⟩ : ∃ rr, rr = eqG (.bad p1 e1) (.bad p2 e2) := ⟨_, rfl⟩
      rw [← hrr]
      have HRR := Lib.hid hrr
      clear hrr
      clear hc1 hc2 hz1 hz2
      go_enter Tryz.func28, Tryz.ntmps28
      go_upto_region 1 with fail
      rw [← HW.out]
      clear HW
      go_wp2_with fail
      refine HRF.out.mono ?_
      rintro e w2 ⟨rfl, hb⟩
      replace HB := Lib.hid (HB.out.trans (hb.mono HB.out.size))
      replace HD := Lib.hid (HD.out.below hb)
      clear hb
      obtain ⟨z1, hz⟩ : ∃ z, z = w2.alloc (.cells #[.int .i64 0, .slice none 0 0, .slice none 0 0] 48) := ⟨_, rfl⟩
      have hb : Below w2.heap.size w2 z1 := by subst hz; exact (Below.refl _ _).alloc (Nat.le_refl _) _
      have HX1 : Hid (CellsAt w2.heap.size [.int .i64 0, .slice none 0 0, .slice none 0 0] z1) := by subst hz; exact CellsAt.new w2 _ _
      have HZ := Lib.hid hz
      replace HD := Lib.hid (HD.out.below hb)
      replace HB := Lib.hid (HB.out.trans (hb.mono HB.out.size))
      clear hb hz
      go_upto_region 2 with fail
      rw [← HZ.out]
      clear HZ
      have x0 := (HD.out 0 _ rfl).1
      go_wp2_with fail
      refine (HR2.out _ HB.out).mono ?_
      rintro e w4 ⟨rfl, hb⟩
      replace HB := Lib.hid (HB.out.trans (hb.mono HB.out.size))
      replace HD := Lib.hid (HD.out.below hb)
      replace HX1 := Lib.hid (HX1.out.below hb)
      clear hb x0
      obtain ⟨z2, hz⟩ : ∃ z, z = w4.alloc (.cells #[.int .i64 0, .slice none 0 0, .slice none 0 0] 48) := ⟨_, rfl⟩
      have hb : Below w4.heap.size w4 z2 := by subst hz; exact (Below.refl _ _).alloc (Nat.le_refl _) _
      have HX2 : Hid (CellsAt w4.heap.size [.int .i64 0, .slice none 0 0, .slice none 0 0] z2) := by subst hz; exact CellsAt.new w4 _ _
      have HZ := Lib.hid hz
      replace HD := Lib.hid (HD.out.below hb)
      replace HX1 := Lib.hid (HX1.out.below hb)
      replace HB := Lib.hid (HB.out.trans (hb.mono HB.out.size))
      clear hb hz
      go_upto_region 3 with fail
      rw [← HZ.out]
      clear HZ
      go_wp2
      go_ret
      exact ⟨by rw [HRR.out]; rfl, HB.out⟩
    | ok v2 p2 =>
      have k1 : ((e1 : Int) == 0) = false := by have := hc1 p1 e1 rfl; rw [beq_eq_false_iff_ne]; omega
      replace hz2 : sizV v2 ≤ 1048576 := hz2
      have HZ1 := Lib.hid hz1
      have HZ2 := Lib.hid hz2
      obtain ⟨rr, hrr⟩ : ∃ rr, rr = eqG (.bad p1 e1) (.ok v2 p2) := ⟨_, rfl⟩
      rw [← hrr]
      have HRR := Lib.hid hrr
      clear hrr
      clear hc1 hc2 hz1 hz2
      go_enter Tryz.func28, Tryz.ntmps28
      go_upto_region 1 with fail
      rw [← HW.out]
      clear HW
      go_wp2_with fail
      refine HRF.out.mono ?_
      rintro e w2 ⟨rfl, hb⟩
      replace HB := Lib.hid (HB.out.trans (hb.mono HB.out.size))
      replace HD := Lib.hid (HD.out.below hb)
      clear hb
      obtain ⟨z1, hz⟩ : ∃ z, z = w2.alloc (.cells #[.int .i64 0, .slice none 0 0, .slice none 0 0] 48) := ⟨_, rfl⟩
      have hb : Below w2.heap.size w2 z1 := by subst hz; exact (Below.refl _ _).alloc (Nat.le_refl _) _
      have HX1 : Hid (CellsAt w2.heap.size [.int .i64 0, .slice none 0 0, .slice none 0 0] z1) := by subst hz; exact CellsAt.new w2 _ _
      have HZ := Lib.hid hz
      replace HD := Lib.hid (HD.out.below hb)
      replace HB := Lib.hid (HB.out.trans (hb.mono HB.out.size))
      clear hb hz
      go_upto_region 2 with fail
      rw [← HZ.out]
      clear HZ
      have x0 := (HD.out 0 _ rfl).1
      go_wp2_with fail
      refine (HR2.out _ HB.out).mono ?_
      rintro e w4 ⟨⟨cs2, rfl, hown⟩, hb⟩
      obtain ⟨a2, c2, i2, d2, rfl⟩ := hown.cells
      have HV2 := Lib.hid hown.is
      clear hown
      replace HB := Lib.hid (HB.out.trans (hb.mono HB.out.size))
      replace HD := Lib.hid (HD.out.below hb)
      replace HX1 := Lib.hid (HX1.out.below hb)
      clear hb x0
      obtain ⟨z2, hz⟩ : ∃ z, z = w4.alloc (.cells #[.int .i64 v2.number, .slice a2 v2.bytes.length c2, .slice i2 v2.items.length d2] 48) := ⟨_, rfl⟩
      have hb : Below w4.heap.size w4 z2 := by subst hz; exact (Below.refl _ _).alloc (Nat.le_refl _) _
      have HX2 : Hid (CellsAt w4.heap.size [.int .i64 v2.number, .slice a2 v2.bytes.length c2, .slice i2 v2.items.length d2] z2) := by subst hz; exact CellsAt.new w4 _ _
      have HZ := Lib.hid hz
      replace HD := Lib.hid (HD.out.below hb)
      replace HX1 := Lib.hid (HX1.out.below hb)
      replace HV2 := Lib.hid (HV2.out.below hb)
      replace HB := Lib.hid (HB.out.trans (hb.mono HB.out.size))
      clear hb hz
      go_upto_region 3 with fail
      rw [← HZ.out]
      clear HZ
      go_wp2
      go_ret
      exact ⟨by rw [HRR.out]; rfl, HB.out⟩
  | ok v1 p1 =>
    cases g2 with
    | bad p2 e2 =>
      have k2 : ((e2 : Int) == 0) = false := by have := hc2 p2 e2 rfl; rw [beq_eq_false_iff_ne]; omega
      replace hz1 : sizV v1 ≤ 1048576 := hz1
      have HZ1 := Lib.hid hz1
      have HZ2 := Lib.hid hz2
      obtain ⟨rr, hrr⟩ : ∃ rr, rr = eqG (.ok v1 p1) (.bad p2 e2) := ⟨_, rfl⟩
      rw [← hrr]
      have HRR := Lib.hid hrr
      clear hrr
      clear hc1 hc2 hz1 hz2
      go_enter Tryz.func28, Tryz.ntmps28
      go_upto_region 1 with fail
      rw [← HW.out]
      clear HW
      go_wp2_with fail
      refine HRF.out.mono ?_
      rintro e w2 ⟨⟨cs1, rfl, hown⟩, hb⟩
      obtain ⟨a1, c1, i1, d1, rfl⟩ := hown.cells
      have HV1 := Lib.hid hown.is
      clear hown
      replace HB := Lib.hid (HB.out.trans (hb.mono HB.out.size))
      replace HD := Lib.hid (HD.out.below hb)
      clear hb
      obtain ⟨z1, hz⟩ : ∃ z, z = w2.alloc (.cells #[.int .i64 v1.number, .slice a1 v1.bytes.length c1, .slice i1 v1.items.length d1] 48) := ⟨_, rfl⟩
      have hb : Below w2.heap.size w2 z1 := by subst hz; exact (Below.refl _ _).alloc (Nat.le_refl _) _
      have HX1 : Hid (CellsAt w2.heap.size [.int .i64 v1.number, .slice a1 v1.bytes.length c1, .slice i1 v1.items.length d1] z1) := by subst hz; exact CellsAt.new w2 _ _
      have HZ := Lib.hid hz
      replace HD := Lib.hid (HD.out.below hb)
      replace HV1 := Lib.hid (HV1.out.below hb)
      replace HB := Lib.hid (HB.out.trans (hb.mono HB.out.size))
      clear hb hz
      go_upto_region 2 with fail
      rw [← HZ.out]
      clear HZ
      have x0 := (HD.out 0 _ rfl).1
      go_wp2_with fail
      refine (HR2.out _ HB.out).mono ?_
      rintro e w4 ⟨rfl, hb⟩
      replace HB := Lib.hid (HB.out.trans (hb.mono HB.out.size))
      replace HD := Lib.hid (HD.out.below hb)
      replace HX1 := Lib.hid (HX1.out.below hb)
      replace HV1 := Lib.hid (HV1.out.below hb)
      clear hb x0
      obtain ⟨z2, hz⟩ : ∃ z, z = w4.alloc (.cells #[.int .i64 0, .slice none 0 0, .slice none 0 0] 48) := ⟨_, rfl⟩
      have hb : Below w4.heap.size w4 z2 := by subst hz; exact (Below.refl _ _).alloc (Nat.le_refl _) _
      have HX2 : Hid (CellsAt w4.heap.size [.int .i64 0, .slice none 0 0, .slice none 0 0] z2) := by subst hz; exact CellsAt.new w4 _ _
      have HZ := Lib.hid hz
      replace HD := Lib.hid (HD.out.below hb)
      replace HX1 := Lib.hid (HX1.out.below hb)
      replace HV1 := Lib.hid (HV1.out.below hb)
      replace HB := Lib.hid (HB.out.trans (hb.mono HB.out.size))
      clear hb hz
      go_upto_region 3 with fail
      rw [← HZ.out]
      clear HZ
      go_wp2
      go_ret
      exact ⟨by rw [HRR.out]; rfl, HB.out⟩
    | ok v2 p2 =>
      replace hz1 : sizV v1 ≤ 1048576 := hz1
      replace hz2 : sizV v2 ≤ 1048576 := hz2
      have HZ1 := Lib.hid hz1
      have HZ2 := Lib.hid hz2
      obtain ⟨rr, hrr⟩ : ∃ rr, rr = eqG (.ok v1 p1) (.ok v2 p2) := ⟨_, rfl⟩
      rw [← hrr]
      have HRR := Lib.hid hrr
      clear hrr
      clear hc1 hc2 hz1 hz2
      go_enter Tryz.func28, Tryz.ntmps28
      go_upto_region 1 with fail
      rw [← HW.out]
      clear HW
      go_wp2_with fail
      refine HRF.out.mono ?_
      rintro e w2 ⟨⟨cs1, rfl, hown⟩, hb⟩
      obtain ⟨a1, c1, i1, d1, rfl⟩ := hown.cells
      have HV1 := Lib.hid hown.is
      clear hown
      replace HB := Lib.hid (HB.out.trans (hb.mono HB.out.size))
      replace HD := Lib.hid (HD.out.below hb)
      clear hb
      obtain ⟨z1, hz⟩ : ∃ z, z = w2.alloc (.cells #[.int .i64 v1.number, .slice a1 v1.bytes.length c1, .slice i1 v1.items.length d1] 48) := ⟨_, rfl⟩
      have hb : Below w2.heap.size w2 z1 := by subst hz; exact (Below.refl _ _).alloc (Nat.le_refl _) _
      have HX1 : Hid (CellsAt w2.heap.size [.int .i64 v1.number, .slice a1 v1.bytes.length c1, .slice i1 v1.items.length d1] z1) := by subst hz; exact CellsAt.new w2 _ _
      have HZ := Lib.hid hz
      replace HD := Lib.hid (HD.out.below hb)
      replace HV1 := Lib.hid (HV1.out.below hb)
      replace HB := Lib.hid (HB.out.trans (hb.mono HB.out.size))
      clear hb hz
      go_upto_region 2 with fail
      rw [← HZ.out]
      clear HZ
      have x0 := (HD.out 0 _ rfl).1
      go_wp2_with fail
      refine (HR2.out _ HB.out).mono ?_
      rintro e w4 ⟨⟨cs2, rfl, hown⟩, hb⟩
      obtain ⟨a2, c2, i2, d2, rfl⟩ := hown.cells
      have HV2 := Lib.hid hown.is
      clear hown
      replace HB := Lib.hid (HB.out.trans (hb.mono HB.out.size))
      replace HD := Lib.hid (HD.out.below hb)
      replace HX1 := Lib.hid (HX1.out.below hb)
      replace HV1 := Lib.hid (HV1.out.below hb)
      clear hb x0
      obtain ⟨z2, hz⟩ : ∃ z, z = w4.alloc (.cells #[.int .i64 v2.number, .slice a2 v2.bytes.length c2, .slice i2 v2.items.length d2] 48) := ⟨_, rfl⟩
      have hb : Below w4.heap.size w4 z2 := by subst hz; exact (Below.refl _ _).alloc (Nat.le_refl _) _
      have HX2 : Hid (CellsAt w4.heap.size [.int .i64 v2.number, .slice a2 v2.bytes.length c2, .slice i2 v2.items.length d2] z2) := by subst hz; exact CellsAt.new w4 _ _
      have HZ := Lib.hid hz
      replace HD := Lib.hid (HD.out.below hb)
      replace HX1 := Lib.hid (HX1.out.below hb)
      replace HV1 := Lib.hid (HV1.out.below hb)
      replace HV2 := Lib.hid (HV2.out.below hb)
      replace HB := Lib.hid (HB.out.trans (hb.mono HB.out.size))
      clear hb hz
      go_upto_region 3 with fail
      rw [← HZ.out]
      clear HZ
      have s0 := (HX1.out 0 _ rfl).1
      have t0 := (HX2.out 0 _ rfl).1
      have s1 := (HX1.out 1 _ rfl).1
      have t1 := (HX2.out 1 _ rfl).1
      have s2 := (HX1.out 2 _ rfl).1
      have t2 := (HX2.out 2 _ rfl).1
      go_wp2_with fail
      refine (seq_value _ _ v1 v2 _ _ _ HV1.out HV2.out HZ1.out HZ2.out).mono ?_
      rintro e w5 ⟨⟨r, rfl, hr⟩, hb⟩
      replace HB := Lib.hid (HB.out.trans (hb.mono HB.out.size))
      obtain rfl : r = rr := by rw [HRR.out]; exact (eqG_ok hr).symm
      clear hb hr
      go_wp2
      go_ret
      exact ⟨rfl, HB.out⟩
set_option maxRecDepth 100000 in
set_option maxHeartbeats 8000000 in
theorem isame_impl (a ab ac : Option Addr) (rs : List RuleV) (cap cb cc : Nat) (L L2 : List UInt8) (w : World) (hl : rs.length ≤ 1048576) (hs : ∀ r ∈ rs, Short r) (hsp : ∀ r ∈ rs, Spelt r) (hrd : RdC a rs w) (hsrc : SrcB ab L cb w) (hsrc2 : SrcB ac L2 cc w) (hLb : L.length ≤ 1099511627776) (hLb2 : L2.length ≤ 1099511627776) (hg : HandleAt w) :
    Calls Tryz.prog 17 #[.agg #[.slice a rs.length cap], .slice ab L.length cb, .slice ac L2.length cc] w fun e w' => e = .returned (.bool (sameG rs L L2)) ∧ Below w.heap.size w w' := by
  obtain ⟨w0, hw0⟩ : ∃ w0, w0 = w.alloc (.cells #[.slice a rs.length cap] 26) := ⟨_, rfl⟩
  have hB : Below w.heap.size w w0 := by subst hw0; exact (Below.refl _ _).alloc (Nat.le_refl _) _
  have hD : CellsAt w.heap.size [.slice a rs.length cap] w0 := by subst hw0; exact CellsAt.new w _ _
  have HB := Lib.hid hB
  have HD := Lib.hid hD
  have HW := Lib.hid hw0
  have HRD := Lib.hid hrd
  have x0 := (hD 0 _ rfl).1
  have HRF := Lib.hid (readfile_impl a ab rs cap cb L w0 hl hs hsp (hrd.below hB) (hsrc.below hB) hLb (hg.below hB))
  have HR2 : Hid (∀ W, Below w.heap.size w W → Calls Tryz.prog 41 #[.agg #[.slice a rs.length cap], .slice ac L2.length cc] W (ResAt rs.length (fileG rs L2) W)) := fun W hW => readfile_impl a ac rs cap cc L2 W hl hs hsp (hrd.below hW) (hsrc2.below hW) hLb2 (hg.below hW)
  have hc1 := fun q c => fileG_code (rs := rs) (L := L) (q := q) (c := c)
  have hz1 := fileG_siz rs L
  have hc2 := fun q c => fileG_code (rs := rs) (L := L2) (q := q) (c := c)
  have hz2 := fileG_siz rs L2
  unfold sameG
  generalize fileG rs L = g1 at HRF hc1 hz1 ⊢
  generalize fileG rs L2 = g2 at HR2 hc2 hz2 ⊢
  clear hrd hsrc hsrc2 hs hsp hB hD hw0 hg
  cases g1 with
  | bad p1 e1 =>
    cases g2 with
    | bad p2 e2 =>
      have k1 : ((e1 : Int) == 0) = false := by have := hc1 p1 e1 rfl; rw [beq_eq_false_iff_ne]; omega
      have k2 : ((e2 : Int) == 0) = false := by have := hc2 p2 e2 rfl; rw [beq_eq_false_iff_ne]; omega
      have HZ1 := Lib.hid hz1
      have HZ2 := Lib.hid hz2
      obtain ⟨rr, hrr⟩ : ∃ rr, rr = eqG (.bad p1 e1) (.bad p2 e2) := ⟨_, rfl⟩
      rw [← hrr]
      have HRR := Lib.hid hrr
      clear hrr
      clear hc1 hc2 hz1 hz2
      go_enter Tryz.func17, Tryz.ntmps17
      go_upto_region 1 with fail
      rw [← HW.out]
      clear HW
      go_wp2_with fail
      refine HRF.out.mono ?_
      rintro e w2 ⟨rfl, hb⟩
      replace HB := Lib.hid (HB.out.trans (hb.mono HB.out.size))
      replace HD := Lib.hid (HD.out.below hb)
      clear hb
      obtain ⟨z1, hz⟩ : ∃ z, z = w2.alloc (.cells #[.int .i64 0, .slice none 0 0, .slice none 0 0] 48) := ⟨_, rfl⟩
      have hb : Below w2.heap.size w2 z1 := by subst hz; exact (Below.refl _ _).alloc (Nat.le_refl _) _
      have HX1 : Hid (CellsAt w2.heap.size [.int .i64 0, .slice none 0 0, .slice none 0 0] z1) := by subst hz; exact CellsAt.new w2 _ _
      have HZ := Lib.hid hz
      replace HD := Lib.hid (HD.out.below hb)
      replace HB := Lib.hid (HB.out.trans (hb.mono HB.out.size))
      clear hb hz
      go_upto_region 2 with fail
      rw [← HZ.out]
      clear HZ
      have x0 := (HD.out 0 _ rfl).1
      go_wp2_with fail
      refine (HR2.out _ HB.out).mono ?_
      rintro e w4 ⟨rfl, hb⟩
      replace HB := Lib.hid (HB.out.trans (hb.mono HB.out.size))
      replace HD := Lib.hid (HD.out.below hb)
      replace HX1 := Lib.hid (HX1.out.below hb)
      clear hb x0
      obtain ⟨z2, hz⟩ : ∃ z, z = w4.alloc (.cells #[.int .i64 0, .slice none 0 0, .slice none 0 0] 48) := ⟨_, rfl⟩
      have hb : Below w4.heap.size w4 z2 := by subst hz; exact (Below.refl _ _).alloc (Nat.le_refl _) _
      have HX2 : Hid (CellsAt w4.heap.size [.int .i64 0, .slice none 0 0, .slice none 0 0] z2) := by subst hz; exact CellsAt.new w4 _ _
      have HZ := Lib.hid hz
      replace HD := Lib.hid (HD.out.below hb)
      replace HX1 := Lib.hid (HX1.out.below hb)
      replace HB := Lib.hid (HB.out.trans (hb.mono HB.out.size))
      clear hb hz
      go_upto_region 3 with fail
      rw [← HZ.out]
      clear HZ
      go_wp2
      go_ret
      exact ⟨by rw [HRR.out]; rfl, HB.out⟩
    | ok v2 p2 =>
      have k1 : ((e1 : Int) == 0) = false := by have := hc1 p1 e1 rfl; rw [beq_eq_false_iff_ne]; omega
      replace hz2 : sizV v2 ≤ 1048576 := hz2
      have HZ1 := Lib.hid hz1
      have HZ2 := Lib.hid hz2
      obtain ⟨rr, hrr⟩ : ∃ rr, rr = eqG (.bad p1 e1) (.ok v2 p2) := ⟨_, rfl⟩
      rw [← hrr]
      have HRR := Lib.hid hrr
      clear hrr
      clear hc1 hc2 hz1 hz2
      go_enter Tryz.func17, Tryz.ntmps17
      go_upto_region 1 with fail
      rw [← HW.out]
      clear HW
      go_wp2_with fail
      refine HRF.out.mono ?_
      rintro e w2 ⟨rfl, hb⟩
      replace HB := Lib.hid (HB.out.trans (hb.mono HB.out.size))
      replace HD := Lib.hid (HD.out.below hb)
      clear hb
      obtain ⟨z1, hz⟩ : ∃ z, z = w2.alloc (.cells #[.int .i64 0, .slice none 0 0, .slice none 0 0] 48) := ⟨_, rfl⟩
      have hb : Below w2.heap.size w2 z1 := by subst hz; exact (Below.refl _ _).alloc (Nat.le_refl _) _
      have HX1 : Hid (CellsAt w2.heap.size [.int .i64 0, .slice none 0 0, .slice none 0 0] z1) := by subst hz; exact CellsAt.new w2 _ _
      have HZ := Lib.hid hz
      replace HD := Lib.hid (HD.out.below hb)
      replace HB := Lib.hid (HB.out.trans (hb.mono HB.out.size))
      clear hb hz
      go_upto_region 2 with fail
      rw [← HZ.out]
      clear HZ
      have x0 := (HD.out 0 _ rfl).1
      go_wp2_with fail
      refine (HR2.out _ HB.out).mono ?_
      rintro e w4 ⟨⟨bl2, cs2, rfl, hown, _⟩, hb⟩
      obtain ⟨a2, c2, i2, d2, rfl⟩ := hown.cells
      have HV2 := Lib.hid hown.is
      clear hown
      replace HB := Lib.hid (HB.out.trans (hb.mono HB.out.size))
      replace HD := Lib.hid (HD.out.below hb)
      replace HX1 := Lib.hid (HX1.out.below hb)
      clear hb x0
      obtain ⟨z2, hz⟩ : ∃ z, z = w4.alloc (.cells #[.int .i64 v2.number, .slice a2 v2.bytes.length c2, .slice i2 v2.items.length d2] 48) := ⟨_, rfl⟩
      have hb : Below w4.heap.size w4 z2 := by subst hz; exact (Below.refl _ _).alloc (Nat.le_refl _) _
      have HX2 : Hid (CellsAt w4.heap.size [.int .i64 v2.number, .slice a2 v2.bytes.length c2, .slice i2 v2.items.length d2] z2) := by subst hz; exact CellsAt.new w4 _ _
      have HZ := Lib.hid hz
      replace HD := Lib.hid (HD.out.below hb)
      replace HX1 := Lib.hid (HX1.out.below hb)
      replace HV2 := Lib.hid (HV2.out.below hb)
      replace HB := Lib.hid (HB.out.trans (hb.mono HB.out.size))
      clear hb hz
      go_upto_region 3 with fail
      rw [← HZ.out]
      clear HZ
      go_wp2
      go_ret
      exact ⟨by rw [HRR.out]; rfl, HB.out⟩
  | ok v1 p1 =>
    cases g2 with
    | bad p2 e2 =>
      have k2 : ((e2 : Int) == 0) = false := by have := hc2 p2 e2 rfl; rw [beq_eq_false_iff_ne]; omega
      replace hz1 : sizV v1 ≤ 1048576 := hz1
      have HZ1 := Lib.hid hz1
      have HZ2 := Lib.hid hz2
      obtain ⟨rr, hrr⟩ : ∃ rr, rr = eqG (.ok v1 p1) (.bad p2 e2) := ⟨_, rfl⟩
      rw [← hrr]
      have HRR := Lib.hid hrr
      clear hrr
      clear hc1 hc2 hz1 hz2
      go_enter Tryz.func17, Tryz.ntmps17
      go_upto_region 1 with fail
      rw [← HW.out]
      clear HW
      go_wp2_with fail
      refine HRF.out.mono ?_
      rintro e w2 ⟨⟨bl1, cs1, rfl, hown, _⟩, hb⟩
      obtain ⟨a1, c1, i1, d1, rfl⟩ := hown.cells
      have HV1 := Lib.hid hown.is
      clear hown
      replace HB := Lib.hid (HB.out.trans (hb.mono HB.out.size))
      replace HD := Lib.hid (HD.out.below hb)
      clear hb
      obtain ⟨z1, hz⟩ : ∃ z, z = w2.alloc (.cells #[.int .i64 v1.number, .slice a1 v1.bytes.length c1, .slice i1 v1.items.length d1] 48) := ⟨_, rfl⟩
      have hb : Below w2.heap.size w2 z1 := by subst hz; exact (Below.refl _ _).alloc (Nat.le_refl _) _
      have HX1 : Hid (CellsAt w2.heap.size [.int .i64 v1.number, .slice a1 v1.bytes.length c1, .slice i1 v1.items.length d1] z1) := by subst hz; exact CellsAt.new w2 _ _
      have HZ := Lib.hid hz
      replace HD := Lib.hid (HD.out.below hb)
      replace HV1 := Lib.hid (HV1.out.below hb)
      replace HB := Lib.hid (HB.out.trans (hb.mono HB.out.size))
      clear hb hz
      go_upto_region 2 with fail
      rw [← HZ.out]
      clear HZ
      have x0 := (HD.out 0 _ rfl).1
      go_wp2_with fail
      refine (HR2.out _ HB.out).mono ?_
      rintro e w4 ⟨rfl, hb⟩
      replace HB := Lib.hid (HB.out.trans (hb.mono HB.out.size))
      replace HD := Lib.hid (HD.out.below hb)
      replace HX1 := Lib.hid (HX1.out.below hb)
      replace HV1 := Lib.hid (HV1.out.below hb)
      clear hb x0
      obtain ⟨z2, hz⟩ : ∃ z, z = w4.alloc (.cells #[.int .i64 0, .slice none 0 0, .slice none 0 0] 48) := ⟨_, rfl⟩
      have hb : Below w4.heap.size w4 z2 := by subst hz; exact (Below.refl _ _).alloc (Nat.le_refl _) _
      have HX2 : Hid (CellsAt w4.heap.size [.int .i64 0, .slice none 0 0, .slice none 0 0] z2) := by subst hz; exact CellsAt.new w4 _ _
      have HZ := Lib.hid hz
      replace HD := Lib.hid (HD.out.below hb)
      replace HX1 := Lib.hid (HX1.out.below hb)
      replace HV1 := Lib.hid (HV1.out.below hb)
      replace HB := Lib.hid (HB.out.trans (hb.mono HB.out.size))
      clear hb hz
      go_upto_region 3 with fail
      rw [← HZ.out]
      clear HZ
      go_wp2
      go_ret
      exact ⟨by rw [HRR.out]; rfl, HB.out⟩
    | ok v2 p2 =>
      replace hz1 : sizV v1 ≤ 1048576 := hz1
      replace hz2 : sizV v2 ≤ 1048576 := hz2
      have HZ1 := Lib.hid hz1
      have HZ2 := Lib.hid hz2
      obtain ⟨rr, hrr⟩ : ∃ rr, rr = eqG (.ok v1 p1) (.ok v2 p2) := ⟨_, rfl⟩
      rw [← hrr]
      have HRR := Lib.hid hrr
      clear hrr
      clear hc1 hc2 hz1 hz2
      go_enter Tryz.func17, Tryz.ntmps17
      go_upto_region 1 with fail
      rw [← HW.out]
      clear HW
      go_wp2_with fail
      refine HRF.out.mono ?_
      rintro e w2 ⟨⟨bl1, cs1, rfl, hown, _⟩, hb⟩
      obtain ⟨a1, c1, i1, d1, rfl⟩ := hown.cells
      have HV1 := Lib.hid hown.is
      clear hown
      replace HB := Lib.hid (HB.out.trans (hb.mono HB.out.size))
      replace HD := Lib.hid (HD.out.below hb)
      clear hb
      obtain ⟨z1, hz⟩ : ∃ z, z = w2.alloc (.cells #[.int .i64 v1.number, .slice a1 v1.bytes.length c1, .slice i1 v1.items.length d1] 48) := ⟨_, rfl⟩
      have hb : Below w2.heap.size w2 z1 := by subst hz; exact (Below.refl _ _).alloc (Nat.le_refl _) _
      have HX1 : Hid (CellsAt w2.heap.size [.int .i64 v1.number, .slice a1 v1.bytes.length c1, .slice i1 v1.items.length d1] z1) := by subst hz; exact CellsAt.new w2 _ _
      have HZ := Lib.hid hz
      replace HD := Lib.hid (HD.out.below hb)
      replace HV1 := Lib.hid (HV1.out.below hb)
      replace HB := Lib.hid (HB.out.trans (hb.mono HB.out.size))
      clear hb hz
      go_upto_region 2 with fail
      rw [← HZ.out]
      clear HZ
      have x0 := (HD.out 0 _ rfl).1
      go_wp2_with fail
      refine (HR2.out _ HB.out).mono ?_
      rintro e w4 ⟨⟨bl2, cs2, rfl, hown, _⟩, hb⟩
      obtain ⟨a2, c2, i2, d2, rfl⟩ := hown.cells
      have HV2 := Lib.hid hown.is
      clear hown
      replace HB := Lib.hid (HB.out.trans (hb.mono HB.out.size))
      replace HD := Lib.hid (HD.out.below hb)
      replace HX1 := Lib.hid (HX1.out.below hb)
      replace HV1 := Lib.hid (HV1.out.below hb)
      clear hb x0
      obtain ⟨z2, hz⟩ : ∃ z, z = w4.alloc (.cells #[.int .i64 v2.number, .slice a2 v2.bytes.length c2, .slice i2 v2.items.length d2] 48) := ⟨_, rfl⟩
      have hb : Below w4.heap.size w4 z2 := by subst hz; exact (Below.refl _ _).alloc (Nat.le_refl _) _
      have HX2 : Hid (CellsAt w4.heap.size [.int .i64 v2.number, .slice a2 v2.bytes.length c2, .slice i2 v2.items.length d2] z2) := by subst hz; exact CellsAt.new w4 _ _
      have HZ := Lib.hid hz
      replace HD := Lib.hid (HD.out.below hb)
      replace HX1 := Lib.hid (HX1.out.below hb)
      replace HV1 := Lib.hid (HV1.out.below hb)
      replace HV2 := Lib.hid (HV2.out.below hb)
      replace HB := Lib.hid (HB.out.trans (hb.mono HB.out.size))
      clear hb hz
      go_upto_region 3 with fail
      rw [← HZ.out]
      clear HZ
      have s0 := (HX1.out 0 _ rfl).1
      have t0 := (HX2.out 0 _ rfl).1
      have s1 := (HX1.out 1 _ rfl).1
      have t1 := (HX2.out 1 _ rfl).1
      have s2 := (HX1.out 2 _ rfl).1
      have t2 := (HX2.out 2 _ rfl).1
      go_wp2_with fail
      refine (ieq_value _ _ v1 v2 _ _ _ HV1.out HV2.out HZ1.out HZ2.out).mono ?_
      rintro e w5 ⟨⟨r, rfl, hr⟩, hb⟩
      replace HB := Lib.hid (HB.out.trans (hb.mono HB.out.size))
      obtain rfl : r = rr := by rw [HRR.out]; exact (eqG_ok hr).symm
      clear hb hr
      go_wp2
      go_ret
      exact ⟨rfl, HB.out⟩
end Go.Proofs.YtefkhknfjohnaaaGreatDoor
