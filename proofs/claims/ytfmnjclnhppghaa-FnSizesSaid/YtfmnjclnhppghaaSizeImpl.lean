/- The contracts of the program's MinSize, MaxSize, DepthOf, IsFixedSize. -/
import Derived.Test.YtfmnjclnhppghaaMeasMin
import Derived.Test.YtfmnjclnhppghaaMeasMax
import Derived.Test.YtfmnjclnhppghaaMeasDeep
import Derived.Test.YtfmnjclnhppghaaSSizes
set_option maxRecDepth 100000
namespace Go.Proofs.Ytfmnjclnhppghaa
open Go Go.RowKit
theorem minsize_impl (a : Option Addr) (rs : List RuleV) (cap : Nat) (k : Int) (w : World) (hl : rs.length ≤ 1048576) (hs : ∀ r ∈ rs, Short r) (hp : ∀ r ∈ rs, Spelt r) (h : RdK a rs w) :
  Calls Try.prog 43 #[.agg #[.slice a rs.length cap], .int .i64 k] w fun e w' => e = .returned (.int .i64 (sizeD minStep rs k)) ∧ Below w.heap.size w w' := by
 obtain ⟨w0, hw0⟩ : ∃ w0, w0 = w.alloc (.cells #[.slice a rs.length cap] 35) := ⟨_, rfl⟩
 have hB0 : Below w.heap.size w w0 := by subst hw0; exact (Below.refl _ _).alloc (Nat.le_refl _) _
 have hX0 : CellsAt w.heap.size [.slice a rs.length cap] w0 := by subst hw0; exact CellsAt.new w _ _
 have bx := (hX0 0 _ rfl).1
 have HX := Lib.hid hX0
 have HB := Lib.hid hB0
 have HK := Lib.hid (h.below hB0)
 have HS := Lib.hid hs
 have HP := Lib.hid hp
 have hW := Lib.hid hw0
 clear h hB0 hX0 hs hp hw0
 obtain ⟨y, hy⟩ : ∃ y, y = sizeD minStep rs k := ⟨_, rfl⟩
 have HY := Lib.hid hy
 clear hy
 go_enter Try.func43, Try.ntmps43
 go_wp2_with fail
 rw [← hW.out]
 clear hW
 refine (measure_min a rs cap k _ hl HS.out HP.out HK.out).mono ?_
 rintro e w1 ⟨rfl, hb1⟩
 rw [← HY.out]
 replace HB := Lib.hid (HB.out.trans (hb1.mono HB.out.size))
 clear hb1
 go_wp2
 go_ret
 exact ⟨ret_int HY.out, HB.out⟩
theorem maxsize_impl (a : Option Addr) (rs : List RuleV) (cap : Nat) (k : Int) (w : World) (hl : rs.length ≤ 1048576) (hs : ∀ r ∈ rs, Short r) (hp : ∀ r ∈ rs, Spelt r) (h : RdK a rs w) :
  Calls Try.prog 44 #[.agg #[.slice a rs.length cap], .int .i64 k] w fun e w' => e = .returned (.int .i64 (sizeD (maxStep rs) rs k)) ∧ Below w.heap.size w w' := by
 obtain ⟨w0, hw0⟩ : ∃ w0, w0 = w.alloc (.cells #[.slice a rs.length cap] 35) := ⟨_, rfl⟩
 have hB0 : Below w.heap.size w w0 := by subst hw0; exact (Below.refl _ _).alloc (Nat.le_refl _) _
 have hX0 : CellsAt w.heap.size [.slice a rs.length cap] w0 := by subst hw0; exact CellsAt.new w _ _
 have bx := (hX0 0 _ rfl).1
 have HX := Lib.hid hX0
 have HB := Lib.hid hB0
 have HK := Lib.hid (h.below hB0)
 have HS := Lib.hid hs
 have HP := Lib.hid hp
 have hW := Lib.hid hw0
 clear h hB0 hX0 hs hp hw0
 obtain ⟨y, hy⟩ : ∃ y, y = sizeD (maxStep rs) rs k := ⟨_, rfl⟩
 have HY := Lib.hid hy
 clear hy
 go_enter Try.func44, Try.ntmps44
 go_wp2_with fail
 rw [← hW.out]
 clear hW
 refine (measure_max a rs cap k _ hl HS.out HP.out HK.out).mono ?_
 rintro e w1 ⟨rfl, hb1⟩
 rw [← HY.out]
 replace HB := Lib.hid (HB.out.trans (hb1.mono HB.out.size))
 clear hb1
 go_wp2
 go_ret
 exact ⟨ret_int HY.out, HB.out⟩
theorem depth_impl (a : Option Addr) (rs : List RuleV) (cap : Nat) (k : Int) (w : World) (hl : rs.length ≤ 1048576) (hs : ∀ r ∈ rs, Short r) (hp : ∀ r ∈ rs, Spelt r) (h : RdK a rs w) :
  Calls Try.prog 46 #[.agg #[.slice a rs.length cap], .int .i64 k] w fun e w' => e = .returned (.int .i64 (sizeD depthStep rs k)) ∧ Below w.heap.size w w' := by
 obtain ⟨w0, hw0⟩ : ∃ w0, w0 = w.alloc (.cells #[.slice a rs.length cap] 35) := ⟨_, rfl⟩
 have hB0 : Below w.heap.size w w0 := by subst hw0; exact (Below.refl _ _).alloc (Nat.le_refl _) _
 have hX0 : CellsAt w.heap.size [.slice a rs.length cap] w0 := by subst hw0; exact CellsAt.new w _ _
 have bx := (hX0 0 _ rfl).1
 have HX := Lib.hid hX0
 have HB := Lib.hid hB0
 have HK := Lib.hid (h.below hB0)
 have HS := Lib.hid hs
 have HP := Lib.hid hp
 have hW := Lib.hid hw0
 clear h hB0 hX0 hs hp hw0
 obtain ⟨y, hy⟩ : ∃ y, y = sizeD depthStep rs k := ⟨_, rfl⟩
 have HY := Lib.hid hy
 clear hy
 go_enter Try.func46, Try.ntmps46
 go_wp2_with fail
 rw [← hW.out]
 clear hW
 refine (measure_deep a rs cap k _ hl HS.out HP.out HK.out).mono ?_
 rintro e w1 ⟨rfl, hb1⟩
 rw [← HY.out]
 replace HB := Lib.hid (HB.out.trans (hb1.mono HB.out.size))
 clear hb1
 go_wp2
 go_ret
 exact ⟨ret_int HY.out, HB.out⟩
theorem fixed_impl (a : Option Addr) (rs : List RuleV) (cap : Nat) (k : Int) (w : World) (hl : rs.length ≤ 1048576) (hs : ∀ r ∈ rs, Short r) (hp : ∀ r ∈ rs, Spelt r) (h : RdK a rs w) :
  Calls Try.prog 45 #[.agg #[.slice a rs.length cap], .int .i64 k] w fun e w' => e = .returned (.bool (fixedD rs k)) ∧ Below w.heap.size w w' := by
 obtain ⟨w0, hw0⟩ : ∃ w0, w0 = w.alloc (.cells #[.slice a rs.length cap] 35) := ⟨_, rfl⟩
 have hB0 : Below w.heap.size w w0 := by subst hw0; exact (Below.refl _ _).alloc (Nat.le_refl _) _
 have hX0 : CellsAt w.heap.size [.slice a rs.length cap] w0 := by subst hw0; exact CellsAt.new w _ _
 have bx := (hX0 0 _ rfl).1
 have HX := Lib.hid hX0
 have HB := Lib.hid hB0
 have HK := Lib.hid (h.below hB0)
 have HS := Lib.hid hs
 have HP := Lib.hid hp
 have hW := Lib.hid hw0
 clear h hB0 hX0 hs hp hw0
 obtain ⟨x, hx⟩ : ∃ x, x = sizeD minStep rs k := ⟨_, rfl⟩
 obtain ⟨y, hy⟩ : ∃ y, y = sizeD (maxStep rs) rs k := ⟨_, rfl⟩
 have hr : Hid (fixedD rs k = decide (0 < x ∧ x = y ∧ x < 400)) := by show _ = _; unfold fixedD; rw [hx, hy]
 have HXX := Lib.hid hx
 have HYY := Lib.hid hy
 clear hx hy
 go_enter Try.func45, Try.ntmps45
 go_wp2_with fail
 rw [← hW.out]
 clear hW
 refine (minsize_impl a rs cap k _ hl HS.out HP.out HK.out).mono ?_
 rintro e w1 ⟨rfl, hb1⟩
 rw [← HXX.out]
 replace HX := Lib.hid (HX.out.below hb1)
 replace HK := Lib.hid (HK.out.below hb1)
 replace HB := Lib.hid (HB.out.trans (hb1.mono HB.out.size))
 clear hb1 bx
 have bx := (HX.out 0 _ rfl).1
 by_cases g0 : 1 ≤ x ∧ x ≤ 399
 ·have hd := decide_eq_true g0
  go_wp2_with fail
  refine (inI_any _ _ _ true _ hd).mono ?_
  rintro e w2 ⟨rfl, rfl⟩
  go_wp2_with fail
  refine (maxsize_impl a rs cap k _ hl HS.out HP.out HK.out).mono ?_
  rintro e w2 ⟨rfl, hb2⟩
  rw [← HYY.out]
  replace HB := Lib.hid (HB.out.trans (hb2.mono HB.out.size))
  clear hb2 bx
  by_cases g1 : x = y
  ·have e1 : (x == y) = true := by simpa using g1
   have hr3 : Hid (fixedD rs k = true) := by show _ = _; rw [hr.out]; exact decide_eq_true ⟨by omega, g1, by omega⟩
   clear g1
   go_wp2
   go_ret
   exact ⟨ret_bool hr3.out.symm, HB.out⟩
  ·have e1 : (x == y) = false := by simpa using g1
   have hr3 : Hid (fixedD rs k = false) := by show _ = _; rw [hr.out]; exact decide_eq_false (fun h => g1 h.2.1)
   go_wp2
   go_ret
   exact ⟨ret_bool hr3.out.symm, HB.out⟩
 ·have hd := decide_eq_false g0
  have hr3 : Hid (fixedD rs k = false) := by show _ = _; rw [hr.out]; exact decide_eq_false (fun h => g0 (by omega))
  go_wp2_with fail
  refine (inI_any _ _ _ false _ hd).mono ?_
  rintro e w2 ⟨rfl, rfl⟩
  go_wp2
  go_ret
  exact ⟨ret_bool hr3.out.symm, HB.out⟩
end Go.Proofs.Ytfmnjclnhppghaa
