/- It is proved that the law FnExactEqualValues returns true at every input of its parameter types and leaves its arguments as they were (statement Rows.FnExactEqualValuesSaid), with no condition. -/
import Derived.Test.YtdbpjaeekhgfgaaFacts
import Derived.Test.YtdbpjaeekhgfgaaIEqV
import Derived.Test.YtdbpjaeekhgfgaaSEqV
import Derived.Test.YtdbpjaeekhgfgaaArgV
import Derived.Test.YtdbpjaeekhgfgaaEqV
import Derived.Test.YtdbpjaeekhgfgaaToV
import Derived.Deep.RegionHeld3
import Derived.Deep.CutRange
namespace Go.Proofs.Ytdbpjaeekhgfgaa
open Go Go.ChangeShapes Go.WideShapes Go.ChangeAt Go.RowKit
namespace fnExactEqualValues
theorem same_bool {r s : Bool} {P : Prop} (h : r = true ↔ P) (g : s = true ↔ P) : r = s := by cases r <;> cases s <;> simp_all
theorem some_bool (P : Prop) : ∃ r : Bool, (r = true ↔ P) := by by_cases h : P; exact ⟨true, by simp [h]⟩; exact ⟨false, by simp [h]⟩
set_option maxRecDepth 100000 in
theorem walk_large0 (g0 : Nat) (u0 : ValueV) (cs0 : List Value) (g1 : Nat) (u1 : ValueV) (cs1 : List Value) (w : World) (r0 : IsVal g0 u0 cs0 w) (f0 : fitV u0) (r1 : IsVal g1 u1 cs1 w) (f1 : fitV u1) (h : 1048576 < sizV u0) :
    Calls Try.prog 9 #[.agg cs0.toArray, .agg cs1.toArray] w fun e w' => e = .returned (.bool true) ∧ Below w.heap.size w w' := by
  obtain ⟨a1a, c1a, a2a, c2a, rfl⟩ := r0.three
  obtain ⟨a1b, c1b, a2b, c2b, rfl⟩ := r1.three
  obtain ⟨w0, hw0⟩ : ∃ w0, w0 = (w.alloc (.cells #[.int .i64 u0.number, .slice a1a u0.bytes.length c1a, .slice a2a u0.items.length c2a] 43)).alloc (.cells #[.int .i64 u1.number, .slice a1b u1.bytes.length c1b, .slice a2b u1.items.length c2b] 43) := ⟨_, rfl⟩
  have hB0 : Below w.heap.size w w0 := by subst hw0; exact ((Below.refl _ _).alloc (Nat.le_refl _) _).alloc (by simp) _
  have hX0 : CellsAt w.heap.size [.int .i64 u0.number, .slice a1a u0.bytes.length c1a, .slice a2a u0.items.length c2a] w0 := by subst hw0; exact (CellsAt.new w _ _).below ((Below.refl _ _).alloc (Nat.le_refl _) _)
  have hY0 : CellsAt (w.heap.size + 1) [.int .i64 u1.number, .slice a1b u1.bytes.length c1b, .slice a2b u1.items.length c2b] w0 := by subst hw0; have h1 := CellsAt.new (w.alloc (.cells #[.int .i64 u0.number, .slice a1a u0.bytes.length c1a, .slice a2a u0.items.length c2a] 43)) [.int .i64 u1.number, .slice a1b u1.bytes.length c1b, .slice a2b u1.items.length c2b] 43; rw [World.size_alloc] at h1; exact h1
  have HB := Lib.hid hB0
  have HX := Lib.hid hX0
  have HY := Lib.hid hY0
  have HR0 := Lib.hid r0
  have HF0 := Lib.hid f0
  have HR1 := Lib.hid r1
  have HF1 := Lib.hid f1
  have HW0 := Lib.hid hw0
  clear hB0 hX0 hY0 r0 f0 r1 f1 hw0
  go_enter Try.func9, Try.ntmps9
  go_upto_region 1 with fail
  rw [← HW0.out]
  clear HW0
  have b0 := (HX.out 0 _ rfl).1
  have b1 := (HX.out 1 _ rfl).1
  have b2 := (HX.out 2 _ rfl).1
  go_wp2_with fail
  refine (sz_value g0 u0 _ 1048576 _ (HR0.out.below HB.out) (Nat.le_refl _) HF0.out).mono ?_
  rintro e w1 ⟨rfl, hb⟩
  replace HX := Lib.hid (HX.out.below hb)
  replace HY := Lib.hid (HY.out.below hb)
  replace HB := Lib.hid (HB.out.trans (hb.mono HB.out.size))
  clear hb
  clear b0 b1 b2
  rw [leftN_no h]
  go_wp2
  go_ret
  exact ⟨rfl, HB.out⟩
set_option maxRecDepth 100000 in
theorem walk_large1 (g0 : Nat) (u0 : ValueV) (cs0 : List Value) (g1 : Nat) (u1 : ValueV) (cs1 : List Value) (w : World) (r0 : IsVal g0 u0 cs0 w) (f0 : fitV u0) (r1 : IsVal g1 u1 cs1 w) (f1 : fitV u1) (h0 : sizV u0 ≤ 1048576) (h : 1048576 < sizV u0 + sizV u1) :
    Calls Try.prog 9 #[.agg cs0.toArray, .agg cs1.toArray] w fun e w' => e = .returned (.bool true) ∧ Below w.heap.size w w' := by
  obtain ⟨a1a, c1a, a2a, c2a, rfl⟩ := r0.three
  obtain ⟨a1b, c1b, a2b, c2b, rfl⟩ := r1.three
  obtain ⟨w0, hw0⟩ : ∃ w0, w0 = (w.alloc (.cells #[.int .i64 u0.number, .slice a1a u0.bytes.length c1a, .slice a2a u0.items.length c2a] 43)).alloc (.cells #[.int .i64 u1.number, .slice a1b u1.bytes.length c1b, .slice a2b u1.items.length c2b] 43) := ⟨_, rfl⟩
  have hB0 : Below w.heap.size w w0 := by subst hw0; exact ((Below.refl _ _).alloc (Nat.le_refl _) _).alloc (by simp) _
  have hX0 : CellsAt w.heap.size [.int .i64 u0.number, .slice a1a u0.bytes.length c1a, .slice a2a u0.items.length c2a] w0 := by subst hw0; exact (CellsAt.new w _ _).below ((Below.refl _ _).alloc (Nat.le_refl _) _)
  have hY0 : CellsAt (w.heap.size + 1) [.int .i64 u1.number, .slice a1b u1.bytes.length c1b, .slice a2b u1.items.length c2b] w0 := by subst hw0; have h1 := CellsAt.new (w.alloc (.cells #[.int .i64 u0.number, .slice a1a u0.bytes.length c1a, .slice a2a u0.items.length c2a] 43)) [.int .i64 u1.number, .slice a1b u1.bytes.length c1b, .slice a2b u1.items.length c2b] 43; rw [World.size_alloc] at h1; exact h1
  have HB := Lib.hid hB0
  have HX := Lib.hid hX0
  have HY := Lib.hid hY0
  have HR0 := Lib.hid r0
  have HF0 := Lib.hid f0
  have HR1 := Lib.hid r1
  have HF1 := Lib.hid f1
  have HW0 := Lib.hid hw0
  clear hB0 hX0 hY0 r0 f0 r1 f1 hw0
  go_enter Try.func9, Try.ntmps9
  go_upto_region 1 with fail
  rw [← HW0.out]
  clear HW0
  have b0 := (HX.out 0 _ rfl).1
  have b1 := (HX.out 1 _ rfl).1
  have b2 := (HX.out 2 _ rfl).1
  go_wp2_with fail
  refine (sz_value g0 u0 _ 1048576 _ (HR0.out.below HB.out) (Nat.le_refl _) HF0.out).mono ?_
  rintro e w1 ⟨rfl, hb⟩
  replace HX := Lib.hid (HX.out.below hb)
  replace HY := Lib.hid (HY.out.below hb)
  replace HB := Lib.hid (HB.out.trans (hb.mono HB.out.size))
  clear hb
  clear b0 b1 b2
  rw [leftN_yes h0]
  obtain ⟨q, hq⟩ : ∃ q, q = 1048576 - sizV u0 := ⟨_, rfl⟩
  rw [← hq]
  have hq1 : q ≤ 1048576 := by omega
  have HQ := Lib.hid hq
  clear hq
  have b0 := (HY.out 0 _ rfl).1
  have b1 := (HY.out 1 _ rfl).1
  have b2 := (HY.out 2 _ rfl).1
  go_wp2_with fail
  refine (sz_value g1 u1 _ q _ (HR1.out.below HB.out) hq1 HF1.out).mono ?_
  rintro e w2 ⟨rfl, hb⟩
  replace HX := Lib.hid (HX.out.below hb)
  replace HY := Lib.hid (HY.out.below hb)
  replace HB := Lib.hid (HB.out.trans (hb.mono HB.out.size))
  clear hb
  clear b0 b1 b2
  rw [leftN_no (by have := HQ.out; omega)]
  go_wp2
  go_ret
  exact ⟨rfl, HB.out⟩
set_option maxRecDepth 100000 in
set_option maxHeartbeats 8000000 in
theorem walk_short (g0 : Nat) (u0 : ValueV) (cs0 : List Value) (g1 : Nat) (u1 : ValueV) (cs1 : List Value) (w : World) (r0 : IsVal g0 u0 cs0 w) (f0 : fitV u0) (r1 : IsVal g1 u1 cs1 w) (f1 : fitV u1) (h0 : sizV u0 ≤ 1048576) (h : sizV u0 + sizV u1 ≤ 1048576) :
    Calls Try.prog 9 #[.agg cs0.toArray, .agg cs1.toArray] w fun e w' => e = .returned (.bool true) ∧ Below w.heap.size w w' := by
  have HS0 := Lib.hid h0
  have HS1 : Hid (sizV u1 ≤ 1048576) := by show _ ≤ _; omega
  obtain ⟨a1a, c1a, a2a, c2a, rfl⟩ := r0.three
  obtain ⟨a1b, c1b, a2b, c2b, rfl⟩ := r1.three
  obtain ⟨w0, hw0⟩ : ∃ w0, w0 = (w.alloc (.cells #[.int .i64 u0.number, .slice a1a u0.bytes.length c1a, .slice a2a u0.items.length c2a] 43)).alloc (.cells #[.int .i64 u1.number, .slice a1b u1.bytes.length c1b, .slice a2b u1.items.length c2b] 43) := ⟨_, rfl⟩
  have hB0 : Below w.heap.size w w0 := by subst hw0; exact ((Below.refl _ _).alloc (Nat.le_refl _) _).alloc (by simp) _
  have hX0 : CellsAt w.heap.size [.int .i64 u0.number, .slice a1a u0.bytes.length c1a, .slice a2a u0.items.length c2a] w0 := by subst hw0; exact (CellsAt.new w _ _).below ((Below.refl _ _).alloc (Nat.le_refl _) _)
  have hY0 : CellsAt (w.heap.size + 1) [.int .i64 u1.number, .slice a1b u1.bytes.length c1b, .slice a2b u1.items.length c2b] w0 := by subst hw0; have h1 := CellsAt.new (w.alloc (.cells #[.int .i64 u0.number, .slice a1a u0.bytes.length c1a, .slice a2a u0.items.length c2a] 43)) [.int .i64 u1.number, .slice a1b u1.bytes.length c1b, .slice a2b u1.items.length c2b] 43; rw [World.size_alloc] at h1; exact h1
  have HB := Lib.hid hB0
  have HX := Lib.hid hX0
  have HY := Lib.hid hY0
  have HR0 := Lib.hid r0
  have HF0 := Lib.hid f0
  have HR1 := Lib.hid r1
  have HF1 := Lib.hid f1
  have HW0 := Lib.hid hw0
  clear hB0 hX0 hY0 r0 f0 r1 f1 hw0
  go_enter Try.func9, Try.ntmps9
  go_upto_region 1 with fail
  rw [← HW0.out]
  clear HW0
  have b0 := (HX.out 0 _ rfl).1
  have b1 := (HX.out 1 _ rfl).1
  have b2 := (HX.out 2 _ rfl).1
  go_wp2_with fail
  refine (sz_value g0 u0 _ 1048576 _ (HR0.out.below HB.out) (Nat.le_refl _) HF0.out).mono ?_
  rintro e w1 ⟨rfl, hb⟩
  replace HX := Lib.hid (HX.out.below hb)
  replace HY := Lib.hid (HY.out.below hb)
  replace HB := Lib.hid (HB.out.trans (hb.mono HB.out.size))
  clear hb
  clear b0 b1 b2
  rw [leftN_yes h0]
  obtain ⟨q, hq⟩ : ∃ q, q = 1048576 - sizV u0 := ⟨_, rfl⟩
  rw [← hq]
  have hq1 : q ≤ 1048576 := by omega
  have HQ := Lib.hid hq
  clear hq
  have b0 := (HY.out 0 _ rfl).1
  have b1 := (HY.out 1 _ rfl).1
  have b2 := (HY.out 2 _ rfl).1
  go_wp2_with fail
  refine (sz_value g1 u1 _ q _ (HR1.out.below HB.out) hq1 HF1.out).mono ?_
  rintro e w2 ⟨rfl, hb⟩
  replace HX := Lib.hid (HX.out.below hb)
  replace HY := Lib.hid (HY.out.below hb)
  replace HB := Lib.hid (HB.out.trans (hb.mono HB.out.size))
  clear hb
  clear b0 b1 b2
  rw [leftN_yes (by have := HQ.out; omega)]
  obtain ⟨q2, hq2⟩ : ∃ q2, q2 = q - sizV u1 := ⟨_, rfl⟩
  rw [← hq2]
  have hq3 : q2 ≤ 1048576 := by omega
  clear hq2 h h0 HQ hq1
  obtain ⟨r, hr⟩ := some_bool (u0 = u1)
  have HRR := Lib.hid hr
  clear hr
  go_upto_region 8 with fail
  go_cut [6] from 20 to 24 (fun s wx => s = .bool r ∧ Hid (Below w.heap.size w wx) ∧ Hid (CellsAt w.heap.size [.int .i64 u0.number, .slice a1a u0.bytes.length c1a, .slice a2a u0.items.length c2a] wx) ∧ Hid (CellsAt (w.heap.size + 1) [.int .i64 u1.number, .slice a1b u1.bytes.length c1b, .slice a2b u1.items.length c2b] wx))
  case first =>
    have hb : Below w2.heap.size w2 w2.drew := below_drewN (Below.refl _ _) 1
    replace HX := Lib.hid (HX.out.below hb)
    replace HY := Lib.hid (HY.out.below hb)
    replace HB := Lib.hid (HB.out.trans (hb.mono HB.out.size))
    clear hb
    go_region_held3 (fun W => W.cell? ⟨w.heap.size, 0, none⟩ = some (.int .i64 u0.number) ∧ W.cell? ⟨w.heap.size, 1, none⟩ = some (.slice a1a u0.bytes.length c1a) ∧ W.cell? ⟨w.heap.size, 2, none⟩ = some (.slice a2a u0.items.length c2a) ∧ W.cell? ⟨w.heap.size + 1, 0, none⟩ = some (.int .i64 u1.number) ∧ W.cell? ⟨w.heap.size + 1, 1, none⟩ = some (.slice a1b u1.bytes.length c1b) ∧ W.cell? ⟨w.heap.size + 1, 2, none⟩ = some (.slice a2b u1.items.length c2b)) (exact ⟨(HX.out 0 _ rfl).1, (HX.out 1 _ rfl).1, (HX.out 2 _ rfl).1, (HY.out 0 _ rfl).1, (HY.out 1 _ rfl).1, (HY.out 2 _ rfl).1⟩) (first | (go_at_call 25; (with_reducible refine (to_value g0 u0 _ _ (HR0.out.below HB.out) HS0.out).mono ?_); rintro e v ⟨xs, bl, rfl, ho, _, hb⟩; have Hs := Lib.hid ho; obtain ⟨a1s, c1s, a2s, c2s, rfl⟩ := ho.cells; clear ho; (try (replace Ht := Lib.hid (Ht.out.below hb))); replace HX := Lib.hid (HX.out.below hb); replace HY := Lib.hid (HY.out.below hb); replace HB := Lib.hid (HB.out.trans (hb.mono HB.out.size)); clear hb) | (go_at_call 25; (with_reducible refine (to_value g1 u1 _ _ (HR1.out.below HB.out) HS1.out).mono ?_); rintro e v ⟨xs, bl, rfl, ho, _, hb⟩; have Ht := Lib.hid ho; obtain ⟨a1t, c1t, a2t, c2t, rfl⟩ := ho.cells; clear ho; (try (replace Hs := Lib.hid (Hs.out.below hb))); replace HX := Lib.hid (HX.out.below hb); replace HY := Lib.hid (HY.out.below hb); replace HB := Lib.hid (HB.out.trans (hb.mono HB.out.size)); clear hb) | (go_at_call 34; refine (seq_value g0 g1 u0 u1 _ _ _ Hs.out.is Ht.out.is HS0.out HS1.out).mono ?_; rintro e v ⟨⟨r', rfl, hr'⟩, hb⟩; obtain rfl : r' = r := same_bool hr' HRR.out; replace HX := Lib.hid (HX.out.below hb); replace HY := Lib.hid (HY.out.below hb); replace HB := Lib.hid (HB.out.trans (hb.mono HB.out.size)); clear hb hr'))
    all_goals (go_wp2_with fail; go_meet; exact ⟨rfl, HB, HX, HY⟩)
  case rest =>
    clear HB HX HY
    obtain ⟨rfl, HB, HX, HY⟩ := hcut
    have b0 := (HX.out 0 _ rfl).1
    have b1 := (HX.out 1 _ rfl).1
    have b2 := (HX.out 2 _ rfl).1
    go_wp2_with fail
    refine (to_value g0 u0 _ _ (HR0.out.below HB.out) HS0.out).mono ?_
    rintro e v0 ⟨xs, blx, rfl, ho, _, hb⟩
    have Hx := Lib.hid ho
    obtain ⟨a1x, c1x, a2x, c2x, rfl⟩ := ho.cells
    clear ho
    replace HX := Lib.hid (HX.out.below hb)
    replace HY := Lib.hid (HY.out.below hb)
    replace HB := Lib.hid (HB.out.trans (hb.mono HB.out.size))
    clear hb
    clear b0 b1 b2
    obtain ⟨z, hz⟩ : ∃ z, z = v0.alloc (.cells #[.int .i64 u0.number, .slice a1x u0.bytes.length c1x, .slice a2x u0.items.length c2x] 29) := ⟨_, rfl⟩
    have hb : Below v0.heap.size v0 z := by subst hz; exact (Below.refl _ _).alloc (Nat.le_refl _) _
    have hv : CellsAt v0.heap.size [.int .i64 u0.number, .slice a1x u0.bytes.length c1x, .slice a2x u0.items.length c2x] z := by subst hz; exact CellsAt.new v0 _ _
    have Vx := Lib.hid hv
    have HZ := Lib.hid hz
    clear hv hz
    replace HX := Lib.hid (HX.out.below hb)
    replace HY := Lib.hid (HY.out.below hb)
    replace Hx := Lib.hid (Hx.out.below hb)
    replace HB := Lib.hid (HB.out.trans (hb.mono HB.out.size))
    clear hb
    go_upto_region 10 with fail
    rw [← HZ.out]
    clear HZ
    have b0 := (HY.out 0 _ rfl).1
    have b1 := (HY.out 1 _ rfl).1
    have b2 := (HY.out 2 _ rfl).1
    go_wp2_with fail
    refine (to_value g1 u1 _ _ (HR1.out.below HB.out) HS1.out).mono ?_
    rintro e v1 ⟨xs, bly, rfl, ho, _, hb⟩
    have Hy := Lib.hid ho
    obtain ⟨a1y, c1y, a2y, c2y, rfl⟩ := ho.cells
    clear ho
    replace HX := Lib.hid (HX.out.below hb)
    replace HY := Lib.hid (HY.out.below hb)
    replace Hx := Lib.hid (Hx.out.below hb)
    replace Vx := Lib.hid (Vx.out.below hb)
    replace HB := Lib.hid (HB.out.trans (hb.mono HB.out.size))
    clear hb
    clear b0 b1 b2
    obtain ⟨z, hz⟩ : ∃ z, z = v1.alloc (.cells #[.int .i64 u1.number, .slice a1y u1.bytes.length c1y, .slice a2y u1.items.length c2y] 29) := ⟨_, rfl⟩
    have hb : Below v1.heap.size v1 z := by subst hz; exact (Below.refl _ _).alloc (Nat.le_refl _) _
    have hv : CellsAt v1.heap.size [.int .i64 u1.number, .slice a1y u1.bytes.length c1y, .slice a2y u1.items.length c2y] z := by subst hz; exact CellsAt.new v1 _ _
    have Vy := Lib.hid hv
    have HZ := Lib.hid hz
    clear hv hz
    replace HX := Lib.hid (HX.out.below hb)
    replace HY := Lib.hid (HY.out.below hb)
    replace Hx := Lib.hid (Hx.out.below hb)
    replace Vx := Lib.hid (Vx.out.below hb)
    replace Hy := Lib.hid (Hy.out.below hb)
    replace HB := Lib.hid (HB.out.trans (hb.mono HB.out.size))
    clear hb
    go_upto_region 11 with fail
    rw [← HZ.out]
    clear HZ
    have b0 := (Vx.out 0 _ rfl).1
    have b1 := (Vx.out 1 _ rfl).1
    have b2 := (Vx.out 2 _ rfl).1
    have d0 := (Vy.out 0 _ rfl).1
    have d1 := (Vy.out 1 _ rfl).1
    have d2 := (Vy.out 2 _ rfl).1
    go_wp2_with fail
    refine (ieq_value g0 g1 u0 u1 _ _ _ Hx.out.is Hy.out.is HS0.out HS1.out).mono ?_
    rintro e v2 ⟨⟨r', rfl, hr'⟩, hb⟩
    obtain rfl : r' = r := same_bool hr' HRR.out
    clear hr'
    clear b0 b1 b2
    clear d0 d1 d2
    replace HX := Lib.hid (HX.out.below hb)
    replace HY := Lib.hid (HY.out.below hb)
    replace Hx := Lib.hid (Hx.out.below hb)
    replace Vx := Lib.hid (Vx.out.below hb)
    replace Hy := Lib.hid (Hy.out.below hb)
    replace Vy := Lib.hid (Vy.out.below hb)
    replace HB := Lib.hid (HB.out.trans (hb.mono HB.out.size))
    clear hb
    have er : (r' != r') = false := by simp
    go_upto_region 14 with fail
    clear er
    have hb : Below v2.heap.size v2 v2.drew := below_drewN (Below.refl _ _) 1
    replace HX := Lib.hid (HX.out.below hb)
    replace HY := Lib.hid (HY.out.below hb)
    replace Hx := Lib.hid (Hx.out.below hb)
    replace Vx := Lib.hid (Vx.out.below hb)
    replace Hy := Lib.hid (Hy.out.below hb)
    replace Vy := Lib.hid (Vy.out.below hb)
    replace HB := Lib.hid (HB.out.trans (hb.mono HB.out.size))
    clear hb
    go_region_held3 (fun W => W.cell? ⟨v0.heap.size, 0, none⟩ = some (.int .i64 u0.number) ∧ W.cell? ⟨v0.heap.size, 1, none⟩ = some (.slice a1x u0.bytes.length c1x) ∧ W.cell? ⟨v0.heap.size, 2, none⟩ = some (.slice a2x u0.items.length c2x) ∧ W.cell? ⟨w.heap.size, 0, none⟩ = some (.int .i64 u0.number) ∧ W.cell? ⟨w.heap.size, 1, none⟩ = some (.slice a1a u0.bytes.length c1a) ∧ W.cell? ⟨w.heap.size, 2, none⟩ = some (.slice a2a u0.items.length c2a)) (exact ⟨(Vx.out 0 _ rfl).1, (Vx.out 1 _ rfl).1, (Vx.out 2 _ rfl).1, (HX.out 0 _ rfl).1, (HX.out 1 _ rfl).1, (HX.out 2 _ rfl).1⟩) (first | (go_at_call 25; refine (to_value g0 u0 _ _ (HR0.out.below HB.out) HS0.out).mono ?_; rintro e v8 ⟨xs, bl, rfl, ho, _, hb⟩; have H8 := Lib.hid ho; obtain ⟨a18, c18, a28, c28, rfl⟩ := ho.cells; clear ho; replace HX := Lib.hid (HX.out.below hb); replace HY := Lib.hid (HY.out.below hb); replace Hx := Lib.hid (Hx.out.below hb); replace Vx := Lib.hid (Vx.out.below hb); replace Hy := Lib.hid (Hy.out.below hb); replace Vy := Lib.hid (Vy.out.below hb); replace HB := Lib.hid (HB.out.trans (hb.mono HB.out.size)); clear hb) | (go_at_call 27; refine (eq_value g0 g0 u0 _ _ _ Hx.out.is H8.out.is HS0.out).mono ?_; rintro e v9 ⟨rfl, hb⟩; replace HX := Lib.hid (HX.out.below hb); replace HY := Lib.hid (HY.out.below hb); replace Hx := Lib.hid (Hx.out.below hb); replace Vx := Lib.hid (Vx.out.below hb); replace Hy := Lib.hid (Hy.out.below hb); replace Vy := Lib.hid (Vy.out.below hb); replace HB := Lib.hid (HB.out.trans (hb.mono HB.out.size)); clear hb))
    clear H8
    go_upto_region 16 with fail
    have hb : Below v9.heap.size v9 v9.drew := below_drewN (Below.refl _ _) 1
    replace HX := Lib.hid (HX.out.below hb)
    replace HY := Lib.hid (HY.out.below hb)
    replace Hx := Lib.hid (Hx.out.below hb)
    replace Vx := Lib.hid (Vx.out.below hb)
    replace Hy := Lib.hid (Hy.out.below hb)
    replace Vy := Lib.hid (Vy.out.below hb)
    replace HB := Lib.hid (HB.out.trans (hb.mono HB.out.size))
    clear hb
    go_region_held3 (fun W => W.cell? ⟨v1.heap.size, 0, none⟩ = some (.int .i64 u1.number) ∧ W.cell? ⟨v1.heap.size, 1, none⟩ = some (.slice a1y u1.bytes.length c1y) ∧ W.cell? ⟨v1.heap.size, 2, none⟩ = some (.slice a2y u1.items.length c2y) ∧ W.cell? ⟨w.heap.size + 1, 0, none⟩ = some (.int .i64 u1.number) ∧ W.cell? ⟨w.heap.size + 1, 1, none⟩ = some (.slice a1b u1.bytes.length c1b) ∧ W.cell? ⟨w.heap.size + 1, 2, none⟩ = some (.slice a2b u1.items.length c2b)) (exact ⟨(Vy.out 0 _ rfl).1, (Vy.out 1 _ rfl).1, (Vy.out 2 _ rfl).1, (HY.out 0 _ rfl).1, (HY.out 1 _ rfl).1, (HY.out 2 _ rfl).1⟩) (first | (go_at_call 25; refine (to_value g1 u1 _ _ (HR1.out.below HB.out) HS1.out).mono ?_; rintro e v8 ⟨xs, bl, rfl, ho, _, hb⟩; have H8 := Lib.hid ho; obtain ⟨a18, c18, a28, c28, rfl⟩ := ho.cells; clear ho; replace HX := Lib.hid (HX.out.below hb); replace HY := Lib.hid (HY.out.below hb); replace Hx := Lib.hid (Hx.out.below hb); replace Vx := Lib.hid (Vx.out.below hb); replace Hy := Lib.hid (Hy.out.below hb); replace Vy := Lib.hid (Vy.out.below hb); replace HB := Lib.hid (HB.out.trans (hb.mono HB.out.size)); clear hb) | (go_at_call 27; refine (eq_value g1 g1 u1 _ _ _ Hy.out.is H8.out.is HS1.out).mono ?_; rintro e v9 ⟨rfl, hb⟩; replace HX := Lib.hid (HX.out.below hb); replace HY := Lib.hid (HY.out.below hb); replace Hx := Lib.hid (Hx.out.below hb); replace Vx := Lib.hid (Vx.out.below hb); replace Hy := Lib.hid (Hy.out.below hb); replace Vy := Lib.hid (Vy.out.below hb); replace HB := Lib.hid (HB.out.trans (hb.mono HB.out.size)); clear hb))
    all_goals (go_wp2; go_ret; exact ⟨rfl, HB.out⟩)
theorem walk (g0 : Nat) (u0 : ValueV) (cs0 : List Value) (g1 : Nat) (u1 : ValueV) (cs1 : List Value) (w : World) (r0 : IsVal g0 u0 cs0 w) (f0 : fitV u0) (_ : intV u0) (r1 : IsVal g1 u1 cs1 w) (f1 : fitV u1) (_ : intV u1) :
    Calls Try.prog 9 #[.agg cs0.toArray, .agg cs1.toArray] w fun e w' => e = .returned (.bool true) ∧ Below w.heap.size w w' := by
  by_cases h0 : 1048576 < sizV u0
  · exact walk_large0 g0 u0 cs0 g1 u1 cs1 w r0 f0 r1 f1 h0
  by_cases h : 1048576 < sizV u0 + sizV u1
  · exact walk_large1 g0 u0 cs0 g1 u1 cs1 w r0 f0 r1 f1 (by omega) h
  exact walk_short g0 u0 cs0 g1 u1 cs1 w r0 f0 r1 f1 (by omega) (by omega)
set_option maxRecDepth 100000 in
theorem lifted (os : Os) (started : os.Started) (H : Type) (enc : TypeId × Value → H) :
    ReturnsInHanded {} Try.checked os 9 .any (Rows.fnExactEqualValuesSpec.pre6 enc Try.prog Try.f9 Rows.fnExactEqualValuesRow.domain false) (Rows.fnExactEqualValuesSpec.post enc Try.prog Try.f9 false true false false) := by
  refine returnsInHanded_of_change (C := Try.checked) own started (by kernel_rfl) Try.func9
    (ChangeSpec.witness6 (enc := enc) (C := Try.checked) false ⟨#[], #[.agg #[.int .i64 0, .slice none 0 0, .slice none 0 0], .agg #[.int .i64 0, .slice none 0 0, .slice none 0 0]], []⟩ 8 (by kernel_rfl) (by kernel_rfl) (by kernel_rfl) (by kernel_rfl)) ?_
  intro W base args ds gs before hval0 hW hcnd _
  have hval : ∀ (j : Nat) t v, Try.f9.params[j]? = some t → args[j]? = some v → Value.okWide Try.prog W .any base t v := hval0
  have hW' := hW
  obtain ⟨p, q, hA0, hV, rfl, hfz, hnd⟩ := hW
  have hA : DataW.TrodAll enc Try.prog W 0 (fun _ => true) true Try.f9.params.toList args.toList ds p := hA0
  rw [Try.params9] at hA hval
  obtain ⟨v0, vs0, d0, ds0, p0, q0, hargs, rfl, rfl, h0, r0⟩ := trodAll_cons hA
  obtain ⟨v1, vs1, d1, ds1, p1, q1, rfl, rfl, rfl, h1, r1⟩ := trodAll_cons r0
  obtain ⟨rfl, rfl, rfl⟩ := trodAll_nil r1
  obtain rfl : args = #[v0, v1] := by cases args; simp_all
  obtain ⟨rfl, rfl⟩ := trodVars_none hV
  simp only [List.append_nil] at hW'
  have hlt : ∀ x ∈ p0 ++ p1, x.block < W.heap.size := fun x hx => hW'.lt x (by simpa using hx)
  obtain ⟨g0, u0, cs0, rfl, hb0, hf0, hi0⟩ := value_arg (hval 0 43 v0 rfl rfl) h0
  have m0 : ∀ (W' : World), Below W.heap.size W W' → DataW.Trod enc Try.prog W' 0 (fun b => decide (b < W.heap.size)) true 43 (.agg cs0.toArray) d0 p0 := fun W' hn => Below.trod laidOut (by kernel_rfl) (of_decide_eq_true (by kernel_rfl)) h0 hn (fun x hx => hlt x (by simp [hx]))
  obtain ⟨g1, u1, cs1, rfl, hb1, hf1, hi1⟩ := value_arg (hval 1 43 v1 rfl rfl) h1
  have m1 : ∀ (W' : World), Below W.heap.size W W' → DataW.Trod enc Try.prog W' 0 (fun b => decide (b < W.heap.size)) true 43 (.agg cs1.toArray) d1 p1 := fun W' hn => Below.trod laidOut (by kernel_rfl) (of_decide_eq_true (by kernel_rfl)) h1 hn (fun x hx => hlt x (by simp [hx]))
  clear hA0 hval0
  refine (walk g0 u0 cs0 g1 u1 cs1 W hb0 hf0 hi0 hb1 hf1 hi1).mono fun e W' ⟨he, hb⟩ => ?_
  subst he
  exact ⟨_, rfl, _, _, _, [], _, [], hW', trodAll_cons_mk (shut_bool Try.underlying4 _) trodAll_mk0, (trodAll_cons_mk (m0 _ hb) (trodAll_cons_mk (m1 _ hb) trodAll_mk0)), rfl, hb.frame _, fun h => by cases h⟩
theorem closed : joinedFacts Try.prog 9 Try.f9 Rows.fnExactEqualValuesSpec Rows.fnExactEqualValuesRow = true := by
  unfold joinedFacts
  rw [may_enter, lifts_final, make_is]
  kernel_rfl
theorem over : Rows.fnExactEqualValuesRow.holds Try.pinned (OpenSpec.ofChange Rows.fnExactEqualValuesSpec) :=
  OpenClaim.holds_of_wide 9 Try.f9 rfl rfl rfl rfl rfl rfl rfl ⟨rfl, rfl, rfl, rfl, rfl⟩ rfl rfl rfl rfl rfl (by kernel_rfl) Try.func9 closed
    (of_decide_eq_true (by kernel_rfl)) (by unfold Func.isWrapper; first | (rw [if_pos (by decide +kernel)]; kernel_rfl) | (rw [if_neg (by decide +kernel)]; exact ⟨rfl, rfl⟩))
    (fun os started H enc _ => lifted os started H enc)
/-- THE STATEMENT -/
theorem proved : Rows.FnExactEqualValuesSaid := over
end fnExactEqualValues
#print axioms fnExactEqualValues.proved
end Go.Proofs.Ytdbpjaeekhgfgaa
