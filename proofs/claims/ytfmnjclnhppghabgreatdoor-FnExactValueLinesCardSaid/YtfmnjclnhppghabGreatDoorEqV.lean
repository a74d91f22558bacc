/- Contracts of the laws' comparisons of values, where both are the same. -/
import Derived.Test.YtfmnjclnhppghabGreatDoorValSz
import Derived.Deep.RegionHeld3
import Derived.Deep.CutRange
namespace Go.Proofs.YtfmnjclnhppghabGreatDoor
open Go Go.RowKit
/-- What eqValueS promises of items of a height. -/
def EqLC (n m : Nat) : Prop := ∀ (a b : Option Addr) (vs : List ValueV) (ca cb : Nat) (w : World), ItemsAt n a vs w → ItemsAt m b vs w → vs.length + sizL vs ≤ 1048576 →
  Calls Tryz.prog 30 #[.slice a vs.length ca, .slice b vs.length cb] w fun e w' => e = .returned (.bool true) ∧ Below w.heap.size w w'
def EqVC (n m : Nat) : Prop := ∀ (v : ValueV) (cs cs' : List Value) (w : World), IsVal n v cs w → IsVal m v cs' w → sizV v ≤ 1048576 →
  Calls Tryz.prog 12 #[.agg cs.toArray, .agg cs'.toArray] w fun e w' => e = .returned (.bool true) ∧ Below w.heap.size w w'
set_option maxRecDepth 100000 in
set_option maxHeartbeats 4000000 in
theorem eqv_step (n m : Nat) (ih : EqLC n m) : EqVC (n + 1) (m + 1) := by
  intro v cs cs' w hv hv' hs
  obtain ⟨ab, cb, ai, ci, rfl, hrb, hit⟩ := hv.open
  obtain ⟨ab2, cb2, ai2, ci2, rfl, hrb2, hit2⟩ := hv'.open
  have hsz := sizV_eq v
  obtain ⟨w0, hw0⟩ : ∃ w0, w0 = (w.alloc (.cells #[.int .i64 v.number, .slice ab v.bytes.length cb, .slice ai v.items.length ci] 39)).alloc (.cells #[.int .i64 v.number, .slice ab2 v.bytes.length cb2, .slice ai2 v.items.length ci2] 39) := ⟨_, rfl⟩
  have hB : Below w.heap.size w w0 := by subst hw0; exact ((Below.refl _ w).alloc (Nat.le_refl _) _).alloc (by simp) _
  have hX : CellsAt w.heap.size [.int .i64 v.number, .slice ab v.bytes.length cb, .slice ai v.items.length ci] w0 := by subst hw0; exact (CellsAt.new w _ _).below ((Below.refl _ _).alloc (Nat.le_refl _) _)
  have hY : CellsAt (w.heap.size + 1) [.int .i64 v.number, .slice ab2 v.bytes.length cb2, .slice ai2 v.items.length ci2] w0 := by subst hw0; have h1 := CellsAt.new (w.alloc (.cells #[.int .i64 v.number, .slice ab v.bytes.length cb, .slice ai v.items.length ci] 39)) [.int .i64 v.number, .slice ab2 v.bytes.length cb2, .slice ai2 v.items.length ci2] 39; rw [World.size_alloc] at h1; exact h1
  have HX := Lib.hid hX
  have HY := Lib.hid hY
  have HB := Lib.hid hB
  have HR1 := Lib.hid hrb.1
  have HR2 := Lib.hid hrb2.1
  have HI1 := Lib.hid hit
  have HI2 := Lib.hid hit2
  have HIH := Lib.hid ih
  have hbl : v.bytes.length ≤ 1048576 := by omega
  have HNV : Hid (v.items.length + sizL v.items ≤ 1048576) := by show _ ≤ _; omega
  have hW := Lib.hid hw0
  clear hX hY hB hrb hrb2 hit hit2 ih hv hv' hs hsz hw0
  go_enter Tryz.func12, Tryz.ntmps12
  go_upto_region 1 with fail
  rw [← hW.out]
  clear hW
  have x0 := (HX.out 0 _ rfl).1
  have x1 := (HX.out 1 _ rfl).1
  have y0 := (HY.out 0 _ rfl).1
  have y1 := (HY.out 1 _ rfl).1
  have e0 : (v.number != v.number) = false := by simp
  go_wp2_with fail
  refine (eq_any ab ab2 v.bytes v.bytes cb cb2 _ (by omega) (HR1.out.below HB.out) (HR2.out.below HB.out)).mono ?_
  rintro e w1 ⟨rfl, k1, rfl⟩
  rw [decide_eq_true rfl]
  have hd : Below w0.heap.size w0 (w0.drewN k1) := below_drewN (Below.refl _ _) k1
  have HB1 := Lib.hid (HB.out.trans (hd.mono HB.out.size))
  have HX1 := Lib.hid (HX.out.below hd)
  have HY1 := Lib.hid (HY.out.below hd)
  clear x0 x1 y0 y1 e0
  generalize w0.drewN k1 = w1 at hd HB1 HX1 HY1 ⊢
  have x2 := (HX1.out 2 _ rfl).1
  have y2 := (HY1.out 2 _ rfl).1
  clear hd
  go_wp2_with fail
  refine (HIH.out ai ai2 v.items ci ci2 w1 (HI1.out.below HB1.out) (HI2.out.below HB1.out) HNV.out).mono ?_
  rintro e w2 ⟨rfl, hb2⟩
  have HB2 := Lib.hid (HB1.out.trans (hb2.mono HB1.out.size))
  clear hb2 x2 y2
  go_wp2
  go_ret
  exact ⟨rfl, HB2.out⟩
set_option maxRecDepth 100000 in
set_option maxHeartbeats 4000000 in
theorem eql_step (n m : Nat) (ih : EqVC n m) : EqLC n m := by
  intro a b vs ca cb w ha hb hs
  have HA := Lib.hid ha
  have HB := Lib.hid hb
  have HIH := Lib.hid ih
  have HS := Lib.hid hs
  have hl : vs.length ≤ 1048576 := by omega
  have HB0 := Lib.hid (Below.refl w.heap.size w)
  have e0 : ((vs.length : Int) != (vs.length : Int)) = false := by simp
  clear ha hb ih hs
  go_enter Tryz.func30, Tryz.ntmps30
  go_wp2
  clear e0
  go_loopw [5] (fun i W => ∃ k : Nat, k ≤ vs.length ∧ i = .int .i64 k ∧ Hid (Below w.heap.size w W)) (fun i _ => vs.length - (intOf i).toNat)
  case atStart => exact ⟨0, Nat.zero_le _, rfl, HB0⟩
  case round =>
    clear HB0
    obtain ⟨k, hk, rfl, hbw⟩ := hrel
    have k0 : (0 : Int) ≤ (k : Int) := by omega
    by_cases hlt : k < vs.length
    · have k1 : (k : Int) < (vs.length : Int) := by omega
      obtain ⟨b1, off1, cs1, rfl, hiv1, hc1⟩ := HA.out k hlt
      obtain ⟨b2, off2, cs2, rfl, hiv2, hc2⟩ := HB.out k hlt
      obtain ⟨a1, c1, a2, c2, rfl⟩ := hiv1.three
      obtain ⟨a3, c3, a4, c4, rfl⟩ := hiv2.three
      have H6 : Hid (∀ W, Below w.heap.size w W → W.cell? ⟨b1, off1 + k * 3, none⟩ = some (.int .i64 vs[k].number) ∧ W.cell? ⟨b1, off1 + k * 3 + 1, none⟩ = some (.slice a1 vs[k].bytes.length c1) ∧ W.cell? ⟨b1, off1 + k * 3 + 2, none⟩ = some (.slice a2 vs[k].items.length c2) ∧ W.cell? ⟨b2, off2 + k * 3, none⟩ = some (.int .i64 vs[k].number) ∧ W.cell? ⟨b2, off2 + k * 3 + 1, none⟩ = some (.slice a3 vs[k].bytes.length c3) ∧ W.cell? ⟨b2, off2 + k * 3 + 2, none⟩ = some (.slice a4 vs[k].items.length c4)) :=
        fun W h => ⟨cell_keepV h (hc1 0 _ rfl), cell_keepV h (hc1 1 _ rfl), cell_keepV h (hc1 2 _ rfl), cell_keepV h (hc2 0 _ rfl), cell_keepV h (hc2 1 _ rfl), cell_keepV h (hc2 2 _ rfl)⟩
      have HV1 := Lib.hid hiv1
      have HV2 := Lib.hid hiv2
      have hsz : Hid (sizV vs[k] ≤ 1048576) := by show _ ≤ _; have := sizL_at hlt; have := HS.out; omega
      clear hc1 hc2 hiv1 hiv2
      generalize vs[k] = v at H6 HV1 HV2 hsz
      go_upto_region 6 with fail
      replace hbw := Lib.hid (below_drewN hbw.out 1)
      go_region_held3 (fun W => W.cell? ⟨b1, off1 + k * 3, none⟩ = some (.int .i64 v.number) ∧ W.cell? ⟨b1, off1 + k * 3 + 1, none⟩ = some (.slice a1 v.bytes.length c1) ∧ W.cell? ⟨b1, off1 + k * 3 + 2, none⟩ = some (.slice a2 v.items.length c2) ∧ W.cell? ⟨b2, off2 + k * 3, none⟩ = some (.int .i64 v.number) ∧ W.cell? ⟨b2, off2 + k * 3 + 1, none⟩ = some (.slice a3 v.bytes.length c3) ∧ W.cell? ⟨b2, off2 + k * 3 + 2, none⟩ = some (.slice a4 v.items.length c4)) (exact H6.out _ hbw.out) (first | (go_at_call 12; refine (HIH.out v _ _ _ (HV1.out.below hbw.out) (HV2.out.below hbw.out) hsz.out).mono ?_; rintro e w2 ⟨rfl, hb2⟩; replace hbw := Lib.hid (hbw.out.trans (hb2.mono hbw.out.size)); clear hb2))
      clear H6 HV1 HV2 hsz
      go_wp2
      go_roundw
      case rel => exact ⟨k + 1, by omega, by go_num, hbw⟩
      case measure => simp [intOf]; omega
    · have k1 : ¬ (k : Int) < (vs.length : Int) := by omega
      go_wp2
      go_ret
      exact ⟨rfl, hbw.out⟩
theorem eqv_all : ∀ n m, EqVC n m
  | 0, _ => fun _ _ _ _ h => h.elim
  | _ + 1, 0 => fun _ _ _ _ _ h => h.elim
  | n + 1, m + 1 => eqv_step n m (eql_step n m (eqv_all n m))
/-- eqValue of two that hold the same. -/
theorem eq_value (n m : Nat) (v : ValueV) (cs cs' : List Value) (w : World) (h : IsVal n v cs w) (h' : IsVal m v cs' w) (hs : sizV v ≤ 1048576) :
    Calls Tryz.prog 12 #[.agg cs.toArray, .agg cs'.toArray] w fun e w' => e = .returned (.bool true) ∧ Below w.heap.size w w' := eqv_all n m v cs cs' w h h' hs
end Go.Proofs.YtfmnjclnhppghabGreatDoor
