/- It is proved that the law FnExactValueLines returns true at every input of its parameter types and leaves its arguments as they were (statement Rows.FnExactValueLinesCardSaid), under no condition beyond the card's own: the three listed tables of the library read as its text lays them. -/
import Derived.Test.YtfmnjclnhppghabGreatDoorVLines
import Derived.Test.YtfmnjclnhppghabGreatDoorFacts
import Derived.Test.YtfmnjclnhppghabGreatDoorGMk
import Derived.Test.YtfmnjclnhppghabGreatDoorMarkV
import Derived.Test.YtfmnjclnhppghabGreatDoorGSz
import Derived.Test.YtfmnjclnhppghabGreatDoorArgV
import Derived.Test.YtfmnjclnhppghabGreatDoorEqV
import Derived.Test.YtfmnjclnhppghabGreatDoorToV
import Derived.Deep.RegionHeld3
import Derived.Deep.CutRange
import Derived.Test.YtfmnjclnhppghabGreatDoorCards
import Derived.Test.YtfmnjclnhppghabGreatDoorTie
import Derived.SevenTiedAt
namespace Go.Proofs.YtfmnjclnhppghabGreatDoor
open Go Go.ChangeShapes Go.WideShapes Go.ChangeAt Go.RowKit
namespace fnExactValueLines
theorem sumW_small (rs : List RuleV) : ∀ k, k ≤ rs.length → sumW rs k ≤ 4 * k + sumR rs k
  | 0, _ => by simp [sumW]
  | k + 1, h => by
    have ih := sumW_small rs k (by omega)
    have h1 := sumW_next rs k (by omega)
    have h2 := sumR_next rs k (by omega)
    rw [h1, h2]
    unfold widthR ruleSize sizeS
    omega
theorem sumW_of {rs : List RuleV} (h : sizeR rs ≤ 1048576) : 1 + sumW rs rs.length ≤ 1073741824 := by
  have h1 := sumW_small rs rs.length (Nat.le_refl _)
  unfold sizeR at h
  omega
theorem row_apart {α : Type} {f : α → Value} {lo hi B : Nat} {a : Option Addr} {xs : List α} {cap : Nat} {w w' : World} (h : RowF f B a xs cap w) (ha : Apart lo hi w w') (hB : hi ≤ B) : RowF f B a xs cap w' := by
  refine ⟨?_, h.2⟩
  rcases h.1 with e | ⟨b, off, e, hb, hc⟩
  · exact .inl e
  · exact h.1.apart ha fun b' off' e' _ => by
      rw [e] at e'
      injection e' with e'
      injection e' with e1
      omega
theorem only_apart {lo hi : Nat} {w w' : World} (h : Apart lo hi w w') : Only (List.range hi) w w' :=
  ⟨h.os, h.tape, h.output, h.size, fun k hk hn => h.block k hk (.inr (by rw [List.mem_range] at hn; omega))⟩
theorem row_only {α : Type} {f : α → Value} {B : Nat} {a : Option Addr} {xs : List α} {cap : Nat} {bl : List Nat} {w w' : World} (h : RowF f B a xs cap w) (g : Only bl w w') (hb : ∀ b ∈ bl, b < B) : RowF f B a xs cap w' := by
  refine ⟨?_, h.2⟩
  rcases h.1 with e | ⟨b, off, e, hB, hc⟩
  · exact .inl e
  · exact .inr ⟨b, off, e, hB, fun j hj => g.cell (fun hm => by have := hb b hm; omega) (hc j hj)⟩
theorem cells_only {b : Nat} {vs : List Value} {bl : List Nat} {w w' : World} (h : CellsAt b vs w) (g : Only bl w w') (hn : b ∉ bl) : CellsAt b vs w' := fun i u hu => g.cell hn (h i u hu)
theorem cells_touch {b B n : Nat} {vs : List Value} {a : Option Addr} {w w' : World} (h : CellsAt b vs w) (ht : Touch B a n w w') (hb : b < B) : CellsAt b vs w' := by
  rcases ht with rfl | ⟨_, c, off, _, hc, hg⟩
  · exact h
  · exact h.grown hg fun e => by injection e with e; omega
set_option maxRecDepth 100000 in
theorem walk_large0 (a0 : Option Addr) (rs0 : List RuleV) (cap0 : Nat) (n1 : Int) (g2 : Nat) (u2 : ValueV) (cs2 : List Value) (w : World) (r0 : ArgD a0 rs0 cap0 w) (r2 : IsVal g2 u2 cs2 w) (f2 : fitV u2) (h : 1048576 < sizeR rs0) :
    Calls Tryz.prog 3 #[.agg #[.slice a0 rs0.length cap0], .int .i64 n1, .agg cs2.toArray] w fun e w' => e = .returned (.bool true) ∧ Below w.heap.size w w' := by
  obtain ⟨hrd, hlc, hfit, -⟩ := r0
  obtain ⟨a1b, c1b, a2b, c2b, rfl⟩ := r2.three
  obtain ⟨w0, hw0⟩ : ∃ w0, w0 = (w.alloc (.cells #[.slice a0 rs0.length cap0] 24)).alloc (.cells #[.int .i64 u2.number, .slice a1b u2.bytes.length c1b, .slice a2b u2.items.length c2b] 28) := ⟨_, rfl⟩
  have hB0 : Below w.heap.size w w0 := by subst hw0; exact ((Below.refl _ _).alloc (Nat.le_refl _) _).alloc (by simp) _
  have hX0 : CellsAt w.heap.size [.slice a0 rs0.length cap0] w0 := by subst hw0; exact (CellsAt.new w _ _).below ((Below.refl _ _).alloc (Nat.le_refl _) _)
  have hY0 : CellsAt (w.heap.size + 1) [.int .i64 u2.number, .slice a1b u2.bytes.length c1b, .slice a2b u2.items.length c2b] w0 := by subst hw0; have h1 := CellsAt.new (w.alloc (.cells #[.slice a0 rs0.length cap0] 24)) [.int .i64 u2.number, .slice a1b u2.bytes.length c1b, .slice a2b u2.items.length c2b] 28; rw [World.size_alloc] at h1; exact h1
  have HB := Lib.hid hB0
  have HX := Lib.hid hX0
  have HY := Lib.hid hY0
  have HR0 := Lib.hid hrd
  have HF0 := Lib.hid hfit
  have HR2 := Lib.hid r2
  have HF2 := Lib.hid f2
  have HW0 := Lib.hid hw0
  clear hB0 hX0 hY0 hrd hfit r2 f2 hw0
  go_enter Tryz.func3, Tryz.ntmps3
  go_upto_region 1 with fail
  rw [← HW0.out]
  clear HW0
  have b0 := (HX.out 0 _ rfl).1
  go_wp2_with fail
  refine (sz_descr0 a0 rs0 cap0 _ (by omega) HF0.out (HR0.out.below HB.out)).mono ?_
  rintro e w1 ⟨rfl, hb⟩
  replace HX := Lib.hid (HX.out.below hb)
  replace HY := Lib.hid (HY.out.below hb)
  replace HB := Lib.hid (HB.out.trans (hb.mono HB.out.size))
  clear hb
  clear b0
  rw [leftN_no h]
  go_wp2
  go_ret
  exact ⟨rfl, HB.out⟩
set_option maxRecDepth 100000 in
theorem walk_large1 (a0 : Option Addr) (rs0 : List RuleV) (cap0 : Nat) (n1 : Int) (g2 : Nat) (u2 : ValueV) (cs2 : List Value) (w : World) (r0 : ArgD a0 rs0 cap0 w) (r2 : IsVal g2 u2 cs2 w) (f2 : fitV u2) (h0 : sizeR rs0 ≤ 1048576) (h : 1048576 < sizeR rs0 + sizV u2) :
    Calls Tryz.prog 3 #[.agg #[.slice a0 rs0.length cap0], .int .i64 n1, .agg cs2.toArray] w fun e w' => e = .returned (.bool true) ∧ Below w.heap.size w w' := by
  obtain ⟨hrd, hlc, hfit, -⟩ := r0
  obtain ⟨a1b, c1b, a2b, c2b, rfl⟩ := r2.three
  obtain ⟨w0, hw0⟩ : ∃ w0, w0 = (w.alloc (.cells #[.slice a0 rs0.length cap0] 24)).alloc (.cells #[.int .i64 u2.number, .slice a1b u2.bytes.length c1b, .slice a2b u2.items.length c2b] 28) := ⟨_, rfl⟩
  have hB0 : Below w.heap.size w w0 := by subst hw0; exact ((Below.refl _ _).alloc (Nat.le_refl _) _).alloc (by simp) _
  have hX0 : CellsAt w.heap.size [.slice a0 rs0.length cap0] w0 := by subst hw0; exact (CellsAt.new w _ _).below ((Below.refl _ _).alloc (Nat.le_refl _) _)
  have hY0 : CellsAt (w.heap.size + 1) [.int .i64 u2.number, .slice a1b u2.bytes.length c1b, .slice a2b u2.items.length c2b] w0 := by subst hw0; have h1 := CellsAt.new (w.alloc (.cells #[.slice a0 rs0.length cap0] 24)) [.int .i64 u2.number, .slice a1b u2.bytes.length c1b, .slice a2b u2.items.length c2b] 28; rw [World.size_alloc] at h1; exact h1
  have HB := Lib.hid hB0
  have HX := Lib.hid hX0
  have HY := Lib.hid hY0
  have HR0 := Lib.hid hrd
  have HF0 := Lib.hid hfit
  have HR2 := Lib.hid r2
  have HF2 := Lib.hid f2
  have HW0 := Lib.hid hw0
  clear hB0 hX0 hY0 hrd hfit r2 f2 hw0
  go_enter Tryz.func3, Tryz.ntmps3
  go_upto_region 1 with fail
  rw [← HW0.out]
  clear HW0
  have b0 := (HX.out 0 _ rfl).1
  go_wp2_with fail
  refine (sz_descr0 a0 rs0 cap0 _ (by omega) HF0.out (HR0.out.below HB.out)).mono ?_
  rintro e w1 ⟨rfl, hb⟩
  replace HX := Lib.hid (HX.out.below hb)
  replace HY := Lib.hid (HY.out.below hb)
  replace HB := Lib.hid (HB.out.trans (hb.mono HB.out.size))
  clear hb
  clear b0
  rw [leftN_yes h0]
  obtain ⟨q, hq⟩ : ∃ q, q = 1048576 - sizeR rs0 := ⟨_, rfl⟩
  rw [← hq]
  have hq1 : q ≤ 1048576 := by omega
  have HQ := Lib.hid hq
  clear hq
  have b0 := (HY.out 0 _ rfl).1
  have b1 := (HY.out 1 _ rfl).1
  have b2 := (HY.out 2 _ rfl).1
  go_wp2_with fail
  refine (sz_value g2 u2 _ q _ (HR2.out.below HB.out) hq1 HF2.out).mono ?_
  rintro e w2 ⟨rfl, hb⟩
  replace HX := Lib.hid (HX.out.below hb)
  replace HY := Lib.hid (HY.out.below hb)
  replace HB := Lib.hid (HB.out.trans (hb.mono HB.out.size))
  clear hb
  clear b0 b1 b2
  rw [leftN_no (by have := HQ.out; omega)]
  go_wp2
  go_ret
  exact ⟨rfl, HB.out⟩
set_option maxRecDepth 100000 in
set_option maxHeartbeats 8000000 in
theorem walk_short (a0 : Option Addr) (rs0 : List RuleV) (cap0 : Nat) (n1 : Int) (g2 : Nat) (u2 : ValueV) (cs2 : List Value) (w : World) (r0 : ArgD a0 rs0 cap0 w) (r2 : IsVal g2 u2 cs2 w) (f2 : fitV u2) (h0 : sizeR rs0 ≤ 1048576) (h : sizeR rs0 + sizV u2 ≤ 1048576) (htab : PowTab w) :
    Calls Tryz.prog 3 #[.agg #[.slice a0 rs0.length cap0], .int .i64 n1, .agg cs2.toArray] w fun e w' => e = .returned (.bool true) ∧ Below w.heap.size w w' := by
  have HTAB := Lib.hid htab
  clear htab
  have hlen : rs0.length ≤ 1048576 := by unfold sizeR at h; omega
  have HS := Lib.hid (short_of h0)
  have HP := Lib.hid (spelt_of h0)
  have HSV : Hid (sizV u2 ≤ 1048576) := by show _ ≤ _; omega
  have HSW1 := Lib.hid (sumW_of h0)
  obtain ⟨hrd, hlc, hfit, -⟩ := r0
  obtain ⟨a1b, c1b, a2b, c2b, rfl⟩ := r2.three
  obtain ⟨w0, hw0⟩ : ∃ w0, w0 = (w.alloc (.cells #[.slice a0 rs0.length cap0] 24)).alloc (.cells #[.int .i64 u2.number, .slice a1b u2.bytes.length c1b, .slice a2b u2.items.length c2b] 28) := ⟨_, rfl⟩
  have hB0 : Below w.heap.size w w0 := by subst hw0; exact ((Below.refl _ _).alloc (Nat.le_refl _) _).alloc (by simp) _
  have hX0 : CellsAt w.heap.size [.slice a0 rs0.length cap0] w0 := by subst hw0; exact (CellsAt.new w _ _).below ((Below.refl _ _).alloc (Nat.le_refl _) _)
  have hY0 : CellsAt (w.heap.size + 1) [.int .i64 u2.number, .slice a1b u2.bytes.length c1b, .slice a2b u2.items.length c2b] w0 := by subst hw0; have h1 := CellsAt.new (w.alloc (.cells #[.slice a0 rs0.length cap0] 24)) [.int .i64 u2.number, .slice a1b u2.bytes.length c1b, .slice a2b u2.items.length c2b] 28; rw [World.size_alloc] at h1; exact h1
  have HB := Lib.hid hB0
  have HX := Lib.hid hX0
  have HY := Lib.hid hY0
  have HR0 := Lib.hid hrd
  have HF0 := Lib.hid hfit
  have HR2 := Lib.hid r2
  have HF2 := Lib.hid f2
  have HW0 := Lib.hid hw0
  clear hB0 hX0 hY0 hrd hfit r2 f2 hw0
  go_enter Tryz.func3, Tryz.ntmps3
  go_upto_region 1 with fail
  rw [← HW0.out]
  clear HW0
  have b0 := (HX.out 0 _ rfl).1
  go_wp2_with fail
  refine (sz_descr0 a0 rs0 cap0 _ (by omega) HF0.out (HR0.out.below HB.out)).mono ?_
  rintro e w1 ⟨rfl, hb⟩
  replace HX := Lib.hid (HX.out.below hb)
  replace HY := Lib.hid (HY.out.below hb)
  replace HB := Lib.hid (HB.out.trans (hb.mono HB.out.size))
  clear hb
  clear b0
  rw [leftN_yes h0]
  obtain ⟨q, hq⟩ : ∃ q, q = 1048576 - sizeR rs0 := ⟨_, rfl⟩
  rw [← hq]
  have hq1 : q ≤ 1048576 := by omega
  have HQ := Lib.hid hq
  clear hq
  have b0 := (HY.out 0 _ rfl).1
  have b1 := (HY.out 1 _ rfl).1
  have b2 := (HY.out 2 _ rfl).1
  go_wp2_with fail
  refine (sz_value g2 u2 _ q _ (HR2.out.below HB.out) hq1 HF2.out).mono ?_
  rintro e w2 ⟨rfl, hb⟩
  replace HX := Lib.hid (HX.out.below hb)
  replace HY := Lib.hid (HY.out.below hb)
  replace HB := Lib.hid (HB.out.trans (hb.mono HB.out.size))
  clear hb
  clear b0 b1 b2
  rw [leftN_yes (by have := HQ.out; omega)]
  obtain ⟨q2, hq2⟩ : ∃ q2, q2 = q - sizV u2 := ⟨_, rfl⟩
  rw [← hq2]
  have hq3 : q2 ≤ 1048576 := by omega
  clear hq2 h h0 HQ hq1
  obtain ⟨NS, hNS⟩ : ∃ NS, NS = linesV rs0 n1 u2 := ⟨_, rfl⟩
  have hnl : NS.length ≤ 1048576 := by rw [hNS]; exact linesV_len _ _ _ (by have h1 := sizV_eq u2; have h2 := HSV.out; omega)
  have HNS := Lib.hid hNS
  clear hNS
  obtain ⟨T, hT⟩ : ∃ T, T = 1 + sumW rs0 rs0.length := ⟨_, rfl⟩
  have HT := Lib.hid hT
  have hT1 : T ≤ 1073741824 := by rw [hT]; exact HSW1.out
  have hwd : widV u2 ≤ 1048576 := by have h1 := wid_siz u2; have h2 := HSV.out; omega
  obtain ⟨T2, hT2⟩ : ∃ T2, T2 = T + widV u2 := ⟨_, rfl⟩
  have HT2 := Lib.hid hT2
  have hT3 : ¬ ((T2 : Int) < 0) := by omega
  have hTW : T + widV u2 ≤ 1099511627776 := by omega
  have HTW := Lib.hid hTW
  clear hT hT2 hwd hTW
  obtain ⟨M, hM⟩ : ∃ M, M = 1 + NS.length := ⟨_, rfl⟩
  have HM := Lib.hid hM
  have hM0 : ¬ ((M : Int) < 0) := by omega
  clear hM
  go_upto_region 8 with fail
  go_cut [8] from 22 to 27 (fun s wx => (∃ xw cw, s = .slice xw NS.length cw ∧ Hid (RdS xw NS wx)) ∧ Hid (Below w.heap.size w wx) ∧ Hid (CellsAt w.heap.size [.slice a0 rs0.length cap0] wx) ∧ Hid (CellsAt (w.heap.size + 1) [.int .i64 u2.number, .slice a1b u2.bytes.length c1b, .slice a2b u2.items.length c2b] wx))
  case first =>
    have hb : Below w2.heap.size w2 w2.drew := below_drewN (Below.refl _ _) 1
    replace HX := Lib.hid (HX.out.below hb)
    replace HY := Lib.hid (HY.out.below hb)
    replace HB := Lib.hid (HB.out.trans (hb.mono HB.out.size))
    clear hb
    go_region_held3 (fun W => W.cell? ⟨w.heap.size, 0, none⟩ = some (.slice a0 rs0.length cap0) ∧ W.cell? ⟨w.heap.size + 1, 0, none⟩ = some (.int .i64 u2.number) ∧ W.cell? ⟨w.heap.size + 1, 1, none⟩ = some (.slice a1b u2.bytes.length c1b) ∧ W.cell? ⟨w.heap.size + 1, 2, none⟩ = some (.slice a2b u2.items.length c2b)) (exact ⟨(HX.out 0 _ rfl).1, (HY.out 0 _ rfl).1, (HY.out 1 _ rfl).1, (HY.out 2 _ rfl).1⟩) (first | (go_at_call 7; (with_reducible refine (to_descr a0 rs0 cap0 _ hlen HS.out (HR0.out.below HB.out)).mono ?_); rintro e v ⟨xs, ys, rfl, ho, hb⟩; have Hs := Lib.hid ho; clear ho; (try (replace Ht := Lib.hid (Ht.out.below hb))); replace HX := Lib.hid (HX.out.below hb); replace HY := Lib.hid (HY.out.below hb); replace HB := Lib.hid (HB.out.trans (hb.mono HB.out.size)); clear hb) | (go_at_call 8; (with_reducible refine (to_value g2 u2 _ _ (HR2.out.below HB.out) HSV.out).mono ?_); rintro e v ⟨xs, bl, rfl, ho, _, hb⟩; have Ht := Lib.hid ho; obtain ⟨a1t, c1t, a2t, c2t, rfl⟩ := ho.cells; clear ho; (try (replace Hs := Lib.hid (Hs.out.below hb))); replace HX := Lib.hid (HX.out.below hb); replace HY := Lib.hid (HY.out.below hb); replace HB := Lib.hid (HB.out.trans (hb.mono HB.out.size)); clear hb) | (go_at_call 6; refine (vlines_spec xs rs0 ys g2 n1 u2 _ _ hlen HS.out HP.out (fun h => fits_len (Hid.out HSV) h) Hs.out.rdc Ht.out.is).mono ?_; rintro e v ⟨xw, cw, rfl, hrw, hb⟩; rw [← HNS.out] at hrw ⊢; have HW := Lib.hid hrw.rd; clear hrw; replace HX := Lib.hid (HX.out.below hb); replace HY := Lib.hid (HY.out.below hb); replace HB := Lib.hid (HB.out.trans (hb.mono HB.out.size)); clear hb))
    all_goals (go_wp2_with fail; go_meet; exact ⟨⟨_, _, rfl, HW⟩, HB, HX, HY⟩)
  case rest =>
    clear HB HX HY
    obtain ⟨⟨xw, cw, rfl, HW⟩, HB, HX, HY⟩ := hcut
    have hwX : Hid (w.heap.size + 1 < (_ : Nat)) := cell_lt (HY.out 0 _ rfl).1
    have b0 := (HX.out 0 _ rfl).1
    go_wp2_with fail
    refine (to_descr a0 rs0 cap0 _ hlen HS.out (HR0.out.below HB.out)).mono ?_
    rintro e v0 ⟨xx, yx, rfl, ho, hb⟩
    have Hx := Lib.hid ho
    have HA := Lib.hid hb
    have hs0 := Lib.hid hb.size
    clear ho
    replace HX := Lib.hid (HX.out.below hb)
    replace HY := Lib.hid (HY.out.below hb)
    replace HB := Lib.hid (HB.out.trans (hb.mono HB.out.size))
    clear hb
    clear b0
    obtain ⟨z, hz⟩ : ∃ z, z = v0.alloc (.cells #[.slice xx rs0.length yx] 35) := ⟨_, rfl⟩
    have hb : Below v0.heap.size v0 z := by subst hz; exact (Below.refl _ _).alloc (Nat.le_refl _) _
    have hv : CellsAt v0.heap.size [.slice xx rs0.length yx] z := by subst hz; exact CellsAt.new v0 _ _
    have hn0 : Hid (z.heap.size = v0.heap.size + 1) := by subst hz; exact World.size_alloc _ _
    have Vx := Lib.hid hv
    have HZ := Lib.hid hz
    clear hv hz
    replace HX := Lib.hid (HX.out.below hb)
    replace HY := Lib.hid (HY.out.below hb)
    replace Hx := Lib.hid (Hx.out.below hb)
    replace HA := Lib.hid (HA.out.trans (hb.mono HA.out.size))
    replace HB := Lib.hid (HB.out.trans (hb.mono HB.out.size))
    clear hb
    go_upto_region 10 with fail
    rw [← HZ.out]
    clear HZ
    have b0 := (HY.out 0 _ rfl).1
    have b1 := (HY.out 1 _ rfl).1
    have b2 := (HY.out 2 _ rfl).1
    go_wp2_with fail
    refine (to_value g2 u2 _ _ (HR2.out.below HB.out) HSV.out).mono ?_
    rintro e v1 ⟨xs, bly, rfl, ho, hbly, hb⟩
    have Hy := Lib.hid ho
    have HBY : Hid (∀ b ∈ bly, z.heap.size ≤ b ∧ b < v1.heap.size) := fun b hb' => ⟨hbly b hb', ho.lt b hb'⟩
    have hs1 := Lib.hid hb.size
    obtain ⟨a1y, c1y, a2y, c2y, rfl⟩ := ho.cells
    clear ho hbly
    replace HX := Lib.hid (HX.out.below hb)
    replace HY := Lib.hid (HY.out.below hb)
    replace Hx := Lib.hid (Hx.out.below hb)
    replace Vx := Lib.hid (Vx.out.below hb)
    replace HA := Lib.hid (HA.out.trans (hb.mono HA.out.size))
    replace HB := Lib.hid (HB.out.trans (hb.mono HB.out.size))
    clear hb
    clear b0 b1 b2
    obtain ⟨z2, hz⟩ : ∃ z2, z2 = v1.alloc (.cells #[.int .i64 u2.number, .slice a1y u2.bytes.length c1y, .slice a2y u2.items.length c2y] 39) := ⟨_, rfl⟩
    have hb : Below v1.heap.size v1 z2 := by subst hz; exact (Below.refl _ _).alloc (Nat.le_refl _) _
    have hv : CellsAt v1.heap.size [.int .i64 u2.number, .slice a1y u2.bytes.length c1y, .slice a2y u2.items.length c2y] z2 := by subst hz; exact CellsAt.new v1 _ _
    have hn1 : Hid (z2.heap.size = v1.heap.size + 1) := by subst hz; exact World.size_alloc _ _
    have Vy := Lib.hid hv
    have HZ := Lib.hid hz
    clear hv hz
    replace HX := Lib.hid (HX.out.below hb)
    replace HY := Lib.hid (HY.out.below hb)
    replace Hx := Lib.hid (Hx.out.below hb)
    replace Vx := Lib.hid (Vx.out.below hb)
    replace Hy := Lib.hid (Hy.out.below hb)
    replace HA := Lib.hid (HA.out.trans (hb.mono HA.out.size))
    replace HB := Lib.hid (HB.out.trans (hb.mono HB.out.size))
    clear hb
    go_upto_region 11 with fail
    rw [← HZ.out]
    clear HZ
    have b0 := (Vx.out 0 _ rfl).1
    have d0 := (Vy.out 0 _ rfl).1
    have d1 := (Vy.out 1 _ rfl).1
    have d2 := (Vy.out 2 _ rfl).1
    go_wp2_with fail
    refine (vlines_impl xx rs0 yx g2 n1 u2 _ _ hlen HS.out HP.out (fun h => fits_len (Hid.out HSV) h) Hx.out.rdc Hy.out.is (HTAB.out.below HB.out)).mono ?_
    rintro e v2 ⟨xg, cg, rfl, hrg, hb⟩
    rw [← HNS.out] at hrg ⊢
    have HG := Lib.hid hrg
    clear hrg
    clear b0
    clear d0 d1 d2
    replace HX := Lib.hid (HX.out.below hb)
    replace HY := Lib.hid (HY.out.below hb)
    replace Hx := Lib.hid (Hx.out.below hb)
    replace Vx := Lib.hid (Vx.out.below hb)
    replace Hy := Lib.hid (Hy.out.below hb)
    replace Vy := Lib.hid (Vy.out.below hb)
    replace HA := Lib.hid (HA.out.trans (hb.mono HA.out.size))
    replace HB := Lib.hid (HB.out.trans (hb.mono HB.out.size))
    clear hb
    go_wp2_with fail
    refine (eq_strs xg xw NS NS cg cw _ (by omega) HG.out.rd (HW.out.below HA.out)).mono ?_
    rintro e v3 ⟨rfl, nq, hq9⟩
    rw [decide_eq_true (rfl : NS = NS)]
    have hb : Below v2.heap.size v2 v3 := by subst hq9; exact below_drewN (Below.refl _ _) nq
    replace HX := Lib.hid (HX.out.below hb)
    replace HY := Lib.hid (HY.out.below hb)
    replace Hx := Lib.hid (Hx.out.below hb)
    replace Vx := Lib.hid (Vx.out.below hb)
    replace Hy := Lib.hid (Hy.out.below hb)
    replace Vy := Lib.hid (Vy.out.below hb)
    replace HG := Lib.hid (HG.out.below hb)
    replace HA := Lib.hid (HA.out.trans (hb.mono HA.out.size))
    replace HB := Lib.hid (HB.out.trans (hb.mono HB.out.size))
    clear hb
    clear hq9
    go_upto_region 14 with fail
    have hb : Below v3.heap.size v3 v3.drew := below_drewN (Below.refl _ _) 1
    replace HX := Lib.hid (HX.out.below hb)
    replace HY := Lib.hid (HY.out.below hb)
    replace Hx := Lib.hid (Hx.out.below hb)
    replace Vx := Lib.hid (Vx.out.below hb)
    replace Hy := Lib.hid (Hy.out.below hb)
    replace Vy := Lib.hid (Vy.out.below hb)
    replace HG := Lib.hid (HG.out.below hb)
    replace HA := Lib.hid (HA.out.trans (hb.mono HA.out.size))
    replace HB := Lib.hid (HB.out.trans (hb.mono HB.out.size))
    clear hb
    go_region_held3 (fun W => W.cell? ⟨v0.heap.size, 0, none⟩ = some (.slice xx rs0.length yx) ∧ W.cell? ⟨w.heap.size, 0, none⟩ = some (.slice a0 rs0.length cap0)) (exact ⟨(Vx.out 0 _ rfl).1, (HX.out 0 _ rfl).1⟩) (first | (go_at_call 7; refine (to_descr a0 rs0 cap0 _ hlen HS.out (HR0.out.below HB.out)).mono ?_; rintro e v8 ⟨x8, y8, rfl, ho, hb⟩; have H8 := Lib.hid ho; clear ho; replace HX := Lib.hid (HX.out.below hb); replace HY := Lib.hid (HY.out.below hb); replace Hx := Lib.hid (Hx.out.below hb); replace Vx := Lib.hid (Vx.out.below hb); replace Hy := Lib.hid (Hy.out.below hb); replace Vy := Lib.hid (Vy.out.below hb); replace HG := Lib.hid (HG.out.below hb); replace HA := Lib.hid (HA.out.trans (hb.mono HA.out.size)); replace HB := Lib.hid (HB.out.trans (hb.mono HB.out.size)); clear hb) | (go_at_call 11; refine (eq_descr xx x8 rs0 yx y8 _ hlen HS.out Hx.out.rd H8.out.rd).mono ?_; rintro e v9 ⟨rfl, hb⟩; replace HX := Lib.hid (HX.out.below hb); replace HY := Lib.hid (HY.out.below hb); replace Hx := Lib.hid (Hx.out.below hb); replace Vx := Lib.hid (Vx.out.below hb); replace Hy := Lib.hid (Hy.out.below hb); replace Vy := Lib.hid (Vy.out.below hb); replace HG := Lib.hid (HG.out.below hb); replace HA := Lib.hid (HA.out.trans (hb.mono HA.out.size)); replace HB := Lib.hid (HB.out.trans (hb.mono HB.out.size)); clear hb))
    clear H8
    go_upto_region 16 with fail
    have hb : Below v9.heap.size v9 v9.drew := below_drewN (Below.refl _ _) 1
    replace HX := Lib.hid (HX.out.below hb)
    replace HY := Lib.hid (HY.out.below hb)
    replace Hx := Lib.hid (Hx.out.below hb)
    replace Vx := Lib.hid (Vx.out.below hb)
    replace Hy := Lib.hid (Hy.out.below hb)
    replace Vy := Lib.hid (Vy.out.below hb)
    replace HG := Lib.hid (HG.out.below hb)
    replace HA := Lib.hid (HA.out.trans (hb.mono HA.out.size))
    replace HB := Lib.hid (HB.out.trans (hb.mono HB.out.size))
    clear hb
    go_region_held3 (fun W => W.cell? ⟨v1.heap.size, 0, none⟩ = some (.int .i64 u2.number) ∧ W.cell? ⟨v1.heap.size, 1, none⟩ = some (.slice a1y u2.bytes.length c1y) ∧ W.cell? ⟨v1.heap.size, 2, none⟩ = some (.slice a2y u2.items.length c2y) ∧ W.cell? ⟨w.heap.size + 1, 0, none⟩ = some (.int .i64 u2.number) ∧ W.cell? ⟨w.heap.size + 1, 1, none⟩ = some (.slice a1b u2.bytes.length c1b) ∧ W.cell? ⟨w.heap.size + 1, 2, none⟩ = some (.slice a2b u2.items.length c2b)) (exact ⟨(Vy.out 0 _ rfl).1, (Vy.out 1 _ rfl).1, (Vy.out 2 _ rfl).1, (HY.out 0 _ rfl).1, (HY.out 1 _ rfl).1, (HY.out 2 _ rfl).1⟩) (first | (go_at_call 8; refine (to_value g2 u2 _ _ (HR2.out.below HB.out) HSV.out).mono ?_; rintro e vA ⟨xs, bl, rfl, ho, _, hb⟩; have H8 := Lib.hid ho; obtain ⟨a18, c18, a28, c28, rfl⟩ := ho.cells; clear ho; replace HX := Lib.hid (HX.out.below hb); replace HY := Lib.hid (HY.out.below hb); replace Hx := Lib.hid (Hx.out.below hb); replace Vx := Lib.hid (Vx.out.below hb); replace Hy := Lib.hid (Hy.out.below hb); replace Vy := Lib.hid (Vy.out.below hb); replace HG := Lib.hid (HG.out.below hb); replace HA := Lib.hid (HA.out.trans (hb.mono HA.out.size)); replace HB := Lib.hid (HB.out.trans (hb.mono HB.out.size)); clear hb) | (go_at_call 12; refine (eq_value g2 g2 u2 _ _ _ Hy.out.is H8.out.is HSV.out).mono ?_; rintro e vB ⟨rfl, hb⟩; replace HX := Lib.hid (HX.out.below hb); replace HY := Lib.hid (HY.out.below hb); replace Hx := Lib.hid (Hx.out.below hb); replace Vx := Lib.hid (Vx.out.below hb); replace Hy := Lib.hid (Hy.out.below hb); replace Vy := Lib.hid (Vy.out.below hb); replace HG := Lib.hid (HG.out.below hb); replace HA := Lib.hid (HA.out.trans (hb.mono HA.out.size)); replace HB := Lib.hid (HB.out.trans (hb.mono HB.out.size)); clear hb))
    clear H8
    have b0 := (Vx.out 0 _ rfl).1
    go_wp2_with fail
    refine (mark_descr _ _ xx rs0 yx 1 _ hlen HS.out (by omega) HSW1.out Hx.out).mono ?_
    rintro e vC ⟨rfl, L, hmix, hoL, ha⟩
    rw [← HT.out]
    have e0 := hs0.out
    have e1 := hn0.out
    have e2 := hs1.out
    have e3 := hn1.out
    have hsz := HA.out.size
    replace HG := Lib.hid (row_apart HG.out ha (by omega))
    replace Hy := Lib.hid (Hy.out.keep (only_apart ha) (fun b hb' => by have h1 := HBY.out b hb'; simp; omega))
    replace Vy := Lib.hid (Vy.out.apart ha (.inr (by omega)))
    replace HX := Lib.hid (HX.out.apart ha (.inl (by have := hwX.out; omega)))
    replace HY := Lib.hid (HY.out.apart ha (.inl (by have := hwX.out; omega)))
    replace HB := Lib.hid (HB.out.trans (ha.toBelow (by have := hwX.out; omega) HB.out.size))
    replace HA := Lib.hid (HA.out.trans (ha.toBelow (Nat.le_refl _) hsz))
    clear hmix hoL ha Hx L hsz b0 Vx
    have d0 := (Vy.out 0 _ rfl).1
    have d1 := (Vy.out 1 _ rfl).1
    have d2 := (Vy.out 2 _ rfl).1
    go_wp2_with fail
    refine (mark_value g2 bly u2 _ T _ Hy.out HSV.out HTW.out).mono ?_
    rintro e vD ⟨rfl, hyo, hon⟩
    rw [← HT2.out]
    replace HG := Lib.hid (row_only HG.out hon (fun b hb' => by have h1 := HBY.out b hb'; omega))
    replace HX := Lib.hid (cells_only HX.out hon (fun hb' => by have h1 := HBY.out _ hb'; have := hwX.out; omega))
    replace HY := Lib.hid (cells_only HY.out hon (fun hb' => by have h1 := HBY.out _ hb'; have := hwX.out; omega))
    have hsz := HA.out.size
    have hszB := HB.out.size
    replace HB := Lib.hid (hon.below HB.out hszB (fun b hb' => by have h1 := HBY.out b hb'; have := hwX.out; omega))
    replace HA := Lib.hid (hon.below HA.out hsz (fun b hb' => by have h1 := HBY.out b hb'; omega))
    clear hyo hon Hy Vy hsz hszB d0 d1 d2
    go_wp2_with fail
    refine (eq_strs xg xw NS NS cg cw _ (by omega) HG.out.rd (HW.out.below HA.out)).mono ?_
    rintro e vE ⟨rfl, nq, hq9⟩
    rw [decide_eq_true (rfl : NS = NS)]
    have hb : Below vD.heap.size vD vE := by subst hq9; exact below_drewN (Below.refl _ _) nq
    replace HX := Lib.hid (HX.out.below hb)
    replace HY := Lib.hid (HY.out.below hb)
    replace HG := Lib.hid (HG.out.below hb)
    replace HA := Lib.hid (HA.out.trans (hb.mono HA.out.size))
    replace HB := Lib.hid (HB.out.trans (hb.mono HB.out.size))
    clear hb
    clear hq9
    go_wp2_with fail
    refine (mark_strs z2.heap.size xg NS cg 1 _ (by omega) (by omega) (by omega) HG.out).mono ?_
    rintro e vF ⟨rfl, hf, ht⟩
    rw [← HM.out]
    replace HX := Lib.hid (cells_touch HX.out ht (by have := hwX.out; omega))
    replace HY := Lib.hid (cells_touch HY.out ht (by have := hwX.out; omega))
    replace HB := Lib.hid (ht.below HB.out HB.out.size (by have := hwX.out; omega))
    replace HA := Lib.hid (ht.below HA.out HA.out.size (by omega))
    replace HG := Lib.hid hf
    clear hf ht
    go_wp2_with fail
    refine (held_strs xg NS.length cg 1 _ (by omega) (by omega) (by omega) HG.out.rd).mono ?_
    rintro e vG ⟨rfl, hb⟩
    rw [← HM.out]
    replace HX := Lib.hid (HX.out.below hb)
    replace HY := Lib.hid (HY.out.below hb)
    replace HG := Lib.hid (HG.out.below hb)
    replace HA := Lib.hid (HA.out.trans (hb.mono HA.out.size))
    replace HB := Lib.hid (HB.out.trans (hb.mono HB.out.size))
    clear hb
    clear e0 e1 e2 e3
    go_upto_region 31 with fail
    have hb : Below vG.heap.size vG vG.drew := below_drewN (Below.refl _ _) 1
    replace HX := Lib.hid (HX.out.below hb)
    replace HY := Lib.hid (HY.out.below hb)
    replace HG := Lib.hid (HG.out.below hb)
    replace HA := Lib.hid (HA.out.trans (hb.mono HA.out.size))
    replace HB := Lib.hid (HB.out.trans (hb.mono HB.out.size))
    clear hb
    go_region_held3 (fun W => W.cell? ⟨w.heap.size, 0, none⟩ = some (.slice a0 rs0.length cap0) ∧ W.cell? ⟨w.heap.size + 1, 0, none⟩ = some (.int .i64 u2.number) ∧ W.cell? ⟨w.heap.size + 1, 1, none⟩ = some (.slice a1b u2.bytes.length c1b) ∧ W.cell? ⟨w.heap.size + 1, 2, none⟩ = some (.slice a2b u2.items.length c2b)) (exact ⟨(HX.out 0 _ rfl).1, (HY.out 0 _ rfl).1, (HY.out 1 _ rfl).1, (HY.out 2 _ rfl).1⟩) (first | (go_at_call 7; (with_reducible refine (to_descr a0 rs0 cap0 _ hlen HS.out (HR0.out.below HB.out)).mono ?_); rintro e v ⟨xs, ys, rfl, ho, hb⟩; have Hs := Lib.hid ho; clear ho; (try (replace Ht := Lib.hid (Ht.out.below hb))); replace HX := Lib.hid (HX.out.below hb); replace HY := Lib.hid (HY.out.below hb); replace HG := Lib.hid (HG.out.below hb); replace HA := Lib.hid (HA.out.trans (hb.mono HA.out.size)); replace HB := Lib.hid (HB.out.trans (hb.mono HB.out.size)); clear hb) | (go_at_call 8; (with_reducible refine (to_value g2 u2 _ _ (HR2.out.below HB.out) HSV.out).mono ?_); rintro e v ⟨xs, bl, rfl, ho, _, hb⟩; have Ht := Lib.hid ho; obtain ⟨a1t, c1t, a2t, c2t, rfl⟩ := ho.cells; clear ho; (try (replace Hs := Lib.hid (Hs.out.below hb))); replace HX := Lib.hid (HX.out.below hb); replace HY := Lib.hid (HY.out.below hb); replace HG := Lib.hid (HG.out.below hb); replace HA := Lib.hid (HA.out.trans (hb.mono HA.out.size)); replace HB := Lib.hid (HB.out.trans (hb.mono HB.out.size)); clear hb) | (go_at_call 9; refine (vlines_impl xs rs0 ys g2 n1 u2 _ _ hlen HS.out HP.out (fun h => fits_len (Hid.out HSV) h) Hs.out.rdc Ht.out.is (HTAB.out.below HB.out)).mono ?_; rintro e v ⟨xh, ch, rfl, hrh, hb⟩; rw [← HNS.out] at hrh ⊢; have HH := Lib.hid hrh.rd; clear hrh; replace HX := Lib.hid (HX.out.below hb); replace HY := Lib.hid (HY.out.below hb); replace HG := Lib.hid (HG.out.below hb); replace HA := Lib.hid (HA.out.trans (hb.mono HA.out.size)); replace HB := Lib.hid (HB.out.trans (hb.mono HB.out.size)); clear hb))
    all_goals (clear Hs Ht)
    all_goals (go_wp2_with fail; refine (eq_strs xh xw NS NS ch cw _ (by omega) HH.out (HW.out.below HA.out)).mono ?_; rintro e vH ⟨rfl, nq, hq9⟩; rw [decide_eq_true (rfl : NS = NS)]; have hb : Below v.heap.size v vH := (by subst hq9; exact below_drewN (Below.refl _ _) nq); replace HX := Lib.hid (HX.out.below hb); replace HY := Lib.hid (HY.out.below hb); replace HG := Lib.hid (HG.out.below hb); replace HA := Lib.hid (HA.out.trans (hb.mono HA.out.size)); replace HB := Lib.hid (HB.out.trans (hb.mono HB.out.size)); clear hb hq9; go_wp2_with fail; refine (held_strs xg NS.length cg 1 _ (by omega) (by omega) (by omega) HG.out.rd).mono ?_; rintro e vG ⟨rfl, hb⟩; rw [← HM.out]; replace HX := Lib.hid (HX.out.below hb); replace HY := Lib.hid (HY.out.below hb); replace HG := Lib.hid (HG.out.below hb); replace HA := Lib.hid (HA.out.trans (hb.mono HA.out.size)); replace HB := Lib.hid (HB.out.trans (hb.mono HB.out.size)); clear hb; go_wp2; go_ret; exact ⟨rfl, HB.out⟩)
theorem walk (a0 : Option Addr) (rs0 : List RuleV) (cap0 : Nat) (n1 : Int) (g2 : Nat) (u2 : ValueV) (cs2 : List Value) (w : World) (r0 : ArgD a0 rs0 cap0 w) (_ : I64 n1) (r2 : IsVal g2 u2 cs2 w) (f2 : fitV u2) (_ : intV u2) (htab : PowTab w) :
    Calls Tryz.prog 3 #[.agg #[.slice a0 rs0.length cap0], .int .i64 n1, .agg cs2.toArray] w fun e w' => e = .returned (.bool true) ∧ Below w.heap.size w w' := by
  by_cases h0 : 1048576 < sizeR rs0
  · exact walk_large0 a0 rs0 cap0 n1 g2 u2 cs2 w r0 r2 f2 h0
  by_cases h : 1048576 < sizeR rs0 + sizV u2
  · exact walk_large1 a0 rs0 cap0 n1 g2 u2 cs2 w r0 r2 f2 (by omega) h
  exact walk_short a0 rs0 cap0 n1 g2 u2 cs2 w r0 r2 f2 (by omega) (by omega) htab
theorem door_met (os : Os) (args : Array Value) : laidMetH Tryz.prog Rows.fnExactValueLinesRow.laid ((World.doorLaid Tryz.prog 400 os).forCall (fun _ _ => 0) ⟨#[], args, []⟩).memory :=
  laidMetH_of_parts3 (fuel := 8) (laidMet_of_run' 8 (by kernel_rfl) (by kernel_rfl)) (by kernel_rfl) (by kernel_rfl)
theorem of_laid {W : World} (h : laidMetH Tryz.prog Rows.fnExactValueLinesRow.laid W) : PowTab W := by
  rw [MakeChecks.laidMetH_plain _ _ _ (by kernel_rfl)] at h
  exact powTab_of (laidMet.tail (laidMet.tail h))
set_option maxRecDepth 100000 in
theorem lifted (os : Os) (started : os.Started) (H : Type) (enc : TypeId × Value → H) :
    ReturnsInHanded {} Tryz.checked os 3 .any (fun w args => (Rows.fnExactValueLinesSpec.pre enc Tryz.prog Tryz.f3 [] false w args ∧ laidMetH Tryz.prog Rows.fnExactValueLinesRow.laid w) ∧ sizedMet enc Tryz.prog Tryz.f3 (OpenSpec.ofChange Rows.fnExactValueLinesSpec) false w args)
      (Rows.fnExactValueLinesSpec.post enc Tryz.prog Tryz.f3 false true false false) := by
  refine returnsInHanded_of_change_and (C := Tryz.checked) (X := fun w _ => laidMetH Tryz.prog Rows.fnExactValueLinesRow.laid w) (fun _ _ _ hh h => h.of_heap hh) ownL started (by kernel_rfl) Tryz.func3
    (ChangeSpec.witness_shaped (enc := enc) (C := Tryz.checked) (os := os) (X := fun w _ => laidMetH Tryz.prog Rows.fnExactValueLinesRow.laid w) false (World.doorLaid Tryz.prog 400 os) #[.agg #[.slice none 0 0], .int .i64 0, .agg #[.int .i64 0, .slice none 0 0, .slice none 0 0]] 8 rfl (World.shaped_of_RefB (by kernel_rfl) (by kernel_rfl)) (by kernel_rfl) (by kernel_rfl) (by kernel_rfl) (door_met os _)) ?_
  intro W base args ds gs before hval0 hW _ _ hL _
  have hval : ∀ (j : Nat) t v, Tryz.f3.params[j]? = some t → args[j]? = some v → Value.okWide Tryz.prog W .any base t v := hval0
  have hW' := hW
  obtain ⟨p, q, hA0, hV, rfl, hfz, hnd⟩ := hW
  have hA : DataW.TrodAll enc Tryz.prog W 0 (fun _ => true) true Tryz.f3.params.toList args.toList ds p := hA0
  rw [Tryz.params3] at hA hval
  obtain ⟨v0, vs0, d0, ds0, p0, q0, hargs, rfl, rfl, h0, r0⟩ := trodAll_cons hA
  obtain ⟨v1, vs1, d1, ds1, p1, q1, rfl, rfl, rfl, h1, r1⟩ := trodAll_cons r0
  obtain ⟨v2, vs2, d2, ds2, p2, q2, rfl, rfl, rfl, h2, r2⟩ := trodAll_cons r1
  obtain ⟨rfl, rfl, rfl⟩ := trodAll_nil r2
  obtain rfl : args = #[v0, v1, v2] := by cases args; simp_all
  obtain ⟨rfl, rfl⟩ := trodVars_none hV
  simp only [List.append_nil] at hW'
  have hlt : ∀ x ∈ p0 ++ p1 ++ p2, x.block < W.heap.size := fun x hx => hW'.lt x (by simpa using hx)
  obtain ⟨a0, rs0, cap0, rfl, hb0⟩ := descr_arg (hval 0 24 v0 rfl rfl) h0
  have m0 : ∀ (W' : World), Below W.heap.size W W' → DataW.Trod enc Tryz.prog W' 0 (fun b => decide (b < W.heap.size)) true 24 (.agg #[.slice a0 rs0.length cap0]) d0 p0 := fun W' hn => Below.trod laidOut (by kernel_rfl) (of_decide_eq_true (by kernel_rfl)) h0 hn (fun x hx => hlt x (by simp [hx]))
  obtain ⟨n1, rfl, rfl, rfl, w1⟩ := open_int Tryz.underlying3 (hval 1 3 v1 rfl rfl) h1
  obtain ⟨g2, u2, cs2, rfl, hb2, hf2, hi2⟩ := value_arg (hval 2 28 v2 rfl rfl) h2
  have m2 : ∀ (W' : World), Below W.heap.size W W' → DataW.Trod enc Tryz.prog W' 0 (fun b => decide (b < W.heap.size)) true 28 (.agg cs2.toArray) d2 p2 := fun W' hn => Below.trod laidOut (by kernel_rfl) (of_decide_eq_true (by kernel_rfl)) h2 hn (fun x hx => hlt x (by simp [hx]))
  have hT := of_laid hL
  clear hA0 hval0
  refine (walk a0 rs0 cap0 n1 g2 u2 cs2 W hb0 (i64_arg w1) hb2 hf2 hi2 hT).mono fun e W' ⟨he, hb⟩ => ?_
  subst he
  exact ⟨_, rfl, _, _, _, [], _, [], hW', trodAll_cons_mk (shut_bool Tryz.underlying4 _) trodAll_mk0, (trodAll_cons_mk (m0 _ hb) (trodAll_cons_mk (shut_int Tryz.underlying3 w1) (trodAll_cons_mk (m2 _ hb) trodAll_mk0))), rfl, hb.frame _, fun h => by cases h⟩
theorem row_holds : Rows.FnExactValueLinesSaid :=
  OpenClaim.holds_of_wide 3 Tryz.f3 rfl rfl rfl rfl rfl rfl rfl ⟨rfl, rfl, rfl, rfl, rfl⟩ rfl rfl rfl rfl rfl (by kernel_rfl) Tryz.func3 (by kernel_rfl)
    (of_decide_eq_true (by kernel_rfl)) (by unfold Func.isWrapper; first | (rw [if_pos (by decide +kernel)]; kernel_rfl) | (rw [if_neg (by decide +kernel)]; exact ⟨rfl, rfl⟩))
    (fun os started H enc _ => lifted os started H enc)
/-- THE STATEMENT -/
theorem proved : Rows.FnExactValueLinesCardSaid :=
  Claim7.holds_tied_plain_at .later [] [.data, .data, .data] true Rows.fnExactValueLinesCard.stood.harness Rows.fnExactValueLinesCard.stood.looks
    row_holds (fun _ h => by cases h) (by kernel_rfl) (fun _ h => by cases h) fnExactValueLines_row_tie rfl ⟨rfl, rfl⟩ (by kernel_rfl) rfl
    (fun f fn hf hfn => by
      obtain rfl : f = 3 := Option.some.inj ((show Tryz.prog.funcNamed Rows.fnExactValueLinesRow.func = some 3 by kernel_rfl).symm.trans hf) |>.symm
      obtain rfl : fn = Tryz.f3 := (Option.some.inj (Tryz.func3.symm.trans hfn)).symm
      exact ⟨by kernel_rfl, fun j t ht => by
        rw [Tryz.params3] at ht
        have hm : t ∈ [24, 3, 28] := by simpa using Array.mem_of_getElem? ht
        have hall : ([24, 3, 28].all fun u => !Tryz.prog.wantsStandIn u) = true := by kernel_rfl
        exact (show Tryz.prog.wantsStandIn t = false by simpa using List.all_eq_true.1 hall t hm)⟩)
    (by kernel_rfl)
end fnExactValueLines
#print axioms fnExactValueLines.proved
end Go.Proofs.YtfmnjclnhppghabGreatDoor
