/- It is proved that the law FnExactPrintFile returns true at every input of its parameter types and leaves its arguments as they were (statement Rows.FnExactPrintFileSaid), with no condition. -/
import Derived.Test.YtfmnjclnhppghaaGreatQP
import Derived.Test.YtfmnjclnhppghaaGreatIPrintF
import Derived.Test.YtfmnjclnhppghaaGreatQW
import Derived.Test.YtfmnjclnhppghaaGreatPrLen
import Derived.Test.YtfmnjclnhppghaaGreatFacts
import Derived.Test.YtfmnjclnhppghaaGreatGMk
import Derived.Test.YtfmnjclnhppghaaGreatQV
import Derived.Test.YtfmnjclnhppghaaGreatGSz
import Derived.Test.YtfmnjclnhppghaaGreatQT
import Derived.Deep.RegionHeld3
import Derived.Deep.CutRange
namespace Go.Proofs.YtfmnjclnhppghaaGreat
open Go Go.ChangeShapes Go.WideShapes Go.ChangeAt Go.RowKit
namespace fnExactPrintFile
theorem sumW_small (rs : List RuleV) : ∀ k, k ≤ rs.length → sumW rs k ≤ 4 * k + sumR rs k
  | 0, _ => by simp [sumW]
  | k + 1, h => by
    have ih := sumW_small rs k (by omega)
    have h1 := sumW_next rs k (by omega)
    have h2 := sumR_next rs k (by omega)
    rw [h1, h2]
    unfold widthR ruleSize sizeS
    omega
theorem sumW_of {rs : List RuleV} (h : sizeR rs ≤ 1048576) : 1 + sumW rs rs.length ≤ 1073741824 := by
  have h1 := sumW_small rs rs.length (Nat.le_refl _)
  unfold sizeR at h
  omega
theorem row_apart {lo hi B : Nat} {a : Option Addr} {xs : List UInt8} {cap : Nat} {w w' : World} (h : Row B a xs cap w) (ha : Apart lo hi w w') (hB : hi ≤ B) : Row B a xs cap w' := by
  refine ⟨?_, h.2⟩
  rcases h.1 with e | ⟨b, off, e, hb, hc⟩
  · exact .inl e
  · exact h.1.apart ha fun b' off' e' _ => by
      rw [e] at e'
      injection e' with e'
      injection e' with e1
      omega
theorem only_apart {lo hi : Nat} {w w' : World} (h : Apart lo hi w w') : Only (List.range hi) w w' :=
  ⟨h.os, h.tape, h.output, h.size, fun k hk hn => h.block k hk (.inr (by rw [List.mem_range] at hn; omega))⟩
theorem row_only {B : Nat} {a : Option Addr} {xs : List UInt8} {cap : Nat} {bl : List Nat} {w w' : World} (h : Row B a xs cap w) (g : Only bl w w') (hb : ∀ b ∈ bl, b < B) : Row B a xs cap w' := by
  refine ⟨?_, h.2⟩
  rcases h.1 with e | ⟨b, off, e, hB, hc⟩
  · exact .inl e
  · exact .inr ⟨b, off, e, hB, fun j hj => g.cell (fun hm => by have := hb b hm; omega) (hc j hj)⟩
theorem cells_only {b : Nat} {vs : List Value} {bl : List Nat} {w w' : World} (h : CellsAt b vs w) (g : Only bl w w') (hn : b ∉ bl) : CellsAt b vs w' := fun i u hu => g.cell hn (h i u hu)
theorem cells_touch {b B n : Nat} {vs : List Value} {a : Option Addr} {w w' : World} (h : CellsAt b vs w) (ht : Touch B a n w w') (hb : b < B) : CellsAt b vs w' := by
  rcases ht with rfl | ⟨_, c, off, _, hc, hg⟩
  · exact h
  · exact h.grown hg fun e => by injection e with e; omega
set_option maxRecDepth 100000 in
theorem walk_large0 (a0 : Option Addr) (rs0 : List RuleV) (cap0 : Nat) (g2 : Nat) (u2 : ValueV) (cs2 : List Value) (w : World) (r0 : ArgD a0 rs0 cap0 w) (r2 : IsVal g2 u2 cs2 w) (f2 : fitV u2) (h : 1048576 < sizeR rs0) :
    Calls Tryz.prog 5 #[.agg #[.slice a0 rs0.length cap0], .agg cs2.toArray] w fun e w' => e = .returned (.bool true) ∧ Below w.heap.size w w' := by
  obtain ⟨hrd, hlc, hfit, -⟩ := r0
  obtain ⟨a1b, c1b, a2b, c2b, rfl⟩ := r2.three
  obtain ⟨w0, hw0⟩ : ∃ w0, w0 = (w.alloc (.cells #[.slice a0 rs0.length cap0] 54)).alloc (.cells #[.int .i64 u2.number, .slice a1b u2.bytes.length c1b, .slice a2b u2.items.length c2b] 57) := ⟨_, rfl⟩
  have hB0 : Below w.heap.size w w0 := by subst hw0; exact ((Below.refl _ _).alloc (Nat.le_refl _) _).alloc (by simp) _
  have hX0 : CellsAt w.heap.size [.slice a0 rs0.length cap0] w0 := by subst hw0; exact (CellsAt.new w _ _).below ((Below.refl _ _).alloc (Nat.le_refl _) _)
  have hY0 : CellsAt (w.heap.size + 1) [.int .i64 u2.number, .slice a1b u2.bytes.length c1b, .slice a2b u2.items.length c2b] w0 := by subst hw0; have h1 := CellsAt.new (w.alloc (.cells #[.slice a0 rs0.length cap0] 54)) [.int .i64 u2.number, .slice a1b u2.bytes.length c1b, .slice a2b u2.items.length c2b] 57; rw [World.size_alloc] at h1; exact h1
  have HB := Lib.hid hB0
  have HX := Lib.hid hX0
  have HY := Lib.hid hY0
  have HR0 := Lib.hid hrd
  have HF0 := Lib.hid hfit
  have HR2 := Lib.hid r2
  have HF2 := Lib.hid f2
  have HW0 := Lib.hid hw0
  clear hB0 hX0 hY0 hrd hfit r2 f2 hw0
  go_enter Tryz.func5, Tryz.ntmps5
  go_upto_region 1 with fail
  rw [← HW0.out]
  clear HW0
  have b0 := (HX.out 0 _ rfl).1
  go_wp2_with fail
  refine (sz_descr0 a0 rs0 cap0 _ (by omega) HF0.out (HR0.out.below HB.out)).mono ?_
  rintro e w1 ⟨rfl, hb⟩
  replace HX := Lib.hid (HX.out.below hb)
  replace HY := Lib.hid (HY.out.below hb)
  replace HB := Lib.hid (HB.out.trans (hb.mono HB.out.size))
  clear hb
  clear b0
  rw [leftN_no h]
  go_wp2
  go_ret
  exact ⟨rfl, HB.out⟩
set_option maxRecDepth 100000 in
theorem walk_large1 (a0 : Option Addr) (rs0 : List RuleV) (cap0 : Nat) (g2 : Nat) (u2 : ValueV) (cs2 : List Value) (w : World) (r0 : ArgD a0 rs0 cap0 w) (r2 : IsVal g2 u2 cs2 w) (f2 : fitV u2) (h0 : sizeR rs0 ≤ 1048576) (h : 1048576 < sizeR rs0 + sizV u2) :
    Calls Tryz.prog 5 #[.agg #[.slice a0 rs0.length cap0], .agg cs2.toArray] w fun e w' => e = .returned (.bool true) ∧ Below w.heap.size w w' := by
  obtain ⟨hrd, hlc, hfit, -⟩ := r0
  obtain ⟨a1b, c1b, a2b, c2b, rfl⟩ := r2.three
  obtain ⟨w0, hw0⟩ : ∃ w0, w0 = (w.alloc (.cells #[.slice a0 rs0.length cap0] 54)).alloc (.cells #[.int .i64 u2.number, .slice a1b u2.bytes.length c1b, .slice a2b u2.items.length c2b] 57) := ⟨_, rfl⟩
  have hB0 : Below w.heap.size w w0 := by subst hw0; exact ((Below.refl _ _).alloc (Nat.le_refl _) _).alloc (by simp) _
  have hX0 : CellsAt w.heap.size [.slice a0 rs0.length cap0] w0 := by subst hw0; exact (CellsAt.new w _ _).below ((Below.refl _ _).alloc (Nat.le_refl _) _)
  have hY0 : CellsAt (w.heap.size + 1) [.int .i64 u2.number, .slice a1b u2.bytes.length c1b, .slice a2b u2.items.length c2b] w0 := by subst hw0; have h1 := CellsAt.new (w.alloc (.cells #[.slice a0 rs0.length cap0] 54)) [.int .i64 u2.number, .slice a1b u2.bytes.length c1b, .slice a2b u2.items.length c2b] 57; rw [World.size_alloc] at h1; exact h1
  have HB := Lib.hid hB0
  have HX := Lib.hid hX0
  have HY := Lib.hid hY0
  have HR0 := Lib.hid hrd
  have HF0 := Lib.hid hfit
  have HR2 := Lib.hid r2
  have HF2 := Lib.hid f2
  have HW0 := Lib.hid hw0
  clear hB0 hX0 hY0 hrd hfit r2 f2 hw0
  go_enter Tryz.func5, Tryz.ntmps5
  go_upto_region 1 with fail
  rw [← HW0.out]
  clear HW0
  have b0 := (HX.out 0 _ rfl).1
  go_wp2_with fail
  refine (sz_descr0 a0 rs0 cap0 _ (by omega) HF0.out (HR0.out.below HB.out)).mono ?_
  rintro e w1 ⟨rfl, hb⟩
  replace HX := Lib.hid (HX.out.below hb)
  replace HY := Lib.hid (HY.out.below hb)
  replace HB := Lib.hid (HB.out.trans (hb.mono HB.out.size))
  clear hb
  clear b0
  rw [leftN_yes h0]
  obtain ⟨q, hq⟩ : ∃ q, q = 1048576 - sizeR rs0 := ⟨_, rfl⟩
  rw [← hq]
  have hq1 : q ≤ 1048576 := by omega
  have HQ := Lib.hid hq
  clear hq
  have b0 := (HY.out 0 _ rfl).1
  have b1 := (HY.out 1 _ rfl).1
  have b2 := (HY.out 2 _ rfl).1
  go_wp2_with fail
  refine (sz_value g2 u2 _ q _ (HR2.out.below HB.out) hq1 HF2.out).mono ?_
  rintro e w2 ⟨rfl, hb⟩
  replace HX := Lib.hid (HX.out.below hb)
  replace HY := Lib.hid (HY.out.below hb)
  replace HB := Lib.hid (HB.out.trans (hb.mono HB.out.size))
  clear hb
  clear b0 b1 b2
  rw [leftN_no (by have := HQ.out; omega)]
  go_wp2
  go_ret
  exact ⟨rfl, HB.out⟩
set_option maxRecDepth 100000 in
set_option maxHeartbeats 8000000 in
theorem walk_short (a0 : Option Addr) (rs0 : List RuleV) (cap0 : Nat) (g2 : Nat) (u2 : ValueV) (cs2 : List Value) (w : World) (r0 : ArgD a0 rs0 cap0 w) (r2 : IsVal g2 u2 cs2 w) (f2 : fitV u2) (h0 : sizeR rs0 ≤ 1048576) (h : sizeR rs0 + sizV u2 ≤ 1048576) :
    Calls Tryz.prog 5 #[.agg #[.slice a0 rs0.length cap0], .agg cs2.toArray] w fun e w' => e = .returned (.bool true) ∧ Below w.heap.size w w' := by
  have hlen : rs0.length ≤ 1048576 := by unfold sizeR at h; omega
  have HS := Lib.hid (short_of h0)
  have HP := Lib.hid (spelt_of h0)
  have HSV : Hid (sizV u2 ≤ 1048576) := by show _ ≤ _; omega
  have HSW1 := Lib.hid (sumW_of h0)
  obtain ⟨hrd, hlc, hfit, -⟩ := r0
  obtain ⟨a1b, c1b, a2b, c2b, rfl⟩ := r2.three
  obtain ⟨w0, hw0⟩ : ∃ w0, w0 = (w.alloc (.cells #[.slice a0 rs0.length cap0] 54)).alloc (.cells #[.int .i64 u2.number, .slice a1b u2.bytes.length c1b, .slice a2b u2.items.length c2b] 57) := ⟨_, rfl⟩
  have hB0 : Below w.heap.size w w0 := by subst hw0; exact ((Below.refl _ _).alloc (Nat.le_refl _) _).alloc (by simp) _
  have hX0 : CellsAt w.heap.size [.slice a0 rs0.length cap0] w0 := by subst hw0; exact (CellsAt.new w _ _).below ((Below.refl _ _).alloc (Nat.le_refl _) _)
  have hY0 : CellsAt (w.heap.size + 1) [.int .i64 u2.number, .slice a1b u2.bytes.length c1b, .slice a2b u2.items.length c2b] w0 := by subst hw0; have h1 := CellsAt.new (w.alloc (.cells #[.slice a0 rs0.length cap0] 54)) [.int .i64 u2.number, .slice a1b u2.bytes.length c1b, .slice a2b u2.items.length c2b] 57; rw [World.size_alloc] at h1; exact h1
  have HB := Lib.hid hB0
  have HX := Lib.hid hX0
  have HY := Lib.hid hY0
  have HR0 := Lib.hid hrd
  have HF0 := Lib.hid hfit
  have HR2 := Lib.hid r2
  have HF2 := Lib.hid f2
  have HW0 := Lib.hid hw0
  clear hB0 hX0 hY0 hrd hfit r2 f2 hw0
  go_enter Tryz.func5, Tryz.ntmps5
  go_upto_region 1 with fail
  rw [← HW0.out]
  clear HW0
  have b0 := (HX.out 0 _ rfl).1
  go_wp2_with fail
  refine (sz_descr0 a0 rs0 cap0 _ (by omega) HF0.out (HR0.out.below HB.out)).mono ?_
  rintro e w1 ⟨rfl, hb⟩
  replace HX := Lib.hid (HX.out.below hb)
  replace HY := Lib.hid (HY.out.below hb)
  replace HB := Lib.hid (HB.out.trans (hb.mono HB.out.size))
  clear hb
  clear b0
  rw [leftN_yes h0]
  obtain ⟨q, hq⟩ : ∃ q, q = 1048576 - sizeR rs0 := ⟨_, rfl⟩
  rw [← hq]
  have hq1 : q ≤ 1048576 := by omega
  have HQ := Lib.hid hq
  clear hq
  have b0 := (HY.out 0 _ rfl).1
  have b1 := (HY.out 1 _ rfl).1
  have b2 := (HY.out 2 _ rfl).1
  go_wp2_with fail
  refine (sz_value g2 u2 _ q _ (HR2.out.below HB.out) hq1 HF2.out).mono ?_
  rintro e w2 ⟨rfl, hb⟩
  replace HX := Lib.hid (HX.out.below hb)
  replace HY := Lib.hid (HY.out.below hb)
  replace HB := Lib.hid (HB.out.trans (hb.mono HB.out.size))
  clear hb
  clear b0 b1 b2
  rw [leftN_yes (by have := HQ.out; omega)]
  obtain ⟨q2, hq2⟩ : ∃ q2, q2 = q - sizV u2 := ⟨_, rfl⟩
  rw [← hq2]
  have hq3 : q2 ≤ 1048576 := by omega
  clear hq2 h h0 HQ hq1
  obtain ⟨NS, hNS⟩ : ∃ NS : List UInt8, NS = (if printB rs0 ((rs0.length : Int) - 1) u2 = true then encV rs0 ((rs0.length : Int) - 1) u2 else []) := ⟨_, rfl⟩
  have hnl : NS.length ≤ 1048576 := by rw [hNS]; exact print_len
  have HNS := Lib.hid hNS
  clear hNS
  obtain ⟨ok, hok⟩ : ∃ b : Bool, b = printB rs0 ((rs0.length : Int) - 1) u2 := ⟨_, rfl⟩
  have HOK := Lib.hid hok
  clear hok
  have er : (ok != ok) = false := by simp
  obtain ⟨T, hT⟩ : ∃ T, T = 1 + sumW rs0 rs0.length := ⟨_, rfl⟩
  have HT := Lib.hid hT
  have hT1 : T ≤ 1073741824 := by rw [hT]; exact HSW1.out
  have hwd : widV u2 ≤ 1048576 := by have h1 := wid_siz u2; have h2 := HSV.out; omega
  obtain ⟨T2, hT2⟩ : ∃ T2, T2 = T + widV u2 := ⟨_, rfl⟩
  have HT2 := Lib.hid hT2
  have hT3 : ¬ ((T2 : Int) < 0) := by omega
  have hTW : T + widV u2 ≤ 1099511627776 := by omega
  have HTW := Lib.hid hTW
  clear hT hT2 hwd hTW
  obtain ⟨M, hM⟩ : ∃ M, M = 1 + NS.length := ⟨_, rfl⟩
  have HM := Lib.hid hM
  have hM0 : ¬ ((M : Int) < 0) := by omega
  clear hM
  go_upto_region 8 with fail
  go_cut [6, 7] from 27 to 34 (fun s t wx => (∃ xw cw, s = .slice xw NS.length cw ∧ t = .bool ok ∧ Hid (Rd xw NS wx)) ∧ Hid (Below w.heap.size w wx) ∧ Hid (CellsAt w.heap.size [.slice a0 rs0.length cap0] wx) ∧ Hid (CellsAt (w.heap.size + 1) [.int .i64 u2.number, .slice a1b u2.bytes.length c1b, .slice a2b u2.items.length c2b] wx))
  case first =>
    have hb : Below w2.heap.size w2 w2.drew := below_drewN (Below.refl _ _) 1
    replace HX := Lib.hid (HX.out.below hb)
    replace HY := Lib.hid (HY.out.below hb)
    replace HB := Lib.hid (HB.out.trans (hb.mono HB.out.size))
    clear hb
    go_region_held3 (fun W => W.cell? ⟨w.heap.size, 0, none⟩ = some (.slice a0 rs0.length cap0) ∧ W.cell? ⟨w.heap.size + 1, 0, none⟩ = some (.int .i64 u2.number) ∧ W.cell? ⟨w.heap.size + 1, 1, none⟩ = some (.slice a1b u2.bytes.length c1b) ∧ W.cell? ⟨w.heap.size + 1, 2, none⟩ = some (.slice a2b u2.items.length c2b)) (exact ⟨(HX.out 0 _ rfl).1, (HY.out 0 _ rfl).1, (HY.out 1 _ rfl).1, (HY.out 2 _ rfl).1⟩) (first | (go_at_call 27; (with_reducible refine (to_descr a0 rs0 cap0 _ hlen HS.out (HR0.out.below HB.out)).mono ?_); rintro e v ⟨xs, ys, rfl, ho, hb⟩; have Hs := Lib.hid ho; clear ho; (try (replace Ht := Lib.hid (Ht.out.below hb))); replace HX := Lib.hid (HX.out.below hb); replace HY := Lib.hid (HY.out.below hb); replace HB := Lib.hid (HB.out.trans (hb.mono HB.out.size)); clear hb) | (go_at_call 28; (with_reducible refine (to_value g2 u2 _ _ (HR2.out.below HB.out) HSV.out).mono ?_); rintro e v ⟨xs, bl, rfl, ho, _, hb⟩; have Ht := Lib.hid ho; obtain ⟨a1t, c1t, a2t, c2t, rfl⟩ := ho.cells; clear ho; (try (replace Hs := Lib.hid (Hs.out.below hb))); replace HX := Lib.hid (HX.out.below hb); replace HY := Lib.hid (HY.out.below hb); replace HB := Lib.hid (HB.out.trans (hb.mono HB.out.size)); clear hb) | (go_at_call 26; refine ((printf_spec xs rs0 ys g2 u2 _ _ hlen HS.out HP.out Hs.out.rdc Ht.out.is (fun h => plen_fits HSV.out h)).mono fun _ _ h => pve_bytes h).mono ?_; rintro e v ⟨xw, cw, rfl, hrw, hb⟩; rw [← HNS.out] at hrw ⊢; rw [← HOK.out]; have HW := Lib.hid hrw.rd; clear hrw; replace HX := Lib.hid (HX.out.below hb); replace HY := Lib.hid (HY.out.below hb); replace HB := Lib.hid (HB.out.trans (hb.mono HB.out.size)); clear hb))
    all_goals (go_wp2_with fail; go_meet; exact ⟨⟨_, _, rfl, rfl, HW⟩, HB, HX, HY⟩)
  case rest =>
    clear HB HX HY
    obtain ⟨⟨xw, cw, rfl, rfl, HW⟩, HB, HX, HY⟩ := hcut
    have hwX : Hid (w.heap.size + 1 < (_ : Nat)) := cell_lt (HY.out 0 _ rfl).1
    have b0 := (HX.out 0 _ rfl).1
    go_wp2_with fail
    refine (to_descr a0 rs0 cap0 _ hlen HS.out (HR0.out.below HB.out)).mono ?_
    rintro e v0 ⟨xx, yx, rfl, ho, hb⟩
    have Hx := Lib.hid ho
    have HA := Lib.hid hb
    have hs0 := Lib.hid hb.size
    clear ho
    replace HX := Lib.hid (HX.out.below hb)
    replace HY := Lib.hid (HY.out.below hb)
    replace HB := Lib.hid (HB.out.trans (hb.mono HB.out.size))
    clear hb
    clear b0
    obtain ⟨z, hz⟩ : ∃ z, z = v0.alloc (.cells #[.slice xx rs0.length yx] 26) := ⟨_, rfl⟩
    have hb : Below v0.heap.size v0 z := by subst hz; exact (Below.refl _ _).alloc (Nat.le_refl _) _
    have hv : CellsAt v0.heap.size [.slice xx rs0.length yx] z := by subst hz; exact CellsAt.new v0 _ _
    have hn0 : Hid (z.heap.size = v0.heap.size + 1) := by subst hz; exact World.size_alloc _ _
    have Vx := Lib.hid hv
    have HZ := Lib.hid hz
    clear hv hz
    replace HX := Lib.hid (HX.out.below hb)
    replace HY := Lib.hid (HY.out.below hb)
    replace Hx := Lib.hid (Hx.out.below hb)
    replace HA := Lib.hid (HA.out.trans (hb.mono HA.out.size))
    replace HB := Lib.hid (HB.out.trans (hb.mono HB.out.size))
    clear hb
    go_upto_region 10 with fail
    rw [← HZ.out]
    clear HZ
    have b0 := (HY.out 0 _ rfl).1
    have b1 := (HY.out 1 _ rfl).1
    have b2 := (HY.out 2 _ rfl).1
    go_wp2_with fail
    refine (to_value g2 u2 _ _ (HR2.out.below HB.out) HSV.out).mono ?_
    rintro e v1 ⟨xs, bly, rfl, ho, hbly, hb⟩
    have Hy := Lib.hid ho
    have HBY : Hid (∀ b ∈ bly, z.heap.size ≤ b ∧ b < v1.heap.size) := fun b hb' => ⟨hbly b hb', ho.lt b hb'⟩
    have hs1 := Lib.hid hb.size
    obtain ⟨a1y, c1y, a2y, c2y, rfl⟩ := ho.cells
    clear ho hbly
    replace HX := Lib.hid (HX.out.below hb)
    replace HY := Lib.hid (HY.out.below hb)
    replace Hx := Lib.hid (Hx.out.below hb)
    replace Vx := Lib.hid (Vx.out.below hb)
    replace HA := Lib.hid (HA.out.trans (hb.mono HA.out.size))
    replace HB := Lib.hid (HB.out.trans (hb.mono HB.out.size))
    clear hb
    clear b0 b1 b2
    obtain ⟨z2, hz⟩ : ∃ z2, z2 = v1.alloc (.cells #[.int .i64 u2.number, .slice a1y u2.bytes.length c1y, .slice a2y u2.items.length c2y] 29) := ⟨_, rfl⟩
    have hb : Below v1.heap.size v1 z2 := by subst hz; exact (Below.refl _ _).alloc (Nat.le_refl _) _
    have hv : CellsAt v1.heap.size [.int .i64 u2.number, .slice a1y u2.bytes.length c1y, .slice a2y u2.items.length c2y] z2 := by subst hz; exact CellsAt.new v1 _ _
    have hn1 : Hid (z2.heap.size = v1.heap.size + 1) := by subst hz; exact World.size_alloc _ _
    have Vy := Lib.hid hv
    have HZ := Lib.hid hz
    clear hv hz
    replace HX := Lib.hid (HX.out.below hb)
    replace HY := Lib.hid (HY.out.below hb)
    replace Hx := Lib.hid (Hx.out.below hb)
    replace Vx := Lib.hid (Vx.out.below hb)
    replace Hy := Lib.hid (Hy.out.below hb)
    replace HA := Lib.hid (HA.out.trans (hb.mono HA.out.size))
    replace HB := Lib.hid (HB.out.trans (hb.mono HB.out.size))
    clear hb
    go_upto_region 11 with fail
    rw [← HZ.out]
    clear HZ
    have b0 := (Vx.out 0 _ rfl).1
    have d0 := (Vy.out 0 _ rfl).1
    have d1 := (Vy.out 1 _ rfl).1
    have d2 := (Vy.out 2 _ rfl).1
    go_wp2_with fail
    refine ((printf_impl xx rs0 yx g2 u2 _ _ hlen HS.out HP.out Hx.out.rdc Hy.out.is).mono fun _ _ h => pve_bytes h).mono ?_
    rintro e v2 ⟨xg, cg, rfl, hrg, hb⟩
    rw [← HNS.out] at hrg ⊢
    rw [← HOK.out]
    have HG := Lib.hid hrg
    clear hrg
    clear b0
    clear d0 d1 d2
    replace HX := Lib.hid (HX.out.below hb)
    replace HY := Lib.hid (HY.out.below hb)
    replace Hx := Lib.hid (Hx.out.below hb)
    replace Vx := Lib.hid (Vx.out.below hb)
    replace Hy := Lib.hid (Hy.out.below hb)
    replace Vy := Lib.hid (Vy.out.below hb)
    replace HA := Lib.hid (HA.out.trans (hb.mono HA.out.size))
    replace HB := Lib.hid (HB.out.trans (hb.mono HB.out.size))
    clear hb
    go_wp2_with fail
    refine (eq_any xg xw NS NS cg cw _ (by omega) HG.out.rd (HW.out.below HA.out)).mono ?_
    rintro e v3 ⟨rfl, nq, hq9⟩
    rw [decide_eq_true (rfl : NS = NS)]
    have hb : Below v2.heap.size v2 v3 := by subst hq9; exact below_drewN (Below.refl _ _) nq
    replace HX := Lib.hid (HX.out.below hb)
    replace HY := Lib.hid (HY.out.below hb)
    replace Hx := Lib.hid (Hx.out.below hb)
    replace Vx := Lib.hid (Vx.out.below hb)
    replace Hy := Lib.hid (Hy.out.below hb)
    replace Vy := Lib.hid (Vy.out.below hb)
    replace HG := Lib.hid (HG.out.below hb)
    replace HA := Lib.hid (HA.out.trans (hb.mono HA.out.size))
    replace HB := Lib.hid (HB.out.trans (hb.mono HB.out.size))
    clear hb
    clear hq9
    go_upto_region 14 with fail
    have hb : Below v3.heap.size v3 v3.drew := below_drewN (Below.refl _ _) 1
    replace HX := Lib.hid (HX.out.below hb)
    replace HY := Lib.hid (HY.out.below hb)
    replace Hx := Lib.hid (Hx.out.below hb)
    replace Vx := Lib.hid (Vx.out.below hb)
    replace Hy := Lib.hid (Hy.out.below hb)
    replace Vy := Lib.hid (Vy.out.below hb)
    replace HG := Lib.hid (HG.out.below hb)
    replace HA := Lib.hid (HA.out.trans (hb.mono HA.out.size))
    replace HB := Lib.hid (HB.out.trans (hb.mono HB.out.size))
    clear hb
    go_region_held3 (fun W => W.cell? ⟨v0.heap.size, 0, none⟩ = some (.slice xx rs0.length yx) ∧ W.cell? ⟨w.heap.size, 0, none⟩ = some (.slice a0 rs0.length cap0)) (exact ⟨(Vx.out 0 _ rfl).1, (HX.out 0 _ rfl).1⟩) (first | (go_at_call 27; refine (to_descr a0 rs0 cap0 _ hlen HS.out (HR0.out.below HB.out)).mono ?_; rintro e v8 ⟨x8, y8, rfl, ho, hb⟩; have H8 := Lib.hid ho; clear ho; replace HX := Lib.hid (HX.out.below hb); replace HY := Lib.hid (HY.out.below hb); replace Hx := Lib.hid (Hx.out.below hb); replace Vx := Lib.hid (Vx.out.below hb); replace Hy := Lib.hid (Hy.out.below hb); replace Vy := Lib.hid (Vy.out.below hb); replace HG := Lib.hid (HG.out.below hb); replace HA := Lib.hid (HA.out.trans (hb.mono HA.out.size)); replace HB := Lib.hid (HB.out.trans (hb.mono HB.out.size)); clear hb) | (go_at_call 31; refine (eq_descr xx x8 rs0 yx y8 _ hlen HS.out Hx.out.rd H8.out.rd).mono ?_; rintro e v9 ⟨rfl, hb⟩; replace HX := Lib.hid (HX.out.below hb); replace HY := Lib.hid (HY.out.below hb); replace Hx := Lib.hid (Hx.out.below hb); replace Vx := Lib.hid (Vx.out.below hb); replace Hy := Lib.hid (Hy.out.below hb); replace Vy := Lib.hid (Vy.out.below hb); replace HG := Lib.hid (HG.out.below hb); replace HA := Lib.hid (HA.out.trans (hb.mono HA.out.size)); replace HB := Lib.hid (HB.out.trans (hb.mono HB.out.size)); clear hb))
    clear H8
    go_upto_region 16 with fail
    have hb : Below v9.heap.size v9 v9.drew := below_drewN (Below.refl _ _) 1
    replace HX := Lib.hid (HX.out.below hb)
    replace HY := Lib.hid (HY.out.below hb)
    replace Hx := Lib.hid (Hx.out.below hb)
    replace Vx := Lib.hid (Vx.out.below hb)
    replace Hy := Lib.hid (Hy.out.below hb)
    replace Vy := Lib.hid (Vy.out.below hb)
    replace HG := Lib.hid (HG.out.below hb)
    replace HA := Lib.hid (HA.out.trans (hb.mono HA.out.size))
    replace HB := Lib.hid (HB.out.trans (hb.mono HB.out.size))
    clear hb
    go_region_held3 (fun W => W.cell? ⟨v1.heap.size, 0, none⟩ = some (.int .i64 u2.number) ∧ W.cell? ⟨v1.heap.size, 1, none⟩ = some (.slice a1y u2.bytes.length c1y) ∧ W.cell? ⟨v1.heap.size, 2, none⟩ = some (.slice a2y u2.items.length c2y) ∧ W.cell? ⟨w.heap.size + 1, 0, none⟩ = some (.int .i64 u2.number) ∧ W.cell? ⟨w.heap.size + 1, 1, none⟩ = some (.slice a1b u2.bytes.length c1b) ∧ W.cell? ⟨w.heap.size + 1, 2, none⟩ = some (.slice a2b u2.items.length c2b)) (exact ⟨(Vy.out 0 _ rfl).1, (Vy.out 1 _ rfl).1, (Vy.out 2 _ rfl).1, (HY.out 0 _ rfl).1, (HY.out 1 _ rfl).1, (HY.out 2 _ rfl).1⟩) (first | (go_at_call 28; refine (to_value g2 u2 _ _ (HR2.out.below HB.out) HSV.out).mono ?_; rintro e vA ⟨xs, bl, rfl, ho, _, hb⟩; have H8 := Lib.hid ho; obtain ⟨a18, c18, a28, c28, rfl⟩ := ho.cells; clear ho; replace HX := Lib.hid (HX.out.below hb); replace HY := Lib.hid (HY.out.below hb); replace Hx := Lib.hid (Hx.out.below hb); replace Vx := Lib.hid (Vx.out.below hb); replace Hy := Lib.hid (Hy.out.below hb); replace Vy := Lib.hid (Vy.out.below hb); replace HG := Lib.hid (HG.out.below hb); replace HA := Lib.hid (HA.out.trans (hb.mono HA.out.size)); replace HB := Lib.hid (HB.out.trans (hb.mono HB.out.size)); clear hb) | (go_at_call 32; refine (eq_value g2 g2 u2 _ _ _ Hy.out.is H8.out.is HSV.out).mono ?_; rintro e vB ⟨rfl, hb⟩; replace HX := Lib.hid (HX.out.below hb); replace HY := Lib.hid (HY.out.below hb); replace Hx := Lib.hid (Hx.out.below hb); replace Vx := Lib.hid (Vx.out.below hb); replace Hy := Lib.hid (Hy.out.below hb); replace Vy := Lib.hid (Vy.out.below hb); replace HG := Lib.hid (HG.out.below hb); replace HA := Lib.hid (HA.out.trans (hb.mono HA.out.size)); replace HB := Lib.hid (HB.out.trans (hb.mono HB.out.size)); clear hb))
    clear H8
    have b0 := (Vx.out 0 _ rfl).1
    go_wp2_with fail
    refine (mark_descr _ _ xx rs0 yx 1 _ hlen HS.out (by omega) HSW1.out Hx.out).mono ?_
    rintro e vC ⟨rfl, L, hmix, hoL, ha⟩
    rw [← HT.out]
    have e0 := hs0.out
    have e1 := hn0.out
    have e2 := hs1.out
    have e3 := hn1.out
    have hsz := HA.out.size
    replace HG := Lib.hid (row_apart HG.out ha (by omega))
    replace Hy := Lib.hid (Hy.out.keep (only_apart ha) (fun b hb' => by have h1 := HBY.out b hb'; simp; omega))
    replace Vy := Lib.hid (Vy.out.apart ha (.inr (by omega)))
    replace HX := Lib.hid (HX.out.apart ha (.inl (by have := hwX.out; omega)))
    replace HY := Lib.hid (HY.out.apart ha (.inl (by have := hwX.out; omega)))
    replace HB := Lib.hid (HB.out.trans (ha.toBelow (by have := hwX.out; omega) HB.out.size))
    replace HA := Lib.hid (HA.out.trans (ha.toBelow (Nat.le_refl _) hsz))
    clear hmix hoL ha Hx L hsz b0 Vx
    have d0 := (Vy.out 0 _ rfl).1
    have d1 := (Vy.out 1 _ rfl).1
    have d2 := (Vy.out 2 _ rfl).1
    go_wp2_with fail
    refine (mark_value g2 bly u2 _ T _ Hy.out HSV.out HTW.out).mono ?_
    rintro e vD ⟨rfl, hyo, hon⟩
    rw [← HT2.out]
    replace HG := Lib.hid (row_only HG.out hon (fun b hb' => by have h1 := HBY.out b hb'; omega))
    replace HX := Lib.hid (cells_only HX.out hon (fun hb' => by have h1 := HBY.out _ hb'; have := hwX.out; omega))
    replace HY := Lib.hid (cells_only HY.out hon (fun hb' => by have h1 := HBY.out _ hb'; have := hwX.out; omega))
    have hsz := HA.out.size
    have hszB := HB.out.size
    replace HB := Lib.hid (hon.below HB.out hszB (fun b hb' => by have h1 := HBY.out b hb'; have := hwX.out; omega))
    replace HA := Lib.hid (hon.below HA.out hsz (fun b hb' => by have h1 := HBY.out b hb'; omega))
    clear hyo hon Hy Vy hsz hszB d0 d1 d2
    go_wp2_with fail
    refine (eq_any xg xw NS NS cg cw _ (by omega) HG.out.rd (HW.out.below HA.out)).mono ?_
    rintro e vE ⟨rfl, nq, hq9⟩
    rw [decide_eq_true (rfl : NS = NS)]
    have hb : Below vD.heap.size vD vE := by subst hq9; exact below_drewN (Below.refl _ _) nq
    replace HX := Lib.hid (HX.out.below hb)
    replace HY := Lib.hid (HY.out.below hb)
    replace HG := Lib.hid (HG.out.below hb)
    replace HA := Lib.hid (HA.out.trans (hb.mono HA.out.size))
    replace HB := Lib.hid (HB.out.trans (hb.mono HB.out.size))
    clear hb
    clear hq9
    go_wp2_with fail
    refine (mark_any z2.heap.size xg NS cg 1 _ (by omega) (by omega) HG.out).mono ?_
    rintro e vF ⟨rfl, hf, ht⟩
    rw [← HM.out]
    replace HX := Lib.hid (cells_touch HX.out ht (by have := hwX.out; omega))
    replace HY := Lib.hid (cells_touch HY.out ht (by have := hwX.out; omega))
    replace HB := Lib.hid (ht.below HB.out HB.out.size (by have := hwX.out; omega))
    replace HA := Lib.hid (ht.below HA.out HA.out.size (by omega))
    replace HG := Lib.hid hf
    clear hf ht
    go_wp2_with fail
    refine (held_any xg NS.length cg 1 _ (by omega) (by omega) HG.out.rd).mono ?_
    rintro e vG ⟨rfl, rfl⟩
    rw [← HM.out]
    clear e0 e1 e2 e3
    go_upto_region 31 with fail
    have hb : Below vF.heap.size vF vF.drew := below_drewN (Below.refl _ _) 1
    replace HX := Lib.hid (HX.out.below hb)
    replace HY := Lib.hid (HY.out.below hb)
    replace HG := Lib.hid (HG.out.below hb)
    replace HA := Lib.hid (HA.out.trans (hb.mono HA.out.size))
    replace HB := Lib.hid (HB.out.trans (hb.mono HB.out.size))
    clear hb
    go_region_held3 (fun W => W.cell? ⟨w.heap.size, 0, none⟩ = some (.slice a0 rs0.length cap0) ∧ W.cell? ⟨w.heap.size + 1, 0, none⟩ = some (.int .i64 u2.number) ∧ W.cell? ⟨w.heap.size + 1, 1, none⟩ = some (.slice a1b u2.bytes.length c1b) ∧ W.cell? ⟨w.heap.size + 1, 2, none⟩ = some (.slice a2b u2.items.length c2b)) (exact ⟨(HX.out 0 _ rfl).1, (HY.out 0 _ rfl).1, (HY.out 1 _ rfl).1, (HY.out 2 _ rfl).1⟩) (first | (go_at_call 27; (with_reducible refine (to_descr a0 rs0 cap0 _ hlen HS.out (HR0.out.below HB.out)).mono ?_); rintro e v ⟨xs, ys, rfl, ho, hb⟩; have Hs := Lib.hid ho; clear ho; (try (replace Ht := Lib.hid (Ht.out.below hb))); replace HX := Lib.hid (HX.out.below hb); replace HY := Lib.hid (HY.out.below hb); replace HG := Lib.hid (HG.out.below hb); replace HA := Lib.hid (HA.out.trans (hb.mono HA.out.size)); replace HB := Lib.hid (HB.out.trans (hb.mono HB.out.size)); clear hb) | (go_at_call 28; (with_reducible refine (to_value g2 u2 _ _ (HR2.out.below HB.out) HSV.out).mono ?_); rintro e v ⟨xs, bl, rfl, ho, _, hb⟩; have Ht := Lib.hid ho; obtain ⟨a1t, c1t, a2t, c2t, rfl⟩ := ho.cells; clear ho; (try (replace Hs := Lib.hid (Hs.out.below hb))); replace HX := Lib.hid (HX.out.below hb); replace HY := Lib.hid (HY.out.below hb); replace HG := Lib.hid (HG.out.below hb); replace HA := Lib.hid (HA.out.trans (hb.mono HA.out.size)); replace HB := Lib.hid (HB.out.trans (hb.mono HB.out.size)); clear hb) | (go_at_call 29; refine ((printf_impl xs rs0 ys g2 u2 _ _ hlen HS.out HP.out Hs.out.rdc Ht.out.is).mono fun _ _ h => pve_bytes h).mono ?_; rintro e v ⟨xh, ch, rfl, hrh, hb⟩; rw [← HNS.out] at hrh ⊢; rw [← HOK.out]; have HH := Lib.hid hrh.rd; clear hrh; replace HX := Lib.hid (HX.out.below hb); replace HY := Lib.hid (HY.out.below hb); replace HG := Lib.hid (HG.out.below hb); replace HA := Lib.hid (HA.out.trans (hb.mono HA.out.size)); replace HB := Lib.hid (HB.out.trans (hb.mono HB.out.size)); clear hb))
    all_goals (clear Hs Ht)
    all_goals (go_wp2_with fail; refine (eq_any xh xw NS NS ch cw _ (by omega) HH.out (HW.out.below HA.out)).mono ?_; rintro e vH ⟨rfl, nq, hq9⟩; rw [decide_eq_true (rfl : NS = NS)]; have hb : Below v.heap.size v vH := (by subst hq9; exact below_drewN (Below.refl _ _) nq); replace HX := Lib.hid (HX.out.below hb); replace HY := Lib.hid (HY.out.below hb); replace HG := Lib.hid (HG.out.below hb); replace HA := Lib.hid (HA.out.trans (hb.mono HA.out.size)); replace HB := Lib.hid (HB.out.trans (hb.mono HB.out.size)); clear hb hq9; go_wp2_with fail; refine (held_any xg NS.length cg 1 _ (by omega) (by omega) HG.out.rd).mono ?_; rintro e vG ⟨rfl, rfl⟩; rw [← HM.out]; go_wp2; go_ret; exact ⟨rfl, HB.out⟩)
theorem walk (a0 : Option Addr) (rs0 : List RuleV) (cap0 : Nat) (g2 : Nat) (u2 : ValueV) (cs2 : List Value) (w : World) (r0 : ArgD a0 rs0 cap0 w) (r2 : IsVal g2 u2 cs2 w) (f2 : fitV u2) (_ : intV u2) :
    Calls Tryz.prog 5 #[.agg #[.slice a0 rs0.length cap0], .agg cs2.toArray] w fun e w' => e = .returned (.bool true) ∧ Below w.heap.size w w' := by
  by_cases h0 : 1048576 < sizeR rs0
  · exact walk_large0 a0 rs0 cap0 g2 u2 cs2 w r0 r2 f2 h0
  by_cases h : 1048576 < sizeR rs0 + sizV u2
  · exact walk_large1 a0 rs0 cap0 g2 u2 cs2 w r0 r2 f2 (by omega) h
  exact walk_short a0 rs0 cap0 g2 u2 cs2 w r0 r2 f2 (by omega) (by omega)
set_option maxRecDepth 100000 in
theorem lifted (os : Os) (started : os.Started) (H : Type) (enc : TypeId × Value → H) :
    ReturnsInHanded {} Tryz.checked os 5 .any (Rows.fnExactPrintFileSpec.pre6 enc Tryz.prog Tryz.f5 Rows.fnExactPrintFileRow.domain false) (Rows.fnExactPrintFileSpec.post enc Tryz.prog Tryz.f5 false true false false) := by
  refine returnsInHanded_of_change (C := Tryz.checked) own started (by kernel_rfl) Tryz.func5
    (ChangeSpec.witness6 (enc := enc) (C := Tryz.checked) false ⟨#[], #[.agg #[.slice none 0 0], .agg #[.int .i64 0, .slice none 0 0, .slice none 0 0]], []⟩ 8 (by kernel_rfl) (by kernel_rfl) (by kernel_rfl) (by kernel_rfl)) ?_
  intro W base args ds gs before hval0 hW hcnd _
  have hval : ∀ (j : Nat) t v, Tryz.f5.params[j]? = some t → args[j]? = some v → Value.okWide Tryz.prog W .any base t v := hval0
  have hW' := hW
  obtain ⟨p, q, hA0, hV, rfl, hfz, hnd⟩ := hW
  have hA : DataW.TrodAll enc Tryz.prog W 0 (fun _ => true) true Tryz.f5.params.toList args.toList ds p := hA0
  rw [Tryz.params5] at hA hval
  obtain ⟨v0, vs0, d0, ds0, p0, q0, hargs, rfl, rfl, h0, r0⟩ := trodAll_cons hA
  obtain ⟨v1, vs1, d1, ds1, p1, q1, rfl, rfl, rfl, h1, r1⟩ := trodAll_cons r0
  obtain ⟨rfl, rfl, rfl⟩ := trodAll_nil r1
  obtain rfl : args = #[v0, v1] := by cases args; simp_all
  obtain ⟨rfl, rfl⟩ := trodVars_none hV
  simp only [List.append_nil] at hW'
  have hlt : ∀ x ∈ p0 ++ p1, x.block < W.heap.size := fun x hx => hW'.lt x (by simpa using hx)
  obtain ⟨a0, rs0, cap0, rfl, hb0⟩ := descr_arg (hval 0 54 v0 rfl rfl) h0
  have m0 : ∀ (W' : World), Below W.heap.size W W' → DataW.Trod enc Tryz.prog W' 0 (fun b => decide (b < W.heap.size)) true 54 (.agg #[.slice a0 rs0.length cap0]) d0 p0 := fun W' hn => Below.trod laidOut (by kernel_rfl) (of_decide_eq_true (by kernel_rfl)) h0 hn (fun x hx => hlt x (by simp [hx]))
  obtain ⟨g1, u1, cs1, rfl, hb1, hf1, hi1⟩ := value_arg (hval 1 57 v1 rfl rfl) h1
  have m1 : ∀ (W' : World), Below W.heap.size W W' → DataW.Trod enc Tryz.prog W' 0 (fun b => decide (b < W.heap.size)) true 57 (.agg cs1.toArray) d1 p1 := fun W' hn => Below.trod laidOut (by kernel_rfl) (of_decide_eq_true (by kernel_rfl)) h1 hn (fun x hx => hlt x (by simp [hx]))
  clear hA0 hval0
  refine (walk a0 rs0 cap0 g1 u1 cs1 W hb0 hb1 hf1 hi1).mono fun e W' ⟨he, hb⟩ => ?_
  subst he
  exact ⟨_, rfl, _, _, _, [], _, [], hW', trodAll_cons_mk (shut_bool Tryz.underlying4 _) trodAll_mk0, (trodAll_cons_mk (m0 _ hb) (trodAll_cons_mk (m1 _ hb) trodAll_mk0)), rfl, hb.frame _, fun h => by cases h⟩
theorem closed : joinedFacts Tryz.prog 5 Tryz.f5 Rows.fnExactPrintFileSpec Rows.fnExactPrintFileRow = true := by
  unfold joinedFacts
  rw [may_enter, lifts_final, make_is]
  kernel_rfl
theorem over : Rows.fnExactPrintFileRow.holds Tryz.pinned (OpenSpec.ofChange Rows.fnExactPrintFileSpec) :=
  OpenClaim.holds_of_wide 5 Tryz.f5 rfl rfl rfl rfl rfl rfl rfl ⟨rfl, rfl, rfl, rfl, rfl⟩ rfl rfl rfl rfl rfl (by kernel_rfl) Tryz.func5 closed
    (of_decide_eq_true (by kernel_rfl)) (by unfold Func.isWrapper; first | (rw [if_pos (by decide +kernel)]; kernel_rfl) | (rw [if_neg (by decide +kernel)]; exact ⟨rfl, rfl⟩))
    (fun os started H enc _ => lifted os started H enc)
/-- THE STATEMENT -/
theorem proved : Rows.FnExactPrintFileSaid := over
end fnExactPrintFile
#print axioms fnExactPrintFile.proved
end Go.Proofs.YtfmnjclnhppghaaGreat
