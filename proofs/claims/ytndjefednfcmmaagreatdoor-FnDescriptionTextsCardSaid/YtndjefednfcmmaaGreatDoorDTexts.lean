/- The draw of a description's text. -/
import Derived.Test.YtndjefednfcmmaaGreatDoorGDr
import Derived.Test.YtndjefednfcmmaaGreatDoorGSRule
import Derived.Test.YtndjefednfcmmaaGreatDoorTextP
set_option maxRecDepth 100000
namespace Go.Proofs.YtndjefednfcmmaaGreatDoor
open Go Go.RowKit
def lineChoices : List ByteArray := [⟨#[]⟩, ⟨#[97]⟩, ⟨#[97, 32, 105, 110, 116, 101, 103, 101, 114]⟩, ⟨#[97, 32, 105, 110, 116, 101, 103, 101, 114, 32, 49]⟩, ⟨#[97, 32, 105, 110, 116, 101, 103, 101, 114, 32, 48, 49]⟩, ⟨#[97, 32, 105, 110, 116, 101, 103, 101, 114, 32, 50, 32, 108, 105, 116, 116, 108, 101]⟩, ⟨#[97, 32, 105, 110, 116, 101, 103, 101, 114, 32, 50, 32, 98, 105, 103]⟩, ⟨#[97, 32, 99, 111, 110, 115, 116]⟩, ⟨#[97, 32, 99, 111, 110, 115, 116, 32, 48]⟩, ⟨#[97, 32, 99, 111, 110, 115, 116, 32, 48, 48, 102, 102]⟩, ⟨#[97, 32, 102, 105, 120, 101, 100, 32, 48]⟩, ⟨#[97, 32, 102, 105, 120, 101, 100, 32, 51]⟩, ⟨#[97, 32, 116, 101, 114, 109, 105, 110, 97, 116, 101, 100, 32, 53, 99]⟩, ⟨#[97, 32, 116, 101, 114, 109, 105, 110, 97, 116, 101, 100, 32, 48, 97]⟩, ⟨#[97, 32, 119, 101, 105, 114, 100, 32, 49]⟩, ⟨#[97, 32, 115, 101, 113, 117, 101, 110, 99, 101]⟩, ⟨#[97, 32, 115, 101, 113, 117, 101, 110, 99, 101, 32, 112, 58]⟩, ⟨#[97, 32, 111, 112, 116, 105, 111, 110, 32, 98]⟩, ⟨#[35, 32, 97]⟩, ⟨#[97, 32, 99, 104, 111, 105, 99, 101]⟩, ⟨#[97, 32, 97, 114, 114, 97, 121, 32, 97, 48]⟩]
theorem all_short {zs : List ByteArray} {n : Nat} (h : (zs.all fun x => decide (x.size ≤ n)) = true) : ∀ x ∈ zs, x.size ≤ n := fun x hx => of_decide_eq_true (List.all_eq_true.1 h x hx)
theorem lines_short : ∀ x ∈ lineChoices, x.size ≤ 30 := all_short rfl
set_option maxHeartbeats 4000000 in
theorem line0_draw (a : Option Addr) (len cap c : Nat) (w : World) (hl : len ≤ 140737488355328) (hc : Cur a len cap c w) :
  Calls Tryz.prog 53 #[.pointer (some ⟨c, 0, none⟩), .agg #[.slice none 0 0]] w (StrOut (fun x => x.size ≤ 30) a len cap c w) := by
 obtain ⟨w0, hw0⟩ : ∃ w0, w0 = w.alloc (.cells #[.slice none 0 0] 26) := ⟨_, rfl⟩
 have hB : Below w.heap.size w w0 := by subst hw0; exact (Below.refl _ _).alloc (Nat.le_refl _) _
 have hX : CellsAt w.heap.size [.slice none 0 0] w0 := by subst hw0; exact CellsAt.new w _ _
 have HC := Lib.hid (hc.below hB)
 have HG : Hid (w.grownBy w0 (some c)) := ⟨hB.os, hB.tape, hB.output, hB.size, fun k hk _ => hB.block k hk⟩
 have d0 := (hX 0 _ rfl).1
 have hW := Lib.hid hw0
 clear hc hB hX hw0
 go_enter Tryz.func53, Tryz.ntmps53
 go_upto_region 1 with fail
 rw [← hW.out]
 clear hW
 go_wp2_with fail
 refine (str_pick a len cap c 21 lineChoices _ rfl rfl w0 hl (by omega) (by omega) HC.out).mono ?_
 rintro e w1 ⟨x, hx, rfl, hc1, hg1⟩
 have hz := lines_short x hx
 have HC1 := Lib.hid hc1
 have HG1 := Lib.hid (Lib.grownBy_trans HG.out hg1)
 clear hc1 hg1 hx d0
 go_wp2
 go_ret
 exact ⟨x, hz, rfl, HC1.out, HG1.out⟩
set_option maxHeartbeats 8000000 in
theorem text_draw (a : Option Addr) (len cap c : Nat) (w : World) (hl : len ≤ 140737488355328) (hc : Cur a len cap c w) :
  Calls Tryz.prog 29 #[.pointer (some ⟨c, 0, none⟩)] w (StrOut (fun x => x.size ≤ 1048576) a len cap c w) := by
 have HC := Lib.hid hc
 clear hc
 go_enter Tryz.func29, Tryz.ntmps29
 go_wp2_with fail
 refine (descr_draw a len cap c _ hl HC.out).mono ?_
 rintro e w1 ⟨rs, x, cp, rfl, hm, ⟨hn1, hn6⟩, -, hrow, hc1, hg1⟩
 have HRC := Lib.hid hrow.at
 have HSH := Lib.hid (made_short hm)
 have HSP := Lib.hid (made_spelt hm (by omega))
 have HC1 := Lib.hid hc1
 have HG1 := Lib.hid hg1
 clear hm hrow hc1 hg1 HC
 go_wp2_with fail
 refine (fdescr_spec x rs cp _ (by omega) HSH.out HSP.out HRC.out).mono ?_
 rintro e w2 ⟨rfl, hb2⟩
 have hts := textD_small (rs := rs)
 obtain ⟨s, hs⟩ : ∃ s, s = textD rs := ⟨_, rfl⟩
 rw [← hs] at hts ⊢
 have HC2 := Lib.hid (HC1.out.below hb2)
 have HG2 := Lib.hid (grown_below HG1.out hb2)
 clear hs hb2 HC1 HG1 HRC HSH HSP
 go_wp2_with fail
 refine (below_draw a len cap c 6 _ hl (by omega) (by omega) HC2.out).mono ?_
 rintro e w3 ⟨y, ⟨y0, y1⟩, rfl, hc3, hg3⟩
 have HC3 := Lib.hid hc3
 have HG3 := Lib.hid (Lib.grownBy_trans HG2.out hg3)
 clear hc3 hg3 HC2 HG2
 rcases (by omega : y = 0 ∨ y = 1 ∨ y = 2 ∨ y = 3 ∨ y = 4 ∨ y = 5) with rfl | rfl | rfl | rfl | rfl | rfl
 ·clear y0 y1
  go_wp2_with fail
  refine (line0_draw a len cap c _ hl HC3.out).mono ?_
  rintro e w4 ⟨x4, h4, rfl, hc4, hg4⟩
  have HC4 := Lib.hid hc4
  have HG4 := Lib.hid (Lib.grownBy_trans HG3.out hg4)
  have ha1 := fun W => addS W s x4 (by omega)
  have ha2 := fun W => addS W (s ++ x4) ⟨#[10]⟩ (by rw [ByteArray.size_append]; show s.size + x4.size + 1 ≤ _; omega)
  have hsz : (s ++ x4 ++ ⟨#[10]⟩).size ≤ 1048576 := by rw [ByteArray.size_append, ByteArray.size_append]; show s.size + x4.size + 1 ≤ _; omega
  generalize s ++ x4 ++ ⟨#[10]⟩ = t2 at ha2 hsz
  generalize s ++ x4 = t1 at ha1 ha2
  clear hc4 hg4 HC3 HG3
  go_wp2
  go_ret
  exact ⟨t2, hsz, rfl, HC4.out, HG4.out⟩
 ·clear y0 y1
  have ha1 := fun W => addS W ⟨#[35, 32, 102, 105, 114, 115, 116, 10, 10]⟩ s (by show 9 + s.size ≤ _; omega)
  have hsz : ((⟨#[35, 32, 102, 105, 114, 115, 116, 10, 10]⟩ : ByteArray) ++ s).size ≤ 1048576 := by rw [ByteArray.size_append]; show 9 + s.size ≤ _; omega
  generalize (⟨#[35, 32, 102, 105, 114, 115, 116, 10, 10]⟩ : ByteArray) ++ s = t1 at ha1 hsz
  go_wp2
  go_ret
  exact ⟨t1, hsz, rfl, HC3.out, HG3.out⟩
 ·clear y0 y1
  go_wp2_with fail
  refine (str_pick a len cap c 4 [⟨#[]⟩, ⟨#[10]⟩, ⟨#[120]⟩, ⟨#[32, 10, 35, 32, 98, 10]⟩] _ rfl rfl _ hl (by omega) (by omega) HC3.out).mono ?_
  rintro e w4 ⟨x4, h4, rfl, hc4, hg4⟩
  have hsz : x4.size ≤ 1048576 := Nat.le_trans (all_short (n := 6) rfl x4 h4) (by omega)
  have HC4 := Lib.hid hc4
  have HG4 := Lib.hid (Lib.grownBy_trans HG3.out hg4)
  clear hc4 hg4 HC3 HG3 h4
  go_wp2
  go_ret
  exact ⟨x4, hsz, rfl, HC4.out, HG4.out⟩
 ·clear y0 y1
  have ha1 := fun W => addS W s ⟨#[108, 97, 115, 116, 32, 105, 110, 116, 101, 103, 101, 114, 32, 49]⟩ (by show s.size + 14 ≤ _; omega)
  have hsz : (s ++ (⟨#[108, 97, 115, 116, 32, 105, 110, 116, 101, 103, 101, 114, 32, 49]⟩ : ByteArray)).size ≤ 1048576 := by rw [ByteArray.size_append]; show s.size + 14 ≤ _; omega
  generalize s ++ (⟨#[108, 97, 115, 116, 32, 105, 110, 116, 101, 103, 101, 114, 32, 49]⟩ : ByteArray) = t1 at ha1 hsz
  go_wp2
  go_ret
  exact ⟨t1, hsz, rfl, HC3.out, HG3.out⟩
 ·clear y0 y1
  go_wp2
  go_ret
  exact ⟨s, by omega, rfl, HC3.out, HG3.out⟩
 ·clear y0 y1
  go_wp2
  go_ret
  exact ⟨s, by omega, rfl, HC3.out, HG3.out⟩
def DrawnT (w : World) (e : Ending) (w' : World) : Prop := ∃ s : ByteArray, s.size ≤ 1048576 ∧ e = .returned (.string s) ∧ Below w.heap.size w w'
theorem drawt (a : Option Addr) (len cap : Nat) (w : World) (hl : len ≤ 140737488355328) (hs : Code a len w) :
  Calls Tryz.prog 10 #[.slice a len cap] w (DrawnT w) := by
 have HS := Lib.hid hs
 clear hs
 go_enter Tryz.func10, Tryz.ntmps10
 go_wp2_with fail
 refine (new_draw a len cap _ hl HS.out).mono ?_
 rintro e w1 ⟨rfl, hc1, hb1, hz1⟩
 have HC1 := Lib.hid hc1
 have HB1 := Lib.hid hb1
 clear hc1 hb1 hz1 HS
 go_wp2_with fail
 refine (text_draw a len cap w.heap.size _ hl HC1.out).mono ?_
 rintro e w2 ⟨s, hz, rfl, hc2, hg2⟩
 have HB2 := Lib.hid (HB1.out.grown hg2 HB1.out.size (fun k e => by injection e with e; omega))
 clear hc2 hg2
 go_wp2
 go_ret
 exact ⟨s, hz, rfl, HB2.out⟩
end Go.Proofs.YtndjefednfcmmaaGreatDoor
