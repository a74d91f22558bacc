/- It is proved that the law FnTags returns true at every input of its parameter type and leaves its argument as it was (statement Rows.FnTagsSaid), with no condition. -/
import Derived.Test.YtekmopoblfknlaaFacts
import Derived.Test.YtekmopoblfknlaaDrawTag
import Derived.Test.YtekmopoblfknlaaTagsP
import Derived.Test.YtekmopoblfknlaaIFirst
import Derived.Test.YtekmopoblfknlaaSTag
import Derived.Test.YtekmopoblfknlaaGSz
import Derived.Deep.RegionHeld3
import Derived.Deep.CutRange
import Derived.IntWalk
namespace Go.Proofs.Ytekmopoblfknlaa
open Go Go.ChangeShapes Go.WideShapes Go.ChangeAt Go.RowKit
namespace fnTags
theorem big_no (a : Option Addr) (n cap : Nat) (w : World) (h : n ≤ 1048576) : Calls Try.prog 10 #[.slice a n cap] w fun e w' => e = .returned (.bool false) ∧ w = w' := by
  have g : ¬ (1048576 : Int) < (n : Int) := by omega
  go_enter Try.func10, Try.ntmps10
  go_wp2
  go_ret
  exact ⟨rfl, rfl⟩
theorem big_yes (a : Option Addr) (n cap : Nat) (w : World) (h : 1048576 < n) (_hm : n ≤ 9223372036854775807) : Calls Try.prog 10 #[.slice a n cap] w fun e w' => e = .returned (.bool true) ∧ w = w' := by
  have g : (1048576 : Int) < (n : Int) := by omega
  go_enter Try.func10, Try.ntmps10
  go_wp2
  go_ret
  exact ⟨rfl, rfl⟩
theorem walk_long (a0 : Option Addr) (bs0 : List UInt8) (cap0 : Nat) (w : World) (h : 1048576 < bs0.length) (hm : bs0.length ≤ 9223372036854775807) :
    Calls Try.prog 4 #[.slice a0 bs0.length cap0] w fun e w' => e = .returned (.bool true) ∧ Below w.heap.size w w' := by
  go_enter Try.func4, Try.ntmps4
  go_wp2_with fail
  refine (big_yes a0 bs0.length cap0 w h hm).mono ?_
  rintro e w1 ⟨rfl, rfl⟩
  go_wp2
  go_ret
  exact ⟨rfl, Below.refl _ _⟩
/-- What the law reads of a choice and of a tag's bytes. -/
def TagCells (D g off m q b7 o7 b6 o6 t bb ob n cp tn c6 kn c7 nb : Nat) (lt : Bool) (tg : Int) (W : World) : Prop :=
  W.cell? ⟨D, 0, none⟩ = some (.slice (some ⟨g, off, none⟩) n cp) ∧ W.cell? ⟨g, off + m * 8 + 6, none⟩ = some (.slice (some ⟨b6, o6, none⟩) tn c6) ∧ W.cell? ⟨g, off + m * 8 + 7, none⟩ = some (.slice (some ⟨b7, o7, none⟩) kn c7) ∧ W.cell? ⟨b7, o7, none⟩ = some (.int .i64 (q : Int)) ∧ W.cell? ⟨g, off + q * 8 + 3, none⟩ = some (.bool lt) ∧ W.cell? ⟨b6, o6 + t, none⟩ = some (.int .i64 tg) ∧ W.cell? ⟨bb, ob, none⟩ = some (.int .u8 (nb : Int))
theorem TagCells.below {D g off m q b7 o7 b6 o6 t bb ob n cp tn c6 kn c7 nb : Nat} {lt : Bool} {tg : Int} {w w' : World} (h : TagCells D g off m q b7 o7 b6 o6 t bb ob n cp tn c6 kn c7 nb lt tg w) (hb : Below w.heap.size w w') : TagCells D g off m q b7 o7 b6 o6 t bb ob n cp tn c6 kn c7 nb lt tg w' :=
  ⟨cell_keep hb h.1, cell_keep hb h.2.1, cell_keep hb h.2.2.1, cell_keep hb h.2.2.2.1, cell_keep hb h.2.2.2.2.1, cell_keep hb h.2.2.2.2.2.1, cell_keep hb h.2.2.2.2.2.2⟩
set_option maxRecDepth 100000 in
set_option maxHeartbeats 16000000 in
theorem walk_short (a0 : Option Addr) (bs0 : List UInt8) (cap0 : Nat) (w : World) (h : bs0.length ≤ 1048576) (hs : Code a0 bs0.length w) :
    Calls Try.prog 4 #[.slice a0 bs0.length cap0] w fun e w' => e = .returned (.bool true) ∧ Below w.heap.size w w' := by
  have HS := Lib.hid hs
  clear hs
  go_enter Try.func4, Try.ntmps4
  go_wp2_with fail
  refine (big_no a0 bs0.length cap0 w h).mono ?_
  rintro e w1 ⟨rfl, rfl⟩
  go_wp2_with fail
  refine (draw_tags a0 bs0.length cap0 w (by omega) HS.out).mono ?_
  rintro e w1 ⟨rs, x, cp, r, k, rfl, hn6, hall, hrow, hr7, hk3, hb1⟩
  obtain ⟨z, hz⟩ : ∃ z, z = w1.alloc (.cells #[.slice x rs.length cp] 26) := ⟨_, rfl⟩
  have hbz : Below w1.heap.size w1 z := by subst hz; exact (Below.refl _ _).alloc (Nat.le_refl _) _
  have HX : Hid (CellsAt w1.heap.size [.slice x rs.length cp] z) := by subst hz; exact CellsAt.new w1 _ _
  have HBZ := Lib.hid (hb1.trans (hbz.mono hb1.size))
  have HRK : Hid (RdC x rs z) := hrow.at.below hbz
  have HSH : Hid (∀ r ∈ rs, Short r) := fun r hr => (hall r hr).1
  have HSP : Hid (∀ r ∈ rs, Spelt r) := fun r hr => (hall r hr).2
  have HTI : Hid (∀ j W, RdC x rs W → Calls Try.prog 19 #[.agg #[.slice x rs.length cp], .int .i64 r, .int .i64 j] W (BytesOut (tagD rs r j) W)) := fun j W h1 => tags8_impl x rs cp r j W (by omega) HSH.out HSP.out h1
  have HTS : Hid (∀ W, RdC x rs W → Calls Try.prog 21 #[.agg #[.slice x rs.length cp], .int .i64 r, .int .i64 k] W (BytesOut (tagD rs r k) W)) := fun W h1 => tags8_spec x rs cp r k W (by omega) HSH.out HSP.out h1
  have HCS : Hid (∀ b W, RdC x rs W → Calls Try.prog 13 #[.agg #[.slice x rs.length cp], .int .i64 r, .int .i64 b] W fun e w' => e = .returned (.bool (canB rs r b)) ∧ Below W.heap.size W w') := fun b W h1 => cans_impl x rs cp r b W (by omega) HSH.out HSP.out h1
  have HFA := Lib.hid (tags_facts (rs := rs) (k := r) (j := k))
  obtain ⟨tb, htb⟩ : ∃ tb, tb = tagD rs r k := ⟨_, rfl⟩
  have HTB := Lib.hid htb
  have HTK : Hid (∀ W, RdC x rs W → Calls Try.prog 19 #[.agg #[.slice x rs.length cp], .int .i64 r, .int .i64 k] W (BytesOut tb W)) := fun W h1 => by rw [htb]; exact HTI.out k W h1
  rw [← htb] at HTS HFA
  have htl : tb.length ≤ 4 := by
    rw [htb]
    exact tagD_le rs r k
  obtain ⟨D, hD⟩ : ∃ D, D = w1.heap.size := ⟨_, rfl⟩
  rw [← hD] at HX
  have HDD := Lib.hid hD
  have hW := Lib.hid hz
  clear hz hbz hb1 hrow hall HS hD htb HSH HSP
  go_upto_region 4 with fail
  rw [← hW.out, ← HDD.out]
  clear hW HDD
  have bx := (HX.out 0 _ rfl).1
  go_wp2_with fail
  refine (HTK.out _ HRK.out).mono ?_
  rintro e y1 ⟨ab, cb, rfl, hrb, hb1⟩
  have HRB := Lib.hid hrb.rd
  replace HX := Lib.hid (HX.out.below hb1)
  replace HRK := Lib.hid (HRK.out.below hb1)
  replace HBZ := Lib.hid (HBZ.out.trans (hb1.mono HBZ.out.size))
  clear hb1 hrb bx HTK
  have bx := (HX.out 0 _ rfl).1
  go_wp2_with fail
  refine (HTS.out _ HRK.out).mono ?_
  rintro e y2 ⟨ac, cc, rfl, hrc, hb2⟩
  replace HRB := Lib.hid (HRB.out.below hb2)
  have HRC := Lib.hid hrc.rd
  replace HX := Lib.hid (HX.out.below hb2)
  replace HRK := Lib.hid (HRK.out.below hb2)
  replace HBZ := Lib.hid (HBZ.out.trans (hb2.mono HBZ.out.size))
  clear hb2 hrc bx HTS
  go_wp2_with fail
  refine (same_any ab ac tb tb cb cc _ (by omega) HRB.out HRC.out).mono ?_
  rintro e y3 ⟨rfl, n3, rfl⟩
  rw [decide_eq_true rfl]
  have hd3 : Below y2.heap.size y2 (y2.drewN n3) := below_drewN (Below.refl _ _) n3
  replace HRB := Lib.hid (HRB.out.below hd3)
  replace HX := Lib.hid (HX.out.below hd3)
  replace HRK := Lib.hid (HRK.out.below hd3)
  replace HBZ := Lib.hid (HBZ.out.trans (hd3.mono HBZ.out.size))
  clear HRC
  generalize y2.drewN n3 = y3 at hd3 HRB HX HRK HBZ ⊢
  clear hd3
  have bx := (HX.out 0 _ rfl).1
  cases tb with
  | nil =>
    go_wp2
    go_ret
    exact ⟨rfl, HBZ.out⟩
  | cons b0 rest =>
    obtain ⟨m, t, qq, hm, ht, hq, rfl, rfl, hkl, hqe, ht8, hoth, hcan, hrdi⟩ := HFA.out (by simp)
    have HCAN := Lib.hid (hcan b0 rest rfl)
    have HOTH := Lib.hid hoth
    have HRDI := Lib.hid hrdi
    clear hcan hoth hrdi HFA
    obtain ⟨bl, hbl⟩ : ∃ bl, bl = (b0 :: rest).length := ⟨_, rfl⟩
    have hbl0 : 0 < bl := by rw [hbl]; simp
    have hbl1 : (0 : Int) < (bl : Int) := by omega
    have hbl2 : ¬ (bl : Int) = 0 := by omega
    have hbl3 : ((bl : Int) == 0) = false := by simp; omega
    have HBL := Lib.hid hbl
    rw [← hbl] at htl ⊢
    clear hbl
    obtain ⟨g, off, cs, rfl, hri, -, hcell⟩ := HRK.out m hm
    obtain ⟨a4, c4, a5, c5, a6, c6, a7, c7, rfl, -, -, h6, h7⟩ := hri
    obtain ⟨b7, o7, rfl, k7⟩ := h7 0 hkl
    obtain ⟨b6, o6, rfl, k6⟩ := h6 t ht
    obtain ⟨g2, off2, cs2, e2, hri2, -, hcell2⟩ := HRK.out qq hq
    injection e2 with e2
    injection e2 with e2 e3 _
    subst e2 e3
    obtain ⟨_, _, _, _, _, _, _, _, rfl, -⟩ := hri2
    obtain ⟨bb, ob, rfl, kb⟩ := HRB.out 0 (by simp)
    have hk0 : rs[m].kids[0] = (qq : Int) := by
      rw [← hqe, List.getD, List.getElem?_eq_getElem hkl, Option.getD_some]
    have HTC : Hid (TagCells D g off m qq b7 o7 b6 o6 t bb ob rs.length cp rs[m].tags.length c6 rs[m].kids.length c7 b0.toNat rs[qq].little rs[m].tags[t] y3) := ⟨bx, hcell 6 _ rfl, hcell 7 _ rfl, by rw [← hk0]; exact k7, hcell2 3 _ rfl, k6, by simpa using kb⟩
    clear hcell hcell2 k7 k6 h6 h7 kb hk0 hqe
    obtain ⟨tg, htg⟩ : ∃ tg, tg = rs[m].tags[t] := ⟨_, rfl⟩
    obtain ⟨tn, htn⟩ : ∃ tn, tn = rs[m].tags.length := ⟨_, rfl⟩
    obtain ⟨kn, hkn⟩ : ∃ kn, kn = rs[m].kids.length := ⟨_, rfl⟩
    obtain ⟨lt, hlt⟩ : ∃ lt, lt = rs[qq].little := ⟨_, rfl⟩
    obtain ⟨nb, hnb⟩ : ∃ nb, nb = b0.toNat := ⟨_, rfl⟩
    obtain ⟨nr, hnr⟩ : ∃ nr, nr = rs.length := ⟨_, rfl⟩
    have hnb2 : nb < 256 := by rw [hnb]; exact b0.toNat_lt
    rw [← htg, ← hlt] at HRDI
    rw [← hnb] at HCAN
    rw [← htg, ← htn, ← hkn, ← hlt, ← hnb, ← hnr] at HTC
    have HCC : Hid (∀ W, RdC (some ⟨g, off, none⟩) rs W → Calls Try.prog 13 #[.agg #[.slice (some ⟨g, off, none⟩) nr cp], .int .i64 (m : Int), .int .i64 (nb : Int)] W fun e w' => e = .returned (.bool true) ∧ Below W.heap.size W w') := fun W h1 => by rw [← HCAN.out, hnr]; exact HCS.out _ W h1
    have HTJ : Hid (∀ j W, RdC (some ⟨g, off, none⟩) rs W → Calls Try.prog 19 #[.agg #[.slice (some ⟨g, off, none⟩) nr cp], .int .i64 (m : Int), .int .i64 j] W (BytesOut (tagD rs (m : Int) j) W)) := fun j W h1 => by rw [hnr]; exact HTI.out j W h1
    have HOT : Hid (∀ j : Nat, j < tn → j ≠ t → decide (tagD rs (m : Int) (j : Int) = b0 :: rest) = false) := fun j hj hne => decide_eq_false (HOTH.out j (by omega) hne)
    have HRI : Hid (∀ W, Rd (some ⟨bb, ob, none⟩) (b0 :: rest) W → Calls Try.prog 22 #[.slice (some ⟨bb, ob, none⟩) bl cb, .bool lt] W fun e w' => e = .returned (.int .i64 tg) ∧ W = w') := fun W h1 => by rw [← HRDI.out, HBL.out]; exact read_spec _ (b0 :: rest) cb lt W (by rw [← HBL.out]; omega) h1
    have HSA : Hid (∀ a2 cs2 ca2 W, cs2.length ≤ 4 → Rd a2 cs2 W → Rd (some ⟨bb, ob, none⟩) (b0 :: rest) W → Calls Try.prog 20 #[.slice a2 cs2.length ca2, .slice (some ⟨bb, ob, none⟩) bl cb] W (EqOut cs2 (b0 :: rest) W)) := fun a2 cs2 ca2 W hl h1 h2 => by rw [HBL.out]; exact same_any a2 _ cs2 (b0 :: rest) ca2 cb W (by omega) h1 h2
    have m0 : (0 : Int) ≤ (m : Int) := by omega
    have m1 : (m : Int) < (nr : Int) := by omega
    have q0 : (0 : Int) ≤ (qq : Int) := by omega
    have q1 : (qq : Int) < (nr : Int) := by omega
    have t0 : (0 : Int) ≤ (t : Int) := by omega
    have t1 : (t : Int) < (tn : Int) := by omega
    have kn0 : (0 : Int) < (kn : Int) := by omega
    have kn1 : 0 < kn := by omega
    have hwx : IntKind.i64.wrap (nb : Int) = (nb : Int) := IntWalk.i64_in _ (by omega)
    have htn8 : tn ≤ 8 := by omega
    rw [← hnr] at bx HX ⊢
    clear htg htn hkn hlt hnb hnr HRDI HBL HCAN HCS HTI HOTH hr7 hk3 ht8 hm ht hq hkl HTB bx HX
    have bx := HTC.out.1
    go_wp2_with fail
    have HB0 := Lib.hid (Below.refl y3.heap.size y3)
    clear bx
    go_loopw [7] (fun i W => ∃ j : Nat, j ≤ tn ∧ i = .int .i64 j ∧ Hid (Below y3.heap.size y3 W)) (fun i _ => tn - (intOf i).toNat)
    case atStart => exact ⟨0, Nat.zero_le _, rfl, HB0⟩
    case round =>
      clear HB0
      obtain ⟨j, hjl, rfl, hb⟩ := hrel
      have j0 : (0 : Int) ≤ (j : Int) := by omega
      obtain ⟨cD, cT, cK, cQ, cL, cG, cB⟩ := HTC.out.below hb.out
      by_cases hlt : j < tn
      · have j1 : (j : Int) < (tn : Int) := by omega
        clear cK cQ cL cG cB
        by_cases hjt : j = t
        · subst hjt
          have e1 : ((j : Int) != (j : Int)) = false := by simp
          go_wp2
          go_roundw
          case rel => exact ⟨j + 1, by omega, by go_num, hb⟩
          case measure => simp [intOf]; omega
        · have e1 : ((j : Int) != (t : Int)) = true := by simp; omega
          go_wp2_with fail
          refine (HTJ.out (j : Int) _ (HRK.out.below hb.out)).mono ?_
          rintro e y5 ⟨aj, cj, rfl, hrj, hb5⟩
          have HRJ := Lib.hid hrj.rd
          replace hb := Lib.hid (hb.out.trans (hb5.mono hb.out.size))
          have hlj := tagD_le rs (m : Int) (j : Int)
          have hno := HOT.out j hlt hjt
          obtain ⟨tj, htj⟩ : ∃ tj, tj = tagD rs (m : Int) (j : Int) := ⟨_, rfl⟩
          rw [← htj] at hlj hno HRJ ⊢
          clear hb5 hrj cD cT htj e1
          go_wp2_with fail
          refine (HSA.out aj tj cj _ hlj HRJ.out (HRB.out.below hb.out)).mono ?_
          rintro e y6 ⟨rfl, n6, rfl⟩
          rw [hno]
          have hd6 : Below y5.heap.size y5 (y5.drewN n6) := below_drewN (Below.refl _ _) n6
          replace hb := Lib.hid (hb.out.trans (hd6.mono hb.out.size))
          generalize y5.drewN n6 = y6 at hd6 hb ⊢
          clear hd6 HRJ hno hlj
          go_wp2
          go_roundw
          case rel => exact ⟨j + 1, by omega, by go_num, hb⟩
          case measure => simp [intOf]; omega
      · have j1 : ¬ (j : Int) < (tn : Int) := by omega
        go_upto_region 14 with fail
        clear cD cT cK cQ cL cG cB
        replace hb := Lib.hid (below_drewN hb.out 1)
        go_region_held3 (fun W => W.cell? ⟨D, 0, none⟩ = some (.slice (some ⟨g, off, none⟩) nr cp) ∧ W.cell? ⟨g, off + m * 8 + 6, none⟩ = some (.slice (some ⟨b6, o6, none⟩) tn c6) ∧ W.cell? ⟨g, off + m * 8 + 7, none⟩ = some (.slice (some ⟨b7, o7, none⟩) kn c7) ∧ W.cell? ⟨b7, o7, none⟩ = some (.int .i64 (qq : Int)) ∧ W.cell? ⟨g, off + qq * 8 + 3, none⟩ = some (.bool lt) ∧ W.cell? ⟨b6, o6 + t, none⟩ = some (.int .i64 tg) ∧ W.cell? ⟨bb, ob, none⟩ = some (.int .u8 (nb : Int))) (exact HTC.out.below hb.out) (first | (go_at_call 13; refine (HCC.out _ (HRK.out.below hb.out)).mono ?_; rintro e y7 ⟨rfl, hb7⟩; replace hb := Lib.hid (hb.out.trans (hb7.mono hb.out.size)); clear hb7) | (go_at_call 22; refine (HRI.out _ (HRB.out.below hb.out)).mono ?_; rintro e y8 ⟨rfl, rfl⟩))
        have HF := Lib.hid (HBZ.out.trans (hb.out.mono HBZ.out.size))
        go_wp2
        go_ret
        exact ⟨rfl, HF.out⟩
theorem walk (a0 : Option Addr) (bs0 : List UInt8) (cap0 : Nat) (w : World) (r0 : Arg a0 bs0 cap0 w) :
    Calls Try.prog 4 #[.slice a0 bs0.length cap0] w fun e w' => e = .returned (.bool true) ∧ Below w.heap.size w w' := by
  by_cases h0 : 1048576 < bs0.length
  · exact walk_long a0 bs0 cap0 w h0 (by have q1 := r0.2.1; have q2 := r0.2.2.2; omega)
  · exact walk_short a0 bs0 cap0 w (by omega) r0.code
set_option maxRecDepth 100000 in
theorem lifted (os : Os) (started : os.Started) (H : Type) (enc : TypeId × Value → H) :
    ReturnsInHanded {} Try.checked os 4 .any (Rows.fnTagsSpec.pre6 enc Try.prog Try.f4 Rows.fnTagsRow.domain false) (Rows.fnTagsSpec.post enc Try.prog Try.f4 false true false false) := by
  refine returnsInHanded_of_change (C := Try.checked) own started (by kernel_rfl) Try.func4
    (ChangeSpec.witness6 (enc := enc) (C := Try.checked) false ⟨#[], #[.slice none 0 0], []⟩ 8 (by kernel_rfl) (by kernel_rfl) (by kernel_rfl) (by kernel_rfl)) ?_
  intro W base args ds gs before hval0 hW hcnd _
  have hval : ∀ (j : Nat) t v, Try.f4.params[j]? = some t → args[j]? = some v → Value.okWide Try.prog W .any base t v := hval0
  have hW' := hW
  obtain ⟨p, q, hA0, hV, rfl, hfz, hnd⟩ := hW
  have hA : DataW.TrodAll enc Try.prog W 0 (fun _ => true) true Try.f4.params.toList args.toList ds p := hA0
  rw [Try.params4] at hA hval
  obtain ⟨v0, vs0, d0, ds0, p0, q0, hargs, rfl, rfl, h0, r0⟩ := trodAll_cons hA
  obtain ⟨rfl, rfl, rfl⟩ := trodAll_nil r0
  obtain rfl : args = #[v0] := by cases args; simp_all
  obtain ⟨rfl, rfl⟩ := trodVars_none hV
  simp only [List.append_nil] at hW'
  have hlt : ∀ x ∈ p0, x.block < W.heap.size := fun x hx => hW'.lt x (by simpa using hx)
  obtain ⟨a0, len0, cap0, rfl⟩ := okWide_slice Try.underlying22 (hval 0 22 v0 rfl rfl)
  obtain ⟨bs0, rfl, hb0⟩ := bytes_arg h0
  have m0 : ∀ (W' : World), Below W.heap.size W W' → DataW.Trod enc Try.prog W' 0 (fun b => decide (b < W.heap.size)) true 22 (.slice a0 bs0.length cap0) d0 p0 := fun W' hn => Below.trod laidOut (by kernel_rfl) (of_decide_eq_true (by kernel_rfl)) h0 hn (fun x hx => hlt x (by simp [hx]))
  clear hA0 hval0
  refine (walk a0 bs0 cap0 W hb0).mono fun e W' ⟨he, hb⟩ => ?_
  subst he
  exact ⟨_, rfl, _, _, _, [], _, [], hW', trodAll_cons_mk (shut_bool Try.underlying4 _) trodAll_mk0, (trodAll_cons_mk (m0 _ hb) trodAll_mk0), rfl, hb.frame _, fun h => by cases h⟩
theorem closed : joinedFacts Try.prog 4 Try.f4 Rows.fnTagsSpec Rows.fnTagsRow = true := by
  unfold joinedFacts
  rw [may_enter, lifts_final, make_is]
  kernel_rfl
theorem over : Rows.fnTagsRow.holds Try.pinned (OpenSpec.ofChange Rows.fnTagsSpec) :=
  OpenClaim.holds_of_wide 4 Try.f4 rfl rfl rfl rfl rfl rfl rfl ⟨rfl, rfl, rfl, rfl, rfl⟩ rfl rfl rfl rfl rfl (by kernel_rfl) Try.func4 closed
    (of_decide_eq_true (by kernel_rfl)) (by unfold Func.isWrapper; first | (rw [if_pos (by decide +kernel)]; kernel_rfl) | (rw [if_neg (by decide +kernel)]; exact ⟨rfl, rfl⟩))
    (fun os started H enc _ => lifted os started H enc)
/-- THE STATEMENT -/
theorem proved : Rows.FnTagsSaid := over
end fnTags
#print axioms fnTags.proved
end Go.Proofs.Ytekmopoblfknlaa

