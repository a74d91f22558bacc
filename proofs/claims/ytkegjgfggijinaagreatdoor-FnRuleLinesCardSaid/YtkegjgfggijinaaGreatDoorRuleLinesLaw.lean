/- It is proved that the law FnRuleLines returns true at every input of its parameter type and leaves its argument as it was (statement Rows.FnRuleLinesCardSaid), under no condition beyond the card's own: the listed variables of the library read as its text lays them. -/
import Derived.Test.YtkegjgfggijinaaGreatDoorGRdB
import Derived.Test.YtkegjgfggijinaaGreatDoorDescrP
import Derived.Test.YtkegjgfggijinaaGreatDoorGMi
import Derived.Test.YtkegjgfggijinaaGreatDoorGCp
import Derived.Test.YtkegjgfggijinaaGreatDoorArg
import Derived.Deep.RegionHeld3
import Derived.Deep.CutRange
import Derived.Test.YtkegjgfggijinaaGreatDoorGPar
import Derived.Test.YtkegjgfggijinaaGreatDoorCards
import Derived.Test.YtkegjgfggijinaaGreatDoorTie
import Derived.SevenTiedAt
namespace Go.Proofs.YtkegjgfggijinaaGreatDoor
open Go Go.ChangeShapes Go.WideShapes Go.ChangeAt Go.RowKit
namespace fnRuleLines
theorem big_no (a : Option Addr) (n cap : Nat) (w : World) (h : n ≤ 1048576) : Calls Tryz.prog 9 #[.slice a n cap] w fun e w' => e = .returned (.bool false) ∧ w = w' := by
  have g : ¬ (1048576 : Int) < (n : Int) := by omega
  go_enter Tryz.func9, Tryz.ntmps9
  go_wp2
  go_ret
  exact ⟨rfl, rfl⟩
theorem big_yes (a : Option Addr) (n cap : Nat) (w : World) (h : 1048576 < n) (_hm : n ≤ 9223372036854775807) : Calls Tryz.prog 9 #[.slice a n cap] w fun e w' => e = .returned (.bool true) ∧ w = w' := by
  have g : (1048576 : Int) < (n : Int) := by omega
  go_enter Tryz.func9, Tryz.ntmps9
  go_wp2
  go_ret
  exact ⟨rfl, rfl⟩
theorem walk_long (a0 : Option Addr) (bs0 : List UInt8) (cap0 : Nat) (w : World) (h : 1048576 < bs0.length) (hm : bs0.length ≤ 9223372036854775807) :
    Calls Tryz.prog 4 #[.slice a0 bs0.length cap0] w fun e w' => e = .returned (.bool true) ∧ Below w.heap.size w w' := by
  go_enter Tryz.func4, Tryz.ntmps4
  go_wp2_with fail
  refine (big_yes a0 bs0.length cap0 w h hm).mono ?_
  rintro e w1 ⟨rfl, rfl⟩
  go_wp2_with fail
  go_ret
  exact ⟨rfl, Below.refl _ _⟩
set_option maxRecDepth 100000 in
theorem same_texts (a b : Option Addr) (ss : List ByteArray) (ca cb : Nat) (w : World) (hl : ss.length ≤ 1048576) (ha : RdS a ss w) (hb : RdS b ss w) :
    Calls Tryz.prog 23 #[.slice a ss.length ca, .slice b ss.length cb] w fun e w' => e = .returned (.bool true) ∧ Below w.heap.size w w' := by
  have HA := Lib.hid ha
  have HB := Lib.hid hb
  clear ha hb
  go_enter Tryz.func23, Tryz.ntmps23
  go_wp2
  go_loopw [5] (fun i W => ∃ k : Nat, k ≤ ss.length ∧ i = .int .i64 k ∧ Hid (Below w.heap.size w W)) (fun i _ => ss.length - (intOf i).toNat)
  case atStart => exact ⟨0, Nat.zero_le _, rfl, Below.refl _ _⟩
  case round =>
    obtain ⟨k, hk, rfl, hbw⟩ := hrel
    have k0 : (0 : Int) ≤ (k : Int) := by omega
    by_cases hlt : k < ss.length
    · have k1 : (k : Int) < (ss.length : Int) := by omega
      obtain ⟨b1, o1, rfl, c1⟩ := (HA.out.below hbw.out) k hlt
      obtain ⟨b2, o2, rfl, c2⟩ := (HB.out.below hbw.out) k hlt
      generalize ss[k] = x at c1 c2
      go_wp2
      go_quiet (fail)
      go_wp2
      go_roundw
      case rel => exact ⟨k + 1, by omega, by go_num, below_drewN hbw.out _⟩
      case measure => simp [intOf]; omega
    · have k1 : ¬ (k : Int) < (ss.length : Int) := by omega
      go_wp2
      go_ret
      exact ⟨rfl, hbw.out⟩
theorem rd_nil (w : World) : RdC none [] w := fun j hj => by simp at hj
theorem good_nil : Good [] none 0 := ⟨allV_nil, by simp, by simp, fun _ => rfl, fun r hr => by simp at hr, fun r hr => by simp at hr⟩
theorem prule_n (n : Nat) (a : Option Addr) (rs : List RuleV) (cap : Nat) (line J : ByteArray) (w : World) (hn : n = rs.length) (hJ : spaced line = J) (gd : Good rs a cap) (hs : line.size ≤ 1048576) (ht : Tabs w) (hrd : RdC a rs w) :
    Calls Tryz.prog 19 #[.agg #[.slice a n cap], .string line] w (RuleRead rs J w) := by subst hn hJ; exact prule_impl a rs cap line w gd hs ht hrd
theorem addrule_n (n : Nat) (a : Option Addr) (rs : List RuleV) (cap : Nat) (line J : ByteArray) (w : World) (hn : n = rs.length) (hJ : spaced line = J) (gd : Good rs a cap) (hs : line.size ≤ 1048576) (ht : Tabs w) (hrd : RdC a rs w) :
    Calls Tryz.prog 20 #[.agg #[.slice a n cap], .string line] w (AddOut rs J w) := by subst hn hJ; exact addrule_impl a rs cap line w gd hs ht hrd
set_option maxRecDepth 100000 in
set_option maxHeartbeats 16000000 in
theorem walk_short (a0 : Option Addr) (bs0 : List UInt8) (cap0 : Nat) (w : World) (h : bs0.length ≤ 1048576) (hs : Code a0 bs0.length w) (ht : Tabs w) :
    Calls Tryz.prog 4 #[.slice a0 bs0.length cap0] w fun e w' => e = .returned (.bool true) ∧ Below w.heap.size w w' := by
  have HS := Lib.hid hs
  have HTW := Lib.hid ht
  clear hs ht
  go_enter Tryz.func4, Tryz.ntmps4
  go_wp2_with fail
  refine (big_no a0 bs0.length cap0 w h).mono ?_
  rintro e w1 ⟨rfl, rfl⟩
  go_wp2_with fail
  refine (drawd a0 bs0.length cap0 w (by omega) HS.out).mono ?_
  rintro e w1 ⟨rs, x, cp, rfl, hm, ⟨hn1, hn6⟩, hk0, hrow, hb1⟩
  obtain ⟨z, hz⟩ : ∃ z, z = (w1.alloc (.cells #[.slice x rs.length cp] 26)).alloc (.cells #[.slice none 0 0] 26) := ⟨_, rfl⟩
  have hbz : Below w1.heap.size w1 z := by subst hz; exact ((Below.refl _ _).alloc (Nat.le_refl _) _).alloc (by simp) _
  have hsz : z.heap.size = w1.heap.size + 2 := by subst hz; simp
  have HX : Hid (CellsAt w1.heap.size [.slice x rs.length cp] z) := by subst hz; exact (CellsAt.new w1 _ _).below ((Below.refl _ _).alloc (Nat.le_refl _) _)
  have hE0 : CellsAt (w1.heap.size + 1) [.slice none 0 0] z := by
    subst hz
    have h1 := CellsAt.new (w1.alloc (.cells #[.slice x rs.length cp] 26)) [.slice none 0 0] 26
    simpa using h1
  have HBZ := Lib.hid (hb1.trans (hbz.mono hb1.size))
  have hbs := hb1.size
  have HRC := Lib.hid hrow.at
  have HB1 := Lib.hid hbz
  have HBW1 := Lib.hid hb1
  have HV := Lib.hid (made_valid hm (by omega))
  have HSH := Lib.hid (made_short hm)
  have HSP := Lib.hid (made_spelt hm (by omega))
  have HK0 := Lib.hid (count_first hn1 (hk0 (by omega)))
  have hW := Lib.hid hz
  obtain ⟨D, hD⟩ : ∃ D, D = w1.heap.size := ⟨_, rfl⟩
  rw [← hD] at HX hsz hE0 hbs
  have HDD := Lib.hid hD
  have HDW := Lib.hid hD
  have HE0 := Lib.hid hE0
  have hrl : rs.length ≤ 9 := by omega
  have HREL : Hid (∃ (xe : Option Addr) (ce : Nat), OwnR (D + 2) z.heap.size xe (rs.take 0) ce z ∧ CellsAt (D + 1) [.slice xe 0 ce] z) := ⟨none, 0, by rw [List.take_zero]; exact ownR_nil _ _ _, HE0.out⟩
  clear hz hbz hb1 hrow hm hk0 HS hD hE0 HE0
  go_wp2
  rw [← hW.out, ← HDD.out]
  clear hW HDD
  go_loopw [5] (fun i W => ∃ k : Nat, k ≤ rs.length ∧ i = .int .i64 k ∧ Hid (Below (D + 1) z W) ∧ Hid (D + 2 ≤ W.heap.size ∧ ∃ (xe : Option Addr) (ce : Nat), OwnR (D + 2) W.heap.size xe (rs.take k) ce W ∧ CellsAt (D + 1) [.slice xe k ce] W)) (fun i _ => rs.length - (intOf i).toNat)
  case atStart => exact ⟨0, Nat.zero_le _, rfl, Below.refl _ _, by omega, HREL.out⟩
  case round =>
    clear HREL
    obtain ⟨k, hk, rfl, hb, hst⟩ := hrel
    obtain ⟨hD2, xe, ce, hoe, hce⟩ := hst.out
    clear hst
    have k0 : (0 : Int) ≤ (k : Int) := by omega
    have HOE := Lib.hid hoe
    have HCE := Lib.hid hce
    clear hoe hce
    have HES := Lib.hid (allV_take HV.out (n := k) (by omega))
    have hel : Hid (k = (rs.take k).length) := (take_len (by omega)).symm
    have hel2 : (rs.take k).length ≤ 24 := by rw [take_len (by omega)]; omega
    have HGE := Lib.hid (good_of HES.out hel2 HOE.out)
    have h1 : Hid (Below w1.heap.size w1 wr) := HB1.out.trans (hb.out.mono (by rw [← HDW.out]; omega))
    have hw : Hid (Below w.heap.size w wr) := HBW1.out.trans (h1.out.mono HBW1.out.size)
    have hx := (hb.out.cell (p := ⟨D, 0, none⟩) (by show D < D + 1; omega)).trans (HX.out 0 _ rfl).1
    by_cases hlt : k < rs.length
    · have k1 : (k : Int) < (rs.length : Int) := by omega
      have hln := line_small HV.out hlt
      have hla := Lib.hid (lineAt_in hlt)
      have hsp1 := Lib.hid (spaced_line HV.out hlt)
      have hsp2 := Lib.hid (spaced_around HV.out hlt)
      have hacc := Lib.hid (acc_line HV.out hlt)
      have hcm := Lib.hid (comment_line HV.out hlt)
      have hch := Lib.hid (comment_hash (lineAt rs k))
      have htw := Lib.hid (not_twice HV.out hlt)
      have halo := Lib.hid (And.intro (fun hk => acc_alone HV.out hlt hk) (fun hk => not_alone HV.out hlt hk))
      have hlk : Hid (∀ m : Nat, (∀ j, j < rs.length → (lineAt rs j).size ≤ m) → (lineAt rs k).size ≤ m) := fun m hm => hm k hlt
      go_wp2_with fail
      refine (frule_impl x rs cp k _ (by omega) hlt HSH.out HSP.out (HV.out k hlt) (HTW.out.below hw.out).pow (HRC.out.below h1.out)).mono ?_
      rintro e w2 ⟨rfl, hbn⟩
      rw [← hla.out]
      obtain ⟨ln, hlnE⟩ : ∃ ln, ln = lineAt rs k := ⟨_, rfl⟩
      rw [← hlnE] at hln hsp1 hsp2 hacc hcm hch htw halo hlk ⊢
      clear hla hlnE hx
      have hsn := hbn.size
      replace hb := Lib.hid (hb.out.trans (hbn.mono (by omega)))
      replace h1 := Lib.hid (h1.out.trans (hbn.mono h1.out.size))
      replace hw := Lib.hid (hw.out.trans (hbn.mono hw.out.size))
      replace HOE := Lib.hid ((HOE.out.below hbn).more (Nat.le_refl _) hsn)
      replace HCE := Lib.hid (HCE.out.below hbn)
      clear hbn
      have ce0 := (HCE.out 0 _ rfl).1
      go_wp2_with fail
      clear ce0
      refine (prule_n k xe (rs.take k) ce ln ln _ hel.out hsp1.out HGE.out (by omega) (HTW.out.below hw.out) HOE.out.rdc).mono ?_
      rintro e w3 ⟨f, fcs, ok, rfl, hof, hbn, hyes, hno⟩
      obtain rfl : ok = true := by
        cases ok with
        | true => rfl
        | false => exact absurd hacc.out ((hno rfl).2.2 _)
      obtain rfl : f = rs[k] := acc_unique HES.out (hyes rfl) hacc.out
      obtain ⟨g4, h4, g5, h5, g6, h6, g7, h7, rfl, -⟩ := id hof
      obtain ⟨nm, hnm⟩ : ∃ nm, nm = rs[k].name := ⟨_, rfl⟩
      obtain ⟨kd, hkd⟩ : ∃ kd, kd = rs[k].kind := ⟨_, rfl⟩
      rw [← hnm, ← hkd]
      obtain ⟨y1, hy1⟩ : ∃ y1, y1 = w3.alloc (.cells #[.string nm, .int .i64 kd, .int .i64 rs[k].size, .bool rs[k].little, .slice g4 rs[k].bytes.length h4, .slice g5 rs[k].names.length h5, .slice g6 rs[k].tags.length h6, .slice g7 rs[k].kids.length h7] 39) := ⟨_, rfl⟩
      have hby : Below w3.heap.size w3 y1 := by subst hy1; exact (Below.refl _ _).alloc (Nat.le_refl _) _
      have HRV : Hid (CellsAt w3.heap.size [.string nm, .int .i64 kd, .int .i64 rs[k].size, .bool rs[k].little, .slice g4 rs[k].bytes.length h4, .slice g5 rs[k].names.length h5, .slice g6 rs[k].tags.length h6, .slice g7 rs[k].kids.length h7] y1) := by subst hy1; exact CellsAt.new w3 _ _
      have hbn2 : Below w2.heap.size w2 y1 := hbn.trans (hby.mono hbn.size)
      have hsn2 := hbn2.size
      replace hb := Lib.hid (hb.out.trans (hbn2.mono (by omega)))
      replace h1 := Lib.hid (h1.out.trans (hbn2.mono h1.out.size))
      replace hw := Lib.hid (hw.out.trans (hbn2.mono hw.out.size))
      replace HOE := Lib.hid ((HOE.out.below hbn2).more (Nat.le_refl _) hsn2)
      replace HCE := Lib.hid (HCE.out.below hbn2)
      obtain ⟨V1, hV1⟩ : ∃ V1, V1 = w3.heap.size := ⟨_, rfl⟩
      rw [← hV1] at HRV
      have HV1 := Lib.hid hV1
      have HY1 := Lib.hid hy1
      have HNM := Lib.hid hnm
      have HKD := Lib.hid hkd
      have ce0 := (HCE.out 0 _ rfl).1
      rw [hy1] at ce0
      clear hbn hby hbn2 hof hyes hno hy1 hV1 hnm hkd
      go_wp2_with fail
      rw [← HY1.out, ← HV1.out]
      clear HY1 HV1 ce0
      obtain ⟨la, hla2⟩ : ∃ la : ByteArray, la = ⟨#[32, 32]⟩ ++ ln ++ ⟨#[32]⟩ := ⟨_, rfl⟩
      have hsa : la.size ≤ 1048576 := by
        rw [hla2, ByteArray.size_append, ByteArray.size_append]
        have q1 : (⟨#[32, 32]⟩ : ByteArray).size = 2 := rfl
        have q2 : (⟨#[32]⟩ : ByteArray).size = 1 := rfl
        omega
      rw [← hla2] at hsp2 ⊢
      clear hla2
      refine (addrule_n k xe (rs.take k) ce la ln _ hel.out hsp2.out HGE.out hsa (HTW.out.below hw.out) HOE.out.rdc).mono ?_
      rintro e w4 ⟨x4, rs4, cp4, ok4, rfl, ho4, hbn, hcase⟩
      obtain ⟨rfl, hrs4⟩ : ok4 = true ∧ rs4 = rs.take (k + 1) := by
        rcases hcase with ⟨q1, -, f2, q2, q3⟩ | ⟨-, -, q⟩
        · refine ⟨q1, ?_⟩
          rw [q3, acc_unique HES.out q2 hacc.out, take_snoc hlt]
        · rcases q with q | q
          · rw [take_len (by omega)] at q; omega
          · exact absurd hacc.out (q _)
      have hl4 : rs4.length = k + 1 := by rw [hrs4]; exact take_len (by omega)
      rw [hl4]
      obtain ⟨y2, hy2⟩ : ∃ y2, y2 = w4.alloc (.cells #[.slice x4 (k + 1) cp4] 26) := ⟨_, rfl⟩
      have hby : Below w4.heap.size w4 y2 := by subst hy2; exact (Below.refl _ _).alloc (Nat.le_refl _) _
      have HXV : Hid (CellsAt w4.heap.size [.slice x4 (k + 1) cp4] y2) := by subst hy2; exact CellsAt.new w4 _ _
      have hs4 := hbn.size
      have hsy2 : y2.heap.size = w4.heap.size + 1 := by subst hy2; simp
      have hbn2 : Below y1.heap.size y1 y2 := hbn.trans (hby.mono hbn.size)
      have hsn3 := hbn2.size
      replace hb := Lib.hid (hb.out.trans (hbn2.mono (by omega)))
      replace h1 := Lib.hid (h1.out.trans (hbn2.mono h1.out.size))
      replace hw := Lib.hid (hw.out.trans (hbn2.mono hw.out.size))
      replace HRV := Lib.hid (HRV.out.below hbn2)
      have HO4 := Lib.hid ((ho4.below hby).more (show D + 2 ≤ y1.heap.size by omega) (show w4.heap.size ≤ y2.heap.size by omega))
      have HC5 := Lib.hid (HCE.out.below hbn2)
      obtain ⟨V2, hV2⟩ : ∃ V2, V2 = w4.heap.size := ⟨_, rfl⟩
      rw [← hV2] at HXV
      have hVV : D + 1 < V2 := by omega
      have HV2 := Lib.hid hV2
      have HY2 := Lib.hid hy2
      have HRS4 := Lib.hid hrs4
      have HL4 := Lib.hid hl4
      obtain ⟨b0, off, cs0, e0, hr0, -, hc0⟩ := (HRC.out.below h1.out) k hlt
      obtain ⟨i4, j4, i5, j5, i6, j6, i7, j7, rfl, -⟩ := hr0
      subst e0
      have D0 : Hid (y2.drew.cell? ⟨b0, off + k * 8, none⟩ = some (.string nm)) := by rw [HNM.out]; exact hc0 0 _ rfl
      have D1 : Hid (y2.drew.cell? ⟨b0, off + k * 8 + 1, none⟩ = some (.int .i64 kd)) := by rw [HKD.out]; exact hc0 1 _ rfl
      have D7 : Hid (y2.drew.cell? ⟨b0, off + k * 8 + 7, none⟩ = some (.slice i7 rs[k].kids.length j7)) := hc0 7 _ rfl
      obtain ⟨kl, hkl⟩ : ∃ kl, kl = rs[k].kids.length := ⟨_, rfl⟩
      have hkl9 : kl ≤ 1048576 := by rw [hkl]; exact (HSH.out _ (List.getElem_mem hlt)).2.2.2
      rw [← hkl] at D7
      have HKL := Lib.hid hkl
      have hD3 : D + 2 ≤ y2.heap.size := by omega
      clear hbn hby hbn2 ho4 hcase hy2 hV2 hrs4 hc0 HOE HCE hsa hl4 hkl hsy2
      go_upto_region 11 with fail
      rw [← HY2.out, ← HV2.out]
      clear HY2 HV2
      replace hb : Hid (Below (D + 1) z y2.drew) := below_drewN hb.out 1
      replace h1 : Hid (Below w1.heap.size w1 y2.drew) := below_drewN h1.out 1
      replace hw : Hid (Below w.heap.size w y2.drew) := below_drewN hw.out 1
      replace HRV : Hid (CellsAt V1 [.string nm, .int .i64 kd, .int .i64 rs[k].size, .bool rs[k].little, .slice g4 rs[k].bytes.length h4, .slice g5 rs[k].names.length h5, .slice g6 rs[k].tags.length h6, .slice g7 rs[k].kids.length h7] y2.drew) := HRV.out
      have hbq : Hid (Below y2.heap.size y2 y2.drew) := below_drewN (Below.refl _ _) 1
      go_region_held3 (fun W => W.cell? ⟨D, 0, none⟩ = some (.slice (some ⟨b0, off, none⟩) rs.length cp) ∧ W.cell? ⟨V1, 0, none⟩ = some (.string nm) ∧ W.cell? ⟨V1, 1, none⟩ = some (.int .i64 kd) ∧ W.cell? ⟨b0, off + k * 8, none⟩ = some (.string nm) ∧ W.cell? ⟨b0, off + k * 8 + 1, none⟩ = some (.int .i64 kd)) (exact ⟨(hb.out.cell (p := ⟨D, 0, none⟩) (by show D < D + 1; omega)).trans (HX.out 0 _ rfl).1, (HRV.out 0 _ rfl).1, (HRV.out 1 _ rfl).1, D0.out, D1.out⟩) (first | (go_at_call 21; refine (longest_impl (some ⟨b0, off, none⟩) rs cp _ (by omega) HSH.out HSP.out HV.out (HTW.out.below hw.out).pow (HRC.out.below h1.out)).mono ?_; rintro e v5 ⟨m, rfl, hm, hm2, hbn⟩; have hgt : decide ((m : Int) < (ln.size : Int)) = false := decide_eq_false (by have := hlk.out m hm; omega); have hgn : decide (m < ln.size) = false := decide_eq_false (by have := hlk.out m hm; omega); clear hm; replace hbq := Lib.hid (hbq.out.trans (hbn.mono hbq.out.size)); replace hb := Lib.hid (hb.out.trans (hbn.mono (show D + 1 ≤ y2.heap.size by omega))); replace h1 := Lib.hid (h1.out.trans (hbn.mono h1.out.size)); replace hw := Lib.hid (hw.out.trans (hbn.mono hw.out.size)); replace HRV := Lib.hid (HRV.out.below hbn); replace D0 := Lib.hid (cell_keep hbn D0.out); replace D1 := Lib.hid (cell_keep hbn D1.out); replace D7 := Lib.hid (cell_keep hbn D7.out); clear hbn))
      clear D0 D1 HRV
      replace HO4 := Lib.hid (HO4.out.below hbq.out)
      replace HXV := Lib.hid (HXV.out.below hbq.out)
      replace HC5 := Lib.hid (HC5.out.below hbq.out)
      have hsq := hbq.out.size
      go_wp2_with fail
      refine (prule_n 0 none [] 0 ln ln _ rfl hsp1.out good_nil (by omega) (HTW.out.below hw.out) (rd_nil _)).mono ?_
      rintro e v6 ⟨f3, fcs3, ok3, rfl, hof3, hbn, hyes3, hno3⟩
      obtain ⟨p4, q4, p5, q5, p6, q6, p7, q7, rfl, -⟩ := id hof3
      have hok3 : Hid (ok3 = decide (kl = 0)) := by
        show _ = _
        rw [HKL.out]
        by_cases hk0 : rs[k].kids = []
        · rw [decide_eq_true (by rw [hk0]; rfl)]
          cases ok3 with
          | true => rfl
          | false => exact absurd (halo.out.1 hk0) ((hno3 rfl).2.2 _)
        · rw [decide_eq_false (fun e => hk0 (List.eq_nil_of_length_eq_zero e))]
          cases ok3 with
          | true => exact absurd (hyes3 rfl) (halo.out.2 hk0 _)
          | false => rfl
      obtain ⟨y3, hy3⟩ : ∃ y3, y3 = v6.alloc (.cells #[.string f3.name, .int .i64 f3.kind, .int .i64 f3.size, .bool f3.little, .slice p4 f3.bytes.length q4, .slice p5 f3.names.length q5, .slice p6 f3.tags.length q6, .slice p7 f3.kids.length q7] 39) := ⟨_, rfl⟩
      have hby : Below v6.heap.size v6 y3 := by subst hy3; exact (Below.refl _ _).alloc (Nat.le_refl _) _
      have hbn2 : Below v5.heap.size v5 y3 := hbn.trans (hby.mono hbn.size)
      have hs5 := hbn2.size
      replace hb := Lib.hid (hb.out.trans (hbn2.mono (show D + 1 ≤ v5.heap.size by omega)))
      replace h1 := Lib.hid (h1.out.trans (hbn2.mono h1.out.size))
      replace hw := Lib.hid (hw.out.trans (hbn2.mono hw.out.size))
      replace HO4 := Lib.hid (HO4.out.below hbn2)
      replace HXV := Lib.hid (HXV.out.below hbn2)
      replace HC5 := Lib.hid (HC5.out.below hbn2)
      have d7 := cell_keep hbn2 D7.out
      have hx := (hb.out.cell (p := ⟨D, 0, none⟩) (by show D < D + 1; omega)).trans (HX.out 0 _ rfl).1
      have HY3 := Lib.hid hy3
      rw [hok3.out]
      have hkz : ((kl : Int) == 0) = decide (kl = 0) := by
        by_cases e : kl = 0
        · subst e; rfl
        · rw [decide_eq_false e]; exact beq_eq_false_iff_ne.2 (by omega)
      obtain ⟨bk, hbk⟩ : ∃ bk, bk = decide (kl = 0) := ⟨_, rfl⟩
      rw [← hbk] at hkz ⊢
      clear hbn hby hbn2 hof3 hyes3 hno3 hok3 hy3 hbq D7 hbk
      go_upto_region 14 with fail
      rw [← HY3.out]
      clear HY3
      have xv := (HXV.out 0 _ rfl).1
      go_wp2_with fail
      clear hx d7 xv
      have HV4 : Hid (allV (kindI rs4) rs4) := by rw [HRS4.out]; exact allV_take HV.out (by omega)
      refine (addrule_n (k + 1) x4 rs4 cp4 ln ln _ HL4.out.symm hsp1.out (good_of HV4.out (by have := HL4.out; omega) HO4.out) (by omega) (HTW.out.below hw.out) HO4.out.rdc).mono ?_
      rintro e v7 ⟨x7, rs7, cp7, ok7, rfl, ho7, hbn, hcase7⟩
      obtain rfl : ok7 = false := by
        rcases hcase7 with ⟨-, -, f2, q2, -⟩ | ⟨q, -⟩
        · exact absurd (by rw [← HRS4.out]; exact q2) (htw.out f2)
        · exact q
      obtain ⟨m7, hm7⟩ : ∃ m7, m7 = rs7.length := ⟨_, rfl⟩
      rw [← hm7]
      obtain ⟨y4, hy4⟩ : ∃ y4, y4 = v7.alloc (.cells #[.slice x7 m7 cp7] 26) := ⟨_, rfl⟩
      have hby : Below v7.heap.size v7 y4 := by subst hy4; exact (Below.refl _ _).alloc (Nat.le_refl _) _
      have hbn2 : Below y3.heap.size y3 y4 := hbn.trans (hby.mono hbn.size)
      have hs6 := hbn2.size
      replace hb := Lib.hid (hb.out.trans (hbn2.mono (show D + 1 ≤ y3.heap.size by omega)))
      replace h1 := Lib.hid (h1.out.trans (hbn2.mono h1.out.size))
      replace hw := Lib.hid (hw.out.trans (hbn2.mono hw.out.size))
      replace HO4 := Lib.hid (HO4.out.below hbn2)
      replace HXV := Lib.hid (HXV.out.below hbn2)
      replace HC5 := Lib.hid (HC5.out.below hbn2)
      have HY4 := Lib.hid hy4
      clear hbn hby hbn2 ho7 hcase7 hy4 hm7
      go_wp2_with fail
      rw [← HY4.out]
      clear HY4
      refine (comment_impl ln _ (by omega)).mono ?_
      rintro e v8 ⟨rfl, hbn⟩
      rw [hcm.out]
      have hs7 := hbn.size
      replace hb := Lib.hid (hb.out.trans (hbn.mono (show D + 1 ≤ y4.heap.size by omega)))
      replace h1 := Lib.hid (h1.out.trans (hbn.mono h1.out.size))
      replace hw := Lib.hid (hw.out.trans (hbn.mono hw.out.size))
      replace HO4 := Lib.hid (HO4.out.below hbn)
      replace HXV := Lib.hid (HXV.out.below hbn)
      replace HC5 := Lib.hid (HC5.out.below hbn)
      clear hbn
      go_wp2_with fail
      obtain ⟨lh, hlh⟩ : ∃ lh : ByteArray, lh = ⟨#[35, 32]⟩ ++ ln := ⟨_, rfl⟩
      have hsh : lh.size ≤ 1048576 := by
        rw [hlh, ByteArray.size_append]
        have q1 : (⟨#[35, 32]⟩ : ByteArray).size = 2 := rfl
        omega
      rw [← hlh] at hch ⊢
      clear hlh
      refine (comment_impl lh _ (by omega)).mono ?_
      rintro e v9 ⟨rfl, hbn⟩
      rw [hch.out]
      have hs8 := hbn.size
      replace hb := Lib.hid (hb.out.trans (hbn.mono (show D + 1 ≤ v8.heap.size by omega)))
      replace HO4 := Lib.hid (HO4.out.below hbn)
      replace HXV := Lib.hid (HXV.out.below hbn)
      replace HC5 := Lib.hid (HC5.out.below hbn)
      clear hbn
      have xv := (HXV.out 0 _ rfl).1
      obtain ⟨ec, ef⟩ := HC5.out 0 _ rfl
      have HNEW : Hid (D + 2 ≤ (v9.setCell ⟨D + 1, 0, none⟩ (.slice x4 (k + 1) cp4)).heap.size ∧ ∃ (xe : Option Addr) (ce : Nat), OwnR (D + 2) (v9.setCell ⟨D + 1, 0, none⟩ (.slice x4 (k + 1) cp4)).heap.size xe (rs.take (k + 1)) ce (v9.setCell ⟨D + 1, 0, none⟩ (.slice x4 (k + 1) cp4)) ∧ CellsAt (D + 1) [.slice xe (k + 1) ce] (v9.setCell ⟨D + 1, 0, none⟩ (.slice x4 (k + 1) cp4))) := by
        refine ⟨by simp; omega, x4, cp4, ?_, ?_⟩
        · rw [← HRS4.out]
          exact (HO4.out.setFar (c := D + 1) (by omega)).more (Nat.le_refl _) (by simp; omega)
        · have q := HC5.out.set 0 (.slice x4 (k + 1) cp4) (by simp)
          simpa only [List.set] using q
      have HBN : Hid (Below (D + 1) z (v9.setCell ⟨D + 1, 0, none⟩ (.slice x4 (k + 1) cp4))) := hb.out.setCell (p := ⟨D + 1, 0, none⟩) (by show D + 1 ≤ D + 1; omega) _
      clear hb h1 hw HO4 HXV HC5 HRS4 HL4 HV4 hkz
      go_wp2
      go_roundw
      all_goals first | exact ⟨k + 1, by omega, by go_num, HBN, HNEW⟩ | (simp [intOf]; omega)
    · have k1 : ¬ (k : Int) < (rs.length : Int) := by omega
      obtain rfl : k = rs.length := by omega
      have htk : Hid (rs.take rs.length = rs) := List.take_length
      rw [htk.out] at HOE
      have hss : Hid (sameD rs rs = true) := (sameD_iff rs rs).2 rfl
      obtain ⟨ns, hns⟩ : ∃ ns, ns = namesOf rs := ⟨_, rfl⟩
      have hnl : ns.length ≤ 1048576 := by rw [hns, namesOf_length]; omega
      have HNS := Lib.hid hns
      obtain ⟨ck, hck⟩ : ∃ ck, ck = countK 1 rs := ⟨_, rfl⟩
      have hck1 : decide ((1 : Int) ≤ (ck : Int)) = true := decide_eq_true (by have := HK0.out; omega)
      have hck2 : decide (1 ≤ ck) = true := decide_eq_true (by have := HK0.out; omega)
      have HCK := Lib.hid hck
      clear hns hck htk
      go_upto_region 20 with fail
      clear hx
      replace hb : Hid (Below (D + 1) z wr.drew) := below_drewN hb.out 1
      replace h1 : Hid (Below w1.heap.size w1 wr.drew) := below_drewN h1.out 1
      replace hw : Hid (Below w.heap.size w wr.drew) := below_drewN hw.out 1
      have hq : Hid (Below wr.heap.size wr wr.drew) := below_drewN (Below.refl _ _) 1
      go_region_held3 (fun W => W.cell? ⟨D, 0, none⟩ = some (.slice x rs.length cp) ∧ W.cell? ⟨D + 1, 0, none⟩ = some (.slice xe rs.length ce)) (exact ⟨(hb.out.cell (p := ⟨D, 0, none⟩) (by show D < D + 1; omega)).trans (HX.out 0 _ rfl).1, (HCE.out.below hq.out 0 _ rfl).1⟩) (first | (go_at_call 15; refine (eqd_impl xe x rs rs ce cp _ (by omega) (by omega) HSH.out HSH.out (HOE.out.rd.below hq.out) (HRC.out.rd.below h1.out)).mono ?_; rintro e v1 ⟨rfl, hbn⟩; rw [hss.out]; have hqs := hq.out.size; replace hb := Lib.hid (hb.out.trans (hbn.mono (by omega))); clear hqs; replace hq := Lib.hid (hq.out.trans (hbn.mono hq.out.size)); replace h1 := Lib.hid (h1.out.trans (hbn.mono h1.out.size)); replace hw := Lib.hid (hw.out.trans (hbn.mono hw.out.size)); clear hbn) | (have hseen := HRA.out; go_at_call 24; refine (dn_impl x rs cp ns _ (by omega) HNS.out (HRC.out.rd.below h1.out)).mono ?_; rintro e v3 ⟨xb, cb, rfl, hrb, hbn⟩; have HRB := Lib.hid hrb.rd; replace HRA := Lib.hid (HRA.out.below hbn); have hqs := hq.out.size; replace hb := Lib.hid (hb.out.trans (hbn.mono (by omega))); clear hqs; replace hq := Lib.hid (hq.out.trans (hbn.mono hq.out.size)); replace h1 := Lib.hid (h1.out.trans (hbn.mono h1.out.size)); replace hw := Lib.hid (hw.out.trans (hbn.mono hw.out.size)); clear hbn hrb hseen) | (go_at_call 24; refine (dn_impl xe rs ce ns _ (by omega) HNS.out (HOE.out.rd.below hq.out)).mono ?_; rintro e v2 ⟨xa, ca, rfl, hra, hbn⟩; have HRA := Lib.hid hra.rd; have hqs := hq.out.size; replace hb := Lib.hid (hb.out.trans (hbn.mono (by omega))); clear hqs; replace hq := Lib.hid (hq.out.trans (hbn.mono hq.out.size)); replace h1 := Lib.hid (h1.out.trans (hbn.mono h1.out.size)); replace hw := Lib.hid (hw.out.trans (hbn.mono hw.out.size)); clear hbn hra) | (go_at_call 23; refine (same_texts xa xb ns ca cb _ hnl HRA.out HRB.out).mono ?_; rintro e v4 ⟨rfl, hbn⟩; have hqs := hq.out.size; replace hb := Lib.hid (hb.out.trans (hbn.mono (by omega))); clear hqs; replace hq := Lib.hid (hq.out.trans (hbn.mono hq.out.size)); replace h1 := Lib.hid (h1.out.trans (hbn.mono h1.out.size)); replace hw := Lib.hid (hw.out.trans (hbn.mono hw.out.size)); clear hbn) | (go_at_call 25; refine (count_impl x rs cp 1 _ (by omega) (HRC.out.rd.below h1.out)).mono ?_; rintro e v5 ⟨rfl, hbn⟩; rw [← HCK.out]; have hqs := hq.out.size; replace hb := Lib.hid (hb.out.trans (hbn.mono (by omega))); clear hqs; replace hq := Lib.hid (hq.out.trans (hbn.mono hq.out.size)); replace hw := Lib.hid (hw.out.trans (hbn.mono hw.out.size)); clear hbn))
      all_goals go_wp2
      all_goals go_ret
      all_goals exact ⟨rfl, hw.out⟩
theorem walk (a0 : Option Addr) (bs0 : List UInt8) (cap0 : Nat) (w : World) (r0 : Arg a0 bs0 cap0 w) (ht : Tabs w) :
    Calls Tryz.prog 4 #[.slice a0 bs0.length cap0] w fun e w' => e = .returned (.bool true) ∧ Below w.heap.size w w' := by
  by_cases h0 : 1048576 < bs0.length
  · exact walk_long a0 bs0 cap0 w h0 (by have q1 := r0.2.1; have q2 := r0.2.2.2; omega)
  · exact walk_short a0 bs0 cap0 w (by omega) r0.code ht
theorem door_met (os : Os) (args : Array Value) : laidMetH Tryz.prog Rows.fnRuleLinesRow.laid ((World.doorLaid Tryz.prog 400 os).forCall (fun _ _ => 0) ⟨#[], args, []⟩).memory :=
  laidMetH_of_parts3 (fuel := 8) (laidMet_of_run' 8 (by kernel_rfl) (by kernel_rfl)) (by kernel_rfl) (by kernel_rfl)
theorem of_laid {W : World} (h : laidMetH Tryz.prog Rows.fnRuleLinesRow.laid W) : Tabs W := tabs_of h
set_option maxRecDepth 100000 in
theorem lifted (os : Os) (started : os.Started) (H : Type) (enc : TypeId × Value → H) :
    ReturnsInHanded {} Tryz.checked os 4 .any (fun w args => (Rows.fnRuleLinesSpec.pre enc Tryz.prog Tryz.f4 [] false w args ∧ laidMetH Tryz.prog Rows.fnRuleLinesRow.laid w) ∧ sizedMet enc Tryz.prog Tryz.f4 (OpenSpec.ofChange Rows.fnRuleLinesSpec) false w args)
      (Rows.fnRuleLinesSpec.post enc Tryz.prog Tryz.f4 false true false false) := by
  refine returnsInHanded_of_change_and (C := Tryz.checked) (X := fun w _ => laidMetH Tryz.prog Rows.fnRuleLinesRow.laid w) (fun _ _ _ hh h => h.of_heap hh) ownL started (by kernel_rfl) Tryz.func4
    (ChangeSpec.witness_shaped (enc := enc) (C := Tryz.checked) (os := os) (X := fun w _ => laidMetH Tryz.prog Rows.fnRuleLinesRow.laid w) false (World.doorLaid Tryz.prog 400 os) #[.slice none 0 0] 8 rfl (World.shaped_of_RefB (by kernel_rfl) (by kernel_rfl)) (by kernel_rfl) (by kernel_rfl) (by kernel_rfl) (door_met os _)) ?_
  intro W base args ds gs before hval0 hW _ _ hL _
  have hval : ∀ (j : Nat) t v, Tryz.f4.params[j]? = some t → args[j]? = some v → Value.okWide Tryz.prog W .any base t v := hval0
  have hW' := hW
  obtain ⟨p, q, hA0, hV, rfl, hfz, hnd⟩ := hW
  have hA : DataW.TrodAll enc Tryz.prog W 0 (fun _ => true) true Tryz.f4.params.toList args.toList ds p := hA0
  rw [Tryz.params4] at hA hval
  obtain ⟨v0, vs0, d0, ds0, p0, q0, hargs, rfl, rfl, h0, r0⟩ := trodAll_cons hA
  obtain ⟨rfl, rfl, rfl⟩ := trodAll_nil r0
  obtain rfl : args = #[v0] := by cases args; simp_all
  obtain ⟨rfl, rfl⟩ := trodVars_none hV
  simp only [List.append_nil] at hW'
  have hlt : ∀ x ∈ p0, x.block < W.heap.size := fun x hx => hW'.lt x (by simpa using hx)
  obtain ⟨a0, len0, cap0, rfl⟩ := okWide_slice Tryz.underlying22 (hval 0 22 v0 rfl rfl)
  obtain ⟨bs0, rfl, hb0⟩ := bytes_arg h0
  have m0 : ∀ (W' : World), Below W.heap.size W W' → DataW.Trod enc Tryz.prog W' 0 (fun b => decide (b < W.heap.size)) true 22 (.slice a0 bs0.length cap0) d0 p0 := fun W' hn => Below.trod laidOut (by kernel_rfl) (of_decide_eq_true (by kernel_rfl)) h0 hn (fun x hx => hlt x (by simp [hx]))
  have hT := of_laid hL
  clear hA0 hval0
  refine (walk a0 bs0 cap0 W hb0 hT).mono fun e W' ⟨he, hb⟩ => ?_
  subst he
  exact ⟨_, rfl, _, _, _, [], _, [], hW', trodAll_cons_mk (shut_bool Tryz.underlying4 _) trodAll_mk0, (trodAll_cons_mk (m0 _ hb) trodAll_mk0), rfl, hb.frame _, fun h => by cases h⟩
theorem row_holds : Rows.FnRuleLinesSaid :=
  OpenClaim.holds_of_wide 4 Tryz.f4 rfl rfl rfl rfl rfl rfl rfl ⟨rfl, rfl, rfl, rfl, rfl⟩ rfl rfl rfl rfl rfl (by kernel_rfl) Tryz.func4 (by kernel_rfl)
    (of_decide_eq_true (by kernel_rfl)) (by unfold Func.isWrapper; first | (rw [if_pos (by decide +kernel)]; kernel_rfl) | (rw [if_neg (by decide +kernel)]; exact ⟨rfl, rfl⟩))
    (fun os started H enc _ => lifted os started H enc)
/-- THE STATEMENT -/
theorem proved : Rows.FnRuleLinesCardSaid :=
  Claim7.holds_tied_plain_at .later [] [.data, .data, .data, .sentinel, .sentinel] true Rows.fnRuleLinesCard.stood.harness Rows.fnRuleLinesCard.stood.looks
    row_holds (fun _ h => by cases h) (by kernel_rfl) (fun _ h => by cases h) fnRuleLines_row_tie rfl ⟨rfl, rfl⟩ (by kernel_rfl) rfl
    (fun f fn hf hfn => by
      obtain rfl : f = 4 := Option.some.inj ((show Tryz.prog.funcNamed Rows.fnRuleLinesRow.func = some 4 by kernel_rfl).symm.trans hf) |>.symm
      obtain rfl : fn = Tryz.f4 := (Option.some.inj (Tryz.func4.symm.trans hfn)).symm
      exact ⟨by kernel_rfl, fun j t ht => by
        rw [Tryz.params4] at ht
        have hm : t ∈ [22] := by simpa using Array.mem_of_getElem? ht
        have hall : ([22].all fun u => !Tryz.prog.wantsStandIn u) = true := by kernel_rfl
        exact (show Tryz.prog.wantsStandIn t = false by simpa using List.all_eq_true.1 hall t hm)⟩)
    (by kernel_rfl)
end fnRuleLines
#print axioms fnRuleLines.proved
end Go.Proofs.YtkegjgfggijinaaGreatDoor
