/- Contracts of the program's writeFields and of the closure that FormatRule hands it. writeFields at a sequence. writeFields at a choice. The contract of the program's FormatRule at a valid rule. The contract of the program's FormatDescription. -/
import Derived.Test.YtndjefednfcmmaaGreatDoorGTxt
import Derived.Test.YtndjefednfcmmaaGreatDoorGHx
import Derived.Test.YtndjefednfcmmaaGreatDoorGPar
import Derived.Test.YtndjefednfcmmaaGreatDoorRowR
import Derived.Deep.RegionWith
import Derived.IntWalk
import Derived.Deep.CutRange
import Derived.Test.YtndjefednfcmmaaGreatDoorGValidI
set_option maxRecDepth 100000
namespace Go.Proofs.YtndjefednfcmmaaGreatDoor
open Go Go.RowKit
def LineAt (b : Nat) (s : ByteArray) (w : World) : Prop := CellsAt b [.string s] w
theorem add_any (x y : ByteArray) (h : x.size + y.size ≤ 9223372036854775807) (W : World) : (Op.stringOp .add x y).run Tryz.prog W = .ok (.string (x ++ y)) W := run_string_add_sum W x y (by omega)
theorem write_line (b : Nat) (s x : ByteArray) (w : World) (hs : s.size ≤ 1099511627776) (hx : x.size ≤ 1099511627776) (h : LineAt b s w) :
  Calls Tryz.prog 44 #[.string x, .pointer (some ⟨b, 0, none⟩)] w fun e w' => e = .returned (.tuple #[]) ∧ LineAt b (addW s x) w' ∧ w.grownBy w' (some b) := by
 have h1 := add_any ⟨#[32]⟩ x (by show 1 + x.size ≤ _; omega)
 have h2 := add_any s (⟨#[32]⟩ ++ x) (by rw [ByteArray.size_append]; show s.size + (1 + x.size) ≤ _; omega)
 obtain ⟨c0, f0⟩ := h 0 _ rfl
 have HN : Hid (LineAt b (addW s x) (w.setCell ⟨b, 0, none⟩ (.string (addW s x)))) := h.set 0 _ (by simp)
 have HG := Lib.hid (grown_set (grown_refl w b) 0 (.string (addW s x)))
 clear h
 unfold addW at HN HG ⊢
 generalize (⟨#[32]⟩ : ByteArray) ++ x = y at h1 h2 HN HG ⊢
 generalize s ++ y = z at h2 HN HG ⊢
 go_enter Tryz.func44, Tryz.ntmps44
 go_wp2
 go_end0
 exact ⟨rfl, HN.out, HG.out⟩
theorem getD_at {α : Type} {l : List α} {k : Nat} {d : α} (h : k < l.length) : l.getD k d = l[k] := by simp [List.getD, h]
set_option maxHeartbeats 4000000 in
theorem fields_1 (a : Option Addr) (rs : List RuleV) (cap n b : Nat) (s : ByteArray) (w0 w : World) (hl : rs.length ≤ 1048576) (hn : n < rs.length) (hsh : ∀ r ∈ rs, Short r) (hnm : ∀ r ∈ rs, r.name.size ≤ 1048576) (hv : kindI rs rs[n] = true) (htab : PowTab w0) (hrd : RdR a rs w0) (hb : Below w0.heap.size w0 w) (hbb : w0.heap.size ≤ b) (hs : s.size ≤ 2097152) (hline : LineAt b s w) (hk : rs[n].kind = 1) :
  Calls Tryz.prog 46 #[.agg #[.slice a rs.length cap], .int .i64 (n : Int), .func (.func 44) #[] #[.pointer (some ⟨b, 0, none⟩)]] w fun e w' => e = .returned (.tuple #[]) ∧ LineAt b (addWs s (fieldsOf rs n rs[n])) w' ∧ Below w0.heap.size w0 w' := by
 have hbw : b < w.heap.size := cell_lt (hline 0 _ rfl).1
 obtain ⟨b0, off, a4, c4, a5, c5, a6, c6, a7, c7, rfl, ⟨f0, f1, f2, f3, f4, f5, f6, f7⟩, r4, r5, r6, r7⟩ := hrd.at n hn
 have hbx : Below w0.heap.size w0 (w.alloc (.cells #[.slice (some ⟨b0, off, none⟩) rs.length cap] 26)) := hb.trans (((Below.refl _ _).alloc (Nat.le_refl _) _).mono hb.size)
 have d0 := cell_keep hbx f0
 have d1 := cell_keep hbx f1
 have d2 := cell_keep hbx f2
 have d3 := cell_keep hbx f3
 have d4 := cell_keep hbx f4
 have d5 := cell_keep hbx f5
 have d6 := cell_keep hbx f6
 have d7 := cell_keep hbx f7
 clear f0 f1 f2 f3 f4 f5 f6 f7 hbx
 have _ := hl
 have hsr := Lib.hid (hsh _ (List.getElem_mem hn))
 have HV := Lib.hid hv
 have HNM := Lib.hid (kidName_size hnm)
 have HSH := Lib.hid hsh
 have hnr := hnm _ (List.getElem_mem hn)
 have k0 : (0 : Int) ≤ (n : Int) := by omega
 have k1 : (n : Int) < (rs.length : Int) := by omega
 generalize rs[n] = r at *
 rw [hk] at d1
 obtain ⟨w1, hw1⟩ : ∃ w1, w1 = (w.alloc (.cells #[.slice (some ⟨b0, off, none⟩) rs.length cap] 26)).alloc (.cells #[.string r.name, .int .i64 (1), .int .i64 r.size, .bool r.little, .slice a4 r.bytes.length c4, .slice a5 r.names.length c5, .slice a6 r.tags.length c6, .slice a7 r.kids.length c7] 59) := ⟨_, rfl⟩
 have hb1 : Below w.heap.size w w1 := by subst hw1; exact ((Below.refl _ _).alloc (Nat.le_refl _) _).alloc (by simp) _
 have HX : Hid (CellsAt w.heap.size [.slice (some ⟨b0, off, none⟩) rs.length cap] w1) := by subst hw1; exact (CellsAt.new w _ _).below ((Below.refl _ _).alloc (Nat.le_refl _) _)
 have HR : Hid (CellsAt (w.heap.size + 1) [.string r.name, .int .i64 (1), .int .i64 r.size, .bool r.little, .slice a4 r.bytes.length c4, .slice a5 r.names.length c5, .slice a6 r.tags.length c6, .slice a7 r.kids.length c7] w1) := by
  subst hw1
  have h1 := CellsAt.new (w.alloc (.cells #[.slice (some ⟨b0, off, none⟩) rs.length cap] 26)) [.string r.name, .int .i64 (1), .int .i64 r.size, .bool r.little, .slice a4 r.bytes.length c4, .slice a5 r.names.length c5, .slice a6 r.tags.length c6, .slice a7 r.kids.length c7] 59
  simp only [World.size_alloc] at h1
  exact h1
 have HB := Lib.hid (hb.trans (hb1.mono hb.size))
 have HL : Hid (LineAt b s w1) := hline.below hb1
 have hW := Lib.hid hw1
 have HT := Lib.hid htab
 have HRD := Lib.hid hrd
 have HR4 := Lib.hid r4
 have HR5 := Lib.hid r5
 have HR6 := Lib.hid r6
 have HR7 := Lib.hid r7
 clear hw1 hb1 hb hline htab hrd r4 r5 r6 r7 hv hnm hsh
 go_enter Tryz.func46, Tryz.ntmps46
 have hz := kindI_size HV.out hk
 have hzz : (itoaS r.size).size ≤ 21 := itoaS_size (by omega) (by omega)
 cases hlt : r.little with
 | false =>
  rw [hlt] at d3 HR
  simp only [hlt] at hW
  have hfin : Hid (addWs s (fieldsOf rs n r) = addWs s [itoaS r.size]) := by show _ = _; unfold fieldsOf; rw [if_pos hk, hlt]; rfl
  go_wp2_with fail
  rw [← hW.out]
  clear hW d0 d1 d2 d3 d4 d5 d6 d7
  refine (fmt_impl r.size _ (by omega) (by omega) (HT.out.below HB.out)).mono ?_
  rintro e w2 ⟨rfl, hb⟩
  replace HX := Lib.hid (HX.out.below hb)
  replace HR := Lib.hid (HR.out.below hb)
  replace HL : Hid (LineAt b _ _) := HL.out.below hb
  replace HB := Lib.hid (HB.out.trans (hb.mono HB.out.size))
  clear hb
  have b3 := (HR.out 3 _ rfl).1
  go_wp2_with fail
  refine (write_line b (s) (itoaS r.size) _ (by omega) (by omega) HL.out).mono ?_
  rintro e w3 ⟨rfl, hl2, hg⟩
  replace HX := Lib.hid (HX.out.grown hg (by intro e; injection e with e; omega))
  replace HR := Lib.hid (HR.out.grown hg (by intro e; injection e with e; omega))
  replace HL := Lib.hid hl2
  replace HB := Lib.hid (HB.out.grown hg HB.out.size (fun k e => by injection e with e; omega))
  clear hl2 hg
  have b3 := (HR.out 3 _ rfl).1
  go_wp2
  go_end0
  exact ⟨rfl, by rw [hfin.out]; exact HL.out, HB.out⟩
 | true =>
  rw [hlt] at d3 HR
  simp only [hlt] at hW
  have hfin : Hid (addWs s (fieldsOf rs n r) = addWs s [itoaS r.size, littleS]) := by show _ = _; unfold fieldsOf; rw [if_pos hk, hlt]; rfl
  go_wp2_with fail
  rw [← hW.out]
  clear hW d0 d1 d2 d3 d4 d5 d6 d7
  refine (fmt_impl r.size _ (by omega) (by omega) (HT.out.below HB.out)).mono ?_
  rintro e w2 ⟨rfl, hb⟩
  replace HX := Lib.hid (HX.out.below hb)
  replace HR := Lib.hid (HR.out.below hb)
  replace HL : Hid (LineAt b _ _) := HL.out.below hb
  replace HB := Lib.hid (HB.out.trans (hb.mono HB.out.size))
  clear hb
  have b3 := (HR.out 3 _ rfl).1
  go_wp2_with fail
  refine (write_line b (s) (itoaS r.size) _ (by omega) (by omega) HL.out).mono ?_
  rintro e w3 ⟨rfl, hl2, hg⟩
  replace HX := Lib.hid (HX.out.grown hg (by intro e; injection e with e; omega))
  replace HR := Lib.hid (HR.out.grown hg (by intro e; injection e with e; omega))
  replace HL := Lib.hid hl2
  replace HB := Lib.hid (HB.out.grown hg HB.out.size (fun k e => by injection e with e; omega))
  clear hl2 hg
  have b3 := (HR.out 3 _ rfl).1
  go_wp2_with fail
  refine (write_line b (addW (s) (itoaS r.size)) (littleS) _ (by rw [addW_size]; omega) (by decide) HL.out).mono ?_
  rintro e w4 ⟨rfl, hl2, hg⟩
  replace HX := Lib.hid (HX.out.grown hg (by intro e; injection e with e; omega))
  replace HR := Lib.hid (HR.out.grown hg (by intro e; injection e with e; omega))
  replace HL := Lib.hid hl2
  replace HB := Lib.hid (HB.out.grown hg HB.out.size (fun k e => by injection e with e; omega))
  clear hl2 hg
  go_wp2
  go_end0
  exact ⟨rfl, by rw [hfin.out]; exact HL.out, HB.out⟩
set_option maxHeartbeats 4000000 in
theorem fields_3 (a : Option Addr) (rs : List RuleV) (cap n b : Nat) (s : ByteArray) (w0 w : World) (hl : rs.length ≤ 1048576) (hn : n < rs.length) (hsh : ∀ r ∈ rs, Short r) (hnm : ∀ r ∈ rs, r.name.size ≤ 1048576) (hv : kindI rs rs[n] = true) (htab : PowTab w0) (hrd : RdR a rs w0) (hb : Below w0.heap.size w0 w) (hbb : w0.heap.size ≤ b) (hs : s.size ≤ 2097152) (hline : LineAt b s w) (hk : rs[n].kind = 3) :
  Calls Tryz.prog 46 #[.agg #[.slice a rs.length cap], .int .i64 (n : Int), .func (.func 44) #[] #[.pointer (some ⟨b, 0, none⟩)]] w fun e w' => e = .returned (.tuple #[]) ∧ LineAt b (addWs s (fieldsOf rs n rs[n])) w' ∧ Below w0.heap.size w0 w' := by
 have hbw : b < w.heap.size := cell_lt (hline 0 _ rfl).1
 obtain ⟨b0, off, a4, c4, a5, c5, a6, c6, a7, c7, rfl, ⟨f0, f1, f2, f3, f4, f5, f6, f7⟩, r4, r5, r6, r7⟩ := hrd.at n hn
 have hbx : Below w0.heap.size w0 (w.alloc (.cells #[.slice (some ⟨b0, off, none⟩) rs.length cap] 26)) := hb.trans (((Below.refl _ _).alloc (Nat.le_refl _) _).mono hb.size)
 have d0 := cell_keep hbx f0
 have d1 := cell_keep hbx f1
 have d2 := cell_keep hbx f2
 have d3 := cell_keep hbx f3
 have d4 := cell_keep hbx f4
 have d5 := cell_keep hbx f5
 have d6 := cell_keep hbx f6
 have d7 := cell_keep hbx f7
 clear f0 f1 f2 f3 f4 f5 f6 f7 hbx
 have _ := hl
 have hsr := Lib.hid (hsh _ (List.getElem_mem hn))
 have HV := Lib.hid hv
 have HNM := Lib.hid (kidName_size hnm)
 have HSH := Lib.hid hsh
 have hnr := hnm _ (List.getElem_mem hn)
 have k0 : (0 : Int) ≤ (n : Int) := by omega
 have k1 : (n : Int) < (rs.length : Int) := by omega
 generalize rs[n] = r at *
 rw [hk] at d1
 obtain ⟨w1, hw1⟩ : ∃ w1, w1 = (w.alloc (.cells #[.slice (some ⟨b0, off, none⟩) rs.length cap] 26)).alloc (.cells #[.string r.name, .int .i64 (3), .int .i64 r.size, .bool r.little, .slice a4 r.bytes.length c4, .slice a5 r.names.length c5, .slice a6 r.tags.length c6, .slice a7 r.kids.length c7] 59) := ⟨_, rfl⟩
 have hb1 : Below w.heap.size w w1 := by subst hw1; exact ((Below.refl _ _).alloc (Nat.le_refl _) _).alloc (by simp) _
 have HX : Hid (CellsAt w.heap.size [.slice (some ⟨b0, off, none⟩) rs.length cap] w1) := by subst hw1; exact (CellsAt.new w _ _).below ((Below.refl _ _).alloc (Nat.le_refl _) _)
 have HR : Hid (CellsAt (w.heap.size + 1) [.string r.name, .int .i64 (3), .int .i64 r.size, .bool r.little, .slice a4 r.bytes.length c4, .slice a5 r.names.length c5, .slice a6 r.tags.length c6, .slice a7 r.kids.length c7] w1) := by
  subst hw1
  have h1 := CellsAt.new (w.alloc (.cells #[.slice (some ⟨b0, off, none⟩) rs.length cap] 26)) [.string r.name, .int .i64 (3), .int .i64 r.size, .bool r.little, .slice a4 r.bytes.length c4, .slice a5 r.names.length c5, .slice a6 r.tags.length c6, .slice a7 r.kids.length c7] 59
  simp only [World.size_alloc] at h1
  exact h1
 have HB := Lib.hid (hb.trans (hb1.mono hb.size))
 have HL : Hid (LineAt b s w1) := hline.below hb1
 have hW := Lib.hid hw1
 have HT := Lib.hid htab
 have HRD := Lib.hid hrd
 have HR4 := Lib.hid r4
 have HR5 := Lib.hid r5
 have HR6 := Lib.hid r6
 have HR7 := Lib.hid r7
 clear hw1 hb1 hb hline htab hrd r4 r5 r6 r7 hv hnm hsh
 go_enter Tryz.func46, Tryz.ntmps46
 have hz := kindI_size3 HV.out hk
 have hzz : (itoaS r.size).size ≤ 21 := itoaS_size (by omega) (by omega)
 have hfin : Hid (addWs s (fieldsOf rs n r) = addWs s [itoaS r.size]) := by show _ = _; unfold fieldsOf; simp [hk]
 go_wp2_with fail
 rw [← hW.out]
 clear hW d0 d1 d2 d3 d4 d5 d6 d7
 refine (fmt_impl r.size _ (by omega) (by omega) (HT.out.below HB.out)).mono ?_
 rintro e w2 ⟨rfl, hb⟩
 replace HX := Lib.hid (HX.out.below hb)
 replace HR := Lib.hid (HR.out.below hb)
 replace HL : Hid (LineAt b _ _) := HL.out.below hb
 replace HB := Lib.hid (HB.out.trans (hb.mono HB.out.size))
 clear hb
 go_wp2_with fail
 refine (write_line b (s) (itoaS r.size) _ (by omega) (by omega) HL.out).mono ?_
 rintro e w3 ⟨rfl, hl2, hg⟩
 replace HX := Lib.hid (HX.out.grown hg (by intro e; injection e with e; omega))
 replace HR := Lib.hid (HR.out.grown hg (by intro e; injection e with e; omega))
 replace HL := Lib.hid hl2
 replace HB := Lib.hid (HB.out.grown hg HB.out.size (fun k e => by injection e with e; omega))
 clear hl2 hg
 go_wp2
 go_end0
 exact ⟨rfl, by rw [hfin.out]; exact HL.out, HB.out⟩
set_option maxHeartbeats 4000000 in
theorem fields_2 (a : Option Addr) (rs : List RuleV) (cap n b : Nat) (s : ByteArray) (w0 w : World) (hl : rs.length ≤ 1048576) (hn : n < rs.length) (hsh : ∀ r ∈ rs, Short r) (hnm : ∀ r ∈ rs, r.name.size ≤ 1048576) (hv : kindI rs rs[n] = true) (htab : PowTab w0) (hrd : RdR a rs w0) (hb : Below w0.heap.size w0 w) (hbb : w0.heap.size ≤ b) (hs : s.size ≤ 2097152) (hline : LineAt b s w) (hk : rs[n].kind = 2) :
  Calls Tryz.prog 46 #[.agg #[.slice a rs.length cap], .int .i64 (n : Int), .func (.func 44) #[] #[.pointer (some ⟨b, 0, none⟩)]] w fun e w' => e = .returned (.tuple #[]) ∧ LineAt b (addWs s (fieldsOf rs n rs[n])) w' ∧ Below w0.heap.size w0 w' := by
 have hbw : b < w.heap.size := cell_lt (hline 0 _ rfl).1
 obtain ⟨b0, off, a4, c4, a5, c5, a6, c6, a7, c7, rfl, ⟨f0, f1, f2, f3, f4, f5, f6, f7⟩, r4, r5, r6, r7⟩ := hrd.at n hn
 have hbx : Below w0.heap.size w0 (w.alloc (.cells #[.slice (some ⟨b0, off, none⟩) rs.length cap] 26)) := hb.trans (((Below.refl _ _).alloc (Nat.le_refl _) _).mono hb.size)
 have d0 := cell_keep hbx f0
 have d1 := cell_keep hbx f1
 have d2 := cell_keep hbx f2
 have d3 := cell_keep hbx f3
 have d4 := cell_keep hbx f4
 have d5 := cell_keep hbx f5
 have d6 := cell_keep hbx f6
 have d7 := cell_keep hbx f7
 clear f0 f1 f2 f3 f4 f5 f6 f7 hbx
 have _ := hl
 have hsr := Lib.hid (hsh _ (List.getElem_mem hn))
 have HV := Lib.hid hv
 have HNM := Lib.hid (kidName_size hnm)
 have HSH := Lib.hid hsh
 have hnr := hnm _ (List.getElem_mem hn)
 have k0 : (0 : Int) ≤ (n : Int) := by omega
 have k1 : (n : Int) < (rs.length : Int) := by omega
 generalize rs[n] = r at *
 rw [hk] at d1
 obtain ⟨w1, hw1⟩ : ∃ w1, w1 = (w.alloc (.cells #[.slice (some ⟨b0, off, none⟩) rs.length cap] 26)).alloc (.cells #[.string r.name, .int .i64 (2), .int .i64 r.size, .bool r.little, .slice a4 r.bytes.length c4, .slice a5 r.names.length c5, .slice a6 r.tags.length c6, .slice a7 r.kids.length c7] 59) := ⟨_, rfl⟩
 have hb1 : Below w.heap.size w w1 := by subst hw1; exact ((Below.refl _ _).alloc (Nat.le_refl _) _).alloc (by simp) _
 have HX : Hid (CellsAt w.heap.size [.slice (some ⟨b0, off, none⟩) rs.length cap] w1) := by subst hw1; exact (CellsAt.new w _ _).below ((Below.refl _ _).alloc (Nat.le_refl _) _)
 have HR : Hid (CellsAt (w.heap.size + 1) [.string r.name, .int .i64 (2), .int .i64 r.size, .bool r.little, .slice a4 r.bytes.length c4, .slice a5 r.names.length c5, .slice a6 r.tags.length c6, .slice a7 r.kids.length c7] w1) := by
  subst hw1
  have h1 := CellsAt.new (w.alloc (.cells #[.slice (some ⟨b0, off, none⟩) rs.length cap] 26)) [.string r.name, .int .i64 (2), .int .i64 r.size, .bool r.little, .slice a4 r.bytes.length c4, .slice a5 r.names.length c5, .slice a6 r.tags.length c6, .slice a7 r.kids.length c7] 59
  simp only [World.size_alloc] at h1
  exact h1
 have HB := Lib.hid (hb.trans (hb1.mono hb.size))
 have HL : Hid (LineAt b s w1) := hline.below hb1
 have hW := Lib.hid hw1
 have HT := Lib.hid htab
 have HRD := Lib.hid hrd
 have HR4 := Lib.hid r4
 have HR5 := Lib.hid r5
 have HR6 := Lib.hid r6
 have HR7 := Lib.hid r7
 clear hw1 hb1 hb hline htab hrd r4 r5 r6 r7 hv hnm hsh
 go_enter Tryz.func46, Tryz.ntmps46
 have hz := kindI_bytes HV.out (.inl hk)
 have hzz := hexS_size r.bytes
 have hz2 := hsr.out.1
 have hfin : Hid (addWs s (fieldsOf rs n r) = addWs s [hexS r.bytes]) := by show _ = _; unfold fieldsOf; simp [hk]
 go_wp2_with fail
 rw [← hW.out]
 clear hW d0 d1 d2 d3 d4 d5 d6 d7
 refine (fmthex_impl a4 r.bytes c4 _ (by omega) (HR4.out.below HB.out)).mono ?_
 rintro e w2 ⟨rfl, hb⟩
 replace HX := Lib.hid (HX.out.below hb)
 replace HR := Lib.hid (HR.out.below hb)
 replace HL : Hid (LineAt b _ _) := HL.out.below hb
 replace HB := Lib.hid (HB.out.trans (hb.mono HB.out.size))
 clear hb
 go_wp2_with fail
 refine (write_line b (s) (hexS r.bytes) _ (by omega) (by omega) HL.out).mono ?_
 rintro e w3 ⟨rfl, hl2, hg⟩
 replace HX := Lib.hid (HX.out.grown hg (by intro e; injection e with e; omega))
 replace HR := Lib.hid (HR.out.grown hg (by intro e; injection e with e; omega))
 replace HL := Lib.hid hl2
 replace HB := Lib.hid (HB.out.grown hg HB.out.size (fun k e => by injection e with e; omega))
 clear hl2 hg
 go_wp2
 go_end0
 exact ⟨rfl, by rw [hfin.out]; exact HL.out, HB.out⟩
set_option maxHeartbeats 4000000 in
theorem fields_10 (a : Option Addr) (rs : List RuleV) (cap n b : Nat) (s : ByteArray) (w0 w : World) (hl : rs.length ≤ 1048576) (hn : n < rs.length) (hsh : ∀ r ∈ rs, Short r) (hnm : ∀ r ∈ rs, r.name.size ≤ 1048576) (hv : kindI rs rs[n] = true) (htab : PowTab w0) (hrd : RdR a rs w0) (hb : Below w0.heap.size w0 w) (hbb : w0.heap.size ≤ b) (hs : s.size ≤ 2097152) (hline : LineAt b s w) (hk : rs[n].kind = 10) :
  Calls Tryz.prog 46 #[.agg #[.slice a rs.length cap], .int .i64 (n : Int), .func (.func 44) #[] #[.pointer (some ⟨b, 0, none⟩)]] w fun e w' => e = .returned (.tuple #[]) ∧ LineAt b (addWs s (fieldsOf rs n rs[n])) w' ∧ Below w0.heap.size w0 w' := by
 have hbw : b < w.heap.size := cell_lt (hline 0 _ rfl).1
 obtain ⟨b0, off, a4, c4, a5, c5, a6, c6, a7, c7, rfl, ⟨f0, f1, f2, f3, f4, f5, f6, f7⟩, r4, r5, r6, r7⟩ := hrd.at n hn
 have hbx : Below w0.heap.size w0 (w.alloc (.cells #[.slice (some ⟨b0, off, none⟩) rs.length cap] 26)) := hb.trans (((Below.refl _ _).alloc (Nat.le_refl _) _).mono hb.size)
 have d0 := cell_keep hbx f0
 have d1 := cell_keep hbx f1
 have d2 := cell_keep hbx f2
 have d3 := cell_keep hbx f3
 have d4 := cell_keep hbx f4
 have d5 := cell_keep hbx f5
 have d6 := cell_keep hbx f6
 have d7 := cell_keep hbx f7
 clear f0 f1 f2 f3 f4 f5 f6 f7 hbx
 have _ := hl
 have hsr := Lib.hid (hsh _ (List.getElem_mem hn))
 have HV := Lib.hid hv
 have HNM := Lib.hid (kidName_size hnm)
 have HSH := Lib.hid hsh
 have hnr := hnm _ (List.getElem_mem hn)
 have k0 : (0 : Int) ≤ (n : Int) := by omega
 have k1 : (n : Int) < (rs.length : Int) := by omega
 generalize rs[n] = r at *
 rw [hk] at d1
 obtain ⟨w1, hw1⟩ : ∃ w1, w1 = (w.alloc (.cells #[.slice (some ⟨b0, off, none⟩) rs.length cap] 26)).alloc (.cells #[.string r.name, .int .i64 (10), .int .i64 r.size, .bool r.little, .slice a4 r.bytes.length c4, .slice a5 r.names.length c5, .slice a6 r.tags.length c6, .slice a7 r.kids.length c7] 59) := ⟨_, rfl⟩
 have hb1 : Below w.heap.size w w1 := by subst hw1; exact ((Below.refl _ _).alloc (Nat.le_refl _) _).alloc (by simp) _
 have HX : Hid (CellsAt w.heap.size [.slice (some ⟨b0, off, none⟩) rs.length cap] w1) := by subst hw1; exact (CellsAt.new w _ _).below ((Below.refl _ _).alloc (Nat.le_refl _) _)
 have HR : Hid (CellsAt (w.heap.size + 1) [.string r.name, .int .i64 (10), .int .i64 r.size, .bool r.little, .slice a4 r.bytes.length c4, .slice a5 r.names.length c5, .slice a6 r.tags.length c6, .slice a7 r.kids.length c7] w1) := by
  subst hw1
  have h1 := CellsAt.new (w.alloc (.cells #[.slice (some ⟨b0, off, none⟩) rs.length cap] 26)) [.string r.name, .int .i64 (10), .int .i64 r.size, .bool r.little, .slice a4 r.bytes.length c4, .slice a5 r.names.length c5, .slice a6 r.tags.length c6, .slice a7 r.kids.length c7] 59
  simp only [World.size_alloc] at h1
  exact h1
 have HB := Lib.hid (hb.trans (hb1.mono hb.size))
 have HL : Hid (LineAt b s w1) := hline.below hb1
 have hW := Lib.hid hw1
 have HT := Lib.hid htab
 have HRD := Lib.hid hrd
 have HR4 := Lib.hid r4
 have HR5 := Lib.hid r5
 have HR6 := Lib.hid r6
 have HR7 := Lib.hid r7
 clear hw1 hb1 hb hline htab hrd r4 r5 r6 r7 hv hnm hsh
 go_enter Tryz.func46, Tryz.ntmps46
 have hz := kindI_bytes HV.out (.inr hk)
 have hzz := hexS_size r.bytes
 have hz2 := hsr.out.1
 have hfin : Hid (addWs s (fieldsOf rs n r) = addWs s [hexS r.bytes]) := by show _ = _; unfold fieldsOf; simp [hk]
 go_wp2_with fail
 rw [← hW.out]
 clear hW d0 d1 d2 d3 d4 d5 d6 d7
 refine (fmthex_impl a4 r.bytes c4 _ (by omega) (HR4.out.below HB.out)).mono ?_
 rintro e w2 ⟨rfl, hb⟩
 replace HX := Lib.hid (HX.out.below hb)
 replace HR := Lib.hid (HR.out.below hb)
 replace HL : Hid (LineAt b _ _) := HL.out.below hb
 replace HB := Lib.hid (HB.out.trans (hb.mono HB.out.size))
 clear hb
 go_wp2_with fail
 refine (write_line b (s) (hexS r.bytes) _ (by omega) (by omega) HL.out).mono ?_
 rintro e w3 ⟨rfl, hl2, hg⟩
 replace HX := Lib.hid (HX.out.grown hg (by intro e; injection e with e; omega))
 replace HR := Lib.hid (HR.out.grown hg (by intro e; injection e with e; omega))
 replace HL := Lib.hid hl2
 replace HB := Lib.hid (HB.out.grown hg HB.out.size (fun k e => by injection e with e; omega))
 clear hl2 hg
 go_wp2
 go_end0
 exact ⟨rfl, by rw [hfin.out]; exact HL.out, HB.out⟩
set_option maxHeartbeats 4000000 in
theorem fields_4 (a : Option Addr) (rs : List RuleV) (cap n b : Nat) (s : ByteArray) (w0 w : World) (hl : rs.length ≤ 1048576) (hn : n < rs.length) (hsh : ∀ r ∈ rs, Short r) (hnm : ∀ r ∈ rs, r.name.size ≤ 1048576) (hv : kindI rs rs[n] = true) (htab : PowTab w0) (hrd : RdR a rs w0) (hb : Below w0.heap.size w0 w) (hbb : w0.heap.size ≤ b) (hs : s.size ≤ 2097152) (hline : LineAt b s w) (hk : rs[n].kind = 4) :
  Calls Tryz.prog 46 #[.agg #[.slice a rs.length cap], .int .i64 (n : Int), .func (.func 44) #[] #[.pointer (some ⟨b, 0, none⟩)]] w fun e w' => e = .returned (.tuple #[]) ∧ LineAt b (addWs s (fieldsOf rs n rs[n])) w' ∧ Below w0.heap.size w0 w' := by
 have hbw : b < w.heap.size := cell_lt (hline 0 _ rfl).1
 obtain ⟨b0, off, a4, c4, a5, c5, a6, c6, a7, c7, rfl, ⟨f0, f1, f2, f3, f4, f5, f6, f7⟩, r4, r5, r6, r7⟩ := hrd.at n hn
 have hbx : Below w0.heap.size w0 (w.alloc (.cells #[.slice (some ⟨b0, off, none⟩) rs.length cap] 26)) := hb.trans (((Below.refl _ _).alloc (Nat.le_refl _) _).mono hb.size)
 have d0 := cell_keep hbx f0
 have d1 := cell_keep hbx f1
 have d2 := cell_keep hbx f2
 have d3 := cell_keep hbx f3
 have d4 := cell_keep hbx f4
 have d5 := cell_keep hbx f5
 have d6 := cell_keep hbx f6
 have d7 := cell_keep hbx f7
 clear f0 f1 f2 f3 f4 f5 f6 f7 hbx
 have _ := hl
 have hsr := Lib.hid (hsh _ (List.getElem_mem hn))
 have HV := Lib.hid hv
 have HNM := Lib.hid (kidName_size hnm)
 have HSH := Lib.hid hsh
 have hnr := hnm _ (List.getElem_mem hn)
 have k0 : (0 : Int) ≤ (n : Int) := by omega
 have k1 : (n : Int) < (rs.length : Int) := by omega
 generalize rs[n] = r at *
 rw [hk] at d1
 obtain ⟨w1, hw1⟩ : ∃ w1, w1 = (w.alloc (.cells #[.slice (some ⟨b0, off, none⟩) rs.length cap] 26)).alloc (.cells #[.string r.name, .int .i64 (4), .int .i64 r.size, .bool r.little, .slice a4 r.bytes.length c4, .slice a5 r.names.length c5, .slice a6 r.tags.length c6, .slice a7 r.kids.length c7] 59) := ⟨_, rfl⟩
 have hb1 : Below w.heap.size w w1 := by subst hw1; exact ((Below.refl _ _).alloc (Nat.le_refl _) _).alloc (by simp) _
 have HX : Hid (CellsAt w.heap.size [.slice (some ⟨b0, off, none⟩) rs.length cap] w1) := by subst hw1; exact (CellsAt.new w _ _).below ((Below.refl _ _).alloc (Nat.le_refl _) _)
 have HR : Hid (CellsAt (w.heap.size + 1) [.string r.name, .int .i64 (4), .int .i64 r.size, .bool r.little, .slice a4 r.bytes.length c4, .slice a5 r.names.length c5, .slice a6 r.tags.length c6, .slice a7 r.kids.length c7] w1) := by
  subst hw1
  have h1 := CellsAt.new (w.alloc (.cells #[.slice (some ⟨b0, off, none⟩) rs.length cap] 26)) [.string r.name, .int .i64 (4), .int .i64 r.size, .bool r.little, .slice a4 r.bytes.length c4, .slice a5 r.names.length c5, .slice a6 r.tags.length c6, .slice a7 r.kids.length c7] 59
  simp only [World.size_alloc] at h1
  exact h1
 have HB := Lib.hid (hb.trans (hb1.mono hb.size))
 have HL : Hid (LineAt b s w1) := hline.below hb1
 have hW := Lib.hid hw1
 have HT := Lib.hid htab
 have HRD := Lib.hid hrd
 have HR4 := Lib.hid r4
 have HR5 := Lib.hid r5
 have HR6 := Lib.hid r6
 have HR7 := Lib.hid r7
 clear hw1 hb1 hb hline htab hrd r4 r5 r6 r7 hv hnm hsh
 go_enter Tryz.func46, Tryz.ntmps46
 have hfin : Hid (addWs s (fieldsOf rs n r) = addWs s [kidName rs (n : Int) 0]) := by show _ = _; unfold fieldsOf; simp [hk]
 go_wp2_with fail
 rw [← hW.out]
 clear hW d0 d1 d2 d3 d4 d5 d6 d7
 refine (kid_impl (some ⟨b0, off, none⟩) rs cap (n : Int) 0 _ (by omega) HSH.out (HRD.out.below HB.out)).mono ?_
 rintro e w2 ⟨rfl, hb⟩
 replace HX := Lib.hid (HX.out.below hb)
 replace HR := Lib.hid (HR.out.below hb)
 replace HL : Hid (LineAt b _ _) := HL.out.below hb
 replace HB := Lib.hid (HB.out.trans (hb.mono HB.out.size))
 clear hb
 have hkz := HNM.out (n : Int) 0
 generalize kidName rs (n : Int) 0 = kn at *
 go_wp2_with fail
 refine (write_line b (s) (kn) _ (by omega) (by omega) HL.out).mono ?_
 rintro e w3 ⟨rfl, hl2, hg⟩
 replace HX := Lib.hid (HX.out.grown hg (by intro e; injection e with e; omega))
 replace HR := Lib.hid (HR.out.grown hg (by intro e; injection e with e; omega))
 replace HL := Lib.hid hl2
 replace HB := Lib.hid (HB.out.grown hg HB.out.size (fun k e => by injection e with e; omega))
 clear hl2 hg
 go_wp2
 go_end0
 exact ⟨rfl, by rw [hfin.out]; exact HL.out, HB.out⟩
set_option maxHeartbeats 4000000 in
theorem fields_8 (a : Option Addr) (rs : List RuleV) (cap n b : Nat) (s : ByteArray) (w0 w : World) (hl : rs.length ≤ 1048576) (hn : n < rs.length) (hsh : ∀ r ∈ rs, Short r) (hnm : ∀ r ∈ rs, r.name.size ≤ 1048576) (hv : kindI rs rs[n] = true) (htab : PowTab w0) (hrd : RdR a rs w0) (hb : Below w0.heap.size w0 w) (hbb : w0.heap.size ≤ b) (hs : s.size ≤ 2097152) (hline : LineAt b s w) (hk : rs[n].kind = 8) :
  Calls Tryz.prog 46 #[.agg #[.slice a rs.length cap], .int .i64 (n : Int), .func (.func 44) #[] #[.pointer (some ⟨b, 0, none⟩)]] w fun e w' => e = .returned (.tuple #[]) ∧ LineAt b (addWs s (fieldsOf rs n rs[n])) w' ∧ Below w0.heap.size w0 w' := by
 have hbw : b < w.heap.size := cell_lt (hline 0 _ rfl).1
 obtain ⟨b0, off, a4, c4, a5, c5, a6, c6, a7, c7, rfl, ⟨f0, f1, f2, f3, f4, f5, f6, f7⟩, r4, r5, r6, r7⟩ := hrd.at n hn
 have hbx : Below w0.heap.size w0 (w.alloc (.cells #[.slice (some ⟨b0, off, none⟩) rs.length cap] 26)) := hb.trans (((Below.refl _ _).alloc (Nat.le_refl _) _).mono hb.size)
 have d0 := cell_keep hbx f0
 have d1 := cell_keep hbx f1
 have d2 := cell_keep hbx f2
 have d3 := cell_keep hbx f3
 have d4 := cell_keep hbx f4
 have d5 := cell_keep hbx f5
 have d6 := cell_keep hbx f6
 have d7 := cell_keep hbx f7
 clear f0 f1 f2 f3 f4 f5 f6 f7 hbx
 have _ := hl
 have hsr := Lib.hid (hsh _ (List.getElem_mem hn))
 have HV := Lib.hid hv
 have HNM := Lib.hid (kidName_size hnm)
 have HSH := Lib.hid hsh
 have hnr := hnm _ (List.getElem_mem hn)
 have k0 : (0 : Int) ≤ (n : Int) := by omega
 have k1 : (n : Int) < (rs.length : Int) := by omega
 generalize rs[n] = r at *
 rw [hk] at d1
 obtain ⟨w1, hw1⟩ : ∃ w1, w1 = (w.alloc (.cells #[.slice (some ⟨b0, off, none⟩) rs.length cap] 26)).alloc (.cells #[.string r.name, .int .i64 (8), .int .i64 r.size, .bool r.little, .slice a4 r.bytes.length c4, .slice a5 r.names.length c5, .slice a6 r.tags.length c6, .slice a7 r.kids.length c7] 59) := ⟨_, rfl⟩
 have hb1 : Below w.heap.size w w1 := by subst hw1; exact ((Below.refl _ _).alloc (Nat.le_refl _) _).alloc (by simp) _
 have HX : Hid (CellsAt w.heap.size [.slice (some ⟨b0, off, none⟩) rs.length cap] w1) := by subst hw1; exact (CellsAt.new w _ _).below ((Below.refl _ _).alloc (Nat.le_refl _) _)
 have HR : Hid (CellsAt (w.heap.size + 1) [.string r.name, .int .i64 (8), .int .i64 r.size, .bool r.little, .slice a4 r.bytes.length c4, .slice a5 r.names.length c5, .slice a6 r.tags.length c6, .slice a7 r.kids.length c7] w1) := by
  subst hw1
  have h1 := CellsAt.new (w.alloc (.cells #[.slice (some ⟨b0, off, none⟩) rs.length cap] 26)) [.string r.name, .int .i64 (8), .int .i64 r.size, .bool r.little, .slice a4 r.bytes.length c4, .slice a5 r.names.length c5, .slice a6 r.tags.length c6, .slice a7 r.kids.length c7] 59
  simp only [World.size_alloc] at h1
  exact h1
 have HB := Lib.hid (hb.trans (hb1.mono hb.size))
 have HL : Hid (LineAt b s w1) := hline.below hb1
 have hW := Lib.hid hw1
 have HT := Lib.hid htab
 have HRD := Lib.hid hrd
 have HR4 := Lib.hid r4
 have HR5 := Lib.hid r5
 have HR6 := Lib.hid r6
 have HR7 := Lib.hid r7
 clear hw1 hb1 hb hline htab hrd r4 r5 r6 r7 hv hnm hsh
 go_enter Tryz.func46, Tryz.ntmps46
 have hfin : Hid (addWs s (fieldsOf rs n r) = addWs s [kidName rs (n : Int) 0]) := by show _ = _; unfold fieldsOf; simp [hk]
 go_wp2_with fail
 rw [← hW.out]
 clear hW d0 d1 d2 d3 d4 d5 d6 d7
 refine (kid_impl (some ⟨b0, off, none⟩) rs cap (n : Int) 0 _ (by omega) HSH.out (HRD.out.below HB.out)).mono ?_
 rintro e w2 ⟨rfl, hb⟩
 replace HX := Lib.hid (HX.out.below hb)
 replace HR := Lib.hid (HR.out.below hb)
 replace HL : Hid (LineAt b _ _) := HL.out.below hb
 replace HB := Lib.hid (HB.out.trans (hb.mono HB.out.size))
 clear hb
 have hkz := HNM.out (n : Int) 0
 generalize kidName rs (n : Int) 0 = kn at *
 go_wp2_with fail
 refine (write_line b (s) (kn) _ (by omega) (by omega) HL.out).mono ?_
 rintro e w3 ⟨rfl, hl2, hg⟩
 replace HX := Lib.hid (HX.out.grown hg (by intro e; injection e with e; omega))
 replace HR := Lib.hid (HR.out.grown hg (by intro e; injection e with e; omega))
 replace HL := Lib.hid hl2
 replace HB := Lib.hid (HB.out.grown hg HB.out.size (fun k e => by injection e with e; omega))
 clear hl2 hg
 go_wp2
 go_end0
 exact ⟨rfl, by rw [hfin.out]; exact HL.out, HB.out⟩
set_option maxHeartbeats 4000000 in
theorem fields_9 (a : Option Addr) (rs : List RuleV) (cap n b : Nat) (s : ByteArray) (w0 w : World) (hl : rs.length ≤ 1048576) (hn : n < rs.length) (hsh : ∀ r ∈ rs, Short r) (hnm : ∀ r ∈ rs, r.name.size ≤ 1048576) (hv : kindI rs rs[n] = true) (htab : PowTab w0) (hrd : RdR a rs w0) (hb : Below w0.heap.size w0 w) (hbb : w0.heap.size ≤ b) (hs : s.size ≤ 2097152) (hline : LineAt b s w) (hk : rs[n].kind = 9) :
  Calls Tryz.prog 46 #[.agg #[.slice a rs.length cap], .int .i64 (n : Int), .func (.func 44) #[] #[.pointer (some ⟨b, 0, none⟩)]] w fun e w' => e = .returned (.tuple #[]) ∧ LineAt b (addWs s (fieldsOf rs n rs[n])) w' ∧ Below w0.heap.size w0 w' := by
 have hbw : b < w.heap.size := cell_lt (hline 0 _ rfl).1
 obtain ⟨b0, off, a4, c4, a5, c5, a6, c6, a7, c7, rfl, ⟨f0, f1, f2, f3, f4, f5, f6, f7⟩, r4, r5, r6, r7⟩ := hrd.at n hn
 have hbx : Below w0.heap.size w0 (w.alloc (.cells #[.slice (some ⟨b0, off, none⟩) rs.length cap] 26)) := hb.trans (((Below.refl _ _).alloc (Nat.le_refl _) _).mono hb.size)
 have d0 := cell_keep hbx f0
 have d1 := cell_keep hbx f1
 have d2 := cell_keep hbx f2
 have d3 := cell_keep hbx f3
 have d4 := cell_keep hbx f4
 have d5 := cell_keep hbx f5
 have d6 := cell_keep hbx f6
 have d7 := cell_keep hbx f7
 clear f0 f1 f2 f3 f4 f5 f6 f7 hbx
 have _ := hl
 have hsr := Lib.hid (hsh _ (List.getElem_mem hn))
 have HV := Lib.hid hv
 have HNM := Lib.hid (kidName_size hnm)
 have HSH := Lib.hid hsh
 have hnr := hnm _ (List.getElem_mem hn)
 have k0 : (0 : Int) ≤ (n : Int) := by omega
 have k1 : (n : Int) < (rs.length : Int) := by omega
 generalize rs[n] = r at *
 rw [hk] at d1
 obtain ⟨w1, hw1⟩ : ∃ w1, w1 = (w.alloc (.cells #[.slice (some ⟨b0, off, none⟩) rs.length cap] 26)).alloc (.cells #[.string r.name, .int .i64 (9), .int .i64 r.size, .bool r.little, .slice a4 r.bytes.length c4, .slice a5 r.names.length c5, .slice a6 r.tags.length c6, .slice a7 r.kids.length c7] 59) := ⟨_, rfl⟩
 have hb1 : Below w.heap.size w w1 := by subst hw1; exact ((Below.refl _ _).alloc (Nat.le_refl _) _).alloc (by simp) _
 have HX : Hid (CellsAt w.heap.size [.slice (some ⟨b0, off, none⟩) rs.length cap] w1) := by subst hw1; exact (CellsAt.new w _ _).below ((Below.refl _ _).alloc (Nat.le_refl _) _)
 have HR : Hid (CellsAt (w.heap.size + 1) [.string r.name, .int .i64 (9), .int .i64 r.size, .bool r.little, .slice a4 r.bytes.length c4, .slice a5 r.names.length c5, .slice a6 r.tags.length c6, .slice a7 r.kids.length c7] w1) := by
  subst hw1
  have h1 := CellsAt.new (w.alloc (.cells #[.slice (some ⟨b0, off, none⟩) rs.length cap] 26)) [.string r.name, .int .i64 (9), .int .i64 r.size, .bool r.little, .slice a4 r.bytes.length c4, .slice a5 r.names.length c5, .slice a6 r.tags.length c6, .slice a7 r.kids.length c7] 59
  simp only [World.size_alloc] at h1
  exact h1
 have HB := Lib.hid (hb.trans (hb1.mono hb.size))
 have HL : Hid (LineAt b s w1) := hline.below hb1
 have hW := Lib.hid hw1
 have HT := Lib.hid htab
 have HRD := Lib.hid hrd
 have HR4 := Lib.hid r4
 have HR5 := Lib.hid r5
 have HR6 := Lib.hid r6
 have HR7 := Lib.hid r7
 clear hw1 hb1 hb hline htab hrd r4 r5 r6 r7 hv hnm hsh
 go_enter Tryz.func46, Tryz.ntmps46
 have hfin : Hid (addWs s (fieldsOf rs n r) = addWs s [kidName rs (n : Int) 0]) := by show _ = _; unfold fieldsOf; simp [hk]
 go_wp2_with fail
 rw [← hW.out]
 clear hW d0 d1 d2 d3 d4 d5 d6 d7
 refine (kid_impl (some ⟨b0, off, none⟩) rs cap (n : Int) 0 _ (by omega) HSH.out (HRD.out.below HB.out)).mono ?_
 rintro e w2 ⟨rfl, hb⟩
 replace HX := Lib.hid (HX.out.below hb)
 replace HR := Lib.hid (HR.out.below hb)
 replace HL : Hid (LineAt b _ _) := HL.out.below hb
 replace HB := Lib.hid (HB.out.trans (hb.mono HB.out.size))
 clear hb
 have hkz := HNM.out (n : Int) 0
 generalize kidName rs (n : Int) 0 = kn at *
 go_wp2_with fail
 refine (write_line b (s) (kn) _ (by omega) (by omega) HL.out).mono ?_
 rintro e w3 ⟨rfl, hl2, hg⟩
 replace HX := Lib.hid (HX.out.grown hg (by intro e; injection e with e; omega))
 replace HR := Lib.hid (HR.out.grown hg (by intro e; injection e with e; omega))
 replace HL := Lib.hid hl2
 replace HB := Lib.hid (HB.out.grown hg HB.out.size (fun k e => by injection e with e; omega))
 clear hl2 hg
 go_wp2
 go_end0
 exact ⟨rfl, by rw [hfin.out]; exact HL.out, HB.out⟩
set_option maxHeartbeats 4000000 in
theorem fields_5 (a : Option Addr) (rs : List RuleV) (cap n b : Nat) (s : ByteArray) (w0 w : World) (hl : rs.length ≤ 1048576) (hn : n < rs.length) (hsh : ∀ r ∈ rs, Short r) (hnm : ∀ r ∈ rs, r.name.size ≤ 1048576) (hv : kindI rs rs[n] = true) (htab : PowTab w0) (hrd : RdR a rs w0) (hb : Below w0.heap.size w0 w) (hbb : w0.heap.size ≤ b) (hs : s.size ≤ 2097152) (hline : LineAt b s w) (hk : rs[n].kind = 5) :
  Calls Tryz.prog 46 #[.agg #[.slice a rs.length cap], .int .i64 (n : Int), .func (.func 44) #[] #[.pointer (some ⟨b, 0, none⟩)]] w fun e w' => e = .returned (.tuple #[]) ∧ LineAt b (addWs s (fieldsOf rs n rs[n])) w' ∧ Below w0.heap.size w0 w' := by
 have hbw : b < w.heap.size := cell_lt (hline 0 _ rfl).1
 obtain ⟨b0, off, a4, c4, a5, c5, a6, c6, a7, c7, rfl, ⟨f0, f1, f2, f3, f4, f5, f6, f7⟩, r4, r5, r6, r7⟩ := hrd.at n hn
 have hbx : Below w0.heap.size w0 (w.alloc (.cells #[.slice (some ⟨b0, off, none⟩) rs.length cap] 26)) := hb.trans (((Below.refl _ _).alloc (Nat.le_refl _) _).mono hb.size)
 have d0 := cell_keep hbx f0
 have d1 := cell_keep hbx f1
 have d2 := cell_keep hbx f2
 have d3 := cell_keep hbx f3
 have d4 := cell_keep hbx f4
 have d5 := cell_keep hbx f5
 have d6 := cell_keep hbx f6
 have d7 := cell_keep hbx f7
 clear f0 f1 f2 f3 f4 f5 f6 f7 hbx
 have _ := hl
 have hsr := Lib.hid (hsh _ (List.getElem_mem hn))
 have HV := Lib.hid hv
 have HNM := Lib.hid (kidName_size hnm)
 have HSH := Lib.hid hsh
 have hnr := hnm _ (List.getElem_mem hn)
 have k0 : (0 : Int) ≤ (n : Int) := by omega
 have k1 : (n : Int) < (rs.length : Int) := by omega
 generalize rs[n] = r at *
 rw [hk] at d1
 obtain ⟨w1, hw1⟩ : ∃ w1, w1 = (w.alloc (.cells #[.slice (some ⟨b0, off, none⟩) rs.length cap] 26)).alloc (.cells #[.string r.name, .int .i64 (5), .int .i64 r.size, .bool r.little, .slice a4 r.bytes.length c4, .slice a5 r.names.length c5, .slice a6 r.tags.length c6, .slice a7 r.kids.length c7] 59) := ⟨_, rfl⟩
 have hb1 : Below w.heap.size w w1 := by subst hw1; exact ((Below.refl _ _).alloc (Nat.le_refl _) _).alloc (by simp) _
 have HX : Hid (CellsAt w.heap.size [.slice (some ⟨b0, off, none⟩) rs.length cap] w1) := by subst hw1; exact (CellsAt.new w _ _).below ((Below.refl _ _).alloc (Nat.le_refl _) _)
 have HR : Hid (CellsAt (w.heap.size + 1) [.string r.name, .int .i64 (5), .int .i64 r.size, .bool r.little, .slice a4 r.bytes.length c4, .slice a5 r.names.length c5, .slice a6 r.tags.length c6, .slice a7 r.kids.length c7] w1) := by
  subst hw1
  have h1 := CellsAt.new (w.alloc (.cells #[.slice (some ⟨b0, off, none⟩) rs.length cap] 26)) [.string r.name, .int .i64 (5), .int .i64 r.size, .bool r.little, .slice a4 r.bytes.length c4, .slice a5 r.names.length c5, .slice a6 r.tags.length c6, .slice a7 r.kids.length c7] 59
  simp only [World.size_alloc] at h1
  exact h1
 have HB := Lib.hid (hb.trans (hb1.mono hb.size))
 have HL : Hid (LineAt b s w1) := hline.below hb1
 have hW := Lib.hid hw1
 have HT := Lib.hid htab
 have HRD := Lib.hid hrd
 have HR4 := Lib.hid r4
 have HR5 := Lib.hid r5
 have HR6 := Lib.hid r6
 have HR7 := Lib.hid r7
 clear hw1 hb1 hb hline htab hrd r4 r5 r6 r7 hv hnm hsh
 go_enter Tryz.func46, Tryz.ntmps46
 have hfin : Hid (addWs s (fieldsOf rs n r) = addWs s [kidName rs (n : Int) 0, kidName rs (n : Int) 1]) := by show _ = _; unfold fieldsOf; simp [hk]
 go_wp2_with fail
 rw [← hW.out]
 clear hW d0 d1 d2 d3 d4 d5 d6 d7
 refine (kid_impl (some ⟨b0, off, none⟩) rs cap (n : Int) 0 _ (by omega) HSH.out (HRD.out.below HB.out)).mono ?_
 rintro e w2 ⟨rfl, hb⟩
 replace HX := Lib.hid (HX.out.below hb)
 replace HR := Lib.hid (HR.out.below hb)
 replace HL : Hid (LineAt b _ _) := HL.out.below hb
 replace HB := Lib.hid (HB.out.trans (hb.mono HB.out.size))
 clear hb
 have hkz := HNM.out (n : Int) 0
 generalize kidName rs (n : Int) 0 = kn at *
 go_wp2_with fail
 refine (write_line b (s) (kn) _ (by omega) (by omega) HL.out).mono ?_
 rintro e w3 ⟨rfl, hl2, hg⟩
 replace HX := Lib.hid (HX.out.grown hg (by intro e; injection e with e; omega))
 replace HR := Lib.hid (HR.out.grown hg (by intro e; injection e with e; omega))
 replace HL := Lib.hid hl2
 replace HB := Lib.hid (HB.out.grown hg HB.out.size (fun k e => by injection e with e; omega))
 clear hl2 hg
 have bx := (HX.out 0 _ rfl).1
 go_wp2_with fail
 have hkz1 := hkz
 clear hkz bx
 refine (kid_impl (some ⟨b0, off, none⟩) rs cap (n : Int) 1 _ (by omega) HSH.out (HRD.out.below HB.out)).mono ?_
 rintro e w4 ⟨rfl, hb⟩
 replace HX := Lib.hid (HX.out.below hb)
 replace HR := Lib.hid (HR.out.below hb)
 replace HL : Hid (LineAt b _ _) := HL.out.below hb
 replace HB := Lib.hid (HB.out.trans (hb.mono HB.out.size))
 clear hb
 have hkz := HNM.out (n : Int) 1
 generalize kidName rs (n : Int) 1 = kn2 at *
 go_wp2_with fail
 refine (write_line b (addW (s) (kn)) (kn2) _ (by rw [addW_size]; omega) (by omega) HL.out).mono ?_
 rintro e w5 ⟨rfl, hl2, hg⟩
 replace HX := Lib.hid (HX.out.grown hg (by intro e; injection e with e; omega))
 replace HR := Lib.hid (HR.out.grown hg (by intro e; injection e with e; omega))
 replace HL := Lib.hid hl2
 replace HB := Lib.hid (HB.out.grown hg HB.out.size (fun k e => by injection e with e; omega))
 clear hl2 hg
 go_wp2
 go_end0
 exact ⟨rfl, by rw [hfin.out]; exact HL.out, HB.out⟩
set_option maxHeartbeats 4000000 in
theorem fields_6 (a : Option Addr) (rs : List RuleV) (cap n b : Nat) (s : ByteArray) (w0 w : World) (hl : rs.length ≤ 1048576) (hn : n < rs.length) (hsh : ∀ r ∈ rs, Short r) (hnm : ∀ r ∈ rs, r.name.size ≤ 1048576) (hv : kindI rs rs[n] = true) (htab : PowTab w0) (hrd : RdR a rs w0) (hb : Below w0.heap.size w0 w) (hbb : w0.heap.size ≤ b) (hs : s.size ≤ 2097152) (hline : LineAt b s w) (hk : rs[n].kind = 6) :
  Calls Tryz.prog 46 #[.agg #[.slice a rs.length cap], .int .i64 (n : Int), .func (.func 44) #[] #[.pointer (some ⟨b, 0, none⟩)]] w fun e w' => e = .returned (.tuple #[]) ∧ LineAt b (addWs s (fieldsOf rs n rs[n])) w' ∧ Below w0.heap.size w0 w' := by
 have hbw : b < w.heap.size := cell_lt (hline 0 _ rfl).1
 obtain ⟨b0, off, a4, c4, a5, c5, a6, c6, a7, c7, rfl, ⟨f0, f1, f2, f3, f4, f5, f6, f7⟩, r4, r5, r6, r7⟩ := hrd.at n hn
 have hbx : Below w0.heap.size w0 (w.alloc (.cells #[.slice (some ⟨b0, off, none⟩) rs.length cap] 26)) := hb.trans (((Below.refl _ _).alloc (Nat.le_refl _) _).mono hb.size)
 have d0 := cell_keep hbx f0
 have d1 := cell_keep hbx f1
 have d2 := cell_keep hbx f2
 have d3 := cell_keep hbx f3
 have d4 := cell_keep hbx f4
 have d5 := cell_keep hbx f5
 have d6 := cell_keep hbx f6
 have d7 := cell_keep hbx f7
 clear f0 f1 f2 f3 f4 f5 f6 f7 hbx
 have _ := hl
 have hsr := Lib.hid (hsh _ (List.getElem_mem hn))
 have HV := Lib.hid hv
 have HNM := Lib.hid (kidName_size hnm)
 have HSH := Lib.hid hsh
 have hnr := hnm _ (List.getElem_mem hn)
 have k0 : (0 : Int) ≤ (n : Int) := by omega
 have k1 : (n : Int) < (rs.length : Int) := by omega
 generalize rs[n] = r at *
 rw [hk] at d1
 obtain ⟨w1, hw1⟩ : ∃ w1, w1 = (w.alloc (.cells #[.slice (some ⟨b0, off, none⟩) rs.length cap] 26)).alloc (.cells #[.string r.name, .int .i64 (6), .int .i64 r.size, .bool r.little, .slice a4 r.bytes.length c4, .slice a5 r.names.length c5, .slice a6 r.tags.length c6, .slice a7 r.kids.length c7] 59) := ⟨_, rfl⟩
 have hb1 : Below w.heap.size w w1 := by subst hw1; exact ((Below.refl _ _).alloc (Nat.le_refl _) _).alloc (by simp) _
 have HX : Hid (CellsAt w.heap.size [.slice (some ⟨b0, off, none⟩) rs.length cap] w1) := by subst hw1; exact (CellsAt.new w _ _).below ((Below.refl _ _).alloc (Nat.le_refl _) _)
 have HR : Hid (CellsAt (w.heap.size + 1) [.string r.name, .int .i64 (6), .int .i64 r.size, .bool r.little, .slice a4 r.bytes.length c4, .slice a5 r.names.length c5, .slice a6 r.tags.length c6, .slice a7 r.kids.length c7] w1) := by
  subst hw1
  have h1 := CellsAt.new (w.alloc (.cells #[.slice (some ⟨b0, off, none⟩) rs.length cap] 26)) [.string r.name, .int .i64 (6), .int .i64 r.size, .bool r.little, .slice a4 r.bytes.length c4, .slice a5 r.names.length c5, .slice a6 r.tags.length c6, .slice a7 r.kids.length c7] 59
  simp only [World.size_alloc] at h1
  exact h1
 have HB := Lib.hid (hb.trans (hb1.mono hb.size))
 have HL : Hid (LineAt b s w1) := hline.below hb1
 have hW := Lib.hid hw1
 have HT := Lib.hid htab
 have HRD := Lib.hid hrd
 have HR4 := Lib.hid r4
 have HR5 := Lib.hid r5
 have HR6 := Lib.hid r6
 have HR7 := Lib.hid r7
 clear hw1 hb1 hb hline htab hrd r4 r5 r6 r7 hv hnm hsh
 go_enter Tryz.func46, Tryz.ntmps46
 obtain ⟨-, hz2, hz3⟩ := kindI_seq HV.out hk
 have HZ3 := Lib.hid hz3
 clear hz3
 have hfin : Hid (addWs s (fieldsOf rs n r) = addWs s (seqTo rs n r.names r.names.length)) := by show _ = _; unfold fieldsOf; simp [hk]
 go_wp2
 rw [← hW.out]
 clear hW d0 d1 d2 d3 d4 d5 d6 d7
 go_loopw [70] (fun i W => ∃ (k : Nat) (ln : ByteArray), k ≤ r.names.length ∧ i = .int .i64 k ∧ ln.size ≤ 4194304 + k * 1048700 ∧ Hid (ln = addWs s (seqTo rs n r.names k)) ∧ Hid (CellsAt w.heap.size [.slice (some ⟨b0, off, none⟩) rs.length cap] W) ∧ Hid (CellsAt (w.heap.size + 1) [.string r.name, .int .i64 (6), .int .i64 r.size, .bool r.little, .slice a4 r.bytes.length c4, .slice a5 r.names.length c5, .slice a6 r.tags.length c6, .slice a7 r.kids.length c7] W) ∧ Hid (LineAt b ln W) ∧ Hid (Below w0.heap.size w0 W)) (fun i _ => r.names.length - (intOf i).toNat)
 case atStart => exact ⟨0, s, Nat.zero_le _, rfl, by omega, rfl, HX, HR, HL, HB⟩
 case round =>
  clear HX HR HL HB
  obtain ⟨k, ln, hkk, rfl, hls, hln, HX, HR, HL, HB⟩ := hrel
  have m0 : (0 : Int) ≤ (k : Int) := by omega
  by_cases hlt : k < r.names.length
  ·have m1 : (k : Int) < (r.names.length : Int) := by omega
   obtain ⟨b5, o5, rfl, e5⟩ := (HR5.out.below HB.out) k hlt
   have hns := HZ3.out _ (List.getElem_mem hlt)
   have hstep : Hid (addWs s (seqTo rs n r.names (k + 1)) = addW ln (r.names[k] ++ ⟨#[58]⟩ ++ kidName rs (n : Int) (k : Int))) := by show _ = _; rw [hln.out, show seqTo rs n r.names (k + 1) = seqTo rs n r.names k ++ [r.names.getD k ⟨#[]⟩ ++ ⟨#[58]⟩ ++ kidName rs (n : Int) (k : Int)] from rfl, addWs_snoc, getD_at hlt]
   have hkz := HNM.out (n : Int) (k : Int)
   have ha1 := add_any r.names[k] ⟨#[58]⟩ (by show r.names[k].size + 1 ≤ _; omega)
   have ha2 := add_any (r.names[k] ++ ⟨#[58]⟩) (kidName rs (n : Int) (k : Int)) (by rw [ByteArray.size_append]; show r.names[k].size + 1 + _ ≤ _; omega)
   have hy : (r.names[k] ++ ⟨#[58]⟩ ++ kidName rs (n : Int) (k : Int)).size ≤ 1048600 := by rw [ByteArray.size_append, ByteArray.size_append]; show r.names[k].size + 1 + _ ≤ _; omega
   generalize r.names[k] ++ ⟨#[58]⟩ ++ kidName rs (n : Int) (k : Int) = y2 at ha2 hstep hy
   generalize r.names[k] ++ ⟨#[58]⟩ = y1 at ha1 ha2
   generalize r.names[k] = nm at e5 hns ha1
   have bx := (HX.out 0 _ rfl).1
   go_wp2_with fail
   clear e5 ha1 bx hkz
   refine (kid_impl (some ⟨b0, off, none⟩) rs cap (n : Int) (k : Int) _ (by omega) HSH.out (HRD.out.below HB.out)).mono ?_
   rintro e w3 ⟨rfl, hb⟩
   replace HX := Lib.hid (HX.out.below hb)
   replace HR := Lib.hid (HR.out.below hb)
   replace HL : Hid (LineAt b _ _) := HL.out.below hb
   replace HB := Lib.hid (HB.out.trans (hb.mono HB.out.size))
   clear hb
   have hkz := HNM.out (n : Int) (k : Int)
   generalize kidName rs (n : Int) (k : Int) = kn at *
   go_wp2_with fail
   clear ha2 hkz
   refine (write_line b (ln) (y2) _ (by omega) (by omega) HL.out).mono ?_
   rintro e w4 ⟨rfl, hl2, hg⟩
   replace HX := Lib.hid (HX.out.grown hg (by intro e; injection e with e; omega))
   replace HR := Lib.hid (HR.out.grown hg (by intro e; injection e with e; omega))
   replace HL := Lib.hid hl2
   replace HB := Lib.hid (HB.out.grown hg HB.out.size (fun k e => by injection e with e; omega))
   clear hl2 hg
   rw [← hstep.out] at HL
   have hsz : (addWs s (seqTo rs n r.names (k + 1))).size ≤ 4194304 + (k + 1) * 1048700 := by rw [hstep.out, addW_size]; omega
   go_wp2
   go_roundw
   case rel => exact ⟨k + 1, _, by omega, by go_num, hsz, rfl, HX, HR, HL, HB⟩
   case measure => simp [intOf]; omega
  ·have m1 : ¬ (k : Int) < (r.names.length : Int) := by omega
   obtain rfl : k = r.names.length := by omega
   go_wp2
   go_end0
   exact ⟨rfl, by rw [hfin.out, ← hln.out]; exact HL.out, HB.out⟩
set_option maxHeartbeats 4000000 in
theorem fields_7 (a : Option Addr) (rs : List RuleV) (cap n b : Nat) (s : ByteArray) (w0 w : World) (hl : rs.length ≤ 1048576) (hn : n < rs.length) (hsh : ∀ r ∈ rs, Short r) (hnm : ∀ r ∈ rs, r.name.size ≤ 1048576) (hv : kindI rs rs[n] = true) (htab : PowTab w0) (hrd : RdR a rs w0) (hb : Below w0.heap.size w0 w) (hbb : w0.heap.size ≤ b) (hs : s.size ≤ 2097152) (hline : LineAt b s w) (hk : rs[n].kind = 7) :
  Calls Tryz.prog 46 #[.agg #[.slice a rs.length cap], .int .i64 (n : Int), .func (.func 44) #[] #[.pointer (some ⟨b, 0, none⟩)]] w fun e w' => e = .returned (.tuple #[]) ∧ LineAt b (addWs s (fieldsOf rs n rs[n])) w' ∧ Below w0.heap.size w0 w' := by
 have hbw : b < w.heap.size := cell_lt (hline 0 _ rfl).1
 obtain ⟨b0, off, a4, c4, a5, c5, a6, c6, a7, c7, rfl, ⟨f0, f1, f2, f3, f4, f5, f6, f7⟩, r4, r5, r6, r7⟩ := hrd.at n hn
 have hbx : Below w0.heap.size w0 (w.alloc (.cells #[.slice (some ⟨b0, off, none⟩) rs.length cap] 26)) := hb.trans (((Below.refl _ _).alloc (Nat.le_refl _) _).mono hb.size)
 have d0 := cell_keep hbx f0
 have d1 := cell_keep hbx f1
 have d2 := cell_keep hbx f2
 have d3 := cell_keep hbx f3
 have d4 := cell_keep hbx f4
 have d5 := cell_keep hbx f5
 have d6 := cell_keep hbx f6
 have d7 := cell_keep hbx f7
 clear f0 f1 f2 f3 f4 f5 f6 f7 hbx
 have _ := hl
 have hsr := Lib.hid (hsh _ (List.getElem_mem hn))
 have HV := Lib.hid hv
 have HNM := Lib.hid (kidName_size hnm)
 have HSH := Lib.hid hsh
 have hnr := hnm _ (List.getElem_mem hn)
 have k0 : (0 : Int) ≤ (n : Int) := by omega
 have k1 : (n : Int) < (rs.length : Int) := by omega
 generalize rs[n] = r at *
 rw [hk] at d1
 obtain ⟨w1, hw1⟩ : ∃ w1, w1 = (w.alloc (.cells #[.slice (some ⟨b0, off, none⟩) rs.length cap] 26)).alloc (.cells #[.string r.name, .int .i64 (7), .int .i64 r.size, .bool r.little, .slice a4 r.bytes.length c4, .slice a5 r.names.length c5, .slice a6 r.tags.length c6, .slice a7 r.kids.length c7] 59) := ⟨_, rfl⟩
 have hb1 : Below w.heap.size w w1 := by subst hw1; exact ((Below.refl _ _).alloc (Nat.le_refl _) _).alloc (by simp) _
 have HX : Hid (CellsAt w.heap.size [.slice (some ⟨b0, off, none⟩) rs.length cap] w1) := by subst hw1; exact (CellsAt.new w _ _).below ((Below.refl _ _).alloc (Nat.le_refl _) _)
 have HR : Hid (CellsAt (w.heap.size + 1) [.string r.name, .int .i64 (7), .int .i64 r.size, .bool r.little, .slice a4 r.bytes.length c4, .slice a5 r.names.length c5, .slice a6 r.tags.length c6, .slice a7 r.kids.length c7] w1) := by
  subst hw1
  have h1 := CellsAt.new (w.alloc (.cells #[.slice (some ⟨b0, off, none⟩) rs.length cap] 26)) [.string r.name, .int .i64 (7), .int .i64 r.size, .bool r.little, .slice a4 r.bytes.length c4, .slice a5 r.names.length c5, .slice a6 r.tags.length c6, .slice a7 r.kids.length c7] 59
  simp only [World.size_alloc] at h1
  exact h1
 have HB := Lib.hid (hb.trans (hb1.mono hb.size))
 have HL : Hid (LineAt b s w1) := hline.below hb1
 have hW := Lib.hid hw1
 have HT := Lib.hid htab
 have HRD := Lib.hid hrd
 have HR4 := Lib.hid r4
 have HR5 := Lib.hid r5
 have HR6 := Lib.hid r6
 have HR7 := Lib.hid r7
 clear hw1 hb1 hb hline htab hrd r4 r5 r6 r7 hv hnm hsh
 go_enter Tryz.func46, Tryz.ntmps46
 obtain ⟨-, hz2, hz3⟩ := kindI_tags HV.out hk
 have HZ3 := Lib.hid hz3
 clear hz3
 have hfin : Hid (addWs s (fieldsOf rs n r) = addWs (addW s (kidName rs (n : Int) 0)) (chTo rs n r.tags r.tags.length)) := by show _ = _; unfold fieldsOf; simp [hk]; rfl
 have htl : r.tags.length ≤ 1048576 := by omega
 go_wp2_with fail
 rw [← hW.out]
 clear hW d0 d1 d2 d3 d4 d5 d6 d7
 refine (kid_impl (some ⟨b0, off, none⟩) rs cap (n : Int) 0 _ (by omega) HSH.out (HRD.out.below HB.out)).mono ?_
 rintro e w2 ⟨rfl, hb⟩
 replace HX := Lib.hid (HX.out.below hb)
 replace HR := Lib.hid (HR.out.below hb)
 replace HL : Hid (LineAt b _ _) := HL.out.below hb
 replace HB := Lib.hid (HB.out.trans (hb.mono HB.out.size))
 clear hb
 have hkz := HNM.out (n : Int) 0
 have hkz0 : Hid ((kidName rs (n : Int) 0).size ≤ 1048576) := hkz
 generalize kidName rs (n : Int) 0 = kn0 at *
 go_wp2_with fail
 refine (write_line b (s) (kn0) _ (by omega) (by omega) HL.out).mono ?_
 rintro e w3 ⟨rfl, hl2, hg⟩
 replace HX := Lib.hid (HX.out.grown hg (by intro e; injection e with e; omega))
 replace HR := Lib.hid (HR.out.grown hg (by intro e; injection e with e; omega))
 replace HL := Lib.hid hl2
 replace HB := Lib.hid (HB.out.grown hg HB.out.size (fun k e => by injection e with e; omega))
 clear hl2 hg
 have hs0 : (addW s kn0).size ≤ 4194304 := by rw [addW_size]; omega
 generalize addW s kn0 = s0 at *
 clear hkz hkz0
 have b6 := (HR.out 6 _ rfl).1
 go_wp2
 clear b6
 go_loopw [95] (fun i W => ∃ (k : Nat) (ln : ByteArray), k ≤ r.tags.length ∧ i = .int .i64 k ∧ ln.size ≤ 4194304 + k * 1048700 ∧ Hid (ln = addWs s0 (chTo rs n r.tags k)) ∧ Hid (CellsAt w.heap.size [.slice (some ⟨b0, off, none⟩) rs.length cap] W) ∧ Hid (CellsAt (w.heap.size + 1) [.string r.name, .int .i64 (7), .int .i64 r.size, .bool r.little, .slice a4 r.bytes.length c4, .slice a5 r.names.length c5, .slice a6 r.tags.length c6, .slice a7 r.kids.length c7] W) ∧ Hid (LineAt b ln W) ∧ Hid (Below w0.heap.size w0 W)) (fun i _ => r.tags.length - (intOf i).toNat)
 case atStart => exact ⟨0, s0, Nat.zero_le _, rfl, by omega, rfl, HX, HR, HL, HB⟩
 case round =>
  clear HX HR HL HB
  obtain ⟨k, ln, hkk, rfl, hls, hln, HX, HR, HL, HB⟩ := hrel
  have m0 : (0 : Int) ≤ (k : Int) := by omega
  by_cases hlt : k < r.tags.length
  ·have m1 : (k : Int) < (r.tags.length : Int) := by omega
   obtain ⟨b6, o6, rfl, e6⟩ := (HR6.out.below HB.out) k hlt
   obtain ⟨t0, t1⟩ := HZ3.out _ (List.getElem_mem hlt)
   have hstep : Hid (addWs s0 (chTo rs n r.tags (k + 1)) = addW ln (itoaS r.tags[k] ++ ⟨#[58]⟩ ++ kidName rs (n : Int) ((k : Int) + 1))) := by show _ = _; rw [hln.out, show chTo rs n r.tags (k + 1) = chTo rs n r.tags k ++ [itoaS (r.tags.getD k 0) ++ ⟨#[58]⟩ ++ kidName rs (n : Int) ((k : Int) + 1)] from rfl, addWs_snoc, getD_at hlt]
   have hkz := HNM.out (n : Int) ((k : Int) + 1)
   have hiz : (itoaS r.tags[k]).size ≤ 21 := itoaS_size (by omega) (by omega)
   have ha1 := add_any (itoaS r.tags[k]) ⟨#[58]⟩ (by show (itoaS r.tags[k]).size + 1 ≤ _; omega)
   have ha2 := add_any (itoaS r.tags[k] ++ ⟨#[58]⟩) (kidName rs (n : Int) ((k : Int) + 1)) (by rw [ByteArray.size_append]; show (itoaS r.tags[k]).size + 1 + _ ≤ _; omega)
   have hy : (itoaS r.tags[k] ++ ⟨#[58]⟩ ++ kidName rs (n : Int) ((k : Int) + 1)).size ≤ 1048600 := by rw [ByteArray.size_append, ByteArray.size_append]; show (itoaS r.tags[k]).size + 1 + _ ≤ _; omega
   generalize itoaS r.tags[k] ++ ⟨#[58]⟩ ++ kidName rs (n : Int) ((k : Int) + 1) = y2 at ha2 hstep hy
   generalize itoaS r.tags[k] ++ ⟨#[58]⟩ = y1 at ha1 ha2
   unfold itoaS at ha1
   clear hiz
   generalize r.tags[k] = tg at e6 t0 t1 ha1
   have bx := (HX.out 0 _ rfl).1
   have hw : IntKind.i64.wrap ((k : Int) + 1) = (k : Int) + 1 := IntWalk.i64_in _ (by omega)
   go_upto_region 30 with fail
   clear e6
   replace HX : Hid (CellsAt w.heap.size [.slice (some ⟨b0, off, none⟩) rs.length cap] wr.drew) := HX.out
   replace HR : Hid (CellsAt (w.heap.size + 1) [.string r.name, .int .i64 (7), .int .i64 r.size, .bool r.little, .slice a4 r.bytes.length c4, .slice a5 r.names.length c5, .slice (some ⟨b6, o6, none⟩) r.tags.length c6, .slice a7 r.kids.length c7] wr.drew) := HR.out
   replace HL : Hid (LineAt b ln wr.drew) := HL.out
   replace HB : Hid (Below w0.heap.size w0 wr.drew) := below_drewN HB.out 1
   go_region_with (first | (go_at_call 85; refine (fmt_impl tg _ (by omega) (by omega) (HT.out.below HB.out)).mono ?_; rintro e v ⟨rfl, hb⟩; replace HX := Lib.hid (HX.out.below hb); replace HR := Lib.hid (HR.out.below hb); replace HL : Hid (LineAt b _ _) := HL.out.below hb; replace HB := Lib.hid (HB.out.trans (hb.mono HB.out.size)); clear hb; have bx2 := (HX.out 0 _ rfl).1) | (go_at_call 87; refine (kid_impl (some ⟨b0, off, none⟩) rs cap (n : Int) ((k : Int) + 1) _ (by omega) HSH.out (HRD.out.below HB.out)).mono ?_; rintro e v2 ⟨rfl, hb⟩; replace HX := Lib.hid (HX.out.below hb); replace HR := Lib.hid (HR.out.below hb); replace HL : Hid (LineAt b _ _) := HL.out.below hb; replace HB := Lib.hid (HB.out.trans (hb.mono HB.out.size)); clear hb) | (go_at_call 44; refine (write_line b ln y2 _ (by omega) (by omega) HL.out).mono ?_; rintro e v3 ⟨rfl, hl2, hg⟩; replace HX := Lib.hid (HX.out.grown hg (by intro e; injection e with e; omega)); replace HR := Lib.hid (HR.out.grown hg (by intro e; injection e with e; omega)); replace HL := Lib.hid hl2; replace HB := Lib.hid (HB.out.grown hg HB.out.size (fun k e => by injection e with e; omega)); clear hl2 hg))
   all_goals (rw [← hstep.out] at HL; have hsz : (addWs s0 (chTo rs n r.tags (k + 1))).size ≤ 4194304 + (k + 1) * 1048700 := (by rw [hstep.out, addW_size]; omega))
   all_goals go_wp2
   all_goals go_roundw
   all_goals first | exact ⟨k + 1, _, by omega, by go_num, hsz, rfl, HX, HR, HL, HB⟩ | (simp [intOf]; omega)
  ·have m1 : ¬ (k : Int) < (r.tags.length : Int) := by omega
   obtain rfl : k = r.tags.length := by omega
   go_wp2
   go_end0
   exact ⟨rfl, by rw [hfin.out, ← hln.out]; exact HL.out, HB.out⟩
theorem fields_impl (a : Option Addr) (rs : List RuleV) (cap n b : Nat) (s : ByteArray) (w0 w : World) (hl : rs.length ≤ 1048576) (hn : n < rs.length) (hsh : ∀ r ∈ rs, Short r) (hnm : ∀ r ∈ rs, r.name.size ≤ 1048576) (hv : kindI rs rs[n] = true) (htab : PowTab w0) (hrd : RdR a rs w0) (hb : Below w0.heap.size w0 w) (hbb : w0.heap.size ≤ b) (hs : s.size ≤ 2097152) (hline : LineAt b s w) :
  Calls Tryz.prog 46 #[.agg #[.slice a rs.length cap], .int .i64 (n : Int), .func (.func 44) #[] #[.pointer (some ⟨b, 0, none⟩)]] w fun e w' => e = .returned (.tuple #[]) ∧ LineAt b (addWs s (fieldsOf rs n rs[n])) w' ∧ Below w0.heap.size w0 w' := by
 rcases fields_cases hv with hk | hk | hk | hk | hk | hk | hk | hk | hk | hk
 ·exact fields_1 a rs cap n b s w0 w hl hn hsh hnm hv htab hrd hb hbb hs hline hk
 ·exact fields_2 a rs cap n b s w0 w hl hn hsh hnm hv htab hrd hb hbb hs hline hk
 ·exact fields_3 a rs cap n b s w0 w hl hn hsh hnm hv htab hrd hb hbb hs hline hk
 ·exact fields_4 a rs cap n b s w0 w hl hn hsh hnm hv htab hrd hb hbb hs hline hk
 ·exact fields_5 a rs cap n b s w0 w hl hn hsh hnm hv htab hrd hb hbb hs hline hk
 ·exact fields_6 a rs cap n b s w0 w hl hn hsh hnm hv htab hrd hb hbb hs hline hk
 ·exact fields_7 a rs cap n b s w0 w hl hn hsh hnm hv htab hrd hb hbb hs hline hk
 ·exact fields_8 a rs cap n b s w0 w hl hn hsh hnm hv htab hrd hb hbb hs hline hk
 ·exact fields_9 a rs cap n b s w0 w hl hn hsh hnm hv htab hrd hb hbb hs hline hk
 ·exact fields_10 a rs cap n b s w0 w hl hn hsh hnm hv htab hrd hb hbb hs hline hk
theorem kindName_size (k : Int) : (kindName k).size ≤ 10 := by
 unfold kindName
 split
 ·rename_i h
  rcases (by omega : k = 1 ∨ k = 2 ∨ k = 3 ∨ k = 4 ∨ k = 5 ∨ k = 6 ∨ k = 7 ∨ k = 8 ∨ k = 9 ∨ k = 10) with rfl | rfl | rfl | rfl | rfl | rfl | rfl | rfl | rfl | rfl <;> decide
 ·exact Nat.zero_le _
set_option maxHeartbeats 2000000 in
theorem frule_impl (a : Option Addr) (rs : List RuleV) (cap n : Nat) (w : World) (hl : rs.length ≤ 1048576) (hn : n < rs.length) (hsh : ∀ r ∈ rs, Short r) (hsp : ∀ r ∈ rs, Spelt r) (hv : validAt (kindI rs) rs (n : Int) = true) (htab : PowTab w) (hrd : RdC a rs w) :
  Calls Tryz.prog 23 #[.agg #[.slice a rs.length cap], .int .i64 (n : Int)] w fun e w' => e = .returned (.string (lineS rs n rs[n])) ∧ Below w.heap.size w w' := by
 obtain ⟨w0, hw0⟩ : ∃ w0, w0 = w.alloc (.cells #[.slice a rs.length cap] 26) := ⟨_, rfl⟩
 have hB : Below w.heap.size w w0 := by subst hw0; exact (Below.refl _ _).alloc (Nat.le_refl _) _
 have hX : CellsAt w.heap.size [.slice a rs.length cap] w0 := by subst hw0; exact CellsAt.new w _ _
 have hx0 := (hX 0 _ rfl).1
 have HX := Lib.hid hX
 have HB := Lib.hid hB
 have HRD := Lib.hid hrd
 have HT := Lib.hid htab
 have HSH := Lib.hid hsh
 have HSP := Lib.hid hsp
 have HVK := Lib.hid (validAt_kind hn hv)
 have HV := Lib.hid hv
 have hNM : Hid (∀ r ∈ rs, r.name.size ≤ 1048576) := fun r hr => (hsp r hr).1
 have hfin : Hid (lineS rs n rs[n] = addWs (addW rs[n].name (kindName rs[n].kind)) (fieldsOf rs n rs[n])) := rfl
 clear hB hX hrd htab hsh hsp hv
 go_enter Tryz.func23, Tryz.ntmps23
 go_wp2_with fail
 rw [← hw0]
 clear hw0
 refine (validr_impl a rs cap (n : Int) _ hl HSH.out HSP.out (HRD.out.below HB.out)).mono ?_
 rintro e w1 ⟨rfl, hb1⟩
 rw [HV.out]
 have hx1 := (HX.out.below hb1 0 _ rfl).1
 replace HX := Lib.hid (HX.out.below hb1)
 replace HB := Lib.hid (HB.out.trans (hb1.mono HB.out.size))
 clear hb1 hx0
 have k0 : (0 : Int) ≤ (n : Int) := by omega
 have k1 : (n : Int) < (rs.length : Int) := by omega
 obtain ⟨b0, off, a4, c4, a5, c5, a6, c6, a7, c7, rfl, ⟨d0, d1, d2, d3, d4, d5, d6, d7⟩, -⟩ := (HRD.out.rd.below HB.out).at n hn
 have hnr := hNM.out _ (List.getElem_mem hn)
 obtain ⟨r, hr⟩ : ∃ r, r = rs[n] := ⟨_, rfl⟩
 rw [← hr] at d0 d1 d2 d3 d4 d5 d6 d7 hnr hfin
 have HRN := Lib.hid hr
 clear hr
 obtain ⟨w2, hw2⟩ : ∃ w2, w2 = (w1.alloc (.cells #[.string r.name, .int .i64 r.kind, .int .i64 r.size, .bool r.little, .slice a4 r.bytes.length c4, .slice a5 r.names.length c5, .slice a6 r.tags.length c6, .slice a7 r.kids.length c7] 59)).alloc (.cells #[.string r.name] 9) := ⟨_, rfl⟩
 have hb2 : Below w1.heap.size w1 w2 := by subst hw2; exact ((Below.refl _ _).alloc (Nat.le_refl _) _).alloc (by simp) _
 have HL : Hid (LineAt (w1.heap.size + 1) r.name w2) := by
  subst hw2
  have h1 := CellsAt.new (w1.alloc (.cells #[.string r.name, .int .i64 r.kind, .int .i64 r.size, .bool r.little, .slice a4 r.bytes.length c4, .slice a5 r.names.length c5, .slice a6 r.tags.length c6, .slice a7 r.kids.length c7] 59)) [.string r.name] 9
  simp only [World.size_alloc] at h1
  exact h1
 replace HX := Lib.hid (HX.out.below hb2)
 have hs1 : w.heap.size ≤ w1.heap.size := HB.out.size
 replace HB := Lib.hid (HB.out.trans (hb2.mono HB.out.size))
 have hW := Lib.hid hw2
 clear hb2 hw2
 go_wp2_with fail
 rw [← hW.out]
 clear hW d0 d1 d2 d3 d4 d5 d6 d7 hx1
 refine (kind_impl r.kind _).mono ?_
 rintro e w3 ⟨rfl, hb3⟩
 replace HX := Lib.hid (HX.out.below hb3)
 replace HL : Hid (LineAt _ _ _) := HL.out.below hb3
 replace HB := Lib.hid (HB.out.trans (hb3.mono HB.out.size))
 clear hb3
 have hkz := kindName_size r.kind
 generalize kindName r.kind = kn at *
 go_wp2_with fail
 refine (write_line (w1.heap.size + 1) r.name kn _ (by omega) (by omega) HL.out).mono ?_
 rintro e w4 ⟨rfl, hl4, hg⟩
 have hx0 : w.heap.size ≠ w1.heap.size + 1 := by omega
 replace HX := Lib.hid (HX.out.grown hg (by intro e; injection e with e; omega))
 replace HL := Lib.hid hl4
 replace HB := Lib.hid (HB.out.grown hg HB.out.size (fun k e => by injection e with e; omega))
 clear hl4 hg
 have hx1 := (HX.out 0 _ rfl).1
 have hsz : (addW r.name kn).size ≤ 2097152 := by rw [addW_size]; omega
 generalize addW r.name kn = s2 at *
 go_wp2_with fail
 clear hx1
 refine (fields_impl (some ⟨b0, off, none⟩) rs cap n (w1.heap.size + 1) s2 w w4 hl hn HSH.out hNM.out HVK.out HT.out HRD.out.rd HB.out (by omega) hsz HL.out).mono ?_
 rintro e w5 ⟨rfl, hl5, hb5⟩
 rw [← HRN.out, ← hfin.out] at hl5
 obtain ⟨ln, hln⟩ : ∃ ln, ln = lineS rs n r := ⟨_, rfl⟩
 rw [← hln] at hl5
 have HLN := Lib.hid hln
 clear hln
 have c5' := (hl5 0 _ rfl).1
 have HB5 := Lib.hid hb5
 clear hl5 hb5
 go_wp2
 go_ret
 exact ⟨ret_str (by rw [HLN.out, HRN.out]), HB5.out⟩
theorem writeLf (B b : Nat) (l : List UInt8) (w : World) (h : Bld B b l w) (hlen : l.length + 1 ≤ 140737488355328) (hBw : B ≤ w.heap.size) :
  Calls Tryz.prog 24 #[.pointer (some ⟨b, 0, none⟩), .int .u8 10] w fun e w' => e = .returned .nilIface ∧ Bld B b (l ++ [10]) w' ∧ Below B w w' := writeByte B b l 10 w h hlen hBw
set_option maxHeartbeats 2000000 in
theorem fdescr_impl (a : Option Addr) (rs : List RuleV) (cap : Nat) (w : World) (hl : rs.length ≤ 1048576) (hsh : ∀ r ∈ rs, Short r) (hsp : ∀ r ∈ rs, Spelt r) (htab : PowTab w) (hrd : RdC a rs w) :
  Calls Tryz.prog 8 #[.agg #[.slice a rs.length cap]] w fun e w' => e = .returned (.string (textD rs)) ∧ Below w.heap.size w w' := by
 obtain ⟨w0, hw0⟩ : ∃ w0, w0 = w.alloc (.cells #[.slice a rs.length cap] 26) := ⟨_, rfl⟩
 have hB : Below w.heap.size w w0 := by subst hw0; exact (Below.refl _ _).alloc (Nat.le_refl _) _
 have hX : CellsAt w.heap.size [.slice a rs.length cap] w0 := by subst hw0; exact CellsAt.new w _ _
 have hx0 := (hX 0 _ rfl).1
 have HX := Lib.hid hX
 have HB := Lib.hid hB
 have HRD := Lib.hid hrd
 have HT := Lib.hid htab
 have HSH := Lib.hid hsh
 have HSP := Lib.hid hsp
 have HNM : Hid (∀ r ∈ rs, r.name.size ≤ 1048576) := fun r hr => (hsp r hr).1
 clear hB hX hrd htab hsh hsp
 go_enter Tryz.func8, Tryz.ntmps8
 go_wp2_with fail
 rw [← hw0]
 clear hw0
 refine (validd_impl a rs cap _ hl HSH.out HSP.out (HRD.out.below HB.out)).mono ?_
 rintro e w1 ⟨rfl, hb1⟩
 replace HX := Lib.hid (HX.out.below hb1)
 replace HB := Lib.hid (HB.out.trans (hb1.mono HB.out.size))
 clear hb1 hx0
 cases hd : descrB (kindI rs) rs with
 | false =>
  have hr : Hid (textD rs = ⟨#[]⟩) := by show _ = _; unfold textD; rw [hd]; rfl
  clear hd
  go_wp2
  go_ret
  exact ⟨ret_str hr.out.symm, HB.out⟩
 | true =>
  have hr : Hid (textD rs = textS rs rs.length) := by show _ = _; unfold textD; rw [hd]; rfl
  obtain ⟨⟨hn1, hn2⟩, hav⟩ := descrB_iff.1 hd
  have HAV := Lib.hid hav
  have hx1 := (HX.out.below (w' := w1.alloc (.cells #[.pointer none, .slice none 0 0] 43)) ((Below.refl _ _).alloc (Nat.le_refl _) _) 0 _ rfl).1
  clear hd hav
  go_wp2
  clear hx1
  go_loopw [4, 11] (fun _ i W => ∃ k : Nat, k ≤ rs.length ∧ i = .int .i64 k ∧ (textL rs k).length ≤ k * 16777300 ∧ Hid (Bld w1.heap.size w1.heap.size (textL rs k) W) ∧ Hid (Below w1.heap.size w1 W)) (fun _ i _ => rs.length - (intOf i).toNat)
  case atStart => exact ⟨0, Nat.zero_le _, rfl, Nat.zero_le _, Lib.fresh_isBuilder _ _ w1, (Below.refl _ _).alloc (Nat.le_refl _) _⟩
  case round =>
   obtain ⟨k, hk, rfl, hlen, hB, hb⟩ := hrel
   have k0 : (0 : Int) ≤ (k : Int) := by omega
   by_cases hlt : k < rs.length
   ·have k1 : (k : Int) < (rs.length : Int) := by omega
    have hv := Lib.hid (HAV.out k hlt)
    have hls := line_size (n := k) (validAt_kind hlt hv.out) HNM.out (HNM.out _ (List.getElem_mem hlt))
    have hla := Lib.hid (lineAt_in hlt)
    have hx1 := (HX.out.below hb.out 0 _ rfl).1
    have HBW := Lib.hid (HB.out.trans (hb.out.mono HB.out.size))
    go_wp2_with fail
    refine (frule_impl a rs cap k _ hl hlt HSH.out HSP.out hv.out (HT.out.below HBW.out) (HRD.out.below HBW.out)).mono ?_
    rintro e w2 ⟨rfl, hb2⟩
    have HB2 := Lib.hid (hB.out.below hb2)
    have Hb2 := Lib.hid (hb.out.trans (hb2.mono hb.out.size))
    rw [← hla.out] at hls ⊢
    have hnx := textL_next rs k
    have htx : Hid (textL rs (k + 1) = textL rs k ++ (lineAt rs k).data.toList ++ [10]) := rfl
    generalize lineAt rs k = ln at hls htx hnx ⊢
    have hll : Hid ((textL rs k ++ ln.data.toList).length = (textL rs k).length + ln.size) := by show _ = _; rw [List.length_append]; rfl
    clear hb2 hB hb hx1
    go_wp2_with fail
    refine (writeString w1.heap.size w1.heap.size _ ln _ HB2.out (by omega) Hb2.out.size).mono ?_
    rintro e w3 ⟨rfl, hB3, hb3⟩
    have HB3 := Lib.hid hB3
    have Hb3 := Lib.hid (Hb2.out.trans hb3)
    clear hB3 hb3 HB2 Hb2
    go_wp2_with fail
    refine (writeLf w1.heap.size w1.heap.size _ _ HB3.out (by have := hll.out; omega) Hb3.out.size).mono ?_
    rintro e w4 ⟨rfl, hB4, hb4⟩
    rw [← htx.out] at hB4
    have HB4 := Lib.hid hB4
    have Hb4 := Lib.hid (Hb3.out.trans hb4)
    clear hB4 hb4 HB3 Hb3
    go_wp2_with fail
    go_roundw
    case rel => exact ⟨k + 1, by omega, by go_num, by omega, HB4, Hb4⟩
    case measure => simp [intOf]; omega
   ·have k1 : ¬ (k : Int) < (rs.length : Int) := by omega
    obtain rfl : k = rs.length := by omega
    have HBW := Lib.hid (HB.out.trans (hb.out.mono HB.out.size))
    go_wp2_with fail
    refine (Tryz.Builder_String_any w1.heap.size w1.heap.size (textL rs rs.length) _ hB.out hb.out.size).mono ?_
    rintro e w5 ⟨rfl, hb5⟩
    have HB5 := Lib.hid (HB.out.trans ((hb.out.trans hb5).mono HB.out.size))
    clear hb5
    go_wp2_with fail
    go_ret
    exact ⟨ret_str hr.out.symm, HB5.out⟩
end Go.Proofs.YtndjefednfcmmaaGreatDoor
