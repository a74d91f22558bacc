/- The contract of the program's copyRule. The contract of the program's CopyDescription. Contracts of EqualDescriptions: the model's, the program's (slices.EqualFunc over equalRules). -/
import Derived.Test.YtndjefednfcmmaaGreatDoorClone
import Derived.Test.YtndjefednfcmmaaGreatDoorRuleTo
import Derived.Test.YtndjefednfcmmaaGreatDoorGVal
import Derived.StillTailTactics
set_option maxRecDepth 100000
namespace Go.Proofs.YtndjefednfcmmaaGreatDoor
open Go Go.RowKit
set_option maxHeartbeats 4000000 in
theorem copyrule_impl (r : RuleV) (cs : List Value) (w : World) (hs : Short r) (h : IsRule r cs w) :
  Calls Tryz.prog 93 #[.agg cs.toArray] w (RuleOut r w) := by
 obtain ⟨a4, c4, a5, c5, a6, c6, a7, c7, rfl, h4, h5, h6, h7⟩ := h
 obtain ⟨s4, s5, s6, s7⟩ := hs
 obtain ⟨w0, hw0⟩ : ∃ w0, w0 = (w.alloc (.cells #[.string r.name, .int .i64 r.kind, .int .i64 r.size, .bool r.little, .slice a4 r.bytes.length c4, .slice a5 r.names.length c5, .slice a6 r.tags.length c6, .slice a7 r.kids.length c7] 59)).alloc (.cells #[.string ⟨#[]⟩, .int .i64 0, .int .i64 0, .bool false, .slice none 0 0, .slice none 0 0, .slice none 0 0, .slice none 0 0] 59) := ⟨_, rfl⟩
 have hB0 : Below w.heap.size w w0 := by subst hw0; exact ((Below.refl _ _).alloc (Nat.le_refl _) _).alloc (by simp) _
 have hsz0 : w0.heap.size = w.heap.size + 2 := by subst hw0; simp
 have I0 : CellsAt w.heap.size [.string r.name, .int .i64 r.kind, .int .i64 r.size, .bool r.little, .slice a4 r.bytes.length c4, .slice a5 r.names.length c5, .slice a6 r.tags.length c6, .slice a7 r.kids.length c7] w0 := by subst hw0; exact (CellsAt.new w _ _).below ((Below.refl _ _).alloc (Nat.le_refl _) _)
 have Z0 : CellsAt (w.heap.size + 1) [.string ⟨#[]⟩, .int .i64 0, .int .i64 0, .bool false, .slice none 0 0, .slice none 0 0, .slice none 0 0, .slice none 0 0] w0 := by
  subst hw0
  have h1 := CellsAt.new (w.alloc (.cells #[.string r.name, .int .i64 r.kind, .int .i64 r.size, .bool r.little, .slice a4 r.bytes.length c4, .slice a5 r.names.length c5, .slice a6 r.tags.length c6, .slice a7 r.kids.length c7] 59)) [.string ⟨#[]⟩, .int .i64 0, .int .i64 0, .bool false, .slice none 0 0, .slice none 0 0, .slice none 0 0, .slice none 0 0] 59
  simpa using h1
 have H4 := Lib.hid (h4.below hB0)
 have H5 := Lib.hid (h5.below hB0)
 have H6 := Lib.hid (h6.below hB0)
 have H7 := Lib.hid (h7.below hB0)
 have H5w := Lib.hid (h5)
 have H6w := Lib.hid (h6)
 have H7w := Lib.hid (h7)
 have HB0 := Lib.hid hB0
 have HI0 := Lib.hid I0
 have HZ0 := Lib.hid Z0
 clear h4 h5 h6 h7 hB0 I0 Z0
 go_enter Tryz.func93, Tryz.ntmps93
 go_wp2_with fail
 rw [← hw0]
 clear hw0
 refine (clone_bytes a4 r.bytes c4 _ (by omega) H4.out).mono ?_
 rintro e w1 ⟨x4, y4, rfl, hr1, hb1⟩
 have hs1 := hb1.size
 have HLi4 := Lib.hid hr1.1.lies
 have I1 := HI0.out.below hb1
 have Z1 := HZ0.out.below hb1
 obtain ⟨v1, hv1⟩ : ∃ v, v = w1.setCell ⟨w.heap.size, 4, none⟩ (.slice x4 r.bytes.length y4) := ⟨_, rfl⟩
 have hvs1 : v1.heap.size = w1.heap.size := by subst hv1; simp
 have HI1 := Lib.hid (I1.set 4 (.slice x4 r.bytes.length y4) (by simp))
 rw [← hv1] at HI1
 simp only [List.set] at HI1
 have HZ1 := Lib.hid (Z1.far (b' := w.heap.size) (j := 4) (v := (.slice x4 r.bytes.length y4)) (by omega))
 rw [← hv1] at HZ1
 have HB1 : Hid (Below w.heap.size w v1) := by subst hv1; exact (HB0.out.trans (hb1.mono (by omega))).setCell (p := ⟨w.heap.size, 4, none⟩) (by simp) _
 have R4 := Lib.hid (hr1.setFar (c := w.heap.size) (i := 4) (v := (.slice x4 r.bytes.length y4)) (by omega))
 rw [← hv1] at R4
 have H5n : Hid (RdF Value.string a5 r.names v1) := by
  intro q hq
  obtain ⟨b, off, ha, hc⟩ := (H5.out.below hb1) q hq
  obtain ⟨b', off', ha', hc'⟩ := H5w.out q hq
  rw [ha] at ha'
  injection ha' with ha'
  injection ha' with e1 e2
  subst e1 e2
  refine ⟨b, off, ha, ?_⟩
  rw [hv1]
  rw [World.cell?_setCell_other _ _ _ _ (fun he => by have h1 := congrArg Addr.block he; have h2 := cell_lt hc'; simp at h1 h2; omega)]
  exact hc
 clear H5
 have H5 := H5n
 clear H5n
 have H6n : Hid (RdF (Value.int .i64) a6 r.tags v1) := by
  intro q hq
  obtain ⟨b, off, ha, hc⟩ := (H6.out.below hb1) q hq
  obtain ⟨b', off', ha', hc'⟩ := H6w.out q hq
  rw [ha] at ha'
  injection ha' with ha'
  injection ha' with e1 e2
  subst e1 e2
  refine ⟨b, off, ha, ?_⟩
  rw [hv1]
  rw [World.cell?_setCell_other _ _ _ _ (fun he => by have h1 := congrArg Addr.block he; have h2 := cell_lt hc'; simp at h1 h2; omega)]
  exact hc
 clear H6
 have H6 := H6n
 clear H6n
 have H7n : Hid (RdF (Value.int .i64) a7 r.kids v1) := by
  intro q hq
  obtain ⟨b, off, ha, hc⟩ := (H7.out.below hb1) q hq
  obtain ⟨b', off', ha', hc'⟩ := H7w.out q hq
  rw [ha] at ha'
  injection ha' with ha'
  injection ha' with e1 e2
  subst e1 e2
  refine ⟨b, off, ha, ?_⟩
  rw [hv1]
  rw [World.cell?_setCell_other _ _ _ _ (fun he => by have h1 := congrArg Addr.block he; have h2 := cell_lt hc'; simp at h1 h2; omega)]
  exact hc
 clear H7
 have H7 := H7n
 clear H7n
 obtain ⟨i5, -⟩ := I1 5 _ rfl
 obtain ⟨o4, p4⟩ := I1 4 _ rfl
 clear hr1 hb1 I1 Z1 HI0 HZ0
 go_wp2_with fail
 rw [← hv1]
 clear hv1 i5 o4 p4
 refine (clone_strs a5 r.names c5 _ (by omega) H5.out).mono ?_
 rintro e w2 ⟨x5, y5, rfl, hr2, hb2⟩
 have hs2 := hb2.size
 have HLi5 := Lib.hid hr2.1.lies
 have R4a := Lib.hid (R4.out.below hb2)
 clear R4
 have I2 := HI1.out.below hb2
 have Z2 := HZ1.out.below hb2
 obtain ⟨v2, hv2⟩ : ∃ v, v = w2.setCell ⟨w.heap.size, 5, none⟩ (.slice x5 r.names.length y5) := ⟨_, rfl⟩
 have hvs2 : v2.heap.size = w2.heap.size := by subst hv2; simp
 have HI2 := Lib.hid (I2.set 5 (.slice x5 r.names.length y5) (by simp))
 rw [← hv2] at HI2
 simp only [List.set] at HI2
 have HZ2 := Lib.hid (Z2.far (b' := w.heap.size) (j := 5) (v := (.slice x5 r.names.length y5)) (by omega))
 rw [← hv2] at HZ2
 have HB2 : Hid (Below w.heap.size w v2) := by subst hv2; exact (HB1.out.trans (hb2.mono (by omega))).setCell (p := ⟨w.heap.size, 5, none⟩) (by simp) _
 have R4 := Lib.hid (R4a.out.setFar (c := w.heap.size) (i := 5) (v := (.slice x5 r.names.length y5)) (by omega))
 rw [← hv2] at R4
 clear R4a
 have R5 := Lib.hid (hr2.setFar (c := w.heap.size) (i := 5) (v := (.slice x5 r.names.length y5)) (by omega))
 rw [← hv2] at R5
 have H6n : Hid (RdF (Value.int .i64) a6 r.tags v2) := by
  intro q hq
  obtain ⟨b, off, ha, hc⟩ := (H6.out.below hb2) q hq
  obtain ⟨b', off', ha', hc'⟩ := H6w.out q hq
  rw [ha] at ha'
  injection ha' with ha'
  injection ha' with e1 e2
  subst e1 e2
  refine ⟨b, off, ha, ?_⟩
  rw [hv2]
  rw [World.cell?_setCell_other _ _ _ _ (fun he => by have h1 := congrArg Addr.block he; have h2 := cell_lt hc'; simp at h1 h2; omega)]
  exact hc
 clear H6
 have H6 := H6n
 clear H6n
 have H7n : Hid (RdF (Value.int .i64) a7 r.kids v2) := by
  intro q hq
  obtain ⟨b, off, ha, hc⟩ := (H7.out.below hb2) q hq
  obtain ⟨b', off', ha', hc'⟩ := H7w.out q hq
  rw [ha] at ha'
  injection ha' with ha'
  injection ha' with e1 e2
  subst e1 e2
  refine ⟨b, off, ha, ?_⟩
  rw [hv2]
  rw [World.cell?_setCell_other _ _ _ _ (fun he => by have h1 := congrArg Addr.block he; have h2 := cell_lt hc'; simp at h1 h2; omega)]
  exact hc
 clear H7
 have H7 := H7n
 clear H7n
 obtain ⟨i6, -⟩ := I2 6 _ rfl
 obtain ⟨o5, p5⟩ := I2 5 _ rfl
 clear hr2 hb2 I2 Z2 HI1 HZ1
 go_wp2_with fail
 rw [← hv2]
 clear hv2 i6 o5 p5
 refine (clone_ints a6 r.tags c6 _ (by omega) H6.out).mono ?_
 rintro e w3 ⟨x6, y6, rfl, hr3, hb3⟩
 have hs3 := hb3.size
 have HLi6 := Lib.hid hr3.1.lies
 have R4a := Lib.hid (R4.out.below hb3)
 clear R4
 have R5a := Lib.hid (R5.out.below hb3)
 clear R5
 have I3 := HI2.out.below hb3
 have Z3 := HZ2.out.below hb3
 obtain ⟨v3, hv3⟩ : ∃ v, v = w3.setCell ⟨w.heap.size, 6, none⟩ (.slice x6 r.tags.length y6) := ⟨_, rfl⟩
 have hvs3 : v3.heap.size = w3.heap.size := by subst hv3; simp
 have HI3 := Lib.hid (I3.set 6 (.slice x6 r.tags.length y6) (by simp))
 rw [← hv3] at HI3
 simp only [List.set] at HI3
 have HZ3 := Lib.hid (Z3.far (b' := w.heap.size) (j := 6) (v := (.slice x6 r.tags.length y6)) (by omega))
 rw [← hv3] at HZ3
 have HB3 : Hid (Below w.heap.size w v3) := by subst hv3; exact (HB2.out.trans (hb3.mono (by omega))).setCell (p := ⟨w.heap.size, 6, none⟩) (by simp) _
 have R4 := Lib.hid (R4a.out.setFar (c := w.heap.size) (i := 6) (v := (.slice x6 r.tags.length y6)) (by omega))
 rw [← hv3] at R4
 clear R4a
 have R5 := Lib.hid (R5a.out.setFar (c := w.heap.size) (i := 6) (v := (.slice x6 r.tags.length y6)) (by omega))
 rw [← hv3] at R5
 clear R5a
 have R6 := Lib.hid (hr3.setFar (c := w.heap.size) (i := 6) (v := (.slice x6 r.tags.length y6)) (by omega))
 rw [← hv3] at R6
 have H7n : Hid (RdF (Value.int .i64) a7 r.kids v3) := by
  intro q hq
  obtain ⟨b, off, ha, hc⟩ := (H7.out.below hb3) q hq
  obtain ⟨b', off', ha', hc'⟩ := H7w.out q hq
  rw [ha] at ha'
  injection ha' with ha'
  injection ha' with e1 e2
  subst e1 e2
  refine ⟨b, off, ha, ?_⟩
  rw [hv3]
  rw [World.cell?_setCell_other _ _ _ _ (fun he => by have h1 := congrArg Addr.block he; have h2 := cell_lt hc'; simp at h1 h2; omega)]
  exact hc
 clear H7
 have H7 := H7n
 clear H7n
 obtain ⟨i7, -⟩ := I3 7 _ rfl
 obtain ⟨o6, p6⟩ := I3 6 _ rfl
 clear hr3 hb3 I3 Z3 HI2 HZ2
 go_wp2_with fail
 rw [← hv3]
 clear hv3 i7 o6 p6
 refine (clone_ints a7 r.kids c7 _ (by omega) H7.out).mono ?_
 rintro e w4 ⟨x7, y7, rfl, hr4, hb4⟩
 have hs4 := hb4.size
 have HLi7 := Lib.hid hr4.1.lies
 have R4a := Lib.hid (R4.out.below hb4)
 clear R4
 have R5a := Lib.hid (R5.out.below hb4)
 clear R5
 have R6a := Lib.hid (R6.out.below hb4)
 clear R6
 have I4 := HI3.out.below hb4
 have Z4 := HZ3.out.below hb4
 obtain ⟨v4, hv4⟩ : ∃ v, v = w4.setCell ⟨w.heap.size, 7, none⟩ (.slice x7 r.kids.length y7) := ⟨_, rfl⟩
 have hvs4 : v4.heap.size = w4.heap.size := by subst hv4; simp
 have HI4 := Lib.hid (I4.set 7 (.slice x7 r.kids.length y7) (by simp))
 rw [← hv4] at HI4
 simp only [List.set] at HI4
 have HZ4 := Lib.hid (Z4.far (b' := w.heap.size) (j := 7) (v := (.slice x7 r.kids.length y7)) (by omega))
 rw [← hv4] at HZ4
 have HB4 : Hid (Below w.heap.size w v4) := by subst hv4; exact (HB3.out.trans (hb4.mono (by omega))).setCell (p := ⟨w.heap.size, 7, none⟩) (by simp) _
 have R4 := Lib.hid (R4a.out.setFar (c := w.heap.size) (i := 7) (v := (.slice x7 r.kids.length y7)) (by omega))
 rw [← hv4] at R4
 clear R4a
 have R5 := Lib.hid (R5a.out.setFar (c := w.heap.size) (i := 7) (v := (.slice x7 r.kids.length y7)) (by omega))
 rw [← hv4] at R5
 clear R5a
 have R6 := Lib.hid (R6a.out.setFar (c := w.heap.size) (i := 7) (v := (.slice x7 r.kids.length y7)) (by omega))
 rw [← hv4] at R6
 clear R6a
 have R7 := Lib.hid (hr4.setFar (c := w.heap.size) (i := 7) (v := (.slice x7 r.kids.length y7)) (by omega))
 rw [← hv4] at R7
 obtain ⟨o7, p7⟩ := I4 7 _ rfl
 obtain ⟨o0', -⟩ := I4 0 _ rfl
 obtain ⟨o1', -⟩ := I4 1 _ rfl
 obtain ⟨o2', -⟩ := I4 2 _ rfl
 obtain ⟨o3', -⟩ := I4 3 _ rfl
 obtain ⟨o4', -⟩ := I4 4 _ rfl
 obtain ⟨o5', -⟩ := I4 5 _ rfl
 obtain ⟨o6', -⟩ := I4 6 _ rfl
 obtain ⟨z0, t0⟩ := Z4 0 _ rfl
 obtain ⟨z1, t1⟩ := Z4 1 _ rfl
 obtain ⟨z2, t2⟩ := Z4 2 _ rfl
 obtain ⟨z3, t3⟩ := Z4 3 _ rfl
 obtain ⟨z4, t4⟩ := Z4 4 _ rfl
 obtain ⟨z5, t5⟩ := Z4 5 _ rfl
 obtain ⟨z6, t6⟩ := Z4 6 _ rfl
 obtain ⟨z7, t7⟩ := Z4 7 _ rfl
 clear hr4 hb4 I4 Z4 HI3 HZ3 HI4 HZ4
 have hown : Hid (OwnRule w0.heap.size v4.heap.size r [.string r.name, .int .i64 r.kind, .int .i64 r.size, .bool r.little, .slice x4 r.bytes.length y4, .slice x5 r.names.length y5, .slice x6 r.tags.length y6, .slice x7 r.kids.length y7] v4) := by
  have q4 := HLi4.out
  have q5 := HLi5.out
  have q6 := HLi6.out
  have q7 := HLi7.out
  rw [hvs1] at q5
  rw [hvs2] at q6
  rw [hvs3] at q7
  rw [← hvs4] at q7
  exact ⟨x4, y4, x5, y5, x6, y6, x7, y7, rfl, R4.out, R5.out.more (by omega), R6.out.more (by omega), R7.out.more (by omega), four_blks q4 q5 q6 q7 (by omega) (by omega) (by omega) (by omega)⟩
 rw [hv4] at hown HB4
 clear hv4
 go_wp2
 (try simp only [Exit.inBlock, Exit.then])
 refine bodyPost_ret (v := .agg #[.string r.name, .int .i64 r.kind, .int .i64 r.size, .bool r.little, .slice x4 r.bytes.length y4, .slice x5 r.names.length y5, .slice x6 r.tags.length y6, .slice x7 r.kids.length y7]) ?_ rfl ?_
 ·simp [results, Tryz.results93, go_sem, z0, z1, z2, z3, z4, z5, z6, z7]
 ·exact ⟨_, rfl, ((((((((hown.out.setFar (c := w.heap.size + 1) (by omega)).setFar (c := w.heap.size + 1) (by omega)).setFar (c := w.heap.size + 1) (by omega)).setFar (c := w.heap.size + 1) (by omega)).setFar (c := w.heap.size + 1) (by omega)).setFar (c := w.heap.size + 1) (by omega)).setFar (c := w.heap.size + 1) (by omega)).setFar (c := w.heap.size + 1) (by omega)).more (by omega) (by simp), ((((((((HB4.out.setCell (p := ⟨w.heap.size + 1, 0, none⟩) (by simp) _).setCell (p := ⟨w.heap.size + 1, 1, none⟩) (by simp) _).setCell (p := ⟨w.heap.size + 1, 2, none⟩) (by simp) _).setCell (p := ⟨w.heap.size + 1, 3, none⟩) (by simp) _).setCell (p := ⟨w.heap.size + 1, 4, none⟩) (by simp) _).setCell (p := ⟨w.heap.size + 1, 5, none⟩) (by simp) _).setCell (p := ⟨w.heap.size + 1, 6, none⟩) (by simp) _).setCell (p := ⟨w.heap.size + 1, 7, none⟩) (by simp) _)⟩
set_option maxHeartbeats 2000000 in
theorem copy_impl (a : Option Addr) (rs : List RuleV) (cap : Nat) (w : World) (hl : rs.length ≤ 1048576) (hs : ∀ r ∈ rs, Short r) (h : RdR a rs w) :
  Calls Tryz.prog 51 #[.agg #[.slice a rs.length cap]] w (DescrOut rs w) := by
 have HS := Lib.hid hs
 obtain ⟨w0, hw0⟩ : ∃ w0, w0 = (w.alloc (.cells #[.slice a rs.length cap] 26)).alloc (.cells #[.slice none 0 0] 26) := ⟨_, rfl⟩
 have hz0 : w0.heap.size = w.heap.size + 2 := by subst hw0; simp
 have hB0 : Below w.heap.size w w0 := by
  subst hw0
  exact ((Below.refl _ w).alloc (Nat.le_refl _) _).alloc (by simp) _
 have hX0 : CellsAt w.heap.size [.slice a rs.length cap] w0 := by subst hw0; exact (CellsAt.new w _ _).below ((Below.refl _ _).alloc (Nat.le_refl _) _)
 have Z0 : CellsAt (w.heap.size + 1) [.slice none 0 0] w0 := by
  subst hw0
  have h1 := CellsAt.new (w.alloc (.cells #[.slice a rs.length cap] 26)) [.slice none 0 0] 26
  simpa using h1
 have HB0 := Lib.hid hB0
 have HZ0 := Lib.hid Z0
 have H := Lib.hid (h.below hB0)
 have hW := Lib.hid hw0
 have hmk := make_rules rs.length (by omega) w0
 rw [hw0] at hmk
 have bx := (hX0.below (w' := w0.alloc (.cells (madeCells #[.string ⟨#[]⟩, .int .i64 0, .int .i64 0, .bool false, .slice none 0 0, .slice none 0 0, .slice none 0 0, .slice none 0 0] (rs.length * 8)) 59)) ((Below.refl _ _).alloc (Nat.le_refl _) _) 0 _ rfl).1
 rw [hw0] at bx
 clear hB0 Z0 h hs hX0 hw0
 go_enter Tryz.func51, Tryz.ntmps51
 go_wp2
 clear hmk bx
 rw [← hW.out, show w.heap.size + 1 + 1 = w0.heap.size from by omega]
 have HZS := Lib.hid hz0
 clear hz0
 go_loopw [13] (fun i W => ∃ k : Nat, k ≤ rs.length ∧ i = .int .i64 k ∧ Hid (HalfR rs k w0.heap.size w0 W)) (fun i _ => rs.length - (intOf i).toNat)
 case atStart => exact ⟨0, Nat.zero_le _, rfl, HalfR.start rs _ w0⟩
 case round =>
  obtain ⟨k, hk, rfl, hh⟩ := hrel
  have k0 : (0 : Int) ≤ (k : Int) := by omega
  by_cases hlt : k < rs.length
  ·have k1 : (k : Int) < (rs.length : Int) := by omega
   have hsh := Lib.hid (HS.out _ (List.getElem_mem hlt))
   obtain ⟨b, off, a4, c4, a5, c5, a6, c6, a7, c7, rfl, ⟨d0, d1, d2, d3, d4, d5, d6, d7⟩, h4, h5, h6, h7⟩ := (H.out.below hh.out.1).at k hlt
   have HR : Hid (IsRule rs[k] [.string rs[k].name, .int .i64 rs[k].kind, .int .i64 rs[k].size, .bool rs[k].little, .slice a4 rs[k].bytes.length c4, .slice a5 rs[k].names.length c5, .slice a6 rs[k].tags.length c6, .slice a7 rs[k].kids.length c7] wr) := ⟨a4, c4, a5, c5, a6, c6, a7, c7, rfl, h4, h5, h6, h7⟩
   have hnext := fun cs W1 => Lib.hid (hh.out.next (W1 := W1) (cs := cs) (Nat.le_refl _) hlt)
   clear h4 h5 h6 h7
   generalize rs[k] = r at d0 d1 d2 d3 d4 d5 d6 d7 HR hsh hnext
   obtain ⟨W2, hW2⟩ : ∃ W2, W2 = wr.alloc (.cells #[.string r.name, .int .i64 r.kind, .int .i64 r.size, .bool r.little, .slice a4 r.bytes.length c4, .slice a5 r.names.length c5, .slice a6 r.tags.length c6, .slice a7 r.kids.length c7] 59) := ⟨_, rfl⟩
   have hb2 : Below wr.heap.size wr W2 := by subst hW2; exact (Below.refl _ _).alloc (Nat.le_refl _) _
   have hs2 : Hid (W2.heap.size = wr.heap.size + 1) := by subst hW2; exact World.size_alloc _ _
   have HR2 := Lib.hid (HR.out.below hb2)
   have HB2 := Lib.hid hb2
   clear hb2 HR
   go_wp2_with fail
   rw [← hW2]
   clear hW2
   refine (copyrule_impl r _ _ hsh.out HR2.out).mono ?_
   rintro e w1 ⟨cs, rfl, hown, hb1⟩
   have hb12 : Below wr.heap.size wr w1 := HB2.out.trans (hb1.mono (by have := hs2.out; omega))
   have hN := Lib.hid ((hnext cs w1).out hb12 (hown.more (by have := hs2.out; omega) (Nat.le_refl _)))
   obtain ⟨_, hlt2, css, hcl, _, _, hfz, hzz, _⟩ := hh.out
   have zc := fun i v hv => (hb12.cell (p := ⟨w0.heap.size, k * 8 + i, none⟩) hlt2).trans (hzz k (Nat.le_refl _) hlt i v hv)
   have fc := fun i (hi : i < 8) => (hb12.frozen (p := ⟨w0.heap.size, k * 8 + i, none⟩) hlt2).trans (hfz (k * 8 + i) (by omega))
   have z0 := zc 0 _ rfl
   have z1 := zc 1 _ rfl
   have z2 := zc 2 _ rfl
   have z3 := zc 3 _ rfl
   have z4 := zc 4 _ rfl
   have z5 := zc 5 _ rfl
   have z6 := zc 6 _ rfl
   have z7 := zc 7 _ rfl
   have f0 := fc 0 (by omega)
   have f1 := fc 1 (by omega)
   have f2 := fc 2 (by omega)
   have f3 := fc 3 (by omega)
   have f4 := fc 4 (by omega)
   have f5 := fc 5 (by omega)
   have f6 := fc 6 (by omega)
   have f7 := fc 7 (by omega)
   rw [Nat.add_zero] at z0 f0
   obtain ⟨x4, y4, x5, y5, x6, y6, x7, y7, rfl, -⟩ := hown
   clear hb1 hb12 zc fc hfz hzz hnext d0 d1 d2 d3 d4 d5 d6 d7 HR2 HB2 hh
   go_wp2
   go_roundw
   case rel => exact ⟨k + 1, by omega, by go_num, hN⟩
   case measure => simp [intOf]; omega
  ·have k1 : ¬ (k : Int) < (rs.length : Int) := by omega
   obtain rfl : k = rs.length := by omega
   have R := Lib.hid hh.out.end
   have hbw := hh.out.1
   have HBW := Lib.hid hbw
   obtain ⟨z0, t0⟩ := (HZ0.out.below hbw) 0 _ rfl
   have hsw := hbw.size
   clear hh hbw
   go_wp2
   (try simp only [Exit.inBlock, Exit.then])
   refine bodyPost_ret (v := .agg #[.slice (some ⟨w0.heap.size, 0, none⟩) rs.length rs.length]) ?_ rfl ?_
   ·simp [results, Tryz.results51, go_sem, z0]
   ·exact ⟨_, _, rfl, (R.out.setFar (c := w.heap.size + 1) (by have := HZS.out; omega)).more (by have := HZS.out; omega) (by simp), (HB0.out.trans (HBW.out.mono (by have := HZS.out; omega))).setCell (p := ⟨w.heap.size + 1, 0, none⟩) (by simp) _⟩
def sameD : List RuleV → List RuleV → Bool
 | [], [] => true
 | r :: rs, s :: ss => sameR r s && sameD rs ss
 | _, _ => false
theorem sameD_iff : ∀ (rs ss : List RuleV), sameD rs ss = true ↔ rs = ss
 | [], [] => by simp [sameD]
 | [], _ :: _ => by simp [sameD]
 | _ :: _, [] => by simp [sameD]
 | r :: rs, s :: ss => by simp [sameD, sameR_iff, sameD_iff rs ss]
theorem sameD_no {rs ss : List RuleV} (h : rs ≠ ss) : sameD rs ss = false := by
 cases hb : sameD rs ss
 ·rfl
 ·exact absurd ((sameD_iff rs ss).1 hb) h
theorem sameR_no {r s : RuleV} (h : r ≠ s) : sameR r s = false := by
 cases hb : sameR r s
 ·rfl
 ·exact absurd ((sameR_iff r s).1 hb) h
set_option maxHeartbeats 2000000 in
theorem eqf_lib (a b : Option Addr) (rs ss : List RuleV) (ca cb : Nat) (w : World) (hl : rs.length ≤ 1048576) (hm : ss.length ≤ 1048576) (hr : ∀ r ∈ rs, Short r) (hs : ∀ r ∈ ss, Short r) (ha : RdR a rs w) (hb : RdR b ss w) (fv : Value) (hfv : fv = .func (.func 34) #[] #[]) :
  Calls Tryz.prog 33 #[.slice a rs.length ca, .slice b ss.length cb, fv] w fun e w' => e = .returned (.bool (sameD rs ss)) ∧ Below w.heap.size w w' := by
 subst hfv
 have HA := Lib.hid ha
 have HC := Lib.hid hb
 have HR := Lib.hid hr
 have HS := Lib.hid hs
 have _ := hm
 clear ha hb hr hs
 by_cases hlen : rs.length = ss.length
 ·have h1 : ((rs.length : Int) != (ss.length : Int)) = false := by simp [hlen]
  have hle : ss.length ≤ rs.length := by omega
  have hge : rs.length ≤ ss.length := by omega
  clear hlen
  go_enter Tryz.func33, Tryz.ntmps33
  go_wp2
  clear h1
  go_loopw [17] (fun i W => ∃ k : Nat, k ≤ rs.length ∧ i = .int .i64 k ∧ Hid (rs.take k = ss.take k) ∧ Hid (Below w.heap.size w W)) (fun i _ => rs.length - (intOf i).toNat)
  case atStart => exact ⟨0, Nat.zero_le _, rfl, rfl, Below.refl _ _⟩
  case round =>
   obtain ⟨k, hk, rfl, ht, hbw⟩ := hrel
   have k0 : (0 : Int) ≤ (k : Int) := by omega
   by_cases hlt : k < rs.length
   ·have k1 : (k : Int) < (rs.length : Int) := by omega
    have k2 : (k : Int) < (ss.length : Int) := by omega
    have hlt2 : k < ss.length := by omega
    have hsr := Lib.hid (HR.out _ (List.getElem_mem hlt))
    have hss := Lib.hid (HS.out _ (List.getElem_mem hlt2))
    obtain ⟨b1, o1, a4, c4, a5, c5, a6, c6, a7, c7, rfl, ⟨d0, d1, d2, d3, d4, d5, d6, d7⟩, h4, h5, h6, h7⟩ := (HA.out.below hbw.out).at k hlt
    have hB1 : Below wr.heap.size wr (wr.alloc (.cells #[.string rs[k].name, .int .i64 rs[k].kind, .int .i64 rs[k].size, .bool rs[k].little, .slice a4 rs[k].bytes.length c4, .slice a5 rs[k].names.length c5, .slice a6 rs[k].tags.length c6, .slice a7 rs[k].kids.length c7] 59)) := (Below.refl _ _).alloc (Nat.le_refl _) _
    obtain ⟨b2, o2, x4, y4, x5, y5, x6, y6, x7, y7, rfl, ⟨m0, m1, m2, m3, m4, m5, m6, m7⟩, j4, j5, j6, j7⟩ := ((HC.out.below hbw.out).below hB1).at k hlt2
    have HP : Hid (IsRule rs[k] _ wr) := ⟨a4, c4, a5, c5, a6, c6, a7, c7, rfl, h4, h5, h6, h7⟩
    have HQ : Hid (IsRule ss[k] _ _) := ⟨x4, y4, x5, y5, x6, y6, x7, y7, rfl, j4, j5, j6, j7⟩
    have hyes : Hid (rs[k] = ss[k] → rs.take (k + 1) = ss.take (k + 1)) := fun he => takeNext ht.out hlt hlt2 he
    have hno : Hid (rs[k] ≠ ss[k] → rs ≠ ss) := fun he => takeNot hlt hlt2 he
    have hB2 : ∀ o p, Below wr.heap.size wr ((wr.alloc o).alloc p) := fun o p => ((Below.refl _ _).alloc (Nat.le_refl _) _).alloc (by simp) _
    have HP2 := fun o p => Lib.hid (HP.out.below (hB2 o p))
    have HQ2 := fun p => Lib.hid (HQ.out.below ((Below.refl _ _).alloc (Nat.le_refl _) p))
    have HB2 := fun o p => Lib.hid (hbw.out.trans ((hB2 o p).mono hbw.out.size))
    clear h4 h5 h6 h7 j4 j5 j6 j7 hB1 hB2 HP HQ
    generalize rs[k] = r at d0 d1 d2 d3 d4 d5 d6 d7 HP2 hsr hyes hno m0 m1 m2 m3 m4 m5 m6 m7 HQ2
    generalize ss[k] = s at m0 m1 m2 m3 m4 m5 m6 m7 HQ2 hss hyes hno
    by_cases he : r = s
    ·have hy := Lib.hid (hyes.out he)
     have hq := (sameR_iff r s).2 he
     clear he
     go_wp2_with fail
     refine (eqr_impl r s _ _ _ hsr.out hss.out (HP2 _ _).out (HQ2 _).out).mono ?_
     rintro e w3 ⟨rfl, hb3⟩
     have HB3 := Lib.hid ((HB2 _ _).out.trans (hb3.mono (HB2 _ _).out.size))
     clear hb3
     rw [hq]
     go_wp2
     go_roundw
     case rel => exact ⟨k + 1, by omega, by go_num, hy, HB3⟩
     case measure => simp [intOf]; omega
    ·have hn := Lib.hid (sameD_no (hno.out he))
     have hq := sameR_no he
     clear he
     go_wp2_with fail
     refine (eqr_impl r s _ _ _ hsr.out hss.out (HP2 _ _).out (HQ2 _).out).mono ?_
     rintro e w3 ⟨rfl, hb3⟩
     have HB3 := Lib.hid ((HB2 _ _).out.trans (hb3.mono (HB2 _ _).out.size))
     clear hb3
     rw [hq]
     go_wp2
     go_ret
     exact ⟨ret_bool hn.out.symm, HB3.out⟩
   ·have k1 : ¬ (k : Int) < (rs.length : Int) := by omega
    have heq : Hid (sameD rs ss = true) := by
     have h2 := ht.out
     rw [List.take_of_length_le (by omega), List.take_of_length_le (by omega)] at h2
     exact (sameD_iff rs ss).2 h2
    go_wp2
    go_ret
    exact ⟨ret_bool heq.out.symm, hbw.out⟩
 ·have h1 : ((rs.length : Int) != (ss.length : Int)) = true := by simp; omega
  have hne : Hid (sameD rs ss = false) := sameD_no fun h => hlen (by rw [h])
  clear hlen
  go_enter Tryz.func33, Tryz.ntmps33
  go_wp2
  go_ret
  exact ⟨ret_bool hne.out.symm, Below.refl _ _⟩
theorem eqd_impl (a b : Option Addr) (rs ss : List RuleV) (ca cb : Nat) (w : World) (hl : rs.length ≤ 1048576) (hm : ss.length ≤ 1048576) (hr : ∀ r ∈ rs, Short r) (hs : ∀ r ∈ ss, Short r) (ha : RdR a rs w) (hb : RdR b ss w) :
  Calls Tryz.prog 12 #[.agg #[.slice a rs.length ca], .agg #[.slice b ss.length cb]] w fun e w' => e = .returned (.bool (sameD rs ss)) ∧ Below w.heap.size w w' := by
 have hB : ∀ o p, Below w.heap.size w ((w.alloc o).alloc p) := fun o p => ((Below.refl _ _).alloc (Nat.le_refl _) _).alloc (by simp) _
 have HA := fun o p => Lib.hid (ha.below (hB o p))
 have HC := fun o p => Lib.hid (hb.below (hB o p))
 have HB := fun o p => Lib.hid (hB o p)
 have HR := Lib.hid hr
 have HS := Lib.hid hs
 clear ha hb hB hr hs
 go_enter Tryz.func12, Tryz.ntmps12
 go_wp2_with fail
 refine (eqf_lib a b rs ss ca cb _ hl hm HR.out HS.out (HA _ _).out (HC _ _).out _ rfl).mono ?_
 rintro e w1 ⟨rfl, hb1⟩
 have HB1 := Lib.hid ((HB _ _).out.trans (hb1.mono (HB _ _).out.size))
 clear hb1
 go_wp2
 go_ret
 exact ⟨rfl, HB1.out⟩
end Go.Proofs.YtndjefednfcmmaaGreatDoor
