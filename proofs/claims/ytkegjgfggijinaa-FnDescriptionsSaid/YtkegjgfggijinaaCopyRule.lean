/- The contract of the program's copyRule. -/
import Derived.Test.YtkegjgfggijinaaClone
import Derived.Test.YtkegjgfggijinaaRuleTo
namespace Go.Proofs.Ytkegjgfggijinaa
open Go Go.RowKit
set_option maxRecDepth 100000 in
set_option maxHeartbeats 4000000 in
theorem copyrule_impl (r : RuleV) (cs : List Value) (w : World) (hs : Short r) (h : IsRule r cs w) :
    Calls Try.prog 34 #[.agg cs.toArray] w (RuleOut r w) := by
  obtain ⟨a4, c4, a5, c5, a6, c6, a7, c7, rfl, h4, h5, h6, h7⟩ := h
  obtain ⟨s4, s5, s6, s7⟩ := hs
  obtain ⟨w0, hw0⟩ : ∃ w0, w0 = (w.alloc (.cells #[.string r.name, .int .i64 r.kind, .int .i64 r.size, .bool r.little, .slice a4 r.bytes.length c4, .slice a5 r.names.length c5, .slice a6 r.tags.length c6, .slice a7 r.kids.length c7] 35)).alloc (.cells #[.string ⟨#[]⟩, .int .i64 0, .int .i64 0, .bool false, .slice none 0 0, .slice none 0 0, .slice none 0 0, .slice none 0 0] 35) := ⟨_, rfl⟩
  have hB0 : Below w.heap.size w w0 := by subst hw0; exact ((Below.refl _ _).alloc (Nat.le_refl _) _).alloc (by simp) _
  have hsz0 : w0.heap.size = w.heap.size + 2 := by subst hw0; simp
  have I0 : CellsAt w.heap.size [.string r.name, .int .i64 r.kind, .int .i64 r.size, .bool r.little, .slice a4 r.bytes.length c4, .slice a5 r.names.length c5, .slice a6 r.tags.length c6, .slice a7 r.kids.length c7] w0 := by subst hw0; exact (CellsAt.new w _ _).below ((Below.refl _ _).alloc (Nat.le_refl _) _)
  have Z0 : CellsAt (w.heap.size + 1) [.string ⟨#[]⟩, .int .i64 0, .int .i64 0, .bool false, .slice none 0 0, .slice none 0 0, .slice none 0 0, .slice none 0 0] w0 := by
    subst hw0
    have h1 := CellsAt.new (w.alloc (.cells #[.string r.name, .int .i64 r.kind, .int .i64 r.size, .bool r.little, .slice a4 r.bytes.length c4, .slice a5 r.names.length c5, .slice a6 r.tags.length c6, .slice a7 r.kids.length c7] 35)) [.string ⟨#[]⟩, .int .i64 0, .int .i64 0, .bool false, .slice none 0 0, .slice none 0 0, .slice none 0 0, .slice none 0 0] 35
    simpa using h1
  have H4 := Lib.hid (h4.below hB0)
  have H5 := Lib.hid (h5.below hB0)
  have H6 := Lib.hid (h6.below hB0)
  have H7 := Lib.hid (h7.below hB0)
  have H5w := Lib.hid (h5)
  have H6w := Lib.hid (h6)
  have H7w := Lib.hid (h7)
  have HB0 := Lib.hid hB0
  have HI0 := Lib.hid I0
  have HZ0 := Lib.hid Z0
  clear h4 h5 h6 h7 hB0 I0 Z0
  go_enter Try.func34, Try.ntmps34
  go_wp2_with fail
  rw [← hw0]
  clear hw0
  refine (clone_bytes a4 r.bytes c4 _ (by omega) H4.out).mono ?_
  rintro e w1 ⟨x4, y4, rfl, hr1, hb1⟩
  have hs1 := hb1.size
  have HLi4 := Lib.hid hr1.1.lies
  have I1 := HI0.out.below hb1
  have Z1 := HZ0.out.below hb1
  obtain ⟨v1, hv1⟩ : ∃ v, v = w1.setCell ⟨w.heap.size, 4, none⟩ (.slice x4 r.bytes.length y4) := ⟨_, rfl⟩
  have hvs1 : v1.heap.size = w1.heap.size := by subst hv1; simp
  have HI1 := Lib.hid (I1.set 4 (.slice x4 r.bytes.length y4) (by simp))
  rw [← hv1] at HI1
  simp only [List.set] at HI1
  have HZ1 := Lib.hid (Z1.far (b' := w.heap.size) (j := 4) (v := (.slice x4 r.bytes.length y4)) (by omega))
  rw [← hv1] at HZ1
  have HB1 : Hid (Below w.heap.size w v1) := by subst hv1; exact (HB0.out.trans (hb1.mono (by omega))).setCell (p := ⟨w.heap.size, 4, none⟩) (by simp) _
  have R4 := Lib.hid (hr1.setFar (c := w.heap.size) (i := 4) (v := (.slice x4 r.bytes.length y4)) (by omega))
  rw [← hv1] at R4
  have H5n : Hid (RdF Value.string a5 r.names v1) := by
    intro q hq
    obtain ⟨b, off, ha, hc⟩ := (H5.out.below hb1) q hq
    obtain ⟨b', off', ha', hc'⟩ := H5w.out q hq
    rw [ha] at ha'
    injection ha' with ha'
    injection ha' with e1 e2
    subst e1 e2
    refine ⟨b, off, ha, ?_⟩
    rw [hv1]
    rw [World.cell?_setCell_other _ _ _ _ (fun he => by have h1 := congrArg Addr.block he; have h2 := cell_lt hc'; simp at h1 h2; omega)]
    exact hc
  clear H5
  have H5 := H5n
  clear H5n
  have H6n : Hid (RdF (Value.int .i64) a6 r.tags v1) := by
    intro q hq
    obtain ⟨b, off, ha, hc⟩ := (H6.out.below hb1) q hq
    obtain ⟨b', off', ha', hc'⟩ := H6w.out q hq
    rw [ha] at ha'
    injection ha' with ha'
    injection ha' with e1 e2
    subst e1 e2
    refine ⟨b, off, ha, ?_⟩
    rw [hv1]
    rw [World.cell?_setCell_other _ _ _ _ (fun he => by have h1 := congrArg Addr.block he; have h2 := cell_lt hc'; simp at h1 h2; omega)]
    exact hc
  clear H6
  have H6 := H6n
  clear H6n
  have H7n : Hid (RdF (Value.int .i64) a7 r.kids v1) := by
    intro q hq
    obtain ⟨b, off, ha, hc⟩ := (H7.out.below hb1) q hq
    obtain ⟨b', off', ha', hc'⟩ := H7w.out q hq
    rw [ha] at ha'
    injection ha' with ha'
    injection ha' with e1 e2
    subst e1 e2
    refine ⟨b, off, ha, ?_⟩
    rw [hv1]
    rw [World.cell?_setCell_other _ _ _ _ (fun he => by have h1 := congrArg Addr.block he; have h2 := cell_lt hc'; simp at h1 h2; omega)]
    exact hc
  clear H7
  have H7 := H7n
  clear H7n
  obtain ⟨i5, -⟩ := I1 5 _ rfl
  obtain ⟨o4, p4⟩ := I1 4 _ rfl
  clear hr1 hb1 I1 Z1 HI0 HZ0
  go_wp2_with fail
  rw [← hv1]
  clear hv1 i5 o4 p4
  refine (clone_strs a5 r.names c5 _ (by omega) H5.out).mono ?_
  rintro e w2 ⟨x5, y5, rfl, hr2, hb2⟩
  have hs2 := hb2.size
  have HLi5 := Lib.hid hr2.1.lies
  have R4a := Lib.hid (R4.out.below hb2)
  clear R4
  have I2 := HI1.out.below hb2
  have Z2 := HZ1.out.below hb2
  obtain ⟨v2, hv2⟩ : ∃ v, v = w2.setCell ⟨w.heap.size, 5, none⟩ (.slice x5 r.names.length y5) := ⟨_, rfl⟩
  have hvs2 : v2.heap.size = w2.heap.size := by subst hv2; simp
  have HI2 := Lib.hid (I2.set 5 (.slice x5 r.names.length y5) (by simp))
  rw [← hv2] at HI2
  simp only [List.set] at HI2
  have HZ2 := Lib.hid (Z2.far (b' := w.heap.size) (j := 5) (v := (.slice x5 r.names.length y5)) (by omega))
  rw [← hv2] at HZ2
  have HB2 : Hid (Below w.heap.size w v2) := by subst hv2; exact (HB1.out.trans (hb2.mono (by omega))).setCell (p := ⟨w.heap.size, 5, none⟩) (by simp) _
  have R4 := Lib.hid (R4a.out.setFar (c := w.heap.size) (i := 5) (v := (.slice x5 r.names.length y5)) (by omega))
  rw [← hv2] at R4
  clear R4a
  have R5 := Lib.hid (hr2.setFar (c := w.heap.size) (i := 5) (v := (.slice x5 r.names.length y5)) (by omega))
  rw [← hv2] at R5
  have H6n : Hid (RdF (Value.int .i64) a6 r.tags v2) := by
    intro q hq
    obtain ⟨b, off, ha, hc⟩ := (H6.out.below hb2) q hq
    obtain ⟨b', off', ha', hc'⟩ := H6w.out q hq
    rw [ha] at ha'
    injection ha' with ha'
    injection ha' with e1 e2
    subst e1 e2
    refine ⟨b, off, ha, ?_⟩
    rw [hv2]
    rw [World.cell?_setCell_other _ _ _ _ (fun he => by have h1 := congrArg Addr.block he; have h2 := cell_lt hc'; simp at h1 h2; omega)]
    exact hc
  clear H6
  have H6 := H6n
  clear H6n
  have H7n : Hid (RdF (Value.int .i64) a7 r.kids v2) := by
    intro q hq
    obtain ⟨b, off, ha, hc⟩ := (H7.out.below hb2) q hq
    obtain ⟨b', off', ha', hc'⟩ := H7w.out q hq
    rw [ha] at ha'
    injection ha' with ha'
    injection ha' with e1 e2
    subst e1 e2
    refine ⟨b, off, ha, ?_⟩
    rw [hv2]
    rw [World.cell?_setCell_other _ _ _ _ (fun he => by have h1 := congrArg Addr.block he; have h2 := cell_lt hc'; simp at h1 h2; omega)]
    exact hc
  clear H7
  have H7 := H7n
  clear H7n
  obtain ⟨i6, -⟩ := I2 6 _ rfl
  obtain ⟨o5, p5⟩ := I2 5 _ rfl
  clear hr2 hb2 I2 Z2 HI1 HZ1
  go_wp2_with fail
  rw [← hv2]
  clear hv2 i6 o5 p5
  refine (clone_ints a6 r.tags c6 _ (by omega) H6.out).mono ?_
  rintro e w3 ⟨x6, y6, rfl, hr3, hb3⟩
  have hs3 := hb3.size
  have HLi6 := Lib.hid hr3.1.lies
  have R4a := Lib.hid (R4.out.below hb3)
  clear R4
  have R5a := Lib.hid (R5.out.below hb3)
  clear R5
  have I3 := HI2.out.below hb3
  have Z3 := HZ2.out.below hb3
  obtain ⟨v3, hv3⟩ : ∃ v, v = w3.setCell ⟨w.heap.size, 6, none⟩ (.slice x6 r.tags.length y6) := ⟨_, rfl⟩
  have hvs3 : v3.heap.size = w3.heap.size := by subst hv3; simp
  have HI3 := Lib.hid (I3.set 6 (.slice x6 r.tags.length y6) (by simp))
  rw [← hv3] at HI3
  simp only [List.set] at HI3
  have HZ3 := Lib.hid (Z3.far (b' := w.heap.size) (j := 6) (v := (.slice x6 r.tags.length y6)) (by omega))
  rw [← hv3] at HZ3
  have HB3 : Hid (Below w.heap.size w v3) := by subst hv3; exact (HB2.out.trans (hb3.mono (by omega))).setCell (p := ⟨w.heap.size, 6, none⟩) (by simp) _
  have R4 := Lib.hid (R4a.out.setFar (c := w.heap.size) (i := 6) (v := (.slice x6 r.tags.length y6)) (by omega))
  rw [← hv3] at R4
  clear R4a
  have R5 := Lib.hid (R5a.out.setFar (c := w.heap.size) (i := 6) (v := (.slice x6 r.tags.length y6)) (by omega))
  rw [← hv3] at R5
  clear R5a
  have R6 := Lib.hid (hr3.setFar (c := w.heap.size) (i := 6) (v := (.slice x6 r.tags.length y6)) (by omega))
  rw [← hv3] at R6
  have H7n : Hid (RdF (Value.int .i64) a7 r.kids v3) := by
    intro q hq
    obtain ⟨b, off, ha, hc⟩ := (H7.out.below hb3) q hq
    obtain ⟨b', off', ha', hc'⟩ := H7w.out q hq
    rw [ha] at ha'
    injection ha' with ha'
    injection ha' with e1 e2
    subst e1 e2
    refine ⟨b, off, ha, ?_⟩
    rw [hv3]
    rw [World.cell?_setCell_other _ _ _ _ (fun he => by have h1 := congrArg Addr.block he; have h2 := cell_lt hc'; simp at h1 h2; omega)]
    exact hc
  clear H7
  have H7 := H7n
  clear H7n
  obtain ⟨i7, -⟩ := I3 7 _ rfl
  obtain ⟨o6, p6⟩ := I3 6 _ rfl
  clear hr3 hb3 I3 Z3 HI2 HZ2
  go_wp2_with fail
  rw [← hv3]
  clear hv3 i7 o6 p6
  refine (clone_ints a7 r.kids c7 _ (by omega) H7.out).mono ?_
  rintro e w4 ⟨x7, y7, rfl, hr4, hb4⟩
  have hs4 := hb4.size
  have HLi7 := Lib.hid hr4.1.lies
  have R4a := Lib.hid (R4.out.below hb4)
  clear R4
  have R5a := Lib.hid (R5.out.below hb4)
  clear R5
  have R6a := Lib.hid (R6.out.below hb4)
  clear R6
  have I4 := HI3.out.below hb4
  have Z4 := HZ3.out.below hb4
  obtain ⟨v4, hv4⟩ : ∃ v, v = w4.setCell ⟨w.heap.size, 7, none⟩ (.slice x7 r.kids.length y7) := ⟨_, rfl⟩
  have hvs4 : v4.heap.size = w4.heap.size := by subst hv4; simp
  have HI4 := Lib.hid (I4.set 7 (.slice x7 r.kids.length y7) (by simp))
  rw [← hv4] at HI4
  simp only [List.set] at HI4
  have HZ4 := Lib.hid (Z4.far (b' := w.heap.size) (j := 7) (v := (.slice x7 r.kids.length y7)) (by omega))
  rw [← hv4] at HZ4
  have HB4 : Hid (Below w.heap.size w v4) := by subst hv4; exact (HB3.out.trans (hb4.mono (by omega))).setCell (p := ⟨w.heap.size, 7, none⟩) (by simp) _
  have R4 := Lib.hid (R4a.out.setFar (c := w.heap.size) (i := 7) (v := (.slice x7 r.kids.length y7)) (by omega))
  rw [← hv4] at R4
  clear R4a
  have R5 := Lib.hid (R5a.out.setFar (c := w.heap.size) (i := 7) (v := (.slice x7 r.kids.length y7)) (by omega))
  rw [← hv4] at R5
  clear R5a
  have R6 := Lib.hid (R6a.out.setFar (c := w.heap.size) (i := 7) (v := (.slice x7 r.kids.length y7)) (by omega))
  rw [← hv4] at R6
  clear R6a
  have R7 := Lib.hid (hr4.setFar (c := w.heap.size) (i := 7) (v := (.slice x7 r.kids.length y7)) (by omega))
  rw [← hv4] at R7
  obtain ⟨o7, p7⟩ := I4 7 _ rfl
  obtain ⟨o0', -⟩ := I4 0 _ rfl
  obtain ⟨o1', -⟩ := I4 1 _ rfl
  obtain ⟨o2', -⟩ := I4 2 _ rfl
  obtain ⟨o3', -⟩ := I4 3 _ rfl
  obtain ⟨o4', -⟩ := I4 4 _ rfl
  obtain ⟨o5', -⟩ := I4 5 _ rfl
  obtain ⟨o6', -⟩ := I4 6 _ rfl
  obtain ⟨z0, t0⟩ := Z4 0 _ rfl
  obtain ⟨z1, t1⟩ := Z4 1 _ rfl
  obtain ⟨z2, t2⟩ := Z4 2 _ rfl
  obtain ⟨z3, t3⟩ := Z4 3 _ rfl
  obtain ⟨z4, t4⟩ := Z4 4 _ rfl
  obtain ⟨z5, t5⟩ := Z4 5 _ rfl
  obtain ⟨z6, t6⟩ := Z4 6 _ rfl
  obtain ⟨z7, t7⟩ := Z4 7 _ rfl
  clear hr4 hb4 I4 Z4 HI3 HZ3 HI4 HZ4
  have hown : Hid (OwnRule w0.heap.size v4.heap.size r [.string r.name, .int .i64 r.kind, .int .i64 r.size, .bool r.little, .slice x4 r.bytes.length y4, .slice x5 r.names.length y5, .slice x6 r.tags.length y6, .slice x7 r.kids.length y7] v4) := by
    have q4 := HLi4.out
    have q5 := HLi5.out
    have q6 := HLi6.out
    have q7 := HLi7.out
    rw [hvs1] at q5
    rw [hvs2] at q6
    rw [hvs3] at q7
    rw [← hvs4] at q7
    exact ⟨x4, y4, x5, y5, x6, y6, x7, y7, rfl, R4.out, R5.out.more (by omega), R6.out.more (by omega), R7.out.more (by omega), four_blks q4 q5 q6 q7 (by omega) (by omega) (by omega) (by omega)⟩
  rw [hv4] at hown HB4
  clear hv4
  go_wp2
  (try simp only [Exit.inBlock, Exit.then])
  refine bodyPost_ret (v := .agg #[.string r.name, .int .i64 r.kind, .int .i64 r.size, .bool r.little, .slice x4 r.bytes.length y4, .slice x5 r.names.length y5, .slice x6 r.tags.length y6, .slice x7 r.kids.length y7]) ?_ rfl ?_
  · simp [results, Try.results34, go_sem, z0, z1, z2, z3, z4, z5, z6, z7]
  · exact ⟨_, rfl, ((((((((hown.out.setFar (c := w.heap.size + 1) (by omega)).setFar (c := w.heap.size + 1) (by omega)).setFar (c := w.heap.size + 1) (by omega)).setFar (c := w.heap.size + 1) (by omega)).setFar (c := w.heap.size + 1) (by omega)).setFar (c := w.heap.size + 1) (by omega)).setFar (c := w.heap.size + 1) (by omega)).setFar (c := w.heap.size + 1) (by omega)).more (by omega) (by simp), ((((((((HB4.out.setCell (p := ⟨w.heap.size + 1, 0, none⟩) (by simp) _).setCell (p := ⟨w.heap.size + 1, 1, none⟩) (by simp) _).setCell (p := ⟨w.heap.size + 1, 2, none⟩) (by simp) _).setCell (p := ⟨w.heap.size + 1, 3, none⟩) (by simp) _).setCell (p := ⟨w.heap.size + 1, 4, none⟩) (by simp) _).setCell (p := ⟨w.heap.size + 1, 5, none⟩) (by simp) _).setCell (p := ⟨w.heap.size + 1, 6, none⟩) (by simp) _).setCell (p := ⟨w.heap.size + 1, 7, none⟩) (by simp) _)⟩
end Go.Proofs.Ytkegjgfggijinaa
