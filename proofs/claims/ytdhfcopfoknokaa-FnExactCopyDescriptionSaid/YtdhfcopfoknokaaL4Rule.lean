/- The contract of the model's l4Rule. -/
import Derived.Test.YtdhfcopfoknokaaCopyF
import Derived.Deep.CutRange
namespace Go.Proofs.Ytdhfcopfoknokaa
open Go Go.RowKit
/-- Nil slices of a rule have no room. -/
def NilOk (cs : List Value) : Prop := ∀ n c, Value.slice none n c ∈ cs → c = 0
theorem OwnRule.nil {lo hi : Nat} {r : RuleV} {cs : List Value} {w : World} (h : OwnRule lo hi r cs w) : NilOk cs := fun n c hc => by
  obtain ⟨a4, c4, a5, c5, a6, c6, a7, c7, rfl, h4, h5, h6, h7, _⟩ := h
  simp at hc
  rcases hc with ⟨rfl, rfl, rfl⟩ | ⟨rfl, rfl, rfl⟩ | ⟨rfl, rfl, rfl⟩ | ⟨rfl, rfl, rfl⟩
  · exact h4.2.2 rfl
  · exact h5.2.2 rfl
  · exact h6.2.2 rfl
  · exact h7.2.2 rfl
set_option maxRecDepth 100000 in
set_option maxHeartbeats 4000000 in
theorem l4rule_spec (r : RuleV) (cs : List Value) (w : World) (hs : Short r) (hnil : NilOk cs) (h : IsRule r cs w) :
    Calls Try.prog 58 #[.agg cs.toArray] w (RuleOut r w) := by
  obtain ⟨a4, c4, a5, c5, a6, c6, a7, c7, rfl, h4, h5, h6, h7⟩ := h
  obtain ⟨s4, s5, s6, s7⟩ := hs
  have n4 : Hid (a4 = none → c4 = 0) := fun e => hnil r.bytes.length c4 (by subst e; simp)
  have n5 : Hid (a5 = none → c5 = 0) := fun e => hnil r.names.length c5 (by subst e; simp)
  have n6 : Hid (a6 = none → c6 = 0) := fun e => hnil r.tags.length c6 (by subst e; simp)
  have n7 : Hid (a7 = none → c7 = 0) := fun e => hnil r.kids.length c7 (by subst e; simp)
  clear hnil
  obtain ⟨w0, hw0⟩ : ∃ w0, w0 = ((w.alloc (.cells #[.string r.name, .int .i64 r.kind, .int .i64 r.size, .bool r.little, .slice a4 r.bytes.length c4, .slice a5 r.names.length c5, .slice a6 r.tags.length c6, .slice a7 r.kids.length c7] 38)).alloc (.cells #[.string ⟨#[]⟩, .int .i64 0, .int .i64 0, .bool false, .slice none 0 0, .slice none 0 0, .slice none 0 0, .slice none 0 0] 38)).alloc (.cells #[.string r.name, .int .i64 r.kind, .int .i64 r.size, .bool r.little, .slice a4 r.bytes.length c4, .slice a5 r.names.length c5, .slice a6 r.tags.length c6, .slice a7 r.kids.length c7] 38) := ⟨_, rfl⟩
  have hB0 : Below w.heap.size w w0 := by subst hw0; exact (((Below.refl _ _).alloc (Nat.le_refl _) _).alloc (by simp) _).alloc (by simp; omega) _
  have hsz0 : Hid (w0.heap.size = w.heap.size + 3) := by subst hw0; show _ = _; simp
  have I0 : CellsAt w.heap.size [.string r.name, .int .i64 r.kind, .int .i64 r.size, .bool r.little, .slice a4 r.bytes.length c4, .slice a5 r.names.length c5, .slice a6 r.tags.length c6, .slice a7 r.kids.length c7] w0 := by subst hw0; exact ((CellsAt.new w _ _).below ((Below.refl _ _).alloc (Nat.le_refl _) _)).below ((Below.refl _ _).alloc (Nat.le_refl _) _)
  have Z0 : CellsAt (w.heap.size + 1) [.string ⟨#[]⟩, .int .i64 0, .int .i64 0, .bool false, .slice none 0 0, .slice none 0 0, .slice none 0 0, .slice none 0 0] w0 := by
    subst hw0
    have h1 := CellsAt.new (w.alloc (.cells #[.string r.name, .int .i64 r.kind, .int .i64 r.size, .bool r.little, .slice a4 r.bytes.length c4, .slice a5 r.names.length c5, .slice a6 r.tags.length c6, .slice a7 r.kids.length c7] 38)) [.string ⟨#[]⟩, .int .i64 0, .int .i64 0, .bool false, .slice none 0 0, .slice none 0 0, .slice none 0 0, .slice none 0 0] 38
    simp only [World.size_alloc] at h1
    exact h1.below ((Below.refl _ _).alloc (Nat.le_refl _) _)
  have O0 : CellsAt (w.heap.size + 2) [.string r.name, .int .i64 r.kind, .int .i64 r.size, .bool r.little, .slice a4 r.bytes.length c4, .slice a5 r.names.length c5, .slice a6 r.tags.length c6, .slice a7 r.kids.length c7] w0 := by
    subst hw0
    have h1 := CellsAt.new ((w.alloc (.cells #[.string r.name, .int .i64 r.kind, .int .i64 r.size, .bool r.little, .slice a4 r.bytes.length c4, .slice a5 r.names.length c5, .slice a6 r.tags.length c6, .slice a7 r.kids.length c7] 38)).alloc (.cells #[.string ⟨#[]⟩, .int .i64 0, .int .i64 0, .bool false, .slice none 0 0, .slice none 0 0, .slice none 0 0, .slice none 0 0] 38)) [.string r.name, .int .i64 r.kind, .int .i64 r.size, .bool r.little, .slice a4 r.bytes.length c4, .slice a5 r.names.length c5, .slice a6 r.tags.length c6, .slice a7 r.kids.length c7] 38
    simp only [World.size_alloc] at h1
    exact h1
  have H4 := Lib.hid (h4)
  have H5 := Lib.hid (h5)
  have H6 := Lib.hid (h6)
  have H7 := Lib.hid (h7)
  have HB0 := Lib.hid hB0
  have HI0 := Lib.hid I0
  have HZ0 := Lib.hid Z0
  have HO0 := Lib.hid O0
  have hW := Lib.hid hw0
  clear h4 h5 h6 h7 hB0 I0 Z0 O0 hw0
  go_enter Try.func58, Try.ntmps58
  go_upto_region 2 with fail
  rw [← hW.out]
  clear hW
  have hal : Below w0.heap.size w0 (w0.alloc (.cells #[] 5)) := (Below.refl _ _).alloc (Nat.le_refl _) _
  have i4 := (HI0.out.below hal 4 _ rfl).1
  clear hal
  go_wp2_with (at_builtin; refine wp_copyF (f := fun b : UInt8 => Value.int .u8 (b.toNat : Int)) 22 5 (.int .u8 0) 1 Try.underlying22 infoByte8 rfl (fun _ => rfl) rfl (.tmp 5) (.tmp 7) rfl a4 r.bytes c4 w0 (by simp [Act.eval]) (by simp [Act.eval]) (show RdF _ _ _ _ from H4.out.below HB0.out) n4.out (by unfold maxLen; omega) (by omega) ?_)
  intro x4 y4 w1 hr1 hb1
  clear i4
  have hs1 := hb1.size
  replace hr1 : Row w0.heap.size x4 r.bytes y4 w1 := hr1
  have HLi4 := Lib.hid hr1.1.lies
  have I1 := HI0.out.below hb1
  have Z1 := HZ0.out.below hb1
  have O1 := HO0.out.below hb1
  obtain ⟨v1, hv1⟩ : ∃ v, v = w1.setCell ⟨w.heap.size + 2, 4, none⟩ (.slice x4 r.bytes.length y4) := ⟨_, rfl⟩
  have hvs1 : Hid (v1.heap.size = w1.heap.size) := by subst hv1; show _ = _; simp
  have HI1 := Lib.hid (I1.far (b' := w.heap.size + 2) (j := 4) (v := (.slice x4 r.bytes.length y4)) (by omega))
  rw [← hv1] at HI1
  have HZ1 := Lib.hid (Z1.far (b' := w.heap.size + 2) (j := 4) (v := (.slice x4 r.bytes.length y4)) (by omega))
  rw [← hv1] at HZ1
  have HO1 := Lib.hid (O1.set 4 (.slice x4 r.bytes.length y4) (by simp))
  rw [← hv1] at HO1
  simp only [List.set] at HO1
  have HB1 : Hid (Below w.heap.size w v1) := by subst hv1; exact (HB0.out.trans (hb1.mono (by have := hsz0.out; omega))).setCell (p := ⟨w.heap.size + 2, 4, none⟩) (by simp) _
  have R4 := Lib.hid (hr1.setFar (c := w.heap.size + 2) (i := 4) (v := (.slice x4 r.bytes.length y4)) (by have := hsz0.out; omega))
  rw [← hv1] at R4
  obtain ⟨o4, p4⟩ := O1 4 _ rfl
  clear hr1 hb1 I1 Z1 O1 HI0 HZ0 HO0
  go_upto_region 3 with fail
  rw [← hv1]
  clear hv1 o4 p4
  have hal : Below v1.heap.size v1 (v1.alloc (.cells #[] 9)) := (Below.refl _ _).alloc (Nat.le_refl _) _
  have i5 := (HI1.out.below hal 5 _ rfl).1
  clear hal
  go_wp2_with (at_builtin; refine wp_copyF 35 9 (.string ⟨#[]⟩) 16 Try.underlying35 infoStr rfl (fun _ => rfl) rfl (.tmp 10) (.tmp 12) rfl a5 r.names c5 v1 (by simp [Act.eval]) (by simp [Act.eval]) (H5.out.below HB1.out) n5.out (by unfold maxLen; omega) (by omega) ?_)
  intro x5 y5 w2 hr2 hb2
  clear i5
  have hs2 := hb2.size
  have HLi5 := Lib.hid hr2.1.lies
  have R4a := Lib.hid (R4.out.below hb2)
  clear R4
  have I2 := HI1.out.below hb2
  have Z2 := HZ1.out.below hb2
  have O2 := HO1.out.below hb2
  obtain ⟨v2, hv2⟩ : ∃ v, v = w2.setCell ⟨w.heap.size + 2, 5, none⟩ (.slice x5 r.names.length y5) := ⟨_, rfl⟩
  have hvs2 : Hid (v2.heap.size = w2.heap.size) := by subst hv2; show _ = _; simp
  have HI2 := Lib.hid (I2.far (b' := w.heap.size + 2) (j := 5) (v := (.slice x5 r.names.length y5)) (by omega))
  rw [← hv2] at HI2
  have HZ2 := Lib.hid (Z2.far (b' := w.heap.size + 2) (j := 5) (v := (.slice x5 r.names.length y5)) (by omega))
  rw [← hv2] at HZ2
  have HO2 := Lib.hid (O2.set 5 (.slice x5 r.names.length y5) (by simp))
  rw [← hv2] at HO2
  simp only [List.set] at HO2
  have HB2 : Hid (Below w.heap.size w v2) := by subst hv2; exact (HB1.out.trans (hb2.mono (by have := hsz0.out; have := hvs1.out; omega))).setCell (p := ⟨w.heap.size + 2, 5, none⟩) (by simp) _
  have R4 := Lib.hid (R4a.out.setFar (c := w.heap.size + 2) (i := 5) (v := (.slice x5 r.names.length y5)) (by have := hsz0.out; have := hvs1.out; omega))
  rw [← hv2] at R4
  clear R4a
  have R5 := Lib.hid (hr2.setFar (c := w.heap.size + 2) (i := 5) (v := (.slice x5 r.names.length y5)) (by have := hsz0.out; have := hvs1.out; omega))
  rw [← hv2] at R5
  obtain ⟨o5, p5⟩ := O2 5 _ rfl
  clear hr2 hb2 I2 Z2 O2 HI1 HZ1 HO1
  go_upto_region 4 with fail
  rw [← hv2]
  clear hv2 o5 p5
  have hal : Below v2.heap.size v2 (v2.alloc (.cells #[] 3)) := (Below.refl _ _).alloc (Nat.le_refl _) _
  have i6 := (HI2.out.below hal 6 _ rfl).1
  clear hal
  go_wp2_with (at_builtin; refine wp_copyF 36 3 (.int .i64 0) 8 Try.underlying36 infoInt rfl (fun _ => rfl) rfl (.tmp 15) (.tmp 17) rfl a6 r.tags c6 v2 (by simp [Act.eval]) (by simp [Act.eval]) (H6.out.below HB2.out) n6.out (by unfold maxLen; omega) (by omega) ?_)
  intro x6 y6 w3 hr3 hb3
  clear i6
  have hs3 := hb3.size
  have HLi6 := Lib.hid hr3.1.lies
  have R4a := Lib.hid (R4.out.below hb3)
  clear R4
  have R5a := Lib.hid (R5.out.below hb3)
  clear R5
  have I3 := HI2.out.below hb3
  have Z3 := HZ2.out.below hb3
  have O3 := HO2.out.below hb3
  obtain ⟨v3, hv3⟩ : ∃ v, v = w3.setCell ⟨w.heap.size + 2, 6, none⟩ (.slice x6 r.tags.length y6) := ⟨_, rfl⟩
  have hvs3 : Hid (v3.heap.size = w3.heap.size) := by subst hv3; show _ = _; simp
  have HI3 := Lib.hid (I3.far (b' := w.heap.size + 2) (j := 6) (v := (.slice x6 r.tags.length y6)) (by omega))
  rw [← hv3] at HI3
  have HZ3 := Lib.hid (Z3.far (b' := w.heap.size + 2) (j := 6) (v := (.slice x6 r.tags.length y6)) (by omega))
  rw [← hv3] at HZ3
  have HO3 := Lib.hid (O3.set 6 (.slice x6 r.tags.length y6) (by simp))
  rw [← hv3] at HO3
  simp only [List.set] at HO3
  have HB3 : Hid (Below w.heap.size w v3) := by subst hv3; exact (HB2.out.trans (hb3.mono (by have := hsz0.out; have := hvs1.out; have := hvs2.out; omega))).setCell (p := ⟨w.heap.size + 2, 6, none⟩) (by simp) _
  have R4 := Lib.hid (R4a.out.setFar (c := w.heap.size + 2) (i := 6) (v := (.slice x6 r.tags.length y6)) (by have := hsz0.out; have := hvs1.out; have := hvs2.out; omega))
  rw [← hv3] at R4
  clear R4a
  have R5 := Lib.hid (R5a.out.setFar (c := w.heap.size + 2) (i := 6) (v := (.slice x6 r.tags.length y6)) (by have := hsz0.out; have := hvs1.out; have := hvs2.out; omega))
  rw [← hv3] at R5
  clear R5a
  have R6 := Lib.hid (hr3.setFar (c := w.heap.size + 2) (i := 6) (v := (.slice x6 r.tags.length y6)) (by have := hsz0.out; have := hvs1.out; have := hvs2.out; omega))
  rw [← hv3] at R6
  obtain ⟨o6, p6⟩ := O3 6 _ rfl
  clear hr3 hb3 I3 Z3 O3 HI2 HZ2 HO2
  go_upto_region 5 with fail
  rw [← hv3]
  clear hv3 o6 p6
  have hal : Below v3.heap.size v3 (v3.alloc (.cells #[] 3)) := (Below.refl _ _).alloc (Nat.le_refl _) _
  have i7 := (HI3.out.below hal 7 _ rfl).1
  clear hal
  go_wp2_with (at_builtin; refine wp_copyF 36 3 (.int .i64 0) 8 Try.underlying36 infoInt rfl (fun _ => rfl) rfl (.tmp 20) (.tmp 22) rfl a7 r.kids c7 v3 (by simp [Act.eval]) (by simp [Act.eval]) (H7.out.below HB3.out) n7.out (by unfold maxLen; omega) (by omega) ?_)
  intro x7 y7 w4 hr4 hb4
  clear i7
  have hs4 := hb4.size
  have HLi7 := Lib.hid hr4.1.lies
  have R4a := Lib.hid (R4.out.below hb4)
  clear R4
  have R5a := Lib.hid (R5.out.below hb4)
  clear R5
  have R6a := Lib.hid (R6.out.below hb4)
  clear R6
  have I4 := HI3.out.below hb4
  have Z4 := HZ3.out.below hb4
  have O4 := HO3.out.below hb4
  obtain ⟨v4, hv4⟩ : ∃ v, v = w4.setCell ⟨w.heap.size + 2, 7, none⟩ (.slice x7 r.kids.length y7) := ⟨_, rfl⟩
  have hvs4 : Hid (v4.heap.size = w4.heap.size) := by subst hv4; show _ = _; simp
  have HI4 := Lib.hid (I4.far (b' := w.heap.size + 2) (j := 7) (v := (.slice x7 r.kids.length y7)) (by omega))
  rw [← hv4] at HI4
  have HZ4 := Lib.hid (Z4.far (b' := w.heap.size + 2) (j := 7) (v := (.slice x7 r.kids.length y7)) (by omega))
  rw [← hv4] at HZ4
  have HO4 := Lib.hid (O4.set 7 (.slice x7 r.kids.length y7) (by simp))
  rw [← hv4] at HO4
  simp only [List.set] at HO4
  have HB4 : Hid (Below w.heap.size w v4) := by subst hv4; exact (HB3.out.trans (hb4.mono (by have := hsz0.out; have := hvs1.out; have := hvs2.out; have := hvs3.out; omega))).setCell (p := ⟨w.heap.size + 2, 7, none⟩) (by simp) _
  have R4 := Lib.hid (R4a.out.setFar (c := w.heap.size + 2) (i := 7) (v := (.slice x7 r.kids.length y7)) (by have := hsz0.out; have := hvs1.out; have := hvs2.out; have := hvs3.out; omega))
  rw [← hv4] at R4
  clear R4a
  have R5 := Lib.hid (R5a.out.setFar (c := w.heap.size + 2) (i := 7) (v := (.slice x7 r.kids.length y7)) (by have := hsz0.out; have := hvs1.out; have := hvs2.out; have := hvs3.out; omega))
  rw [← hv4] at R5
  clear R5a
  have R6 := Lib.hid (R6a.out.setFar (c := w.heap.size + 2) (i := 7) (v := (.slice x7 r.kids.length y7)) (by have := hsz0.out; have := hvs1.out; have := hvs2.out; have := hvs3.out; omega))
  rw [← hv4] at R6
  clear R6a
  have R7 := Lib.hid (hr4.setFar (c := w.heap.size + 2) (i := 7) (v := (.slice x7 r.kids.length y7)) (by have := hsz0.out; have := hvs1.out; have := hvs2.out; have := hvs3.out; omega))
  rw [← hv4] at R7
  obtain ⟨o7, p7⟩ := O4 7 _ rfl
  obtain ⟨o0', -⟩ := O4 0 _ rfl
  obtain ⟨o1', -⟩ := O4 1 _ rfl
  obtain ⟨o2', -⟩ := O4 2 _ rfl
  obtain ⟨o3', -⟩ := O4 3 _ rfl
  obtain ⟨o4', -⟩ := O4 4 _ rfl
  obtain ⟨o5', -⟩ := O4 5 _ rfl
  obtain ⟨o6', -⟩ := O4 6 _ rfl
  obtain ⟨z0, t0⟩ := Z4 0 _ rfl
  obtain ⟨z1, t1⟩ := Z4 1 _ rfl
  obtain ⟨z2, t2⟩ := Z4 2 _ rfl
  obtain ⟨z3, t3⟩ := Z4 3 _ rfl
  obtain ⟨z4, t4⟩ := Z4 4 _ rfl
  obtain ⟨z5, t5⟩ := Z4 5 _ rfl
  obtain ⟨z6, t6⟩ := Z4 6 _ rfl
  obtain ⟨z7, t7⟩ := Z4 7 _ rfl
  clear hr4 hb4 I4 Z4 O4 HI3 HZ3 HO3 HI4 HZ4 HO4
  have hown : Hid (OwnRule w0.heap.size v4.heap.size r [.string r.name, .int .i64 r.kind, .int .i64 r.size, .bool r.little, .slice x4 r.bytes.length y4, .slice x5 r.names.length y5, .slice x6 r.tags.length y6, .slice x7 r.kids.length y7] v4) := by
    have q4 := HLi4.out
    have q5 := HLi5.out
    have q6 := HLi6.out
    have q7 := HLi7.out
    have g1 := hvs1.out
    have g2 := hvs2.out
    have g3 := hvs3.out
    have g4 := hvs4.out
    rw [g1] at q5
    rw [g2] at q6
    rw [g3] at q7
    rw [← g4] at q7
    exact ⟨x4, y4, x5, y5, x6, y6, x7, y7, rfl, R4.out, R5.out.more (by omega), R6.out.more (by omega), R7.out.more (by omega), four_blks q4 q5 q6 q7 (by omega) (by omega) (by omega) (by omega)⟩
  rw [hv4] at hown HB4
  clear hv4
  go_wp2
  (try simp only [Exit.inBlock, Exit.then])
  refine bodyPost_ret (v := .agg #[.string r.name, .int .i64 r.kind, .int .i64 r.size, .bool r.little, .slice x4 r.bytes.length y4, .slice x5 r.names.length y5, .slice x6 r.tags.length y6, .slice x7 r.kids.length y7]) ?_ rfl ?_
  · simp [results, Try.results58, go_sem, z0, z1, z2, z3, z4, z5, z6, z7]
  · exact ⟨_, rfl, ((((((((hown.out.setFar (c := w.heap.size + 1) (by have := hsz0.out; have := hvs1.out; have := hvs2.out; have := hvs3.out; have := hvs4.out; omega)).setFar (c := w.heap.size + 1) (by have := hsz0.out; have := hvs1.out; have := hvs2.out; have := hvs3.out; have := hvs4.out; omega)).setFar (c := w.heap.size + 1) (by have := hsz0.out; have := hvs1.out; have := hvs2.out; have := hvs3.out; have := hvs4.out; omega)).setFar (c := w.heap.size + 1) (by have := hsz0.out; have := hvs1.out; have := hvs2.out; have := hvs3.out; have := hvs4.out; omega)).setFar (c := w.heap.size + 1) (by have := hsz0.out; have := hvs1.out; have := hvs2.out; have := hvs3.out; have := hvs4.out; omega)).setFar (c := w.heap.size + 1) (by have := hsz0.out; have := hvs1.out; have := hvs2.out; have := hvs3.out; have := hvs4.out; omega)).setFar (c := w.heap.size + 1) (by have := hsz0.out; have := hvs1.out; have := hvs2.out; have := hvs3.out; have := hvs4.out; omega)).setFar (c := w.heap.size + 1) (by have := hsz0.out; have := hvs1.out; have := hvs2.out; have := hvs3.out; have := hvs4.out; omega)).more (by have := hsz0.out; have := hvs1.out; have := hvs2.out; have := hvs3.out; have := hvs4.out; omega) (by simp), ((((((((HB4.out.setCell (p := ⟨w.heap.size + 1, 0, none⟩) (by simp) _).setCell (p := ⟨w.heap.size + 1, 1, none⟩) (by simp) _).setCell (p := ⟨w.heap.size + 1, 2, none⟩) (by simp) _).setCell (p := ⟨w.heap.size + 1, 3, none⟩) (by simp) _).setCell (p := ⟨w.heap.size + 1, 4, none⟩) (by simp) _).setCell (p := ⟨w.heap.size + 1, 5, none⟩) (by simp) _).setCell (p := ⟨w.heap.size + 1, 6, none⟩) (by simp) _).setCell (p := ⟨w.heap.size + 1, 7, none⟩) (by simp) _)⟩
end Go.Proofs.Ytdhfcopfoknokaa
