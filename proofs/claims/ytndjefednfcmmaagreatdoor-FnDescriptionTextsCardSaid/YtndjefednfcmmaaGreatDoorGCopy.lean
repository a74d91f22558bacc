/- append of what a slice holds to an empty literal: the same values in new memory. The contract of the model's l4Rule. The contract of the model's CopyDescription. A slice of rules that a call builds by append, in which nil slices have no room; the contract of the model's CopyDescription, of which the answer may be appended to. -/
import Derived.Test.YtndjefednfcmmaaGreatDoorClone
import Derived.Test.YtndjefednfcmmaaGreatDoorRowR
import Derived.Deep.CutRange
set_option maxRecDepth 100000
namespace Go.Proofs.YtndjefednfcmmaaGreatDoor
open Go Go.RowKit
theorem run_copyF {P : Program} {α : Type} {f : α → Value} (t ty e : TypeId) (z : Value) (bytes : Nat) (ht : P.underlying t = some (.slice e)) (hinfo : (P.info? e).map (fun i => (i.zero, i.size, i.bytes)) = some (some z, 1, bytes)) (hz1 : z.cells.size = 1) (hone : ∀ x, (f x).oneCell' = true)
  (a : Option Addr) (xs : List α) (cap : Nat) (W : World) (h : RdF f a xs W) (hn : a = none → cap = 0) (hm : xs.length ≤ maxLen) (hb : xs.length * bytes ≤ 140737488355328) :
  ∃ a' c' w', (Builtin.append_ #[t, t] ty #[.slice (some ⟨W.heap.size, 0, none⟩) 0 0, .slice a xs.length cap]).run P (W.alloc (.cells #[] e)) = .ok (.slice a' xs.length c') w' ∧ RowF f W.heap.size a' xs c' w' ∧ Below W.heap.size W w' := by
 obtain ⟨i, hi, hh⟩ := Option.map_eq_some_iff.1 hinfo
 simp only [Prod.mk.injEq] at hh
 obtain ⟨hz, hs, hby⟩ := hh
 have hown : (W.alloc (.cells #[] e)).ownsRow W.heap.size e 1 (.slice (some ⟨W.heap.size, 0, none⟩) 0 0) 0 [] := World.ownsRow_made W #[] 0 (Nat.le_refl _) (Nat.zero_le _) rfl
 rcases a with _ | ad
 ·have hx : xs = [] := by
   cases xs with
   | nil => rfl
   | cons x r => obtain ⟨b, off, e, _⟩ := h 0 (by simp); cases e
  subst hx
  obtain rfl := hn rfl
  exact ⟨_, 0, _, run_append_owned_none (P := P) (w := W.alloc (.cells #[] e)) W.heap.size t ty e i 1 ht hi _ 0 [] hown, ⟨.inl rfl, Nat.le_refl _, fun e => by cases e⟩, (Below.refl _ W).alloc (Nat.le_refl _) _⟩
 ·have hB : Below W.heap.size W (W.alloc (.cells #[] e)) := (Below.refl _ W).alloc (Nat.le_refl _) _
  obtain ⟨v', w', hr, ho, hg, _⟩ := run_append_own (P := P) (W.alloc (.cells #[] e)) W.heap.size t ty e i z 1 bytes ht hi hz hs hby hz1 (by omega) _ 0 [] hown ad xs.length cap (xs.map f) (by simp)
   (fun j u hj => by
    have hj2 : j < xs.length := by
     rcases Nat.lt_or_ge j xs.length with h1 | h1
     ·exact h1
     ·rw [List.getElem?_eq_none (by simpa using h1)] at hj; cases hj
    obtain ⟨b, off, e, hc⟩ := (h.below hB) j hj2
    injection e with e
    subst e
    rw [List.getElem?_map, List.getElem?_eq_getElem hj2] at hj
    simp only [Option.map_some, Option.some.injEq] at hj
    subst hj
    rw [Addr.add_lit]
    exact hc)
   (fun u hu => by
    obtain ⟨x, _, rfl⟩ := List.mem_map.1 hu
    exact hone x)
   (by omega) (by simpa using hb) (by simp)
  obtain ⟨a', c', rfl, hrow⟩ := own_row (f := f) (base := W.heap.size) (t := e) (v := v') (xs := xs) (w := w') (by simpa using ho)
  exact ⟨a', c', w', hr, hrow, hB.grown hg (by simp) (by intro k hk; simp [Value.ownBlock] at hk; omega)⟩
theorem wp_copyF {P : Program} {α : Type} {f : α → Value} (t e : TypeId) (z : Value) (bytes : Nat) (ht : P.underlying t = some (.slice e)) (hinfo : (P.info? e).map (fun i => (i.zero, i.size, i.bytes)) = some (some z, 1, bytes)) (hz1 : z.cells.size = 1) (hone : ∀ x, (f x).oneCell' = true)
  {ops : Array Oper} {rest : List Oper} {o : Oper} {A : Act} {Q : Exit → Act → World → Prop} (hgd : o.guard = none) (s x : Operand)
  (ho : o.op = .call { callee := .builtin .append, args := #[s, x], argTypes := #[t, t] })
  (a : Option Addr) (xs : List α) (cap : Nat) (W : World) (hsv : A.eval s = .slice (some ⟨W.heap.size, 0, none⟩) 0 0) (hxv : A.eval x = .slice a xs.length cap)
  (h : RdF f a xs W) (hn : a = none → cap = 0) (hm : xs.length ≤ maxLen) (hb : xs.length * bytes ≤ 140737488355328)
  (hk : ∀ a' c' w', RowF f W.heap.size a' xs c' w' → Below W.heap.size W w' → wpList P ops Q rest (A.put o.dst (.slice a' xs.length c')) w') :
  wpList P ops Q (o :: rest) A (W.alloc (.cells #[] e)) := by
 refine wpList_plain hgd fun K hK => ?_
 obtain ⟨a', c', w', hr, h2, h3⟩ := run_copyF (P := P) t o.type e z bytes ht hinfo hz1 hone a xs cap W h hn hm hb
 unfold Oper.wp
 simp [execOp, ho, resolve, invoke, builtin, hsv, hxv, hr, Result.andThen]
 exact hK _ _ (hk a' c' w' h2 h3)
def NilOk (cs : List Value) : Prop := ∀ n c, Value.slice none n c ∈ cs → c = 0
theorem OwnRule.nil {lo hi : Nat} {r : RuleV} {cs : List Value} {w : World} (h : OwnRule lo hi r cs w) : NilOk cs := fun n c hc => by
 obtain ⟨a4, c4, a5, c5, a6, c6, a7, c7, rfl, h4, h5, h6, h7, _⟩ := h
 simp at hc
 rcases hc with ⟨rfl, rfl, rfl⟩ | ⟨rfl, rfl, rfl⟩ | ⟨rfl, rfl, rfl⟩ | ⟨rfl, rfl, rfl⟩
 ·exact h4.2.2 rfl
 ·exact h5.2.2 rfl
 ·exact h6.2.2 rfl
 ·exact h7.2.2 rfl
set_option maxHeartbeats 4000000 in
theorem l4rule_spec (r : RuleV) (cs : List Value) (w : World) (hs : Short r) (hnil : NilOk cs) (h : IsRule r cs w) :
  Calls Tryz.prog 95 #[.agg cs.toArray] w (RuleOut r w) := by
 obtain ⟨a4, c4, a5, c5, a6, c6, a7, c7, rfl, h4, h5, h6, h7⟩ := h
 obtain ⟨s4, s5, s6, s7⟩ := hs
 have n4 : Hid (a4 = none → c4 = 0) := fun e => hnil r.bytes.length c4 (by subst e; simp)
 have n5 : Hid (a5 = none → c5 = 0) := fun e => hnil r.names.length c5 (by subst e; simp)
 have n6 : Hid (a6 = none → c6 = 0) := fun e => hnil r.tags.length c6 (by subst e; simp)
 have n7 : Hid (a7 = none → c7 = 0) := fun e => hnil r.kids.length c7 (by subst e; simp)
 clear hnil
 obtain ⟨w0, hw0⟩ : ∃ w0, w0 = ((w.alloc (.cells #[.string r.name, .int .i64 r.kind, .int .i64 r.size, .bool r.little, .slice a4 r.bytes.length c4, .slice a5 r.names.length c5, .slice a6 r.tags.length c6, .slice a7 r.kids.length c7] 59)).alloc (.cells #[.string ⟨#[]⟩, .int .i64 0, .int .i64 0, .bool false, .slice none 0 0, .slice none 0 0, .slice none 0 0, .slice none 0 0] 59)).alloc (.cells #[.string r.name, .int .i64 r.kind, .int .i64 r.size, .bool r.little, .slice a4 r.bytes.length c4, .slice a5 r.names.length c5, .slice a6 r.tags.length c6, .slice a7 r.kids.length c7] 59) := ⟨_, rfl⟩
 have hB0 : Below w.heap.size w w0 := by subst hw0; exact (((Below.refl _ _).alloc (Nat.le_refl _) _).alloc (by simp) _).alloc (by simp; omega) _
 have hsz0 : Hid (w0.heap.size = w.heap.size + 3) := by subst hw0; show _ = _; simp
 have I0 : CellsAt w.heap.size [.string r.name, .int .i64 r.kind, .int .i64 r.size, .bool r.little, .slice a4 r.bytes.length c4, .slice a5 r.names.length c5, .slice a6 r.tags.length c6, .slice a7 r.kids.length c7] w0 := by subst hw0; exact ((CellsAt.new w _ _).below ((Below.refl _ _).alloc (Nat.le_refl _) _)).below ((Below.refl _ _).alloc (Nat.le_refl _) _)
 have Z0 : CellsAt (w.heap.size + 1) [.string ⟨#[]⟩, .int .i64 0, .int .i64 0, .bool false, .slice none 0 0, .slice none 0 0, .slice none 0 0, .slice none 0 0] w0 := by
  subst hw0
  have h1 := CellsAt.new (w.alloc (.cells #[.string r.name, .int .i64 r.kind, .int .i64 r.size, .bool r.little, .slice a4 r.bytes.length c4, .slice a5 r.names.length c5, .slice a6 r.tags.length c6, .slice a7 r.kids.length c7] 59)) [.string ⟨#[]⟩, .int .i64 0, .int .i64 0, .bool false, .slice none 0 0, .slice none 0 0, .slice none 0 0, .slice none 0 0] 59
  simp only [World.size_alloc] at h1
  exact h1.below ((Below.refl _ _).alloc (Nat.le_refl _) _)
 have O0 : CellsAt (w.heap.size + 2) [.string r.name, .int .i64 r.kind, .int .i64 r.size, .bool r.little, .slice a4 r.bytes.length c4, .slice a5 r.names.length c5, .slice a6 r.tags.length c6, .slice a7 r.kids.length c7] w0 := by
  subst hw0
  have h1 := CellsAt.new ((w.alloc (.cells #[.string r.name, .int .i64 r.kind, .int .i64 r.size, .bool r.little, .slice a4 r.bytes.length c4, .slice a5 r.names.length c5, .slice a6 r.tags.length c6, .slice a7 r.kids.length c7] 59)).alloc (.cells #[.string ⟨#[]⟩, .int .i64 0, .int .i64 0, .bool false, .slice none 0 0, .slice none 0 0, .slice none 0 0, .slice none 0 0] 59)) [.string r.name, .int .i64 r.kind, .int .i64 r.size, .bool r.little, .slice a4 r.bytes.length c4, .slice a5 r.names.length c5, .slice a6 r.tags.length c6, .slice a7 r.kids.length c7] 59
  simp only [World.size_alloc] at h1
  exact h1
 have H4 := Lib.hid (h4)
 have H5 := Lib.hid (h5)
 have H6 := Lib.hid (h6)
 have H7 := Lib.hid (h7)
 have HB0 := Lib.hid hB0
 have HI0 := Lib.hid I0
 have HZ0 := Lib.hid Z0
 have HO0 := Lib.hid O0
 have hW := Lib.hid hw0
 clear h4 h5 h6 h7 hB0 I0 Z0 O0 hw0
 go_enter Tryz.func95, Tryz.ntmps95
 go_upto_region 2 with fail
 rw [← hW.out]
 clear hW
 have hal : Below w0.heap.size w0 (w0.alloc (.cells #[] 5)) := (Below.refl _ _).alloc (Nat.le_refl _) _
 have i4 := (HI0.out.below hal 4 _ rfl).1
 clear hal
 go_wp2_with (at_builtin; refine wp_copyF (f := fun b : UInt8 => Value.int .u8 (b.toNat : Int)) 22 5 (.int .u8 0) 1 Tryz.underlying22 infoByte8 rfl (fun _ => rfl) rfl (.tmp 5) (.tmp 7) rfl a4 r.bytes c4 w0 (by simp [Act.eval]) (by simp [Act.eval]) (show RdF _ _ _ _ from H4.out.below HB0.out) n4.out (by unfold maxLen; omega) (by omega) ?_)
 intro x4 y4 w1 hr1 hb1
 clear i4
 have hs1 := hb1.size
 replace hr1 : Row w0.heap.size x4 r.bytes y4 w1 := hr1
 have HLi4 := Lib.hid hr1.1.lies
 have I1 := HI0.out.below hb1
 have Z1 := HZ0.out.below hb1
 have O1 := HO0.out.below hb1
 obtain ⟨v1, hv1⟩ : ∃ v, v = w1.setCell ⟨w.heap.size + 2, 4, none⟩ (.slice x4 r.bytes.length y4) := ⟨_, rfl⟩
 have hvs1 : Hid (v1.heap.size = w1.heap.size) := by subst hv1; show _ = _; simp
 have HI1 := Lib.hid (I1.far (b' := w.heap.size + 2) (j := 4) (v := (.slice x4 r.bytes.length y4)) (by omega))
 rw [← hv1] at HI1
 have HZ1 := Lib.hid (Z1.far (b' := w.heap.size + 2) (j := 4) (v := (.slice x4 r.bytes.length y4)) (by omega))
 rw [← hv1] at HZ1
 have HO1 := Lib.hid (O1.set 4 (.slice x4 r.bytes.length y4) (by simp))
 rw [← hv1] at HO1
 simp only [List.set] at HO1
 have HB1 : Hid (Below w.heap.size w v1) := by subst hv1; exact (HB0.out.trans (hb1.mono (by have := hsz0.out; omega))).setCell (p := ⟨w.heap.size + 2, 4, none⟩) (by simp) _
 have R4 := Lib.hid (hr1.setFar (c := w.heap.size + 2) (i := 4) (v := (.slice x4 r.bytes.length y4)) (by have := hsz0.out; omega))
 rw [← hv1] at R4
 obtain ⟨o4, p4⟩ := O1 4 _ rfl
 clear hr1 hb1 I1 Z1 O1 HI0 HZ0 HO0
 go_upto_region 3 with fail
 rw [← hv1]
 clear hv1 o4 p4
 have hal : Below v1.heap.size v1 (v1.alloc (.cells #[] 9)) := (Below.refl _ _).alloc (Nat.le_refl _) _
 have i5 := (HI1.out.below hal 5 _ rfl).1
 clear hal
 go_wp2_with (at_builtin; refine wp_copyF 51 9 (.string ⟨#[]⟩) 16 Tryz.underlying51 infoStr rfl (fun _ => rfl) rfl (.tmp 10) (.tmp 12) rfl a5 r.names c5 v1 (by simp [Act.eval]) (by simp [Act.eval]) (H5.out.below HB1.out) n5.out (by unfold maxLen; omega) (by omega) ?_)
 intro x5 y5 w2 hr2 hb2
 clear i5
 have hs2 := hb2.size
 have HLi5 := Lib.hid hr2.1.lies
 have R4a := Lib.hid (R4.out.below hb2)
 clear R4
 have I2 := HI1.out.below hb2
 have Z2 := HZ1.out.below hb2
 have O2 := HO1.out.below hb2
 obtain ⟨v2, hv2⟩ : ∃ v, v = w2.setCell ⟨w.heap.size + 2, 5, none⟩ (.slice x5 r.names.length y5) := ⟨_, rfl⟩
 have hvs2 : Hid (v2.heap.size = w2.heap.size) := by subst hv2; show _ = _; simp
 have HI2 := Lib.hid (I2.far (b' := w.heap.size + 2) (j := 5) (v := (.slice x5 r.names.length y5)) (by omega))
 rw [← hv2] at HI2
 have HZ2 := Lib.hid (Z2.far (b' := w.heap.size + 2) (j := 5) (v := (.slice x5 r.names.length y5)) (by omega))
 rw [← hv2] at HZ2
 have HO2 := Lib.hid (O2.set 5 (.slice x5 r.names.length y5) (by simp))
 rw [← hv2] at HO2
 simp only [List.set] at HO2
 have HB2 : Hid (Below w.heap.size w v2) := by subst hv2; exact (HB1.out.trans (hb2.mono (by have := hsz0.out; have := hvs1.out; omega))).setCell (p := ⟨w.heap.size + 2, 5, none⟩) (by simp) _
 have R4 := Lib.hid (R4a.out.setFar (c := w.heap.size + 2) (i := 5) (v := (.slice x5 r.names.length y5)) (by have := hsz0.out; have := hvs1.out; omega))
 rw [← hv2] at R4
 clear R4a
 have R5 := Lib.hid (hr2.setFar (c := w.heap.size + 2) (i := 5) (v := (.slice x5 r.names.length y5)) (by have := hsz0.out; have := hvs1.out; omega))
 rw [← hv2] at R5
 obtain ⟨o5, p5⟩ := O2 5 _ rfl
 clear hr2 hb2 I2 Z2 O2 HI1 HZ1 HO1
 go_upto_region 4 with fail
 rw [← hv2]
 clear hv2 o5 p5
 have hal : Below v2.heap.size v2 (v2.alloc (.cells #[] 3)) := (Below.refl _ _).alloc (Nat.le_refl _) _
 have i6 := (HI2.out.below hal 6 _ rfl).1
 clear hal
 go_wp2_with (at_builtin; refine wp_copyF 57 3 (.int .i64 0) 8 Tryz.underlying57 infoInt rfl (fun _ => rfl) rfl (.tmp 15) (.tmp 17) rfl a6 r.tags c6 v2 (by simp [Act.eval]) (by simp [Act.eval]) (H6.out.below HB2.out) n6.out (by unfold maxLen; omega) (by omega) ?_)
 intro x6 y6 w3 hr3 hb3
 clear i6
 have hs3 := hb3.size
 have HLi6 := Lib.hid hr3.1.lies
 have R4a := Lib.hid (R4.out.below hb3)
 clear R4
 have R5a := Lib.hid (R5.out.below hb3)
 clear R5
 have I3 := HI2.out.below hb3
 have Z3 := HZ2.out.below hb3
 have O3 := HO2.out.below hb3
 obtain ⟨v3, hv3⟩ : ∃ v, v = w3.setCell ⟨w.heap.size + 2, 6, none⟩ (.slice x6 r.tags.length y6) := ⟨_, rfl⟩
 have hvs3 : Hid (v3.heap.size = w3.heap.size) := by subst hv3; show _ = _; simp
 have HI3 := Lib.hid (I3.far (b' := w.heap.size + 2) (j := 6) (v := (.slice x6 r.tags.length y6)) (by omega))
 rw [← hv3] at HI3
 have HZ3 := Lib.hid (Z3.far (b' := w.heap.size + 2) (j := 6) (v := (.slice x6 r.tags.length y6)) (by omega))
 rw [← hv3] at HZ3
 have HO3 := Lib.hid (O3.set 6 (.slice x6 r.tags.length y6) (by simp))
 rw [← hv3] at HO3
 simp only [List.set] at HO3
 have HB3 : Hid (Below w.heap.size w v3) := by subst hv3; exact (HB2.out.trans (hb3.mono (by have := hsz0.out; have := hvs1.out; have := hvs2.out; omega))).setCell (p := ⟨w.heap.size + 2, 6, none⟩) (by simp) _
 have R4 := Lib.hid (R4a.out.setFar (c := w.heap.size + 2) (i := 6) (v := (.slice x6 r.tags.length y6)) (by have := hsz0.out; have := hvs1.out; have := hvs2.out; omega))
 rw [← hv3] at R4
 clear R4a
 have R5 := Lib.hid (R5a.out.setFar (c := w.heap.size + 2) (i := 6) (v := (.slice x6 r.tags.length y6)) (by have := hsz0.out; have := hvs1.out; have := hvs2.out; omega))
 rw [← hv3] at R5
 clear R5a
 have R6 := Lib.hid (hr3.setFar (c := w.heap.size + 2) (i := 6) (v := (.slice x6 r.tags.length y6)) (by have := hsz0.out; have := hvs1.out; have := hvs2.out; omega))
 rw [← hv3] at R6
 obtain ⟨o6, p6⟩ := O3 6 _ rfl
 clear hr3 hb3 I3 Z3 O3 HI2 HZ2 HO2
 go_upto_region 5 with fail
 rw [← hv3]
 clear hv3 o6 p6
 have hal : Below v3.heap.size v3 (v3.alloc (.cells #[] 3)) := (Below.refl _ _).alloc (Nat.le_refl _) _
 have i7 := (HI3.out.below hal 7 _ rfl).1
 clear hal
 go_wp2_with (at_builtin; refine wp_copyF 57 3 (.int .i64 0) 8 Tryz.underlying57 infoInt rfl (fun _ => rfl) rfl (.tmp 20) (.tmp 22) rfl a7 r.kids c7 v3 (by simp [Act.eval]) (by simp [Act.eval]) (H7.out.below HB3.out) n7.out (by unfold maxLen; omega) (by omega) ?_)
 intro x7 y7 w4 hr4 hb4
 clear i7
 have hs4 := hb4.size
 have HLi7 := Lib.hid hr4.1.lies
 have R4a := Lib.hid (R4.out.below hb4)
 clear R4
 have R5a := Lib.hid (R5.out.below hb4)
 clear R5
 have R6a := Lib.hid (R6.out.below hb4)
 clear R6
 have I4 := HI3.out.below hb4
 have Z4 := HZ3.out.below hb4
 have O4 := HO3.out.below hb4
 obtain ⟨v4, hv4⟩ : ∃ v, v = w4.setCell ⟨w.heap.size + 2, 7, none⟩ (.slice x7 r.kids.length y7) := ⟨_, rfl⟩
 have hvs4 : Hid (v4.heap.size = w4.heap.size) := by subst hv4; show _ = _; simp
 have HI4 := Lib.hid (I4.far (b' := w.heap.size + 2) (j := 7) (v := (.slice x7 r.kids.length y7)) (by omega))
 rw [← hv4] at HI4
 have HZ4 := Lib.hid (Z4.far (b' := w.heap.size + 2) (j := 7) (v := (.slice x7 r.kids.length y7)) (by omega))
 rw [← hv4] at HZ4
 have HO4 := Lib.hid (O4.set 7 (.slice x7 r.kids.length y7) (by simp))
 rw [← hv4] at HO4
 simp only [List.set] at HO4
 have HB4 : Hid (Below w.heap.size w v4) := by subst hv4; exact (HB3.out.trans (hb4.mono (by have := hsz0.out; have := hvs1.out; have := hvs2.out; have := hvs3.out; omega))).setCell (p := ⟨w.heap.size + 2, 7, none⟩) (by simp) _
 have R4 := Lib.hid (R4a.out.setFar (c := w.heap.size + 2) (i := 7) (v := (.slice x7 r.kids.length y7)) (by have := hsz0.out; have := hvs1.out; have := hvs2.out; have := hvs3.out; omega))
 rw [← hv4] at R4
 clear R4a
 have R5 := Lib.hid (R5a.out.setFar (c := w.heap.size + 2) (i := 7) (v := (.slice x7 r.kids.length y7)) (by have := hsz0.out; have := hvs1.out; have := hvs2.out; have := hvs3.out; omega))
 rw [← hv4] at R5
 clear R5a
 have R6 := Lib.hid (R6a.out.setFar (c := w.heap.size + 2) (i := 7) (v := (.slice x7 r.kids.length y7)) (by have := hsz0.out; have := hvs1.out; have := hvs2.out; have := hvs3.out; omega))
 rw [← hv4] at R6
 clear R6a
 have R7 := Lib.hid (hr4.setFar (c := w.heap.size + 2) (i := 7) (v := (.slice x7 r.kids.length y7)) (by have := hsz0.out; have := hvs1.out; have := hvs2.out; have := hvs3.out; omega))
 rw [← hv4] at R7
 obtain ⟨o7, p7⟩ := O4 7 _ rfl
 obtain ⟨o0', -⟩ := O4 0 _ rfl
 obtain ⟨o1', -⟩ := O4 1 _ rfl
 obtain ⟨o2', -⟩ := O4 2 _ rfl
 obtain ⟨o3', -⟩ := O4 3 _ rfl
 obtain ⟨o4', -⟩ := O4 4 _ rfl
 obtain ⟨o5', -⟩ := O4 5 _ rfl
 obtain ⟨o6', -⟩ := O4 6 _ rfl
 obtain ⟨z0, t0⟩ := Z4 0 _ rfl
 obtain ⟨z1, t1⟩ := Z4 1 _ rfl
 obtain ⟨z2, t2⟩ := Z4 2 _ rfl
 obtain ⟨z3, t3⟩ := Z4 3 _ rfl
 obtain ⟨z4, t4⟩ := Z4 4 _ rfl
 obtain ⟨z5, t5⟩ := Z4 5 _ rfl
 obtain ⟨z6, t6⟩ := Z4 6 _ rfl
 obtain ⟨z7, t7⟩ := Z4 7 _ rfl
 clear hr4 hb4 I4 Z4 O4 HI3 HZ3 HO3 HI4 HZ4 HO4
 have hown : Hid (OwnRule w0.heap.size v4.heap.size r [.string r.name, .int .i64 r.kind, .int .i64 r.size, .bool r.little, .slice x4 r.bytes.length y4, .slice x5 r.names.length y5, .slice x6 r.tags.length y6, .slice x7 r.kids.length y7] v4) := by
  have q4 := HLi4.out
  have q5 := HLi5.out
  have q6 := HLi6.out
  have q7 := HLi7.out
  have g1 := hvs1.out
  have g2 := hvs2.out
  have g3 := hvs3.out
  have g4 := hvs4.out
  rw [g1] at q5
  rw [g2] at q6
  rw [g3] at q7
  rw [← g4] at q7
  exact ⟨x4, y4, x5, y5, x6, y6, x7, y7, rfl, R4.out, R5.out.more (by omega), R6.out.more (by omega), R7.out.more (by omega), four_blks q4 q5 q6 q7 (by omega) (by omega) (by omega) (by omega)⟩
 rw [hv4] at hown HB4
 clear hv4
 go_wp2
 (try simp only [Exit.inBlock, Exit.then])
 refine bodyPost_ret (v := .agg #[.string r.name, .int .i64 r.kind, .int .i64 r.size, .bool r.little, .slice x4 r.bytes.length y4, .slice x5 r.names.length y5, .slice x6 r.tags.length y6, .slice x7 r.kids.length y7]) ?_ rfl ?_
 ·simp [results, Tryz.results95, go_sem, z0, z1, z2, z3, z4, z5, z6, z7]
 ·exact ⟨_, rfl, ((((((((hown.out.setFar (c := w.heap.size + 1) (by have := hsz0.out; have := hvs1.out; have := hvs2.out; have := hvs3.out; have := hvs4.out; omega)).setFar (c := w.heap.size + 1) (by have := hsz0.out; have := hvs1.out; have := hvs2.out; have := hvs3.out; have := hvs4.out; omega)).setFar (c := w.heap.size + 1) (by have := hsz0.out; have := hvs1.out; have := hvs2.out; have := hvs3.out; have := hvs4.out; omega)).setFar (c := w.heap.size + 1) (by have := hsz0.out; have := hvs1.out; have := hvs2.out; have := hvs3.out; have := hvs4.out; omega)).setFar (c := w.heap.size + 1) (by have := hsz0.out; have := hvs1.out; have := hvs2.out; have := hvs3.out; have := hvs4.out; omega)).setFar (c := w.heap.size + 1) (by have := hsz0.out; have := hvs1.out; have := hvs2.out; have := hvs3.out; have := hvs4.out; omega)).setFar (c := w.heap.size + 1) (by have := hsz0.out; have := hvs1.out; have := hvs2.out; have := hvs3.out; have := hvs4.out; omega)).setFar (c := w.heap.size + 1) (by have := hsz0.out; have := hvs1.out; have := hvs2.out; have := hvs3.out; have := hvs4.out; omega)).more (by have := hsz0.out; have := hvs1.out; have := hvs2.out; have := hvs3.out; have := hvs4.out; omega) (by simp), ((((((((HB4.out.setCell (p := ⟨w.heap.size + 1, 0, none⟩) (by simp) _).setCell (p := ⟨w.heap.size + 1, 1, none⟩) (by simp) _).setCell (p := ⟨w.heap.size + 1, 2, none⟩) (by simp) _).setCell (p := ⟨w.heap.size + 1, 3, none⟩) (by simp) _).setCell (p := ⟨w.heap.size + 1, 4, none⟩) (by simp) _).setCell (p := ⟨w.heap.size + 1, 5, none⟩) (by simp) _).setCell (p := ⟨w.heap.size + 1, 6, none⟩) (by simp) _).setCell (p := ⟨w.heap.size + 1, 7, none⟩) (by simp) _)⟩
def RdN (a : Option Addr) (rs : List RuleV) (w : World) : Prop :=
 ∀ j (h : j < rs.length), ∃ b off cs, a = some ⟨b, off, none⟩ ∧ IsRule rs[j] cs w ∧ NilOk cs ∧ ∀ i v, cs[i]? = some v → w.cell? ⟨b, off + j * 8 + i, none⟩ = some v
theorem RdN.below {a : Option Addr} {rs : List RuleV} {w w' : World} (h : RdN a rs w) (hb : Below w.heap.size w w') : RdN a rs w' := fun j hj => by
 obtain ⟨b, off, cs, ha, hr, hp, hc⟩ := h j hj
 exact ⟨b, off, cs, ha, hr.below hb, hp, fun i v hi => (hb.cell (cell_lt (hc i v hi))).trans (hc i v hi)⟩
theorem OwnR.rdn {lo hi : Nat} {a : Option Addr} {rs : List RuleV} {cap : Nat} {w : World} (h : OwnR lo hi a rs cap w) : RdN a rs w := fun j hj => by
 obtain ⟨css, hl, ho, hr, _⟩ := h
 rcases hr with rfl | ⟨b, off, ha, _, _, hc, _⟩
 ·simp at hj
 ·exact ⟨b, off, css[j]'(by omega), ha, (ho j hj (by omega)).is, (ho j hj (by omega)).nil, fun i v hv => (hc j (by omega) i v hv).1⟩
theorem take_ruleNext (rs : List RuleV) (k : Nat) (h : k < rs.length) : rs.take k ++ [rs[k]] = rs.take (k + 1) := (List.take_succ_eq_append_getElem h).symm
def CapN (cs : List Value) : Prop := Cap5 cs ∧ NilOk cs
def RdQ (a : Option Addr) (rs : List RuleV) (w : World) : Prop :=
 ∀ j (h : j < rs.length), ∃ b off cs, a = some ⟨b, off, none⟩ ∧ IsRule rs[j] cs w ∧ CapN cs ∧ ∀ i v, cs[i]? = some v → w.cell? ⟨b, off + j * 8 + i, none⟩ = some v
theorem RdQ.rdc {a : Option Addr} {rs : List RuleV} {w : World} (h : RdQ a rs w) : RdC a rs w := fun j hj => by
 obtain ⟨b, off, cs, h1, h2, h3, h4⟩ := h j hj
 exact ⟨b, off, cs, h1, h2, h3.1, h4⟩
theorem RdQ.rdn {a : Option Addr} {rs : List RuleV} {w : World} (h : RdQ a rs w) : RdN a rs w := fun j hj => by
 obtain ⟨b, off, cs, h1, h2, h3, h4⟩ := h j hj
 exact ⟨b, off, cs, h1, h2, h3.2, h4⟩
theorem RdQ.below {a : Option Addr} {rs : List RuleV} {w w' : World} (h : RdQ a rs w) (hb : Below w.heap.size w w') : RdQ a rs w' := fun j hj => by
 obtain ⟨b, off, cs, ha, hr, hp, hc⟩ := h j hj
 exact ⟨b, off, cs, ha, hr.below hb, hp, fun i v hi => (hb.cell (cell_lt (hc i v hi))).trans (hc i v hi)⟩
theorem RdQ.nil (a : Option Addr) (w : World) : RdQ a [] w := fun j hj => by simp at hj
def RowQ (base : Nat) (v : Value) (rs : List RuleV) (w : World) : Prop :=
 ∃ css : List (List Value), css.length = rs.length ∧ w.ownsRow base 59 8 v rs.length css.flatten ∧
  (∀ j (h : j < rs.length) (h' : j < css.length), IsRule rs[j] css[j] w ∧ CapN css[j] ∧ ∀ b ∈ css[j].flatMap sliceBlk, base ≤ b ∧ some b ≠ v.ownBlock)
theorem RowQ.start (base : Nat) (w : World) : RowQ base (.slice none 0 0) [] w := ⟨[], rfl, ⟨rfl, .inl ⟨rfl, rfl⟩⟩, fun j h => by simp at h⟩
theorem RowQ.rdq {base : Nat} {v : Value} {rs : List RuleV} {w : World} (h : RowQ base v rs w) : ∃ a cap, v = .slice a rs.length cap ∧ RdQ a rs w ∧ rs.length ≤ cap ∧ (a = none → cap = 0) := by
 obtain ⟨css, hl, ho, hr⟩ := h
 have h8 : ∀ cs ∈ css, cs.length = 8 := fun cs hc => by
  obtain ⟨j, hj, rfl⟩ := List.getElem_of_mem hc
  exact (hr j (by omega) hj).1.length
 have h0 := ho
 rcases ho.2 with ⟨rfl, hn⟩ | ⟨g, cap, cur, rfl, hb, hg, hnc, hcm, hcs, ht⟩
 ·have : rs = [] := List.eq_nil_of_length_eq_zero hn
  subst this
  exact ⟨none, 0, rfl, fun j hj => by simp at hj, Nat.le_refl _, fun _ => rfl⟩
 ·refine ⟨_, cap, rfl, fun j hj => ?_, hnc, fun e => by cases e⟩
  have hj' : j < css.length := by omega
  refine ⟨g, 0, css[j], rfl, (hr j hj hj').1, (hr j hj hj').2.1, fun i u hu => ?_⟩
  have hi : i < 8 := by
   have := h8 _ (List.getElem_mem hj')
   rcases Nat.lt_or_ge i 8 with h | h
   ·exact h
   ·rw [List.getElem?_eq_none (by omega)] at hu; cases hu
  rw [Nat.zero_add, h0.cellAt (j * 8 + i) (by
   have : (j + 1) * 8 ≤ rs.length * 8 := Nat.mul_le_mul_right 8 (by omega)
   omega), flat_at h8 j i hj' hi]
  exact hu
theorem RowQ.below {base : Nat} {v : Value} {rs : List RuleV} {w w' : World} (h : RowQ base v rs w) (hb : Below w.heap.size w w') : RowQ base v rs w' := by
 obtain ⟨css, hl, ho, hr⟩ := h
 have hg : w.grownBy w' none := ⟨hb.os, hb.tape, hb.output, hb.size, fun b hlt _ => hb.block b hlt⟩
 refine ⟨css, hl, World.ownsRow.kept (w := w) ho hg ?_, fun j h1 h2 => ⟨(hr j h1 h2).1.below hb, (hr j h1 h2).2⟩⟩
 cases v.ownBlock with
 | none => exact .inl rfl
 | some g => exact .inr (by simp)
theorem RowQ.grown {base : Nat} {v : Value} {rs : List RuleV} {w w' : World} {c : Nat} (h : RowQ base v rs w) (hg : w.grownBy w' (some c)) (hc : c < base) : RowQ base v rs w' := by
 obtain ⟨css, hl, ho, hr⟩ := h
 refine ⟨css, hl, World.ownsRow.kept (w := w) ho hg ?_, fun j h1 h2 => ⟨(hr j h1 h2).1.grown hg fun b hbb e => by injection e with e; have := ((hr j h1 h2).2.2 b hbb).1; omega, (hr j h1 h2).2⟩⟩
 cases hv : v.ownBlock with
 | none => exact .inl rfl
 | some g =>
  have := (World.ownsRow.lt (w := w) ho g hv).1
  exact .inr (by intro e; injection e with e; omega)
theorem RowQ.own {base : Nat} {v : Value} {rs : List RuleV} {w : World} (h : RowQ base v rs w) : ∀ g, v.ownBlock = some g → base ≤ g ∧ g < w.heap.size := fun g hg => by
 obtain ⟨css, hl, ho, hr⟩ := h
 exact World.ownsRow.lt (w := w) ho g hg
theorem run_pushQ (ty : TypeId) (base : Nat) (v : Value) (rs : List RuleV) (r : RuleV) (cs : List Value) (w : World) (hrow : RowQ base v rs w) (hr : IsRule r cs w) (hcap : CapN cs) (hne : ∀ b ∈ cs.flatMap sliceBlk, base ≤ b ∧ some b ≠ v.ownBlock) (hl : rs.length ≤ 1048576) (hbase : base ≤ w.heap.size) :
  ∃ v' w', (Builtin.append_ #[24, 24] ty #[v, .slice (some ⟨w.heap.size, 0, none⟩) 1 1]).run Tryz.prog (w.alloc (.cells cs.toArray 59)) = .ok v' w' ∧ RowQ base v' (rs ++ [r]) w' ∧ w.grownBy w' v.ownBlock ∧
   (v'.ownBlock = v.ownBlock ∨ ∃ g, v'.ownBlock = some g ∧ w.heap.size ≤ g) := by
 obtain ⟨css, hcl, ho, hrs⟩ := hrow
 obtain ⟨i, hi, h⟩ := Option.map_eq_some_iff.1 infoRule
 simp only [Prod.mk.injEq] at h
 obtain ⟨hz, hsz, hby⟩ := h
 have h8 := hr.length
 obtain ⟨v', w', hrun, ho', hg, hw⟩ := run_append_where (P := Tryz.prog) (w.alloc (.cells cs.toArray 59)) base 24 ty 59 i _ 8 136 Tryz.underlying24 hi hz hsz hby rfl (by omega) v rs.length css.flatten (World.ownsRow.alloc ho _) ⟨w.heap.size, 0, none⟩ 1 1 cs (by omega)
  (fun j u hj => by
   rw [Addr.add_lit, Nat.zero_add]
   refine (World.cell?_alloc_mark w cs.toArray _ (0, 0) j).trans ?_
   simpa using hj)
  hr.one (by omega) (by unfold maxLen; omega) (by omega) (by simp; omega)
 have hgw : w.grownBy w' v.ownBlock := Lib.grownBy_trans (World.grownBy_alloc w _ _) hg
 have hown' : v'.ownBlock = v.ownBlock ∨ ∃ g, v'.ownBlock = some g ∧ w.heap.size ≤ g := by
  rcases hw with h | h
  ·exact .inl h
  ·exact .inr ⟨_, h, by simp⟩
 refine ⟨v', w', hrun, ⟨css ++ [cs], by simp [hcl], by simpa using ho', fun j h1 h2 => ?_⟩, hgw, hown'⟩
 have hblk : ∀ b, b < w.heap.size → some b ≠ v.ownBlock → some b ≠ v'.ownBlock := fun b hb hn => by
  rcases hown' with h | ⟨g, h, hg⟩
  ·rw [h]; exact hn
  ·rw [h]; intro e; injection e with e; omega
 by_cases hj : j < rs.length
 ·have hj2 : j < css.length := by omega
  obtain ⟨q1, q2, q3⟩ := hrs j hj hj2
  rw [List.getElem_append_left hj, List.getElem_append_left hj2]
  exact ⟨q1.grown hgw fun b hb => (q3 b hb).2, q2, fun b hb => ⟨(q3 b hb).1, hblk b (q1.lt b hb) (q3 b hb).2⟩⟩
 ·have e1 : j = rs.length := by simp at h1; omega
  have a1 : (rs ++ [r])[j] = r := by subst e1; simp
  have a2 : (css ++ [cs])[j] = cs := by
   have e2 : j = css.length := by omega
   subst e2; simp
  rw [a1, a2]
  exact ⟨hr.grown hgw fun b hb => (hne b hb).2, hcap, fun b hb => ⟨(hne b hb).1, hblk b (hr.lt b hb) (hne b hb).2⟩⟩
theorem step_pushQ {ops : Array Oper} {o : Oper} {A : Act} {K : Act → World → Prop} {Q : Exit → Act → World → Prop} {E : Prop} (hgd : o.guard = none) (s x : Operand)
  (ho : o.op = .call { callee := .builtin .append, args := #[s, x], argTypes := #[24, 24] })
  (base : Nat) (v : Value) (rs : List RuleV) (r : RuleV) (cs : List Value) (w : World) (hsv : A.eval s = v) (hxv : A.eval x = .slice (some ⟨w.heap.size, 0, none⟩) 1 1)
  (hrow : RowQ base v rs w) (hr : IsRule r cs w) (hcap : CapN cs) (hne : ∀ b ∈ cs.flatMap sliceBlk, base ≤ b ∧ some b ≠ v.ownBlock) (hl : rs.length ≤ 1048576) (hbase : base ≤ w.heap.size)
  (h : ∀ v' w', RowQ base v' (rs ++ [r]) w' → w.grownBy w' v.ownBlock → K (A.put o.dst v') w') :
  if Region.wanted o (yielded ops A.tmps) = true then Oper.wp Tryz.prog o A (w.alloc (.cells cs.toArray 59)) K Q else E := by
 have hw : Region.wanted o (yielded ops A.tmps) = true := by simp [Region.wanted, hgd]
 rw [if_pos hw]
 obtain ⟨v', w', hrun, h2, h3, _⟩ := run_pushQ o.type base v rs r cs w hrow hr hcap hne hl hbase
 unfold Oper.wp
 simp [execOp, ho, resolve, invoke, builtin, hsv, hxv, hrun, Result.andThen]
 exact h v' w' h2 h3
theorem wp_pushQ {ops : Array Oper} {rest : List Oper} {o : Oper} {A : Act} {Q : Exit → Act → World → Prop} (hgd : o.guard = none) (s x : Operand)
  (ho : o.op = .call { callee := .builtin .append, args := #[s, x], argTypes := #[24, 24] })
  (base : Nat) (v : Value) (rs : List RuleV) (r : RuleV) (cs : List Value) (w : World) (hsv : A.eval s = v) (hxv : A.eval x = .slice (some ⟨w.heap.size, 0, none⟩) 1 1)
  (hrow : RowQ base v rs w) (hr : IsRule r cs w) (hcap : CapN cs) (hne : ∀ b ∈ cs.flatMap sliceBlk, base ≤ b ∧ some b ≠ v.ownBlock) (hl : rs.length ≤ 1048576) (hbase : base ≤ w.heap.size)
  (h : ∀ v' w', RowQ base v' (rs ++ [r]) w' → w.grownBy w' v.ownBlock → wpList Tryz.prog ops Q rest (A.put o.dst v') w') :
  wpList Tryz.prog ops Q (o :: rest) A (w.alloc (.cells cs.toArray 59)) := by
 refine wpList_plain hgd fun K hK => ?_
 obtain ⟨v', w', hrun, h2, h3, _⟩ := run_pushQ o.type base v rs r cs w hrow hr hcap hne hl hbase
 unfold Oper.wp
 simp [execOp, ho, resolve, invoke, builtin, hsv, hxv, hrun, Result.andThen]
 exact hK _ _ (h v' w' h2 h3)
theorem RowQ.more {base base' : Nat} {v : Value} {rs : List RuleV} {w : World} (h : RowQ base v rs w) (hb : base' ≤ base) : RowQ base' v rs w := by
 obtain ⟨css, hl, ho, hr⟩ := h
 refine ⟨css, hl, ⟨ho.1, ?_⟩, fun j h1 h2 => ⟨(hr j h1 h2).1, (hr j h1 h2).2.1, fun b hbb => ⟨Nat.le_trans hb ((hr j h1 h2).2.2 b hbb).1, ((hr j h1 h2).2.2 b hbb).2⟩⟩⟩
 rcases ho.2 with h | ⟨g, cap, cur, e, hg, rest⟩
 ·exact .inl h
 ·exact .inr ⟨g, cap, cur, e, Nat.le_trans hb hg, rest⟩
def ReadOutQ (rs : List RuleV) (w : World) (e : Ending) (w' : World) : Prop := ∃ a cap, e = .returned (.agg #[.slice a rs.length cap]) ∧ RowQ w.heap.size (.slice a rs.length cap) rs w' ∧ Below w.heap.size w w'
set_option maxHeartbeats 4000000 in
theorem copy_q (a : Option Addr) (rs : List RuleV) (cap : Nat) (w : World) (hl : rs.length ≤ 1048576) (hs : ∀ r ∈ rs, Short r) (h : RdN a rs w) :
    Calls Tryz.prog 57 #[.agg #[.slice a rs.length cap]] w (ReadOutQ rs w) := by
  have HS := Lib.hid hs
  have H := Lib.hid h
  obtain ⟨w0, hw0⟩ : ∃ w0, w0 = ((w.alloc (.cells #[.slice a rs.length cap] 26)).alloc (.cells #[.slice none 0 0] 26)).alloc (.cells #[.slice none 0 0] 26) := ⟨_, rfl⟩
  have hz0 : Hid (w0.heap.size = w.heap.size + 3) := by subst hw0; show _ = _; simp
  have hB0 : Below w.heap.size w w0 := by
    subst hw0
    exact (((Below.refl _ w).alloc (Nat.le_refl _) _).alloc (by simp) _).alloc (by simp; omega) _
  have hX0 : CellsAt w.heap.size [.slice a rs.length cap] w0 := by subst hw0; exact ((CellsAt.new w _ _).below ((Below.refl _ _).alloc (Nat.le_refl _) _)).below ((Below.refl _ _).alloc (Nat.le_refl _) _)
  have Z0 : CellsAt (w.heap.size + 1) [.slice none 0 0] w0 := by
    subst hw0
    have h1 := CellsAt.new (w.alloc (.cells #[.slice a rs.length cap] 26)) [.slice none 0 0] 26
    simp only [World.size_alloc] at h1
    exact h1.below ((Below.refl _ _).alloc (Nat.le_refl _) _)
  have O0 : CellsAt (w.heap.size + 2) [.slice none 0 0] w0 := by
    subst hw0
    have h1 := CellsAt.new ((w.alloc (.cells #[.slice a rs.length cap] 26)).alloc (.cells #[.slice none 0 0] 26)) [.slice none 0 0] 26
    simp only [World.size_alloc] at h1
    exact h1
  have HB0 := Lib.hid hB0
  have HX0 := Lib.hid hX0
  have HZ0 := Lib.hid Z0
  have HO0 := Lib.hid O0
  have hW := Lib.hid hw0
  clear hB0 Z0 O0 hX0 h hs hw0
  go_enter Tryz.func57, Tryz.ntmps57
  go_wp2
  rw [← hW.out]
  go_loopw [4] (fun i W => ∃ (k : Nat) (v : Value), k ≤ rs.length ∧ i = .int .i64 k ∧ Hid (CellsAt w.heap.size [.slice a rs.length cap] W) ∧ Hid (CellsAt (w.heap.size + 1) [.slice none 0 0] W) ∧ Hid (CellsAt (w.heap.size + 2) [v] W) ∧ Hid (RowQ w0.heap.size v (rs.take k) W) ∧ Hid (Below w.heap.size w W) ∧ Hid (w0.heap.size ≤ W.heap.size)) (fun i _ => rs.length - (intOf i).toNat)
  case atStart => exact ⟨0, .slice none 0 0, Nat.zero_le _, rfl, HX0, HZ0, HO0, RowQ.start _ _, HB0, Nat.le_refl _⟩
  case round =>
    obtain ⟨k, v, hk, rfl, HX, HZ, HO, HR, HB, HSZ⟩ := hrel
    have k0 : (0 : Int) ≤ (k : Int) := by omega
    have bx := (HX.out 0 _ rfl).1
    have bo := (HO.out 0 _ rfl).1
    by_cases hlt : k < rs.length
    · have k1 : (k : Int) < (rs.length : Int) := by omega
      have hsh := Lib.hid (HS.out _ (List.getElem_mem hlt))
      have htk := Lib.hid (take_ruleNext rs k hlt)
      obtain ⟨b, off, cs0, ha, ⟨a4, c4, a5, c5, a6, c6, a7, c7, rfl, h4, h5, h6, h7⟩, hnil, hc⟩ := (H.out.below HB.out) k hlt
      subst ha
      have d0 := hc 0 _ rfl
      have d1 := hc 1 _ rfl
      have d2 := hc 2 _ rfl
      have d3 := hc 3 _ rfl
      have d4 := hc 4 _ rfl
      have d5 := hc 5 _ rfl
      have d6 := hc 6 _ rfl
      have d7 := hc 7 _ rfl
      rw [Nat.add_zero] at d0
      have HQ : Hid (IsRule rs[k] [.string rs[k].name, .int .i64 rs[k].kind, .int .i64 rs[k].size, .bool rs[k].little, .slice a4 rs[k].bytes.length c4, .slice a5 rs[k].names.length c5, .slice a6 rs[k].tags.length c6, .slice a7 rs[k].kids.length c7] wr.drew) := ⟨a4, c4, a5, c5, a6, c6, a7, c7, rfl, h4, h5, h6, h7⟩
      have HN := Lib.hid hnil
      clear h4 h5 h6 h7 hc hnil
      have hlk : (rs.take k).length ≤ 1048576 := by simp; omega
      generalize rs[k] = r at d0 d1 d2 d3 d4 d5 d6 d7 HQ HN hsh htk
      go_wp2
      replace HX : Hid (CellsAt w.heap.size [.slice (some ⟨b, off, none⟩) rs.length cap] wr.drew) := HX.out
      replace HZ : Hid (CellsAt (w.heap.size + 1) [.slice none 0 0] wr.drew) := HZ.out
      replace HO : Hid (CellsAt (w.heap.size + 2) [v] wr.drew) := HO.out
      replace HR : Hid (RowQ w0.heap.size v (rs.take k) wr.drew) := HR.out.below (below_drewN (Below.refl _ _) 1)
      replace HB : Hid (Below w.heap.size w wr.drew) := below_drewN HB.out 1
      replace HSZ : Hid (w0.heap.size ≤ wr.drew.heap.size) := HSZ.out
      go_region_law (first
        | (refine step_pushQ rfl (.tmp 14) (.tmp 21) rfl w0.heap.size v (rs.take k) r _ w1 (by simp [Act.eval]) (by simp [Act.eval]) HR.out HI.out HCP.out HNE.out hlk HSZ.out ?_; intro v' w2 hrow hg; have HR2 := Lib.hid hrow; have hw2 := Lib.hid hg.size; have HX2 := Lib.hid (HX.out.grown hg (by intro e; have := HR.out.own _ e.symm; have := hz0.out; omega)); have HZ2 := Lib.hid (HZ.out.grown hg (by intro e; have := HR.out.own _ e.symm; have := hz0.out; omega)); have HO2 := Lib.hid (HO.out.grown hg (by intro e; have := HR.out.own _ e.symm; have := hz0.out; omega)); obtain ⟨bo2, bf2⟩ := HO2.out 0 _ rfl; have HB2 := Lib.hid (HB.out.grown hg HB.out.size (fun g e => by have := HR.out.own _ e; have := hz0.out; omega)); obtain ⟨x', c', rfl, -⟩ := hrow.rdq; clear hrow hg)
        | (go_simp; go_at_call 95; refine (l4rule_spec r _ _ hsh.out HN.out HQ.out).mono ?_; rintro e w1 ⟨cs, rfl, hown, hb1⟩; have HI := Lib.hid hown.is; have HCP : Hid (CapN cs) := ⟨hown.cap, hown.nil⟩; have HNE : Hid (∀ b ∈ cs.flatMap sliceBlk, w0.heap.size ≤ b ∧ some b ≠ v.ownBlock) := (fun b hb => by have q := hown; obtain ⟨_, _, _, _, _, _, _, _, _, _, _, _, _, _, hrange⟩ := q; have h1 := (hrange b hb).1; have h2 := HSZ.out; exact ⟨by omega, fun e => by have := HR.out.own b e.symm; omega⟩); have bo := (HO.out.below hb1 0 _ rfl).1; replace HX := Lib.hid (HX.out.below hb1); replace HZ := Lib.hid (HZ.out.below hb1); replace HO := Lib.hid (HO.out.below hb1); replace HR := Lib.hid (HR.out.below hb1); replace HB := Lib.hid (HB.out.trans (hb1.mono HB.out.size)); replace HSZ : Hid (w0.heap.size ≤ w1.heap.size) := Nat.le_trans HSZ.out hb1.size; clear hb1; obtain ⟨x4, y4, x5, y5, x6, y6, x7, y7, rfl, -⟩ := hown; have bo3 := (HO.out.below ((Below.refl w1.heap.size w1).alloc (Nat.le_refl _) (.cells #[.string r.name, .int .i64 r.kind, .int .i64 r.size, .bool r.little, .slice x4 r.bytes.length y4, .slice x5 r.names.length y5, .slice x6 r.tags.length y6, .slice x7 r.kids.length y7] 59)) 0 _ rfl).1))
      all_goals
        (have hlen2 : (rs.take (k + 1)).length = k + 1 := by simp; omega
         rw [htk.out, hlen2] at HR2
         go_wp2
         go_roundw
         case rel => exact ⟨k + 1, _, by omega, by go_num, HX2.out.far (by omega), HZ2.out.far (by omega), HO2.out.set 0 _ (by simp), HR2.out.grown (grown_set (grown_refl _ _) 0 _) (by have := hz0.out; omega), HB2.out.setCell (p := ⟨w.heap.size + 2, 0, none⟩) (by simp) _, by show _ ≤ _; have := hw2.out; have := HSZ.out; simp; omega⟩
         case measure => simp [intOf]; omega)
    · have k1 : ¬ (k : Int) < (rs.length : Int) := by omega
      obtain rfl : k = rs.length := by omega
      obtain ⟨z0, t0⟩ := HZ.out 0 _ rfl
      have hrow := HR.out
      rw [List.take_length] at hrow
      obtain ⟨x, c, rfl, -⟩ := hrow.rdq
      have HRD : Hid (RowQ w.heap.size (.slice x rs.length c) rs (wr.setCell ⟨w.heap.size + 1, 0, none⟩ (.slice x rs.length c))) := (hrow.grown (grown_set (grown_refl wr (w.heap.size + 1)) 0 (.slice x rs.length c)) (by have := hz0.out; omega)).more (by have := hz0.out; omega)
      clear hrow HR
      go_wp2
      (try simp only [Exit.inBlock, Exit.then])
      refine bodyPost_ret (v := .agg #[.slice x rs.length c]) ?_ rfl ?_
      · simp [results, Tryz.results57, go_sem, z0]
      · exact ⟨x, c, rfl, HRD.out, HB.out.setCell (p := ⟨w.heap.size + 1, 0, none⟩) (by simp) _⟩
end Go.Proofs.YtndjefednfcmmaaGreatDoor
