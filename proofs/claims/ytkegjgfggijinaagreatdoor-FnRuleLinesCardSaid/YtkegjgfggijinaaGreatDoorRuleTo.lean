/- Contracts of the laws' copies of rules and descriptions. -/
import Derived.Test.YtkegjgfggijinaaGreatDoorRules
import Derived.Test.YtkegjgfggijinaaGreatDoorStrs
import Derived.Test.YtkegjgfggijinaaGreatDoorBytes
namespace Go.Proofs.YtkegjgfggijinaaGreatDoor
open Go Go.RowKit
/-- The block of a slice that is not empty. -/
def sliceBlk : Value → List Nat
  | .slice (some a) n _ => if n = 0 then [] else [a.block]
  | _ => []
/-- Eight cells hold this rule, its slices in new blocks, each its own. -/
def OwnRule (lo hi : Nat) (r : RuleV) (cs : List Value) (w : World) : Prop :=
  ∃ a4 c4 a5 c5 a6 c6 a7 c7, cs = [.string r.name, .int .i64 r.kind, .int .i64 r.size, .bool r.little, .slice a4 r.bytes.length c4, .slice a5 r.names.length c5, .slice a6 r.tags.length c6, .slice a7 r.kids.length c7] ∧
    Row lo a4 r.bytes c4 w ∧ RowF Value.string lo a5 r.names c5 w ∧ RowF (Value.int .i64) lo a6 r.tags c6 w ∧ RowF (Value.int .i64) lo a7 r.kids c7 w ∧ (cs.flatMap sliceBlk).Nodup ∧ ∀ b ∈ cs.flatMap sliceBlk, lo ≤ b ∧ b < hi
theorem OwnRule.is {lo hi : Nat} {r : RuleV} {cs : List Value} {w : World} (h : OwnRule lo hi r cs w) : IsRule r cs w := by
  obtain ⟨a4, c4, a5, c5, a6, c6, a7, c7, e, h4, h5, h6, h7, _⟩ := h
  exact ⟨a4, c4, a5, c5, a6, c6, a7, c7, e, h4.rd, h5.rd, h6.rd, h7.rd⟩
theorem OwnRule.below {lo hi : Nat} {r : RuleV} {cs : List Value} {w w' : World} (h : OwnRule lo hi r cs w) (hb : Below w.heap.size w w') : OwnRule lo hi r cs w' := by
  obtain ⟨a4, c4, a5, c5, a6, c6, a7, c7, e, h4, h5, h6, h7, h8⟩ := h
  exact ⟨a4, c4, a5, c5, a6, c6, a7, c7, e, h4.below hb, h5.below hb, h6.below hb, h7.below hb, h8⟩
/-- The row lies in blocks from lo on and below hi, if it holds anything. -/
def Lies (lo hi : Nat) (a : Option Addr) (n : Nat) : Prop := n = 0 ∨ ∃ b off, a = some ⟨b, off, none⟩ ∧ lo ≤ b ∧ b < hi
theorem Lies.blk {lo hi : Nat} {a : Option Addr} {n c : Nat} (h : Lies lo hi a n) : ∀ b ∈ sliceBlk (.slice a n c), lo ≤ b ∧ b < hi := fun b hb => by
  rcases h with rfl | ⟨b', off, rfl, h1, h2⟩
  · cases a <;> simp [sliceBlk] at hb
  · by_cases hn : n = 0
    · subst hn; simp [sliceBlk] at hb
    · simp only [sliceBlk, if_neg hn, List.mem_singleton] at hb
      subst hb
      exact ⟨h1, h2⟩
theorem sliceBlk_nodup (a : Option Addr) (n c : Nat) : (sliceBlk (.slice a n c)).Nodup := by
  unfold sliceBlk
  split
  · split <;> simp
  · simp
theorem FreshF.lies {α : Type} {f : α → Value} {lo : Nat} {a : Option Addr} {xs : List α} {w : World} (h : FreshF f lo a xs w) : Lies lo w.heap.size a xs.length := by
  cases xs with
  | nil => exact .inl rfl
  | cons x r =>
    rcases h with h | ⟨b, off, ha, hB, hc⟩
    · cases h
    · exact .inr ⟨b, off, ha, hB, cell_lt (hc 0 (by simp)).1⟩
theorem Fresh.lies {lo : Nat} {a : Option Addr} {xs : List UInt8} {w : World} (h : Fresh lo a xs w) : Lies lo w.heap.size a xs.length := by
  cases xs with
  | nil => exact .inl rfl
  | cons x r =>
    rcases h with h | ⟨b, off, ha, hB, hc⟩
    · cases h
    · exact .inr ⟨b, off, ha, hB, cell_lt (hc 0 (by simp)).1⟩
theorem four_blks {r : RuleV} {p0 p1 p2 p3 p4 : Nat} {a4 a5 a6 a7 : Option Addr} {n4 n5 n6 n7 c4 c5 c6 c7 : Nat} (h4 : Lies p0 p1 a4 n4) (h5 : Lies p1 p2 a5 n5) (h6 : Lies p2 p3 a6 n6) (h7 : Lies p3 p4 a7 n7) (q0 : p0 ≤ p1) (q1 : p1 ≤ p2) (q2 : p2 ≤ p3) (q3 : p3 ≤ p4) :
    let cs : List Value := [.string r.name, .int .i64 r.kind, .int .i64 r.size, .bool r.little, .slice a4 n4 c4, .slice a5 n5 c5, .slice a6 n6 c6, .slice a7 n7 c7]
    (cs.flatMap sliceBlk).Nodup ∧ ∀ b ∈ cs.flatMap sliceBlk, p0 ≤ b ∧ b < p4 := by
  have b4 := h4.blk (c := c4)
  have b5 := h5.blk (c := c5)
  have b6 := h6.blk (c := c6)
  have b7 := h7.blk (c := c7)
  have e : ([.string r.name, .int .i64 r.kind, .int .i64 r.size, .bool r.little, .slice a4 n4 c4, .slice a5 n5 c5, .slice a6 n6 c6, .slice a7 n7 c7] : List Value).flatMap sliceBlk = sliceBlk (.slice a4 n4 c4) ++ (sliceBlk (.slice a5 n5 c5) ++ (sliceBlk (.slice a6 n6 c6) ++ sliceBlk (.slice a7 n7 c7))) := by
    simp only [List.flatMap_cons, List.flatMap_nil, List.append_nil]
    rfl
  intro cs
  show (List.flatMap sliceBlk _).Nodup ∧ _
  rw [e]
  refine ⟨?_, ?_⟩
  · refine List.nodup_append.2 ⟨sliceBlk_nodup _ _ _, List.nodup_append.2 ⟨sliceBlk_nodup _ _ _, List.nodup_append.2 ⟨sliceBlk_nodup _ _ _, sliceBlk_nodup _ _ _, ?_⟩, ?_⟩, ?_⟩
    · intro x hx y hy
      have := b6 x hx; have := b7 y hy; omega
    · intro x hx y hy
      have := b5 x hx
      rcases List.mem_append.1 hy with hy | hy
      · have := b6 y hy; omega
      · have := b7 y hy; omega
    · intro x hx y hy
      have := b4 x hx
      rcases List.mem_append.1 hy with hy | hy
      · have := b5 y hy; omega
      · rcases List.mem_append.1 hy with hy | hy
        · have := b6 y hy; omega
        · have := b7 y hy; omega
  · intro b hb
    simp only [List.mem_append] at hb
    rcases hb with hb | hb | hb | hb
    · have := b4 b hb; omega
    · have := b5 b hb; omega
    · have := b6 b hb; omega
    · have := b7 b hb; omega
theorem Fresh.setFar {B c i : Nat} {a : Option Addr} {bs : List UInt8} {w : World} {v : Value} (h : Fresh B a bs w) (hc : c < B) : Fresh B a bs (w.setCell ⟨c, i, none⟩ v) := by
  rcases h with rfl | ⟨b, off, ha, hB, hcell⟩
  · exact .inl rfl
  · exact Fresh.grown (.inr ⟨b, off, ha, hB, hcell⟩) (grown_set (grown_refl w c) i v) (fun b' off' ha' _ => by rw [ha] at ha'; injection ha' with ha'; injection ha' with e; omega)
theorem Row.setFar {B c i cap : Nat} {a : Option Addr} {bs : List UInt8} {w : World} {v : Value} (h : Row B a bs cap w) (hc : c < B) : Row B a bs cap (w.setCell ⟨c, i, none⟩ v) := ⟨h.1.setFar hc, h.2⟩
theorem FreshF.setFar {α : Type} {f : α → Value} {B c i : Nat} {a : Option Addr} {bs : List α} {w : World} {v : Value} (h : FreshF f B a bs w) (hc : c < B) : FreshF f B a bs (w.setCell ⟨c, i, none⟩ v) := by
  rcases h with rfl | ⟨b, off, ha, hB, hcell⟩
  · exact .inl rfl
  · exact FreshF.grown (.inr ⟨b, off, ha, hB, hcell⟩) (grown_set (grown_refl w c) i v) (fun b' off' ha' _ => by rw [ha] at ha'; injection ha' with ha'; injection ha' with e; omega)
theorem RowF.setFar {α : Type} {f : α → Value} {B c i cap : Nat} {a : Option Addr} {bs : List α} {w : World} {v : Value} (h : RowF f B a bs cap w) (hc : c < B) : RowF f B a bs cap (w.setCell ⟨c, i, none⟩ v) := ⟨h.1.setFar hc, h.2⟩
/-- The lists in a rule are not too long. -/
def Short (r : RuleV) : Prop := r.bytes.length ≤ 1048576 ∧ r.names.length ≤ 1048576 ∧ r.tags.length ≤ 1048576 ∧ r.kids.length ≤ 1048576
theorem OwnRule.setFar {lo hi c i : Nat} {r : RuleV} {cs : List Value} {w : World} {v : Value} (h : OwnRule lo hi r cs w) (hc : c < lo) : OwnRule lo hi r cs (w.setCell ⟨c, i, none⟩ v) := by
  obtain ⟨a4, c4, a5, c5, a6, c6, a7, c7, e, h4, h5, h6, h7, h8⟩ := h
  exact ⟨a4, c4, a5, c5, a6, c6, a7, c7, e, h4.setFar hc, h5.setFar hc, h6.setFar hc, h7.setFar hc, h8⟩
theorem OwnRule.more {lo lo' hi hi' : Nat} {r : RuleV} {cs : List Value} {w : World} (h : OwnRule lo hi r cs w) (hl : lo' ≤ lo) (hh : hi ≤ hi') : OwnRule lo' hi' r cs w := by
  obtain ⟨a4, c4, a5, c5, a6, c6, a7, c7, e, h4, h5, h6, h7, h8, h9⟩ := h
  exact ⟨a4, c4, a5, c5, a6, c6, a7, c7, e, h4.more hl, h5.more hl, h6.more hl, h7.more hl, h8, fun b hb => by have := h9 b hb; omega⟩
/-- A rule in new memory comes back. -/
def RuleOut (r : RuleV) (w : World) (e : Ending) (w' : World) : Prop := ∃ cs, e = .returned (.agg cs.toArray) ∧ OwnRule w.heap.size w'.heap.size r cs w' ∧ Below w.heap.size w w'
set_option maxRecDepth 100000 in
set_option maxHeartbeats 1000000 in
theorem to_rule (r : RuleV) (cs : List Value) (w : World) (hs : Short r) (h : IsRule r cs w) :
    Calls Tryz.prog 126 #[.agg cs.toArray] w (RuleOut r w) := by
  obtain ⟨a4, c4, a5, c5, a6, c6, a7, c7, rfl, h4, h5, h6, h7⟩ := h
  obtain ⟨s4, s5, s6, s7⟩ := hs
  have H4 := Lib.hid h4
  have H5 := Lib.hid h5
  have H6 := Lib.hid h6
  have H7 := Lib.hid h7
  clear h4 h5 h6 h7
  obtain ⟨w0, hw0⟩ : ∃ w0, w0 = ((w.alloc (.cells [.string r.name, .int .i64 r.kind, .int .i64 r.size, .bool r.little, .slice a4 r.bytes.length c4, .slice a5 r.names.length c5, .slice a6 r.tags.length c6, .slice a7 r.kids.length c7].toArray 119)).alloc (.cells [.string ⟨#[]⟩, .int .i64 0, .int .i64 0, .bool false, .slice none 0 0, .slice none 0 0, .slice none 0 0, .slice none 0 0].toArray 39)).alloc (.cells [.string r.name, .int .i64 r.kind, .int .i64 r.size, .bool r.little, .slice none 0 0, .slice none 0 0, .slice none 0 0, .slice none 0 0].toArray 39) := ⟨_, rfl⟩
  have hz0 : w0.heap.size = w.heap.size + 3 := by subst hw0; simp
  have hB0 : Below w.heap.size w w0 := by
    subst hw0
    exact (((Below.refl _ w).alloc (Nat.le_refl _) _).alloc (by simp) _).alloc (by simp; omega) _
  have I0 : CellsAt w.heap.size [.string r.name, .int .i64 r.kind, .int .i64 r.size, .bool r.little, .slice a4 r.bytes.length c4, .slice a5 r.names.length c5, .slice a6 r.tags.length c6, .slice a7 r.kids.length c7] w0 := by
    subst hw0
    exact ((CellsAt.new w _ _).below ((Below.refl _ _).alloc (Nat.le_refl _) _)).below ((Below.refl _ _).alloc (Nat.le_refl _) _)
  have Z0 : CellsAt (w.heap.size + 1) [.string ⟨#[]⟩, .int .i64 0, .int .i64 0, .bool false, .slice none 0 0, .slice none 0 0, .slice none 0 0, .slice none 0 0] w0 := by
    subst hw0
    have h1 := CellsAt.new (w.alloc (.cells (List.toArray [.string r.name, .int .i64 r.kind, .int .i64 r.size, .bool r.little, .slice a4 r.bytes.length c4, .slice a5 r.names.length c5, .slice a6 r.tags.length c6, .slice a7 r.kids.length c7]) 119)) [.string ⟨#[]⟩, .int .i64 0, .int .i64 0, .bool false, .slice none 0 0, .slice none 0 0, .slice none 0 0, .slice none 0 0] 39
    simp only [World.size_alloc] at h1
    exact h1.below ((Below.refl _ _).alloc (Nat.le_refl _) _)
  have O0 : CellsAt (w.heap.size + 2) [.string r.name, .int .i64 r.kind, .int .i64 r.size, .bool r.little, .slice none 0 0, .slice none 0 0, .slice none 0 0, .slice none 0 0] w0 := by
    subst hw0
    have h1 := CellsAt.new ((w.alloc (.cells (List.toArray [.string r.name, .int .i64 r.kind, .int .i64 r.size, .bool r.little, .slice a4 r.bytes.length c4, .slice a5 r.names.length c5, .slice a6 r.tags.length c6, .slice a7 r.kids.length c7]) 119)).alloc (.cells (List.toArray [.string ⟨#[]⟩, .int .i64 0, .int .i64 0, .bool false, .slice none 0 0, .slice none 0 0, .slice none 0 0, .slice none 0 0]) 39)) [.string r.name, .int .i64 r.kind, .int .i64 r.size, .bool r.little, .slice none 0 0, .slice none 0 0, .slice none 0 0, .slice none 0 0] 39
    simp only [World.size_alloc] at h1
    exact h1
  go_enter Tryz.func126, Tryz.ntmps126
  have HB0 := Lib.hid hB0
  have HI0 := Lib.hid I0
  have HZ0 := Lib.hid Z0
  have HO0 := Lib.hid O0
  clear hB0 I0 Z0 O0
  go_wp2_with fail
  rw [← hw0]
  clear hw0
  refine (to_any a4 r.bytes c4 _ (by omega) (H4.out.below HB0.out)).mono ?_
  rintro e w1 ⟨x4, y4, rfl, hr1, hb1⟩
  have hs1 := hb1.size
  have HLi4 := Lib.hid hr1.1.lies
  have I1 := HI0.out.below hb1
  have Z1 := HZ0.out.below hb1
  have O1 := HO0.out.below hb1
  obtain ⟨v1, hv1⟩ : ∃ v, v = w1.setCell ⟨w.heap.size + 2, 4, none⟩ (.slice x4 r.bytes.length y4) := ⟨_, rfl⟩
  have hvs1 : v1.heap.size = w1.heap.size := by subst hv1; simp
  have HI1 := Lib.hid (I1.far (b' := w.heap.size + 2) (j := 4) (v := (.slice x4 r.bytes.length y4)) (by omega))
  rw [← hv1] at HI1
  have HZ1 := Lib.hid (Z1.far (b' := w.heap.size + 2) (j := 4) (v := (.slice x4 r.bytes.length y4)) (by omega))
  rw [← hv1] at HZ1
  have HO1 := Lib.hid (O1.set 4 (.slice x4 r.bytes.length y4) (by simp))
  rw [← hv1] at HO1
  simp only [List.set] at HO1
  have HB1 : Hid (Below w.heap.size w v1) := by subst hv1; exact (HB0.out.trans (hb1.mono (by omega))).setCell (p := ⟨w.heap.size + 2, 4, none⟩) (by simp) _
  have R4 := Lib.hid (hr1.setFar (c := w.heap.size + 2) (i := 4) (v := .slice x4 r.bytes.length y4) (by omega))
  rw [← hv1] at R4
  obtain ⟨i5, -⟩ := I1 5 _ rfl
  obtain ⟨o4, p4⟩ := O1 4 _ rfl
  clear hr1 hb1 I1 Z1 O1 HI0 HZ0 HO0
  go_wp2_with fail
  rw [← hv1]
  clear hv1 i5 o4 p4
  refine (to_strs a5 r.names c5 _ (by omega) (H5.out.below HB1.out)).mono ?_
  rintro e w2 ⟨x5, y5, rfl, hr2, hb2⟩
  have hs2 := hb2.size
  have HLi5 := Lib.hid hr2.1.lies
  have R4a := Lib.hid (R4.out.below hb2)
  clear R4
  have I2 := HI1.out.below hb2
  have Z2 := HZ1.out.below hb2
  have O2 := HO1.out.below hb2
  obtain ⟨v2, hv2⟩ : ∃ v, v = w2.setCell ⟨w.heap.size + 2, 5, none⟩ (.slice x5 r.names.length y5) := ⟨_, rfl⟩
  have hvs2 : v2.heap.size = w2.heap.size := by subst hv2; simp
  have HI2 := Lib.hid (I2.far (b' := w.heap.size + 2) (j := 5) (v := (.slice x5 r.names.length y5)) (by omega))
  rw [← hv2] at HI2
  have HZ2 := Lib.hid (Z2.far (b' := w.heap.size + 2) (j := 5) (v := (.slice x5 r.names.length y5)) (by omega))
  rw [← hv2] at HZ2
  have HO2 := Lib.hid (O2.set 5 (.slice x5 r.names.length y5) (by simp))
  rw [← hv2] at HO2
  simp only [List.set] at HO2
  have HB2 : Hid (Below w.heap.size w v2) := by subst hv2; exact (HB1.out.trans (hb2.mono (by omega))).setCell (p := ⟨w.heap.size + 2, 5, none⟩) (by simp) _
  have R4 := Lib.hid (R4a.out.setFar (c := w.heap.size + 2) (i := 5) (v := .slice x5 r.names.length y5) (by omega))
  rw [← hv2] at R4
  clear R4a
  have R5 := Lib.hid (hr2.setFar (c := w.heap.size + 2) (i := 5) (v := .slice x5 r.names.length y5) (by omega))
  rw [← hv2] at R5
  obtain ⟨i6, -⟩ := I2 6 _ rfl
  obtain ⟨o5, p5⟩ := O2 5 _ rfl
  clear hr2 hb2 I2 Z2 O2 HI1 HZ1 HO1
  go_wp2_with fail
  rw [← hv2]
  clear hv2 i6 o5 p5
  refine (to_ints a6 r.tags c6 _ (by omega) (H6.out.below HB2.out)).mono ?_
  rintro e w3 ⟨x6, y6, rfl, hr3, hb3⟩
  have hs3 := hb3.size
  have HLi6 := Lib.hid hr3.1.lies
  have R4a := Lib.hid (R4.out.below hb3)
  clear R4
  have R5a := Lib.hid (R5.out.below hb3)
  clear R5
  have I3 := HI2.out.below hb3
  have Z3 := HZ2.out.below hb3
  have O3 := HO2.out.below hb3
  obtain ⟨v3, hv3⟩ : ∃ v, v = w3.setCell ⟨w.heap.size + 2, 6, none⟩ (.slice x6 r.tags.length y6) := ⟨_, rfl⟩
  have hvs3 : v3.heap.size = w3.heap.size := by subst hv3; simp
  have HI3 := Lib.hid (I3.far (b' := w.heap.size + 2) (j := 6) (v := (.slice x6 r.tags.length y6)) (by omega))
  rw [← hv3] at HI3
  have HZ3 := Lib.hid (Z3.far (b' := w.heap.size + 2) (j := 6) (v := (.slice x6 r.tags.length y6)) (by omega))
  rw [← hv3] at HZ3
  have HO3 := Lib.hid (O3.set 6 (.slice x6 r.tags.length y6) (by simp))
  rw [← hv3] at HO3
  simp only [List.set] at HO3
  have HB3 : Hid (Below w.heap.size w v3) := by subst hv3; exact (HB2.out.trans (hb3.mono (by omega))).setCell (p := ⟨w.heap.size + 2, 6, none⟩) (by simp) _
  have R4 := Lib.hid (R4a.out.setFar (c := w.heap.size + 2) (i := 6) (v := .slice x6 r.tags.length y6) (by omega))
  rw [← hv3] at R4
  clear R4a
  have R5 := Lib.hid (R5a.out.setFar (c := w.heap.size + 2) (i := 6) (v := .slice x6 r.tags.length y6) (by omega))
  rw [← hv3] at R5
  clear R5a
  have R6 := Lib.hid (hr3.setFar (c := w.heap.size + 2) (i := 6) (v := .slice x6 r.tags.length y6) (by omega))
  rw [← hv3] at R6
  obtain ⟨i7, -⟩ := I3 7 _ rfl
  obtain ⟨o6, p6⟩ := O3 6 _ rfl
  clear hr3 hb3 I3 Z3 O3 HI2 HZ2 HO2
  go_wp2_with fail
  rw [← hv3]
  clear hv3 i7 o6 p6
  refine (to_ints a7 r.kids c7 _ (by omega) (H7.out.below HB3.out)).mono ?_
  rintro e w4 ⟨x7, y7, rfl, hr4, hb4⟩
  have hs4 := hb4.size
  have HLi7 := Lib.hid hr4.1.lies
  have R4a := Lib.hid (R4.out.below hb4)
  clear R4
  have R5a := Lib.hid (R5.out.below hb4)
  clear R5
  have R6a := Lib.hid (R6.out.below hb4)
  clear R6
  have I4 := HI3.out.below hb4
  have Z4 := HZ3.out.below hb4
  have O4 := HO3.out.below hb4
  obtain ⟨v4, hv4⟩ : ∃ v, v = w4.setCell ⟨w.heap.size + 2, 7, none⟩ (.slice x7 r.kids.length y7) := ⟨_, rfl⟩
  have hvs4 : v4.heap.size = w4.heap.size := by subst hv4; simp
  have HI4 := Lib.hid (I4.far (b' := w.heap.size + 2) (j := 7) (v := (.slice x7 r.kids.length y7)) (by omega))
  rw [← hv4] at HI4
  have HZ4 := Lib.hid (Z4.far (b' := w.heap.size + 2) (j := 7) (v := (.slice x7 r.kids.length y7)) (by omega))
  rw [← hv4] at HZ4
  have HO4 := Lib.hid (O4.set 7 (.slice x7 r.kids.length y7) (by simp))
  rw [← hv4] at HO4
  simp only [List.set] at HO4
  have HB4 : Hid (Below w.heap.size w v4) := by subst hv4; exact (HB3.out.trans (hb4.mono (by omega))).setCell (p := ⟨w.heap.size + 2, 7, none⟩) (by simp) _
  have R4 := Lib.hid (R4a.out.setFar (c := w.heap.size + 2) (i := 7) (v := .slice x7 r.kids.length y7) (by omega))
  rw [← hv4] at R4
  clear R4a
  have R5 := Lib.hid (R5a.out.setFar (c := w.heap.size + 2) (i := 7) (v := .slice x7 r.kids.length y7) (by omega))
  rw [← hv4] at R5
  clear R5a
  have R6 := Lib.hid (R6a.out.setFar (c := w.heap.size + 2) (i := 7) (v := .slice x7 r.kids.length y7) (by omega))
  rw [← hv4] at R6
  clear R6a
  have R7 := Lib.hid (hr4.setFar (c := w.heap.size + 2) (i := 7) (v := .slice x7 r.kids.length y7) (by omega))
  rw [← hv4] at R7
  obtain ⟨i7, -⟩ := I4 7 _ rfl
  obtain ⟨o7, p7⟩ := O4 7 _ rfl
  obtain ⟨o0', -⟩ := O4 0 _ rfl
  obtain ⟨o1', -⟩ := O4 1 _ rfl
  obtain ⟨o2', -⟩ := O4 2 _ rfl
  obtain ⟨o3', -⟩ := O4 3 _ rfl
  obtain ⟨o4', -⟩ := O4 4 _ rfl
  obtain ⟨o5', -⟩ := O4 5 _ rfl
  obtain ⟨o6', -⟩ := O4 6 _ rfl
  obtain ⟨z0, t0⟩ := Z4 0 _ rfl
  obtain ⟨z1, t1⟩ := Z4 1 _ rfl
  obtain ⟨z2, t2⟩ := Z4 2 _ rfl
  obtain ⟨z3, t3⟩ := Z4 3 _ rfl
  obtain ⟨z4, t4⟩ := Z4 4 _ rfl
  obtain ⟨z5, t5⟩ := Z4 5 _ rfl
  obtain ⟨z6, t6⟩ := Z4 6 _ rfl
  obtain ⟨z7, t7⟩ := Z4 7 _ rfl
  clear hr4 hb4 I4 Z4 O4 HI3 HZ3 HO3
  clear HI4 HZ4 HO4 i7
  have hown : Hid (OwnRule w0.heap.size v4.heap.size r [.string r.name, .int .i64 r.kind, .int .i64 r.size, .bool r.little, .slice x4 r.bytes.length y4, .slice x5 r.names.length y5, .slice x6 r.tags.length y6, .slice x7 r.kids.length y7] v4) := by
    have q4 := HLi4.out
    have q5 := HLi5.out
    have q6 := HLi6.out
    have q7 := HLi7.out
    rw [hvs1] at q5
    rw [hvs2] at q6
    rw [hvs3] at q7
    rw [← hvs4] at q7
    exact ⟨x4, y4, x5, y5, x6, y6, x7, y7, rfl, R4.out, R5.out.more (by omega), R6.out.more (by omega), R7.out.more (by omega), four_blks q4 q5 q6 q7 (by omega) (by omega) (by omega) (by omega)⟩
  rw [hv4] at hown HB4
  clear hv4
  go_wp2
  (try simp only [Exit.inBlock, Exit.then])
  refine bodyPost_ret (v := .agg #[.string r.name, .int .i64 r.kind, .int .i64 r.size, .bool r.little, .slice x4 r.bytes.length y4, .slice x5 r.names.length y5, .slice x6 r.tags.length y6, .slice x7 r.kids.length y7]) ?_ rfl ?_
  · simp [results, Tryz.results126, go_sem, z0, z1, z2, z3, z4, z5, z6, z7]
  · exact ⟨_, rfl, ((((((((hown.out.setFar (c := w.heap.size + 1) (by omega)).setFar (c := w.heap.size + 1) (by omega)).setFar (c := w.heap.size + 1) (by omega)).setFar (c := w.heap.size + 1) (by omega)).setFar (c := w.heap.size + 1) (by omega)).setFar (c := w.heap.size + 1) (by omega)).setFar (c := w.heap.size + 1) (by omega)).setFar (c := w.heap.size + 1) (by omega)).more (by omega) (by simp), ((((((((HB4.out.setCell (p := ⟨w.heap.size + 1, 0, none⟩) (by simp) _).setCell (p := ⟨w.heap.size + 1, 1, none⟩) (by simp) _).setCell (p := ⟨w.heap.size + 1, 2, none⟩) (by simp) _).setCell (p := ⟨w.heap.size + 1, 3, none⟩) (by simp) _).setCell (p := ⟨w.heap.size + 1, 4, none⟩) (by simp) _).setCell (p := ⟨w.heap.size + 1, 5, none⟩) (by simp) _).setCell (p := ⟨w.heap.size + 1, 6, none⟩) (by simp) _).setCell (p := ⟨w.heap.size + 1, 7, none⟩) (by simp) _)⟩
/-- Cells written one after the other. -/
def putList (w : World) (b : Nat) : Nat → List Value → World
  | _, [] => w
  | o, v :: vs => putList (w.setCell ⟨b, o, none⟩ v) b (o + 1) vs
theorem putList_frozen (b : Nat) (p : Addr) : ∀ (vs : List Value) (o : Nat) (w : World), (putList w b o vs).frozen? p = w.frozen? p
  | [], _, _ => rfl
  | v :: vs, o, w => by rw [putList, putList_frozen b p vs]; simp
theorem putList_size (b : Nat) : ∀ (vs : List Value) (o : Nat) (w : World), (putList w b o vs).heap.size = w.heap.size
  | [], _, _ => rfl
  | v :: vs, o, w => by rw [putList, putList_size b vs]; simp
theorem putList_far (b : Nat) (p : Addr) : ∀ (vs : List Value) (o : Nat) (w : World), (p.block ≠ b ∨ p.off < o ∨ o + vs.length ≤ p.off) → (putList w b o vs).cell? p = w.cell? p
  | [], _, _, _ => rfl
  | v :: vs, o, w, h => by
    rw [putList, putList_far b p vs (o + 1) _ (by simp only [List.length_cons] at h; omega)]
    refine World.cell?_setCell_other _ _ _ _ (fun he => ?_)
    subst he
    simp at h
    omega
theorem putList_at (b : Nat) : ∀ (vs : List Value) (o i : Nat) (w : World) (v u : Value), vs[i]? = some v → w.cell? ⟨b, o + i, none⟩ = some u → (putList w b o vs).cell? ⟨b, o + i, none⟩ = some v
  | [], _, _, _, _, _, h, _ => by simp at h
  | x :: vs, o, 0, w, v, u, h, hc => by
    simp at h
    subst h
    rw [putList, putList_far b _ vs (o + 1) _ (.inr (.inl (by simp)))]
    exact World.cell?_setCell_same _ _ _ hc
  | x :: vs, o, i + 1, w, v, u, h, hc => by
    have e : o + (i + 1) = (o + 1) + i := by omega
    rw [putList, e]
    refine putList_at b vs (o + 1) i _ v u (by simpa using h) ?_
    rw [World.cell?_setCell_other _ _ _ _ (fun he => by have := congrArg Addr.off he; simp at this; omega), ← e]
    exact hc
theorem putList_below (b : Nat) : ∀ (vs : List Value) (o : Nat) (B : Nat) (w0 w : World), Below B w0 w → B ≤ b → Below B w0 (putList w b o vs)
  | [], _, _, _, _, h, _ => h
  | v :: vs, o, B, w0, _, h, hB => putList_below b vs (o + 1) B w0 _ (h.setCell (p := ⟨b, o, none⟩) hB v) hB
theorem OwnRule.put {lo hi b : Nat} {r : RuleV} {cs : List Value} (hb : b < lo) : ∀ (vs : List Value) (o : Nat) (w : World), OwnRule lo hi r cs w → OwnRule lo hi r cs (putList w b o vs)
  | [], _, _, h => h
  | _ :: vs, o, _, h => OwnRule.put hb vs (o + 1) _ (h.setFar hb)
/-- A description in new memory: the row of its rules and the slices in them, each in a block of its own. -/
def OwnR (lo hi : Nat) (a : Option Addr) (rs : List RuleV) (cap : Nat) (w : World) : Prop :=
  ∃ css : List (List Value), css.length = rs.length ∧ (∀ j (h : j < rs.length) (h' : j < css.length), OwnRule lo hi rs[j] css[j] w) ∧
    (rs = [] ∨ ∃ b off, a = some ⟨b, off, none⟩ ∧ lo ≤ b ∧ b < hi ∧ (∀ j (h : j < css.length) i v, css[j][i]? = some v → w.cell? ⟨b, off + j * 8 + i, none⟩ = some v ∧ w.frozen? ⟨b, off + j * 8 + i, none⟩ = false) ∧ (b :: css.flatMap fun cs => cs.flatMap sliceBlk).Nodup) ∧
    rs.length ≤ cap ∧ (a = none → cap = 0)
theorem OwnR.rd {lo hi : Nat} {a : Option Addr} {rs : List RuleV} {cap : Nat} {w : World} (h : OwnR lo hi a rs cap w) : RdR a rs w := fun j hj => by
  obtain ⟨css, hl, ho, hr, _⟩ := h
  rcases hr with rfl | ⟨b, off, ha, _, _, hc, _⟩
  · simp at hj
  · exact ⟨b, off, css[j]'(by omega), ha, (ho j hj (by omega)).is, fun i v hv => (hc j (by omega) i v hv).1⟩
theorem OwnR.below {lo hi : Nat} {a : Option Addr} {rs : List RuleV} {cap : Nat} {w w' : World} (h : OwnR lo hi a rs cap w) (hb : Below w.heap.size w w') : OwnR lo hi a rs cap w' := by
  obtain ⟨css, hl, ho, hr, hcap⟩ := h
  refine ⟨css, hl, fun j h1 h2 => (ho j h1 h2).below hb, ?_, hcap⟩
  rcases hr with hr | ⟨b, off, ha, h1, h2, hc, hn⟩
  · exact .inl hr
  · refine .inr ⟨b, off, ha, h1, h2, fun j hj i v hv => ?_, hn⟩
    obtain ⟨q1, q2⟩ := hc j hj i v hv
    exact ⟨(hb.cell (cell_lt q1)).trans q1, (hb.frozen (p := ⟨b, off + j * 8 + i, none⟩) (cell_lt q1)).trans q2⟩
/-- The first k rules are copied into the row at block N. -/
def HalfR (rs : List RuleV) (k N : Nat) (w W : World) : Prop :=
  Below w.heap.size w W ∧ N < W.heap.size ∧ ∃ css : List (List Value), css.length = k ∧ (∀ j (h : j < rs.length) (h' : j < css.length), OwnRule (N + 1) W.heap.size rs[j] css[j] W) ∧
    (∀ j (h : j < css.length) i v, css[j][i]? = some v → W.cell? ⟨N, j * 8 + i, none⟩ = some v) ∧ (∀ c, c < rs.length * 8 → W.frozen? ⟨N, c, none⟩ = false) ∧
    (∀ j, k ≤ j → j < rs.length → ∀ i v, ([.string ⟨#[]⟩, .int .i64 0, .int .i64 0, .bool false, .slice none 0 0, .slice none 0 0, .slice none 0 0, .slice none 0 0] : List Value)[i]? = some v → W.cell? ⟨N, j * 8 + i, none⟩ = some v) ∧
    (css.flatMap fun cs => cs.flatMap sliceBlk).Nodup
theorem OwnRule.length {lo hi : Nat} {r : RuleV} {cs : List Value} {w : World} (h : OwnRule lo hi r cs w) : cs.length = 8 := by
  obtain ⟨a4, c4, a5, c5, a6, c6, a7, c7, rfl, _⟩ := h
  rfl
theorem HalfR.next {rs : List RuleV} {k N : Nat} {w W W1 : World} {cs : List Value} (h : HalfR rs k N w W) (hN : w.heap.size ≤ N) (hk : k < rs.length) (hb : Below W.heap.size W W1) (hr : OwnRule W.heap.size W1.heap.size rs[k] cs W1) : HalfR rs (k + 1) N w (putList W1 N (k * 8) cs) := by
  obtain ⟨h1, h2, css, hl, ho, hc, hf, hz, hn⟩ := h
  have hlen := hr.length
  have hs := hb.size
  have hcb : ∀ j (h : j < css.length) i v, css[j][i]? = some v → W1.cell? ⟨N, j * 8 + i, none⟩ = some v := fun j hj i v hv => (hb.cell (p := ⟨N, j * 8 + i, none⟩) h2).trans (hc j hj i v hv)
  have hzb : ∀ j, k ≤ j → j < rs.length → ∀ i v, ([.string ⟨#[]⟩, .int .i64 0, .int .i64 0, .bool false, .slice none 0 0, .slice none 0 0, .slice none 0 0, .slice none 0 0] : List Value)[i]? = some v → W1.cell? ⟨N, j * 8 + i, none⟩ = some v := fun j hj hj' i v hv => (hb.cell (p := ⟨N, j * 8 + i, none⟩) h2).trans (hz j hj hj' i v hv)
  have hat : ∀ {j : Nat} (hj : j < (css ++ [cs]).length), (hjk : j < css.length) → (css ++ [cs])[j] = css[j] := fun hj hjk => List.getElem_append_left hjk
  have hatk : ∀ {j : Nat} (hj : j < (css ++ [cs]).length), ¬ j < css.length → (css ++ [cs])[j] = cs := fun {j} hj hjk => by
    have e : j = css.length := by simp at hj; omega
    subst e
    simp
  refine ⟨putList_below N cs _ _ _ _ (h1.trans (hb.mono h1.size)) hN, by rw [putList_size]; omega, css ++ [cs], by simp [hl], ?_, ?_, ?_, ?_, ?_⟩
  · intro j hj hj'
    rw [putList_size]
    by_cases hjk : j < css.length
    · rw [hat hj' hjk]
      exact OwnRule.put (by omega) cs _ _ (((ho j hj hjk).below hb).more (Nat.le_refl _) hs)
    · rw [hatk hj' hjk]
      have e : j = k := by simp at hj'; omega
      subst e
      exact OwnRule.put (by omega) cs _ _ (hr.more (by omega) (Nat.le_refl _))
  · intro j hj i v hv
    by_cases hjk : j < css.length
    · rw [hat hj hjk] at hv
      have hi8 : i < 8 := by
        have h8 := (ho j (by omega) hjk).length
        rcases Nat.lt_or_ge i 8 with h | h
        · exact h
        · rw [List.getElem?_eq_none (by omega)] at hv; cases hv
      rw [putList_far N _ cs _ _ (.inr (.inl (by show j * 8 + i < k * 8; omega)))]
      exact hcb j hjk i v hv
    · rw [hatk hj hjk] at hv
      have e : j = k := by simp at hj; omega
      subst e
      have hi8 : i < 8 := by
        rcases Nat.lt_or_ge i 8 with h | h
        · exact h
        · rw [List.getElem?_eq_none (by omega)] at hv; cases hv
      obtain ⟨u, hu⟩ : ∃ u, ([.string ⟨#[]⟩, .int .i64 0, .int .i64 0, .bool false, .slice none 0 0, .slice none 0 0, .slice none 0 0, .slice none 0 0] : List Value)[i]? = some u := ⟨_, List.getElem?_eq_getElem (by simpa using hi8)⟩
      exact putList_at N cs (j * 8) i W1 v u hv (hzb j (Nat.le_refl _) hk i u hu)
  · intro c hc8
    rw [putList_frozen]
    exact (hb.frozen (p := ⟨N, c, none⟩) h2).trans (hf c hc8)
  · intro j hj hj' i v hv
    rw [putList_far N _ cs _ _ (.inr (.inr (by rw [hlen]; show k * 8 + 8 ≤ j * 8 + i; omega)))]
    exact hzb j (by omega) hj' i v hv
  · rw [List.flatMap_append]
    simp only [List.flatMap_cons, List.flatMap_nil, List.append_nil]
    obtain ⟨_, _, _, _, _, _, _, _, _, _, _, _, _, hnd, hrange⟩ := hr
    refine List.nodup_append.2 ⟨hn, hnd, ?_⟩
    intro x hx y hy
    obtain ⟨c0, hc0, hx⟩ := List.mem_flatMap.1 hx
    obtain ⟨j, hj, rfl⟩ := List.getElem_of_mem hc0
    obtain ⟨_, _, _, _, _, _, _, _, _, _, _, _, _, _, hr2⟩ := ho j (by omega) hj
    have q1 := hr2 x hx
    have q2 := hrange y hy
    omega
theorem infoRule : (Tryz.prog.info? 39).map (fun i => (i.zero, i.size, i.bytes)) = some (some (.agg #[.string ⟨#[]⟩, .int .i64 0, .int .i64 0, .bool false, .slice none 0 0, .slice none 0 0, .slice none 0 0, .slice none 0 0]), 8, 136) := by kernel_rfl
theorem make_rules (n : Nat) (hn : n ≤ 1073741824) (W : World) : (Instr.makeSlice 24 (.int .i64 (n : Int)) (.int .i64 (n : Int))).run Tryz.prog W = .ok (.slice (some ⟨W.heap.size, 0, none⟩) n n) (W.alloc (.cells (madeCells #[.string ⟨#[]⟩, .int .i64 0, .int .i64 0, .bool false, .slice none 0 0, .slice none 0 0, .slice none 0 0, .slice none 0 0] (n * 8)) 39)) := by
  obtain ⟨i0, hi, h⟩ := Option.map_eq_some_iff.1 infoRule
  simp only [Prod.mk.injEq] at h
  obtain ⟨hz0, hz1, hz2⟩ := h
  have hr := run_make (P := Tryz.prog) W 24 39 i0 _ Tryz.underlying24 hi hz0 .i64 .i64 (n : Int) (n : Int) (by omega) (by omega) (by rw [hz2]; omega) (by omega)
  rw [hr, hz1]
  simp [Value.cells]
theorem made_at (n c : Nat) (h : c < n) (z : Array Value) : (madeCells z n)[c]? = some z[c % z.size]! := by
  unfold madeCells
  simp [h]
theorem HalfR.start (rs : List RuleV) (t : TypeId) (w : World) : HalfR rs 0 w.heap.size w (w.alloc (.cells (madeCells #[.string ⟨#[]⟩, .int .i64 0, .int .i64 0, .bool false, .slice none 0 0, .slice none 0 0, .slice none 0 0, .slice none 0 0] (rs.length * 8)) t)) := by
  refine ⟨(Below.refl _ _).alloc (Nat.le_refl _) _, by simp, [], rfl, fun j h h' => by simp at h', fun j h => by simp at h, fun c _ => by simp, fun j _ hj i v hv => ?_, by simp⟩
  have hi8 : i < 8 := by
    rcases Nat.lt_or_ge i 8 with h | h
    · exact h
    · rw [List.getElem?_eq_none (by simpa using h)] at hv; cases hv
  refine (World.cell?_alloc_mark w _ t (0, 0) (j * 8 + i)).trans ?_
  rw [made_at _ _ (by omega)]
  have e : (j * 8 + i) % 8 = i := by omega
  show some (#[.string ⟨#[]⟩, .int .i64 0, .int .i64 0, .bool false, .slice none 0 0, .slice none 0 0, .slice none 0 0, .slice none 0 0] : Array Value)[(j * 8 + i) % 8]! = some v
  rw [e]
  rcases (by omega : i = 0 ∨ i = 1 ∨ i = 2 ∨ i = 3 ∨ i = 4 ∨ i = 5 ∨ i = 6 ∨ i = 7) with rfl | rfl | rfl | rfl | rfl | rfl | rfl | rfl <;> exact hv
theorem HalfR.end {rs : List RuleV} {w W : World} (h : HalfR rs rs.length w.heap.size w W) : OwnR w.heap.size W.heap.size (some ⟨w.heap.size, 0, none⟩) rs rs.length W := by
  obtain ⟨h1, h2, css, hl, ho, hc, hf, _, hn⟩ := h
  refine ⟨css, hl, fun j hj hj' => (ho j hj hj').more (by omega) (Nat.le_refl _), .inr ⟨w.heap.size, 0, rfl, Nat.le_refl _, h2, fun j hj i v hv => ?_, ?_⟩, Nat.le_refl _, fun e => by cases e⟩
  · have hi8 : i < 8 := by
      have h8 := (ho j (by omega) hj).length
      rcases Nat.lt_or_ge i 8 with h | h
      · exact h
      · rw [List.getElem?_eq_none (by omega)] at hv; cases hv
    rw [Nat.zero_add]
    exact ⟨hc j hj i v hv, hf _ (by omega)⟩
  · refine List.nodup_cons.2 ⟨fun hm => ?_, hn⟩
    obtain ⟨c0, hc0, hx⟩ := List.mem_flatMap.1 hm
    obtain ⟨j, hj, rfl⟩ := List.getElem_of_mem hc0
    obtain ⟨_, _, _, _, _, _, _, _, _, _, _, _, _, _, hr2⟩ := ho j (by omega) hj
    have := hr2 _ hx
    omega
/-- Rules in new memory come back in a slice. -/
def RulesOut (rs : List RuleV) (w : World) (e : Ending) (w' : World) : Prop := ∃ a cap, e = .returned (.slice a rs.length cap) ∧ OwnR w.heap.size w'.heap.size a rs cap w' ∧ Below w.heap.size w w'
set_option maxRecDepth 100000 in
set_option maxHeartbeats 1000000 in
theorem to_rules (a : Option Addr) (rs : List RuleV) (cap : Nat) (w : World) (hl : rs.length ≤ 1048576) (hs : ∀ r ∈ rs, Short r) (h : RdR a rs w) :
    Calls Tryz.prog 69 #[.slice a rs.length cap] w (RulesOut rs w) := by
  have H := Lib.hid h
  have HS := Lib.hid hs
  clear h hs
  have hmk := make_rules rs.length (by omega)
  go_enter Tryz.func69, Tryz.ntmps69
  go_wp2
  clear hmk
  go_loopw [4] (fun i W => ∃ k : Nat, k ≤ rs.length ∧ i = .int .i64 k ∧ Hid (HalfR rs k w.heap.size w W)) (fun i _ => rs.length - (intOf i).toNat)
  case atStart => exact ⟨0, Nat.zero_le _, rfl, HalfR.start rs _ w⟩
  case round =>
    obtain ⟨k, hk, rfl, hh⟩ := hrel
    have k0 : (0 : Int) ≤ (k : Int) := by omega
    by_cases hlt : k < rs.length
    · have k1 : (k : Int) < (rs.length : Int) := by omega
      have hsh := Lib.hid (HS.out _ (List.getElem_mem hlt))
      obtain ⟨b, off, a4, c4, a5, c5, a6, c6, a7, c7, rfl, ⟨d0, d1, d2, d3, d4, d5, d6, d7⟩, h4, h5, h6, h7⟩ := (H.out.below hh.out.1).at k hlt
      have HR : Hid (IsRule rs[k] _ wr) := ⟨a4, c4, a5, c5, a6, c6, a7, c7, rfl, h4, h5, h6, h7⟩
      have hnext := fun cs W1 => Lib.hid (hh.out.next (W1 := W1) (cs := cs) (Nat.le_refl _) hlt)
      clear h4 h5 h6 h7
      generalize rs[k] = r at d0 d1 d2 d3 d4 d5 d6 d7 HR hsh hnext
      go_wp2_with fail
      refine (to_rule r _ _ hsh.out HR.out).mono ?_
      rintro e w1 ⟨cs, rfl, hown, hb1⟩
      have hN := Lib.hid ((hnext cs w1).out hb1 hown)
      obtain ⟨_, hlt2, css, hcl, _, _, hfz, hzz, _⟩ := hh.out
      have zc := fun i v hv => (hb1.cell (p := ⟨w.heap.size, k * 8 + i, none⟩) hlt2).trans (hzz k (Nat.le_refl _) hlt i v hv)
      have fc := fun i (hi : i < 8) => (hb1.frozen (p := ⟨w.heap.size, k * 8 + i, none⟩) hlt2).trans (hfz (k * 8 + i) (by omega))
      have z0 := zc 0 _ rfl
      have z1 := zc 1 _ rfl
      have z2 := zc 2 _ rfl
      have z3 := zc 3 _ rfl
      have z4 := zc 4 _ rfl
      have z5 := zc 5 _ rfl
      have z6 := zc 6 _ rfl
      have z7 := zc 7 _ rfl
      have f0 := fc 0 (by omega)
      have f1 := fc 1 (by omega)
      have f2 := fc 2 (by omega)
      have f3 := fc 3 (by omega)
      have f4 := fc 4 (by omega)
      have f5 := fc 5 (by omega)
      have f6 := fc 6 (by omega)
      have f7 := fc 7 (by omega)
      rw [Nat.add_zero] at z0 f0
      obtain ⟨x4, y4, x5, y5, x6, y6, x7, y7, rfl, -⟩ := hown
      clear hb1 zc fc hfz hzz hnext d0 d1 d2 d3 d4 d5 d6 d7 HR hh
      go_wp2
      go_roundw
      case rel => exact ⟨k + 1, by omega, by go_num, hN⟩
      case measure => simp [intOf]; omega
    · have k1 : ¬ (k : Int) < (rs.length : Int) := by omega
      obtain rfl : k = rs.length := by omega
      go_wp2
      go_ret
      exact ⟨_, _, rfl, hh.out.end, hh.out.1⟩
theorem OwnR.more {lo lo' hi hi' : Nat} {a : Option Addr} {rs : List RuleV} {cap : Nat} {w : World} (h : OwnR lo hi a rs cap w) (hl : lo' ≤ lo) (hh : hi ≤ hi') : OwnR lo' hi' a rs cap w := by
  obtain ⟨css, hcl, ho, hr, hcap⟩ := h
  refine ⟨css, hcl, fun j h1 h2 => (ho j h1 h2).more hl hh, ?_, hcap⟩
  rcases hr with hr | ⟨b, off, ha, h1, h2, hc⟩
  · exact .inl hr
  · exact .inr ⟨b, off, ha, by omega, by omega, hc⟩
theorem OwnR.setFar {lo hi c i : Nat} {a : Option Addr} {rs : List RuleV} {cap : Nat} {w : World} {v : Value} (h : OwnR lo hi a rs cap w) (hc : c < lo) : OwnR lo hi a rs cap (w.setCell ⟨c, i, none⟩ v) := by
  obtain ⟨css, hcl, ho, hr, hcap⟩ := h
  refine ⟨css, hcl, fun j h1 h2 => (ho j h1 h2).setFar hc, ?_, hcap⟩
  rcases hr with hr | ⟨b, off, ha, h1, h2, hcell, hn⟩
  · exact .inl hr
  · refine .inr ⟨b, off, ha, h1, h2, fun j hj i' v' hv => ?_, hn⟩
    obtain ⟨q1, q2⟩ := hcell j hj i' v' hv
    exact ⟨(World.cell?_setCell_other _ _ _ _ (fun he => by have := congrArg Addr.block he; simp at this; omega)).trans q1, by simpa using q2⟩
/-- A description in new memory comes back. -/
def DescrOut (rs : List RuleV) (w : World) (e : Ending) (w' : World) : Prop := ∃ a cap, e = .returned (.agg #[.slice a rs.length cap]) ∧ OwnR w.heap.size w'.heap.size a rs cap w' ∧ Below w.heap.size w w'
set_option maxRecDepth 100000 in
theorem to_descr (a : Option Addr) (rs : List RuleV) (cap : Nat) (w : World) (hl : rs.length ≤ 1048576) (hs : ∀ r ∈ rs, Short r) (h : RdR a rs w) :
    Calls Tryz.prog 28 #[.agg #[.slice a rs.length cap]] w (DescrOut rs w) := by
  have HS := Lib.hid hs
  obtain ⟨w0, hw0⟩ : ∃ w0, w0 = ((w.alloc (.cells #[.slice a rs.length cap] 51)).alloc (.cells #[.slice none 0 0] 26)).alloc (.cells #[.slice none 0 0] 26) := ⟨_, rfl⟩
  have hz0 : w0.heap.size = w.heap.size + 3 := by subst hw0; simp
  have hB0 : Below w.heap.size w w0 := by
    subst hw0
    exact (((Below.refl _ w).alloc (Nat.le_refl _) _).alloc (by simp) _).alloc (by simp; omega) _
  have Z0 : CellsAt (w.heap.size + 1) [.slice none 0 0] w0 := by
    subst hw0
    have h1 := CellsAt.new (w.alloc (.cells #[.slice a rs.length cap] 51)) [.slice none 0 0] 26
    simp only [World.size_alloc] at h1
    exact h1.below ((Below.refl _ _).alloc (Nat.le_refl _) _)
  have O0 : CellsAt (w.heap.size + 2) [.slice none 0 0] w0 := by
    subst hw0
    have h1 := CellsAt.new ((w.alloc (.cells #[.slice a rs.length cap] 51)).alloc (.cells #[.slice none 0 0] 26)) [.slice none 0 0] 26
    simp only [World.size_alloc] at h1
    exact h1
  have HB0 := Lib.hid hB0
  have HZ0 := Lib.hid Z0
  have HO0 := Lib.hid O0
  have H := Lib.hid (h.below hB0)
  clear hB0 Z0 O0 h hs
  go_enter Tryz.func28, Tryz.ntmps28
  go_wp2_with fail
  rw [← hw0]
  clear hw0
  refine (to_rules a rs cap _ hl HS.out H.out).mono ?_
  rintro e w1 ⟨x, y, rfl, hr, hb⟩
  have hs1 := hb.size
  obtain ⟨z0, t0⟩ := (HZ0.out.below hb) 0 _ rfl
  obtain ⟨o0, p0⟩ := (HO0.out.below hb) 0 _ rfl
  have R := Lib.hid hr
  have HB1 := Lib.hid (HB0.out.trans (hb.mono (by omega)))
  clear hr hb HZ0 HO0
  go_wp2
  (try simp only [Exit.inBlock, Exit.then])
  refine bodyPost_ret (v := .agg #[.slice x rs.length y]) ?_ rfl ?_
  · simp [results, Tryz.results28, go_sem, z0]
  · exact ⟨x, y, rfl, ((R.out.setFar (c := w.heap.size + 2) (by omega)).setFar (c := w.heap.size + 1) (by omega)).more (by omega) (by simp), (HB1.out.setCell (p := ⟨w.heap.size + 2, 0, none⟩) (by simp) _).setCell (p := ⟨w.heap.size + 1, 0, none⟩) (by simp) _⟩
end Go.Proofs.YtkegjgfggijinaaGreatDoor
