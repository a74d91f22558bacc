/- The contract of the model's l4Kind. -/
import Derived.Test.YtdhfcopfoknokaaTagsSpec
import Derived.Test.YtdhfcopfoknokaaShape
import Derived.Deep.RegionHeld3
namespace Go.Proofs.Ytdhfcopfoknokaa
open Go Go.RowKit
section
variable (a : Option Addr) (rs : List RuleV) (cap : Nat) (r : RuleV) (cs : List Value) (w : World)
set_option maxRecDepth 100000 in
set_option maxHeartbeats 4000000 in
theorem kinds_1 (h : IsRule r cs w) (hk : r.kind = 1) :
    Calls Try.prog 54 #[.agg #[.slice a rs.length cap], .agg cs.toArray] w fun e w' => e = .returned (.bool (kindS rs r)) ∧ Below w.heap.size w w' := by
  have hm : Hid (kindS rs r = (shapeB r true false false false 0 && (decide (1 ≤ r.size ∧ r.size ≤ 4) && (!r.little || decide (1 < r.size))))) := by
    show _ = _
    simp [kindS, hk]
  obtain ⟨a4, c4, a5, c5, a6, c6, a7, c7, rfl, h4, h5, h6, h7⟩ := h
  obtain ⟨w0, hw0⟩ : ∃ w0, w0 = (w.alloc (.cells #[.slice a rs.length cap] 29)).alloc (.cells #[.string r.name, .int .i64 1, .int .i64 r.size, .bool r.little, .slice a4 r.bytes.length c4, .slice a5 r.names.length c5, .slice a6 r.tags.length c6, .slice a7 r.kids.length c7] 38) := ⟨_, rfl⟩
  have hB0 : Below w.heap.size w w0 := by subst hw0; exact ((Below.refl _ _).alloc (Nat.le_refl _) _).alloc (by simp) _
  have hX0 : CellsAt w.heap.size [.slice a rs.length cap] w0 := by subst hw0; exact (CellsAt.new w _ _).below ((Below.refl _ _).alloc (Nat.le_refl _) _)
  have hY0 : CellsAt (w.heap.size + 1) [.string r.name, .int .i64 1, .int .i64 r.size, .bool r.little, .slice a4 r.bytes.length c4, .slice a5 r.names.length c5, .slice a6 r.tags.length c6, .slice a7 r.kids.length c7] w0 := by
    subst hw0
    have h1 := CellsAt.new (w.alloc (.cells #[.slice a rs.length cap] 29)) [.string r.name, .int .i64 1, .int .i64 r.size, .bool r.little, .slice a4 r.bytes.length c4, .slice a5 r.names.length c5, .slice a6 r.tags.length c6, .slice a7 r.kids.length c7] 38
    simpa using h1
  have HI : Hid (IsRule r [.string r.name, .int .i64 1, .int .i64 r.size, .bool r.little, .slice a4 r.bytes.length c4, .slice a5 r.names.length c5, .slice a6 r.tags.length c6, .slice a7 r.kids.length c7] w0) := by
    rw [← hk]
    exact ⟨a4, c4, a5, c5, a6, c6, a7, c7, rfl, h4.below hB0, h5.below hB0, h6.below hB0, h7.below hB0⟩
  have HSH := Lib.hid (shape_size r [.string r.name, .int .i64 1, .int .i64 r.size, .bool r.little, .slice a4 r.bytes.length c4, .slice a5 r.names.length c5, .slice a6 r.tags.length c6, .slice a7 r.kids.length c7] 0 w0 HI.out (by omega))
  have HB := Lib.hid hB0
  have HX := Lib.hid hX0
  have HY := Lib.hid hY0
  rw [hk]
  clear h4 h5 h6 h7 hB0 hX0 hY0 hk
  cases hsb : shapeB r true false false false 0 with
  | false =>
    rw [hsb] at HSH hm
    go_enter Try.func54, Try.ntmps54
    go_wp2_with fail
    rw [← hw0]
    clear hw0
    refine HSH.out.mono ?_
    rintro e w1 ⟨rfl, hb⟩
    replace HX := Lib.hid (HX.out.below hb)
    replace HY := Lib.hid (HY.out.below hb)
    replace HB := Lib.hid (HB.out.trans (hb.mono HB.out.size))
    clear hb
    go_wp2
    go_ret
    exact ⟨ret_bool (by rw [hm.out]; rfl), HB.out⟩
  | true =>
    rw [hsb] at HSH
    rw [hsb, Bool.true_and] at hm
    generalize r.size = sz at *
    generalize r.little = lt at *
    by_cases h1 : 1 ≤ sz ∧ sz ≤ 4
    case neg =>
      have hd := decide_eq_false h1
      rw [hd] at hm
      go_enter Try.func54, Try.ntmps54
      go_wp2_with fail
      rw [← hw0]
      clear hw0
      refine HSH.out.mono ?_
      rintro e w1 ⟨rfl, hb⟩
      replace HX := Lib.hid (HX.out.below hb)
      replace HY := Lib.hid (HY.out.below hb)
      replace HB := Lib.hid (HB.out.trans (hb.mono HB.out.size))
      have y2 := (HY.out 2 _ rfl).1
      have y3 := (HY.out 3 _ rfl).1
      clear hb
      go_wp2_with fail
      refine (in_any _ _ _ false _ hd).mono ?_
      rintro e w2 ⟨rfl, rfl⟩
      go_wp2
      go_ret
      exact ⟨ret_bool (by rw [hm.out]; rfl), HB.out⟩
    have hd := decide_eq_true h1
    rw [hd, Bool.true_and] at hm
    cases lt with
    | false =>
      go_enter Try.func54, Try.ntmps54
      go_wp2_with fail
      rw [← hw0]
      clear hw0
      refine HSH.out.mono ?_
      rintro e w1 ⟨rfl, hb⟩
      replace HX := Lib.hid (HX.out.below hb)
      replace HY := Lib.hid (HY.out.below hb)
      replace HB := Lib.hid (HB.out.trans (hb.mono HB.out.size))
      have y2 := (HY.out 2 _ rfl).1
      have y3 := (HY.out 3 _ rfl).1
      clear hb
      go_wp2_with fail
      refine (in_any _ _ _ true _ hd).mono ?_
      rintro e w2 ⟨rfl, rfl⟩
      go_wp2
      go_ret
      exact ⟨ret_bool (by rw [hm.out]; rfl), HB.out⟩
    | true =>
      by_cases h2 : 1 < sz
      · have hd2 := decide_eq_true h2
        rw [hd2] at hm
        go_enter Try.func54, Try.ntmps54
        go_wp2_with fail
        rw [← hw0]
        clear hw0
        refine HSH.out.mono ?_
        rintro e w1 ⟨rfl, hb⟩
        replace HX := Lib.hid (HX.out.below hb)
        replace HY := Lib.hid (HY.out.below hb)
        replace HB := Lib.hid (HB.out.trans (hb.mono HB.out.size))
        have y2 := (HY.out 2 _ rfl).1
        have y3 := (HY.out 3 _ rfl).1
        clear hb
        go_wp2_with fail
        refine (in_any _ _ _ true _ hd).mono ?_
        rintro e w2 ⟨rfl, rfl⟩
        go_wp2
        go_ret
        exact ⟨ret_bool (by rw [hm.out]; rfl), HB.out⟩
      · have hd2 := decide_eq_false h2
        rw [hd2] at hm
        go_enter Try.func54, Try.ntmps54
        go_wp2_with fail
        rw [← hw0]
        clear hw0
        refine HSH.out.mono ?_
        rintro e w1 ⟨rfl, hb⟩
        replace HX := Lib.hid (HX.out.below hb)
        replace HY := Lib.hid (HY.out.below hb)
        replace HB := Lib.hid (HB.out.trans (hb.mono HB.out.size))
        have y2 := (HY.out 2 _ rfl).1
        have y3 := (HY.out 3 _ rfl).1
        clear hb
        go_wp2_with fail
        refine (in_any _ _ _ true _ hd).mono ?_
        rintro e w2 ⟨rfl, rfl⟩
        go_wp2
        go_ret
        exact ⟨ret_bool (by rw [hm.out]; rfl), HB.out⟩
set_option maxRecDepth 100000 in
set_option maxHeartbeats 4000000 in
theorem kinds_2 (hs : Short r) (h : IsRule r cs w) (hk : r.kind = 2) :
    Calls Try.prog 54 #[.agg #[.slice a rs.length cap], .agg cs.toArray] w fun e w' => e = .returned (.bool (kindS rs r)) ∧ Below w.heap.size w w' := by
  have hm : Hid (kindS rs r = (shapeB r false true false false 0 && decide (1 ≤ (r.bytes.length : Int) ∧ (r.bytes.length : Int) ≤ 16))) := by
    show _ = _
    simp [kindS, hk]
  obtain ⟨a4, c4, a5, c5, a6, c6, a7, c7, rfl, h4, h5, h6, h7⟩ := h
  obtain ⟨w0, hw0⟩ : ∃ w0, w0 = (w.alloc (.cells #[.slice a rs.length cap] 29)).alloc (.cells #[.string r.name, .int .i64 2, .int .i64 r.size, .bool r.little, .slice a4 r.bytes.length c4, .slice a5 r.names.length c5, .slice a6 r.tags.length c6, .slice a7 r.kids.length c7] 38) := ⟨_, rfl⟩
  have hB0 : Below w.heap.size w w0 := by subst hw0; exact ((Below.refl _ _).alloc (Nat.le_refl _) _).alloc (by simp) _
  have hX0 : CellsAt w.heap.size [.slice a rs.length cap] w0 := by subst hw0; exact (CellsAt.new w _ _).below ((Below.refl _ _).alloc (Nat.le_refl _) _)
  have hY0 : CellsAt (w.heap.size + 1) [.string r.name, .int .i64 2, .int .i64 r.size, .bool r.little, .slice a4 r.bytes.length c4, .slice a5 r.names.length c5, .slice a6 r.tags.length c6, .slice a7 r.kids.length c7] w0 := by
    subst hw0
    have h1 := CellsAt.new (w.alloc (.cells #[.slice a rs.length cap] 29)) [.string r.name, .int .i64 2, .int .i64 r.size, .bool r.little, .slice a4 r.bytes.length c4, .slice a5 r.names.length c5, .slice a6 r.tags.length c6, .slice a7 r.kids.length c7] 38
    simpa using h1
  have HI : Hid (IsRule r [.string r.name, .int .i64 2, .int .i64 r.size, .bool r.little, .slice a4 r.bytes.length c4, .slice a5 r.names.length c5, .slice a6 r.tags.length c6, .slice a7 r.kids.length c7] w0) := by
    rw [← hk]
    exact ⟨a4, c4, a5, c5, a6, c6, a7, c7, rfl, h4.below hB0, h5.below hB0, h6.below hB0, h7.below hB0⟩
  have HSH := Lib.hid (shape_bytes r [.string r.name, .int .i64 2, .int .i64 r.size, .bool r.little, .slice a4 r.bytes.length c4, .slice a5 r.names.length c5, .slice a6 r.tags.length c6, .slice a7 r.kids.length c7] 0 w0 HI.out (by omega))
  have HB := Lib.hid hB0
  have HX := Lib.hid hX0
  have HY := Lib.hid hY0
  have s4 := hs.1
  rw [hk]
  clear h4 h5 h6 h7 hB0 hX0 hY0 hk
  cases hsb : shapeB r false true false false 0 with
  | false =>
    rw [hsb] at HSH hm
    go_enter Try.func54, Try.ntmps54
    go_wp2_with fail
    rw [← hw0]
    clear hw0
    refine HSH.out.mono ?_
    rintro e w1 ⟨rfl, hb⟩
    replace HX := Lib.hid (HX.out.below hb)
    replace HY := Lib.hid (HY.out.below hb)
    replace HB := Lib.hid (HB.out.trans (hb.mono HB.out.size))
    clear hb
    go_wp2
    go_ret
    exact ⟨ret_bool (by rw [hm.out]; rfl), HB.out⟩
  | true =>
    rw [hsb] at HSH
    rw [hsb, Bool.true_and] at hm
    go_enter Try.func54, Try.ntmps54
    go_wp2_with fail
    rw [← hw0]
    clear hw0
    refine HSH.out.mono ?_
    rintro e w1 ⟨rfl, hb⟩
    replace HX := Lib.hid (HX.out.below hb)
    replace HY := Lib.hid (HY.out.below hb)
    replace HB := Lib.hid (HB.out.trans (hb.mono HB.out.size))
    have y4 := (HY.out 4 _ rfl).1
    clear hb
    go_wp2_with fail
    refine (in_any _ _ _ _ _ hm.out.symm).mono ?_
    rintro e w2 ⟨rfl, rfl⟩
    go_wp2
    go_ret
    exact ⟨rfl, HB.out⟩
set_option maxRecDepth 100000 in
set_option maxHeartbeats 4000000 in
theorem kinds_3 (h : IsRule r cs w) (hk : r.kind = 3) :
    Calls Try.prog 54 #[.agg #[.slice a rs.length cap], .agg cs.toArray] w fun e w' => e = .returned (.bool (kindS rs r)) ∧ Below w.heap.size w w' := by
  have hm : Hid (kindS rs r = (shapeB r true false false false 0 && decide (1 ≤ r.size ∧ r.size ≤ 64))) := by
    show _ = _
    simp [kindS, hk]
  obtain ⟨a4, c4, a5, c5, a6, c6, a7, c7, rfl, h4, h5, h6, h7⟩ := h
  obtain ⟨w0, hw0⟩ : ∃ w0, w0 = (w.alloc (.cells #[.slice a rs.length cap] 29)).alloc (.cells #[.string r.name, .int .i64 3, .int .i64 r.size, .bool r.little, .slice a4 r.bytes.length c4, .slice a5 r.names.length c5, .slice a6 r.tags.length c6, .slice a7 r.kids.length c7] 38) := ⟨_, rfl⟩
  have hB0 : Below w.heap.size w w0 := by subst hw0; exact ((Below.refl _ _).alloc (Nat.le_refl _) _).alloc (by simp) _
  have hX0 : CellsAt w.heap.size [.slice a rs.length cap] w0 := by subst hw0; exact (CellsAt.new w _ _).below ((Below.refl _ _).alloc (Nat.le_refl _) _)
  have hY0 : CellsAt (w.heap.size + 1) [.string r.name, .int .i64 3, .int .i64 r.size, .bool r.little, .slice a4 r.bytes.length c4, .slice a5 r.names.length c5, .slice a6 r.tags.length c6, .slice a7 r.kids.length c7] w0 := by
    subst hw0
    have h1 := CellsAt.new (w.alloc (.cells #[.slice a rs.length cap] 29)) [.string r.name, .int .i64 3, .int .i64 r.size, .bool r.little, .slice a4 r.bytes.length c4, .slice a5 r.names.length c5, .slice a6 r.tags.length c6, .slice a7 r.kids.length c7] 38
    simpa using h1
  have HI : Hid (IsRule r [.string r.name, .int .i64 3, .int .i64 r.size, .bool r.little, .slice a4 r.bytes.length c4, .slice a5 r.names.length c5, .slice a6 r.tags.length c6, .slice a7 r.kids.length c7] w0) := by
    rw [← hk]
    exact ⟨a4, c4, a5, c5, a6, c6, a7, c7, rfl, h4.below hB0, h5.below hB0, h6.below hB0, h7.below hB0⟩
  have HSH := Lib.hid (shape_size r [.string r.name, .int .i64 3, .int .i64 r.size, .bool r.little, .slice a4 r.bytes.length c4, .slice a5 r.names.length c5, .slice a6 r.tags.length c6, .slice a7 r.kids.length c7] 0 w0 HI.out (by omega))
  have HB := Lib.hid hB0
  have HX := Lib.hid hX0
  have HY := Lib.hid hY0
  rw [hk]
  clear h4 h5 h6 h7 hB0 hX0 hY0 hk
  cases hsb : shapeB r true false false false 0 with
  | false =>
    rw [hsb] at HSH hm
    go_enter Try.func54, Try.ntmps54
    go_wp2_with fail
    rw [← hw0]
    clear hw0
    refine HSH.out.mono ?_
    rintro e w1 ⟨rfl, hb⟩
    replace HX := Lib.hid (HX.out.below hb)
    replace HY := Lib.hid (HY.out.below hb)
    replace HB := Lib.hid (HB.out.trans (hb.mono HB.out.size))
    clear hb
    go_wp2
    go_ret
    exact ⟨ret_bool (by rw [hm.out]; rfl), HB.out⟩
  | true =>
    rw [hsb] at HSH
    rw [hsb, Bool.true_and] at hm
    go_enter Try.func54, Try.ntmps54
    go_wp2_with fail
    rw [← hw0]
    clear hw0
    refine HSH.out.mono ?_
    rintro e w1 ⟨rfl, hb⟩
    replace HX := Lib.hid (HX.out.below hb)
    replace HY := Lib.hid (HY.out.below hb)
    replace HB := Lib.hid (HB.out.trans (hb.mono HB.out.size))
    have y2 := (HY.out 2 _ rfl).1
    clear hb
    go_wp2_with fail
    refine (in_any _ _ _ _ _ hm.out.symm).mono ?_
    rintro e w2 ⟨rfl, rfl⟩
    go_wp2
    go_ret
    exact ⟨rfl, HB.out⟩
set_option maxRecDepth 100000 in
set_option maxHeartbeats 4000000 in
theorem kinds_4 (hl : rs.length ≤ 1048576) (hs : Short r) (hrd : RdR a rs w) (h : IsRule r cs w) (hk : r.kind = 4) :
    Calls Try.prog 54 #[.agg #[.slice a rs.length cap], .agg cs.toArray] w fun e w' => e = .returned (.bool (kindS rs r)) ∧ Below w.heap.size w w' := by
  have hm : Hid (kindS rs r = (shapeB r false false false false 1 && decide (0 < limitAt rs (r.kids.headD 0)))) := by
    show _ = _
    simp [kindS, hk]
  obtain ⟨a4, c4, a5, c5, a6, c6, a7, c7, rfl, h4, h5, h6, h7⟩ := h
  obtain ⟨w0, hw0⟩ : ∃ w0, w0 = (w.alloc (.cells #[.slice a rs.length cap] 29)).alloc (.cells #[.string r.name, .int .i64 4, .int .i64 r.size, .bool r.little, .slice a4 r.bytes.length c4, .slice a5 r.names.length c5, .slice a6 r.tags.length c6, .slice a7 r.kids.length c7] 38) := ⟨_, rfl⟩
  have hB0 : Below w.heap.size w w0 := by subst hw0; exact ((Below.refl _ _).alloc (Nat.le_refl _) _).alloc (by simp) _
  have hX0 : CellsAt w.heap.size [.slice a rs.length cap] w0 := by subst hw0; exact (CellsAt.new w _ _).below ((Below.refl _ _).alloc (Nat.le_refl _) _)
  have hY0 : CellsAt (w.heap.size + 1) [.string r.name, .int .i64 4, .int .i64 r.size, .bool r.little, .slice a4 r.bytes.length c4, .slice a5 r.names.length c5, .slice a6 r.tags.length c6, .slice a7 r.kids.length c7] w0 := by
    subst hw0
    have h1 := CellsAt.new (w.alloc (.cells #[.slice a rs.length cap] 29)) [.string r.name, .int .i64 4, .int .i64 r.size, .bool r.little, .slice a4 r.bytes.length c4, .slice a5 r.names.length c5, .slice a6 r.tags.length c6, .slice a7 r.kids.length c7] 38
    simpa using h1
  have HI : Hid (IsRule r [.string r.name, .int .i64 4, .int .i64 r.size, .bool r.little, .slice a4 r.bytes.length c4, .slice a5 r.names.length c5, .slice a6 r.tags.length c6, .slice a7 r.kids.length c7] w0) := by
    rw [← hk]
    exact ⟨a4, c4, a5, c5, a6, c6, a7, c7, rfl, h4.below hB0, h5.below hB0, h6.below hB0, h7.below hB0⟩
  have HSH := Lib.hid (shape_none r [.string r.name, .int .i64 4, .int .i64 r.size, .bool r.little, .slice a4 r.bytes.length c4, .slice a5 r.names.length c5, .slice a6 r.tags.length c6, .slice a7 r.kids.length c7] 1 w0.drew (show IsRule r _ w0.drew from HI.out) (by omega))
  have HB := Lib.hid hB0
  have HX := Lib.hid hX0
  have HY := Lib.hid hY0
  have HR := Lib.hid (hrd.below hB0)
  have H7 := Lib.hid (h7.below hB0)
  have s7 := hs.2.2.2
  have hl2 : rs.length ≤ 1073741824 := by omega
  rw [hk]
  clear h4 h5 h6 h7 hB0 hX0 hY0 hk
  have hls : Hid (shapeB r false false false false 1 = true → r.kids.length = 1) := fun e => by
    simp [shapeB] at e
    omega
  go_enter Try.func54, Try.ntmps54
  go_wp2
  rw [← hw0]
  clear hw0
  cases hsb : shapeB r false false false false 1 with
  | false =>
    rw [hsb] at HSH hm
    replace HX : Hid (CellsAt w.heap.size [.slice a rs.length cap] w0.drew) := HX.out
    replace HY : Hid (CellsAt (w.heap.size + 1) [.string r.name, .int .i64 4, .int .i64 r.size, .bool r.little, .slice a4 r.bytes.length c4, .slice a5 r.names.length c5, .slice a6 r.tags.length c6, .slice a7 r.kids.length c7] w0.drew) := HY.out
    replace HB : Hid (Below w.heap.size w w0.drew) := below_drewN HB.out 1
    replace HR : Hid (RdR a rs w0.drew) := HR.out
    refine wp_region_held_drew (S := (fun W => W.cell? ⟨w.heap.size, 0, none⟩ = some (.slice a rs.length cap) ∧ W.cell? ⟨w.heap.size + 1, 0, none⟩ = some (.string r.name) ∧ W.cell? ⟨w.heap.size + 1, 1, none⟩ = some (.int .i64 4) ∧ W.cell? ⟨w.heap.size + 1, 2, none⟩ = some (.int .i64 r.size) ∧ W.cell? ⟨w.heap.size + 1, 3, none⟩ = some (.bool r.little) ∧ W.cell? ⟨w.heap.size + 1, 4, none⟩ = some (.slice a4 r.bytes.length c4) ∧ W.cell? ⟨w.heap.size + 1, 5, none⟩ = some (.slice a5 r.names.length c5) ∧ W.cell? ⟨w.heap.size + 1, 6, none⟩ = some (.slice a6 r.tags.length c6) ∧ W.cell? ⟨w.heap.size + 1, 7, none⟩ = some (.slice a7 r.kids.length c7))) (by kernel_rfl) ?_ (fun hHeld => ?_)
    · (try dsimp only); exact ⟨(HX.out 0 _ rfl).1, (HY.out 0 _ rfl).1, (HY.out 1 _ rfl).1, (HY.out 2 _ rfl).1, (HY.out 3 _ rfl).1, (HY.out 4 _ rfl).1, (HY.out 5 _ rfl).1, (HY.out 6 _ rfl).1, (HY.out 7 _ rfl).1⟩
    refine wpAnyH_take (i := 0) (v := ?v1) (by simp only [List.getElem?_toArray, List.getElem?_cons_zero]; rfl) (by kernel_rfl) (by kernel_rfl) (by kernel_rfl) (by exact fun _ _ _ h => h) (Or.inl ⟨by rfl, ?hy1⟩) (by assumption) ?rest1
    case hy1 => ((intro W hSw; (try dsimp only at hSw); go_simp); (try with_reducible rfl))
    simp only [Act.put, List.setIfInBounds_toArray, List.set_cons_zero, List.set_cons_succ]
    refine wpAnyH_ready (rs := [1]) (by kernel_rfl) (by simp) ?_
    refine AllReadyH.cons (by simp only [List.getElem?_toArray, List.getElem?_cons_succ, List.getElem?_cons_zero]; rfl) (fun K hK => ?_) AllReadyH.nil
    go_simp
    (go_at_call 74; refine HSH.out.mono ?_; rintro e v ⟨rfl, hb⟩; replace HX := Lib.hid (HX.out.below hb); replace HY := Lib.hid (HY.out.below hb); replace HB := Lib.hid (HB.out.trans (hb.mono HB.out.size)); replace HR := Lib.hid (HR.out.below hb); clear hb)
    go_wp2_with fail
    refine hK.out _ _ ?_ (fun hHeld => ?_)
    · (try dsimp only); exact ⟨(HX.out 0 _ rfl).1, (HY.out 0 _ rfl).1, (HY.out 1 _ rfl).1, (HY.out 2 _ rfl).1, (HY.out 3 _ rfl).1, (HY.out 4 _ rfl).1, (HY.out 5 _ rfl).1, (HY.out 6 _ rfl).1, (HY.out 7 _ rfl).1⟩
    clear hK K
    refine wpAnyH_take (i := 2) (v := ?v2) (by simp only [List.getElem?_toArray, List.getElem?_cons_succ, List.getElem?_cons_zero]; rfl) (by kernel_rfl) (by kernel_rfl) (by kernel_rfl) (by exact fun _ _ _ h => h) (Or.inl ⟨by rfl, ?hy2⟩) (by assumption) ?rest2
    case hy2 => ((intro W hSw; (try dsimp only at hSw); go_simp); (try with_reducible rfl))
    simp only [Act.put, List.setIfInBounds_toArray, List.set_cons_zero, List.set_cons_succ]
    refine wpAnyH_take (i := 3) (v := undef) (by simp only [List.getElem?_toArray, List.getElem?_cons_succ, List.getElem?_cons_zero]; rfl) (by kernel_rfl) (by kernel_rfl) (by kernel_rfl) (by exact fun _ _ _ h => h) (Or.inr ⟨by rfl, rfl⟩) (by assumption) ?_
    simp only [Act.put, List.setIfInBounds_toArray, List.set_cons_zero, List.set_cons_succ]
    refine wpAnyH_take (i := 4) (v := undef) (by simp only [List.getElem?_toArray, List.getElem?_cons_succ, List.getElem?_cons_zero]; rfl) (by kernel_rfl) (by kernel_rfl) (by kernel_rfl) (by exact fun _ _ _ h => h) (Or.inr ⟨by rfl, rfl⟩) (by assumption) ?_
    simp only [Act.put, List.setIfInBounds_toArray, List.set_cons_zero, List.set_cons_succ]
    refine wpAnyH_take (i := 5) (v := undef) (by simp only [List.getElem?_toArray, List.getElem?_cons_succ, List.getElem?_cons_zero]; rfl) (by kernel_rfl) (by kernel_rfl) (by kernel_rfl) (by exact fun _ _ _ h => h) (Or.inr ⟨by rfl, rfl⟩) (by assumption) ?_
    simp only [Act.put, List.setIfInBounds_toArray, List.set_cons_zero, List.set_cons_succ]
    refine wpAnyH_take (i := 6) (v := undef) (by simp only [List.getElem?_toArray, List.getElem?_cons_succ, List.getElem?_cons_zero]; rfl) (by kernel_rfl) (by kernel_rfl) (by kernel_rfl) (by exact fun _ _ _ h => h) (Or.inr ⟨by rfl, rfl⟩) (by assumption) ?_
    simp only [Act.put, List.setIfInBounds_toArray, List.set_cons_zero, List.set_cons_succ]
    refine wpAnyH_take (i := 7) (v := undef) (by simp only [List.getElem?_toArray, List.getElem?_cons_succ, List.getElem?_cons_zero]; rfl) (by kernel_rfl) (by kernel_rfl) (by kernel_rfl) (by exact fun _ _ _ h => h) (Or.inr ⟨by rfl, rfl⟩) (by assumption) ?_
    simp only [Act.put, List.setIfInBounds_toArray, List.set_cons_zero, List.set_cons_succ]
    refine wpAnyH_take (i := 8) (v := undef) (by simp only [List.getElem?_toArray, List.getElem?_cons_succ, List.getElem?_cons_zero]; rfl) (by kernel_rfl) (by kernel_rfl) (by kernel_rfl) (by exact fun _ _ _ h => h) (Or.inr ⟨by rfl, rfl⟩) (by assumption) ?_
    simp only [Act.put, List.setIfInBounds_toArray, List.set_cons_zero, List.set_cons_succ]
    refine wpAnyH_take (i := 9) (v := undef) (by simp only [List.getElem?_toArray, List.getElem?_cons_succ, List.getElem?_cons_zero]; rfl) (by kernel_rfl) (by kernel_rfl) (by kernel_rfl) (by exact fun _ _ _ h => h) (Or.inr ⟨by rfl, rfl⟩) (by assumption) ?_
    simp only [Act.put, List.setIfInBounds_toArray, List.set_cons_zero, List.set_cons_succ]
    refine wpAnyH_take (i := 10) (v := ?v3) (by simp only [List.getElem?_toArray, List.getElem?_cons_succ, List.getElem?_cons_zero]; rfl) (by kernel_rfl) (by kernel_rfl) (by kernel_rfl) (by exact fun _ _ _ h => h) (Or.inl ⟨by rfl, ?hy3⟩) (by assumption) ?rest3
    case hy3 => ((intro W hSw; (try dsimp only at hSw); go_simp); (try with_reducible rfl))
    simp only [Act.put, List.setIfInBounds_toArray, List.set_cons_zero, List.set_cons_succ]
    refine wpAnyH_ready (rs := [11]) (by kernel_rfl) (by simp) ?_
    refine AllReadyH.cons (by simp only [List.getElem?_toArray, List.getElem?_cons_succ, List.getElem?_cons_zero]; rfl) (fun K hK => ?_) AllReadyH.nil
    go_simp
    refine hK.out _ _ ?_ (fun hHeld => ?_)
    · (try dsimp only); exact ⟨(HX.out 0 _ rfl).1, (HY.out 0 _ rfl).1, (HY.out 1 _ rfl).1, (HY.out 2 _ rfl).1, (HY.out 3 _ rfl).1, (HY.out 4 _ rfl).1, (HY.out 5 _ rfl).1, (HY.out 6 _ rfl).1, (HY.out 7 _ rfl).1⟩
    clear hK K
    refine wpAnyH_done (by kernel_rfl) ?_ _
    go_wp2
    go_ret
    exact ⟨ret_bool (by rw [hm.out]; rfl), HB.out⟩
  | true =>
    rw [hsb] at HSH
    rw [hsb, Bool.true_and] at hm
    have hkl := hls.out hsb
    have hk0 : 0 < r.kids.length := by omega
    rw [headD_at hk0] at hm
    obtain ⟨b7, o7, ha7, hc7⟩ := H7.out 0 hk0
    subst ha7
    have HC7 : Hid (w0.drew.cell? ⟨b7, o7, none⟩ = some (.int .i64 r.kids[0])) := hc7
    clear hc7 hsb
    generalize r.kids[0] = kid at HC7 hm
    have k7 : (0 : Int) < (r.kids.length : Int) := by omega
    clear hkl
    replace HX : Hid (CellsAt w.heap.size [.slice a rs.length cap] w0.drew) := HX.out
    replace HY : Hid (CellsAt (w.heap.size + 1) [.string r.name, .int .i64 4, .int .i64 r.size, .bool r.little, .slice a4 r.bytes.length c4, .slice a5 r.names.length c5, .slice a6 r.tags.length c6, .slice (some ⟨b7, o7, none⟩) r.kids.length c7] w0.drew) := HY.out
    replace HB : Hid (Below w.heap.size w w0.drew) := below_drewN HB.out 1
    replace HR : Hid (RdR a rs w0.drew) := HR.out
    generalize hlm : limitAt rs kid = lim at hm
    by_cases hpos : 0 < lim
    · have hd := decide_eq_true hpos
      rw [hd] at hm
      go_region_held3 (fun W => W.cell? ⟨w.heap.size, 0, none⟩ = some (.slice a rs.length cap) ∧ W.cell? ⟨w.heap.size + 1, 0, none⟩ = some (.string r.name) ∧ W.cell? ⟨w.heap.size + 1, 1, none⟩ = some (.int .i64 4) ∧ W.cell? ⟨w.heap.size + 1, 2, none⟩ = some (.int .i64 r.size) ∧ W.cell? ⟨w.heap.size + 1, 3, none⟩ = some (.bool r.little) ∧ W.cell? ⟨w.heap.size + 1, 4, none⟩ = some (.slice a4 r.bytes.length c4) ∧ W.cell? ⟨w.heap.size + 1, 5, none⟩ = some (.slice a5 r.names.length c5) ∧ W.cell? ⟨w.heap.size + 1, 6, none⟩ = some (.slice a6 r.tags.length c6) ∧ W.cell? ⟨w.heap.size + 1, 7, none⟩ = some (.slice (some ⟨b7, o7, none⟩) r.kids.length c7) ∧ W.cell? ⟨b7, o7, none⟩ = some (.int .i64 kid)) (exact ⟨(HX.out 0 _ rfl).1, (HY.out 0 _ rfl).1, (HY.out 1 _ rfl).1, (HY.out 2 _ rfl).1, (HY.out 3 _ rfl).1, (HY.out 4 _ rfl).1, (HY.out 5 _ rfl).1, (HY.out 6 _ rfl).1, (HY.out 7 _ rfl).1, HC7.out⟩) (first | (go_at_call 74; refine HSH.out.mono ?_; rintro e v ⟨rfl, hb⟩; replace HX := Lib.hid (HX.out.below hb); replace HY := Lib.hid (HY.out.below hb); replace HB := Lib.hid (HB.out.trans (hb.mono HB.out.size)); replace HR := Lib.hid (HR.out.below hb); replace HC7 := Lib.hid ((hb.cell (cell_lt HC7.out)).trans HC7.out); clear hb) | (go_at_call 34; refine (limit_spec a rs cap kid _ hl2 HR.out).mono ?_; rintro e v ⟨rfl, hb⟩; rw [hlm]; replace HX := Lib.hid (HX.out.below hb); replace HY := Lib.hid (HY.out.below hb); replace HB := Lib.hid (HB.out.trans (hb.mono HB.out.size)); replace HC7 := Lib.hid ((hb.cell (cell_lt HC7.out)).trans HC7.out); clear hb))
      all_goals (go_wp2; go_ret; exact ⟨ret_bool (by rw [hm.out]), HB.out⟩)
    · have hd := decide_eq_false hpos
      rw [hd] at hm
      go_region_held3 (fun W => W.cell? ⟨w.heap.size, 0, none⟩ = some (.slice a rs.length cap) ∧ W.cell? ⟨w.heap.size + 1, 0, none⟩ = some (.string r.name) ∧ W.cell? ⟨w.heap.size + 1, 1, none⟩ = some (.int .i64 4) ∧ W.cell? ⟨w.heap.size + 1, 2, none⟩ = some (.int .i64 r.size) ∧ W.cell? ⟨w.heap.size + 1, 3, none⟩ = some (.bool r.little) ∧ W.cell? ⟨w.heap.size + 1, 4, none⟩ = some (.slice a4 r.bytes.length c4) ∧ W.cell? ⟨w.heap.size + 1, 5, none⟩ = some (.slice a5 r.names.length c5) ∧ W.cell? ⟨w.heap.size + 1, 6, none⟩ = some (.slice a6 r.tags.length c6) ∧ W.cell? ⟨w.heap.size + 1, 7, none⟩ = some (.slice (some ⟨b7, o7, none⟩) r.kids.length c7) ∧ W.cell? ⟨b7, o7, none⟩ = some (.int .i64 kid)) (exact ⟨(HX.out 0 _ rfl).1, (HY.out 0 _ rfl).1, (HY.out 1 _ rfl).1, (HY.out 2 _ rfl).1, (HY.out 3 _ rfl).1, (HY.out 4 _ rfl).1, (HY.out 5 _ rfl).1, (HY.out 6 _ rfl).1, (HY.out 7 _ rfl).1, HC7.out⟩) (first | (go_at_call 74; refine HSH.out.mono ?_; rintro e v ⟨rfl, hb⟩; replace HX := Lib.hid (HX.out.below hb); replace HY := Lib.hid (HY.out.below hb); replace HB := Lib.hid (HB.out.trans (hb.mono HB.out.size)); replace HR := Lib.hid (HR.out.below hb); replace HC7 := Lib.hid ((hb.cell (cell_lt HC7.out)).trans HC7.out); clear hb) | (go_at_call 34; refine (limit_spec a rs cap kid _ hl2 HR.out).mono ?_; rintro e v ⟨rfl, hb⟩; rw [hlm]; replace HX := Lib.hid (HX.out.below hb); replace HY := Lib.hid (HY.out.below hb); replace HB := Lib.hid (HB.out.trans (hb.mono HB.out.size)); replace HC7 := Lib.hid ((hb.cell (cell_lt HC7.out)).trans HC7.out); clear hb))
      all_goals (go_wp2; go_ret; exact ⟨ret_bool (by rw [hm.out]), HB.out⟩)
set_option maxRecDepth 100000 in
set_option maxHeartbeats 4000000 in
theorem kinds_5 (hl : rs.length ≤ 1048576) (hs : Short r) (hrd : RdR a rs w) (h : IsRule r cs w) (hk : r.kind = 5) :
    Calls Try.prog 54 #[.agg #[.slice a rs.length cap], .agg cs.toArray] w fun e w' => e = .returned (.bool (kindS rs r)) ∧ Below w.heap.size w w' := by
  have hm : Hid (kindS rs r = (shapeB r false false false false 2 && decide (0 < limitAt rs (r.kids.headD 0)))) := by
    show _ = _
    simp [kindS, hk]
  obtain ⟨a4, c4, a5, c5, a6, c6, a7, c7, rfl, h4, h5, h6, h7⟩ := h
  obtain ⟨w0, hw0⟩ : ∃ w0, w0 = (w.alloc (.cells #[.slice a rs.length cap] 29)).alloc (.cells #[.string r.name, .int .i64 5, .int .i64 r.size, .bool r.little, .slice a4 r.bytes.length c4, .slice a5 r.names.length c5, .slice a6 r.tags.length c6, .slice a7 r.kids.length c7] 38) := ⟨_, rfl⟩
  have hB0 : Below w.heap.size w w0 := by subst hw0; exact ((Below.refl _ _).alloc (Nat.le_refl _) _).alloc (by simp) _
  have hX0 : CellsAt w.heap.size [.slice a rs.length cap] w0 := by subst hw0; exact (CellsAt.new w _ _).below ((Below.refl _ _).alloc (Nat.le_refl _) _)
  have hY0 : CellsAt (w.heap.size + 1) [.string r.name, .int .i64 5, .int .i64 r.size, .bool r.little, .slice a4 r.bytes.length c4, .slice a5 r.names.length c5, .slice a6 r.tags.length c6, .slice a7 r.kids.length c7] w0 := by
    subst hw0
    have h1 := CellsAt.new (w.alloc (.cells #[.slice a rs.length cap] 29)) [.string r.name, .int .i64 5, .int .i64 r.size, .bool r.little, .slice a4 r.bytes.length c4, .slice a5 r.names.length c5, .slice a6 r.tags.length c6, .slice a7 r.kids.length c7] 38
    simpa using h1
  have HI : Hid (IsRule r [.string r.name, .int .i64 5, .int .i64 r.size, .bool r.little, .slice a4 r.bytes.length c4, .slice a5 r.names.length c5, .slice a6 r.tags.length c6, .slice a7 r.kids.length c7] w0) := by
    rw [← hk]
    exact ⟨a4, c4, a5, c5, a6, c6, a7, c7, rfl, h4.below hB0, h5.below hB0, h6.below hB0, h7.below hB0⟩
  have HSH := Lib.hid (shape_none r [.string r.name, .int .i64 5, .int .i64 r.size, .bool r.little, .slice a4 r.bytes.length c4, .slice a5 r.names.length c5, .slice a6 r.tags.length c6, .slice a7 r.kids.length c7] 2 w0.drew (show IsRule r _ w0.drew from HI.out) (by omega))
  have HB := Lib.hid hB0
  have HX := Lib.hid hX0
  have HY := Lib.hid hY0
  have HR := Lib.hid (hrd.below hB0)
  have H7 := Lib.hid (h7.below hB0)
  have s7 := hs.2.2.2
  have hl2 : rs.length ≤ 1073741824 := by omega
  rw [hk]
  clear h4 h5 h6 h7 hB0 hX0 hY0 hk
  have hls : Hid (shapeB r false false false false 2 = true → r.kids.length = 2) := fun e => by
    simp [shapeB] at e
    omega
  go_enter Try.func54, Try.ntmps54
  go_wp2
  rw [← hw0]
  clear hw0
  cases hsb : shapeB r false false false false 2 with
  | false =>
    rw [hsb] at HSH hm
    replace HX : Hid (CellsAt w.heap.size [.slice a rs.length cap] w0.drew) := HX.out
    replace HY : Hid (CellsAt (w.heap.size + 1) [.string r.name, .int .i64 5, .int .i64 r.size, .bool r.little, .slice a4 r.bytes.length c4, .slice a5 r.names.length c5, .slice a6 r.tags.length c6, .slice a7 r.kids.length c7] w0.drew) := HY.out
    replace HB : Hid (Below w.heap.size w w0.drew) := below_drewN HB.out 1
    replace HR : Hid (RdR a rs w0.drew) := HR.out
    refine wp_region_held_drew (S := (fun W => W.cell? ⟨w.heap.size, 0, none⟩ = some (.slice a rs.length cap) ∧ W.cell? ⟨w.heap.size + 1, 0, none⟩ = some (.string r.name) ∧ W.cell? ⟨w.heap.size + 1, 1, none⟩ = some (.int .i64 5) ∧ W.cell? ⟨w.heap.size + 1, 2, none⟩ = some (.int .i64 r.size) ∧ W.cell? ⟨w.heap.size + 1, 3, none⟩ = some (.bool r.little) ∧ W.cell? ⟨w.heap.size + 1, 4, none⟩ = some (.slice a4 r.bytes.length c4) ∧ W.cell? ⟨w.heap.size + 1, 5, none⟩ = some (.slice a5 r.names.length c5) ∧ W.cell? ⟨w.heap.size + 1, 6, none⟩ = some (.slice a6 r.tags.length c6) ∧ W.cell? ⟨w.heap.size + 1, 7, none⟩ = some (.slice a7 r.kids.length c7))) (by kernel_rfl) ?_ (fun hHeld => ?_)
    · (try dsimp only); exact ⟨(HX.out 0 _ rfl).1, (HY.out 0 _ rfl).1, (HY.out 1 _ rfl).1, (HY.out 2 _ rfl).1, (HY.out 3 _ rfl).1, (HY.out 4 _ rfl).1, (HY.out 5 _ rfl).1, (HY.out 6 _ rfl).1, (HY.out 7 _ rfl).1⟩
    refine wpAnyH_take (i := 0) (v := ?v4) (by simp only [List.getElem?_toArray, List.getElem?_cons_zero]; rfl) (by kernel_rfl) (by kernel_rfl) (by kernel_rfl) (by exact fun _ _ _ h => h) (Or.inl ⟨by rfl, ?hy4⟩) (by assumption) ?rest4
    case hy4 => ((intro W hSw; (try dsimp only at hSw); go_simp); (try with_reducible rfl))
    simp only [Act.put, List.setIfInBounds_toArray, List.set_cons_zero, List.set_cons_succ]
    refine wpAnyH_ready (rs := [1]) (by kernel_rfl) (by simp) ?_
    refine AllReadyH.cons (by simp only [List.getElem?_toArray, List.getElem?_cons_succ, List.getElem?_cons_zero]; rfl) (fun K hK => ?_) AllReadyH.nil
    go_simp
    (go_at_call 74; refine HSH.out.mono ?_; rintro e v ⟨rfl, hb⟩; replace HX := Lib.hid (HX.out.below hb); replace HY := Lib.hid (HY.out.below hb); replace HB := Lib.hid (HB.out.trans (hb.mono HB.out.size)); replace HR := Lib.hid (HR.out.below hb); clear hb)
    go_wp2_with fail
    refine hK.out _ _ ?_ (fun hHeld => ?_)
    · (try dsimp only); exact ⟨(HX.out 0 _ rfl).1, (HY.out 0 _ rfl).1, (HY.out 1 _ rfl).1, (HY.out 2 _ rfl).1, (HY.out 3 _ rfl).1, (HY.out 4 _ rfl).1, (HY.out 5 _ rfl).1, (HY.out 6 _ rfl).1, (HY.out 7 _ rfl).1⟩
    clear hK K
    refine wpAnyH_take (i := 2) (v := ?v5) (by simp only [List.getElem?_toArray, List.getElem?_cons_succ, List.getElem?_cons_zero]; rfl) (by kernel_rfl) (by kernel_rfl) (by kernel_rfl) (by exact fun _ _ _ h => h) (Or.inl ⟨by rfl, ?hy5⟩) (by assumption) ?rest5
    case hy5 => ((intro W hSw; (try dsimp only at hSw); go_simp); (try with_reducible rfl))
    simp only [Act.put, List.setIfInBounds_toArray, List.set_cons_zero, List.set_cons_succ]
    refine wpAnyH_take (i := 3) (v := undef) (by simp only [List.getElem?_toArray, List.getElem?_cons_succ, List.getElem?_cons_zero]; rfl) (by kernel_rfl) (by kernel_rfl) (by kernel_rfl) (by exact fun _ _ _ h => h) (Or.inr ⟨by rfl, rfl⟩) (by assumption) ?_
    simp only [Act.put, List.setIfInBounds_toArray, List.set_cons_zero, List.set_cons_succ]
    refine wpAnyH_take (i := 4) (v := undef) (by simp only [List.getElem?_toArray, List.getElem?_cons_succ, List.getElem?_cons_zero]; rfl) (by kernel_rfl) (by kernel_rfl) (by kernel_rfl) (by exact fun _ _ _ h => h) (Or.inr ⟨by rfl, rfl⟩) (by assumption) ?_
    simp only [Act.put, List.setIfInBounds_toArray, List.set_cons_zero, List.set_cons_succ]
    refine wpAnyH_take (i := 5) (v := undef) (by simp only [List.getElem?_toArray, List.getElem?_cons_succ, List.getElem?_cons_zero]; rfl) (by kernel_rfl) (by kernel_rfl) (by kernel_rfl) (by exact fun _ _ _ h => h) (Or.inr ⟨by rfl, rfl⟩) (by assumption) ?_
    simp only [Act.put, List.setIfInBounds_toArray, List.set_cons_zero, List.set_cons_succ]
    refine wpAnyH_take (i := 6) (v := undef) (by simp only [List.getElem?_toArray, List.getElem?_cons_succ, List.getElem?_cons_zero]; rfl) (by kernel_rfl) (by kernel_rfl) (by kernel_rfl) (by exact fun _ _ _ h => h) (Or.inr ⟨by rfl, rfl⟩) (by assumption) ?_
    simp only [Act.put, List.setIfInBounds_toArray, List.set_cons_zero, List.set_cons_succ]
    refine wpAnyH_take (i := 7) (v := undef) (by simp only [List.getElem?_toArray, List.getElem?_cons_succ, List.getElem?_cons_zero]; rfl) (by kernel_rfl) (by kernel_rfl) (by kernel_rfl) (by exact fun _ _ _ h => h) (Or.inr ⟨by rfl, rfl⟩) (by assumption) ?_
    simp only [Act.put, List.setIfInBounds_toArray, List.set_cons_zero, List.set_cons_succ]
    refine wpAnyH_take (i := 8) (v := undef) (by simp only [List.getElem?_toArray, List.getElem?_cons_succ, List.getElem?_cons_zero]; rfl) (by kernel_rfl) (by kernel_rfl) (by kernel_rfl) (by exact fun _ _ _ h => h) (Or.inr ⟨by rfl, rfl⟩) (by assumption) ?_
    simp only [Act.put, List.setIfInBounds_toArray, List.set_cons_zero, List.set_cons_succ]
    refine wpAnyH_take (i := 9) (v := undef) (by simp only [List.getElem?_toArray, List.getElem?_cons_succ, List.getElem?_cons_zero]; rfl) (by kernel_rfl) (by kernel_rfl) (by kernel_rfl) (by exact fun _ _ _ h => h) (Or.inr ⟨by rfl, rfl⟩) (by assumption) ?_
    simp only [Act.put, List.setIfInBounds_toArray, List.set_cons_zero, List.set_cons_succ]
    refine wpAnyH_take (i := 10) (v := ?v6) (by simp only [List.getElem?_toArray, List.getElem?_cons_succ, List.getElem?_cons_zero]; rfl) (by kernel_rfl) (by kernel_rfl) (by kernel_rfl) (by exact fun _ _ _ h => h) (Or.inl ⟨by rfl, ?hy6⟩) (by assumption) ?rest6
    case hy6 => ((intro W hSw; (try dsimp only at hSw); go_simp); (try with_reducible rfl))
    simp only [Act.put, List.setIfInBounds_toArray, List.set_cons_zero, List.set_cons_succ]
    refine wpAnyH_ready (rs := [11]) (by kernel_rfl) (by simp) ?_
    refine AllReadyH.cons (by simp only [List.getElem?_toArray, List.getElem?_cons_succ, List.getElem?_cons_zero]; rfl) (fun K hK => ?_) AllReadyH.nil
    go_simp
    refine hK.out _ _ ?_ (fun hHeld => ?_)
    · (try dsimp only); exact ⟨(HX.out 0 _ rfl).1, (HY.out 0 _ rfl).1, (HY.out 1 _ rfl).1, (HY.out 2 _ rfl).1, (HY.out 3 _ rfl).1, (HY.out 4 _ rfl).1, (HY.out 5 _ rfl).1, (HY.out 6 _ rfl).1, (HY.out 7 _ rfl).1⟩
    clear hK K
    refine wpAnyH_done (by kernel_rfl) ?_ _
    go_wp2
    go_ret
    exact ⟨ret_bool (by rw [hm.out]; rfl), HB.out⟩
  | true =>
    rw [hsb] at HSH
    rw [hsb, Bool.true_and] at hm
    have hkl := hls.out hsb
    have hk0 : 0 < r.kids.length := by omega
    rw [headD_at hk0] at hm
    obtain ⟨b7, o7, ha7, hc7⟩ := H7.out 0 hk0
    subst ha7
    have HC7 : Hid (w0.drew.cell? ⟨b7, o7, none⟩ = some (.int .i64 r.kids[0])) := hc7
    clear hc7 hsb
    generalize r.kids[0] = kid at HC7 hm
    have k7 : (0 : Int) < (r.kids.length : Int) := by omega
    clear hkl
    replace HX : Hid (CellsAt w.heap.size [.slice a rs.length cap] w0.drew) := HX.out
    replace HY : Hid (CellsAt (w.heap.size + 1) [.string r.name, .int .i64 5, .int .i64 r.size, .bool r.little, .slice a4 r.bytes.length c4, .slice a5 r.names.length c5, .slice a6 r.tags.length c6, .slice (some ⟨b7, o7, none⟩) r.kids.length c7] w0.drew) := HY.out
    replace HB : Hid (Below w.heap.size w w0.drew) := below_drewN HB.out 1
    replace HR : Hid (RdR a rs w0.drew) := HR.out
    generalize hlm : limitAt rs kid = lim at hm
    by_cases hpos : 0 < lim
    · have hd := decide_eq_true hpos
      rw [hd] at hm
      go_region_held3 (fun W => W.cell? ⟨w.heap.size, 0, none⟩ = some (.slice a rs.length cap) ∧ W.cell? ⟨w.heap.size + 1, 0, none⟩ = some (.string r.name) ∧ W.cell? ⟨w.heap.size + 1, 1, none⟩ = some (.int .i64 5) ∧ W.cell? ⟨w.heap.size + 1, 2, none⟩ = some (.int .i64 r.size) ∧ W.cell? ⟨w.heap.size + 1, 3, none⟩ = some (.bool r.little) ∧ W.cell? ⟨w.heap.size + 1, 4, none⟩ = some (.slice a4 r.bytes.length c4) ∧ W.cell? ⟨w.heap.size + 1, 5, none⟩ = some (.slice a5 r.names.length c5) ∧ W.cell? ⟨w.heap.size + 1, 6, none⟩ = some (.slice a6 r.tags.length c6) ∧ W.cell? ⟨w.heap.size + 1, 7, none⟩ = some (.slice (some ⟨b7, o7, none⟩) r.kids.length c7) ∧ W.cell? ⟨b7, o7, none⟩ = some (.int .i64 kid)) (exact ⟨(HX.out 0 _ rfl).1, (HY.out 0 _ rfl).1, (HY.out 1 _ rfl).1, (HY.out 2 _ rfl).1, (HY.out 3 _ rfl).1, (HY.out 4 _ rfl).1, (HY.out 5 _ rfl).1, (HY.out 6 _ rfl).1, (HY.out 7 _ rfl).1, HC7.out⟩) (first | (go_at_call 74; refine HSH.out.mono ?_; rintro e v ⟨rfl, hb⟩; replace HX := Lib.hid (HX.out.below hb); replace HY := Lib.hid (HY.out.below hb); replace HB := Lib.hid (HB.out.trans (hb.mono HB.out.size)); replace HR := Lib.hid (HR.out.below hb); replace HC7 := Lib.hid ((hb.cell (cell_lt HC7.out)).trans HC7.out); clear hb) | (go_at_call 34; refine (limit_spec a rs cap kid _ hl2 HR.out).mono ?_; rintro e v ⟨rfl, hb⟩; rw [hlm]; replace HX := Lib.hid (HX.out.below hb); replace HY := Lib.hid (HY.out.below hb); replace HB := Lib.hid (HB.out.trans (hb.mono HB.out.size)); replace HC7 := Lib.hid ((hb.cell (cell_lt HC7.out)).trans HC7.out); clear hb))
      all_goals (go_wp2; go_ret; exact ⟨ret_bool (by rw [hm.out]), HB.out⟩)
    · have hd := decide_eq_false hpos
      rw [hd] at hm
      go_region_held3 (fun W => W.cell? ⟨w.heap.size, 0, none⟩ = some (.slice a rs.length cap) ∧ W.cell? ⟨w.heap.size + 1, 0, none⟩ = some (.string r.name) ∧ W.cell? ⟨w.heap.size + 1, 1, none⟩ = some (.int .i64 5) ∧ W.cell? ⟨w.heap.size + 1, 2, none⟩ = some (.int .i64 r.size) ∧ W.cell? ⟨w.heap.size + 1, 3, none⟩ = some (.bool r.little) ∧ W.cell? ⟨w.heap.size + 1, 4, none⟩ = some (.slice a4 r.bytes.length c4) ∧ W.cell? ⟨w.heap.size + 1, 5, none⟩ = some (.slice a5 r.names.length c5) ∧ W.cell? ⟨w.heap.size + 1, 6, none⟩ = some (.slice a6 r.tags.length c6) ∧ W.cell? ⟨w.heap.size + 1, 7, none⟩ = some (.slice (some ⟨b7, o7, none⟩) r.kids.length c7) ∧ W.cell? ⟨b7, o7, none⟩ = some (.int .i64 kid)) (exact ⟨(HX.out 0 _ rfl).1, (HY.out 0 _ rfl).1, (HY.out 1 _ rfl).1, (HY.out 2 _ rfl).1, (HY.out 3 _ rfl).1, (HY.out 4 _ rfl).1, (HY.out 5 _ rfl).1, (HY.out 6 _ rfl).1, (HY.out 7 _ rfl).1, HC7.out⟩) (first | (go_at_call 74; refine HSH.out.mono ?_; rintro e v ⟨rfl, hb⟩; replace HX := Lib.hid (HX.out.below hb); replace HY := Lib.hid (HY.out.below hb); replace HB := Lib.hid (HB.out.trans (hb.mono HB.out.size)); replace HR := Lib.hid (HR.out.below hb); replace HC7 := Lib.hid ((hb.cell (cell_lt HC7.out)).trans HC7.out); clear hb) | (go_at_call 34; refine (limit_spec a rs cap kid _ hl2 HR.out).mono ?_; rintro e v ⟨rfl, hb⟩; rw [hlm]; replace HX := Lib.hid (HX.out.below hb); replace HY := Lib.hid (HY.out.below hb); replace HB := Lib.hid (HB.out.trans (hb.mono HB.out.size)); replace HC7 := Lib.hid ((hb.cell (cell_lt HC7.out)).trans HC7.out); clear hb))
      all_goals (go_wp2; go_ret; exact ⟨ret_bool (by rw [hm.out]), HB.out⟩)
set_option maxRecDepth 100000 in
set_option maxHeartbeats 4000000 in
theorem kinds_6 (hs : Short r) (hp : Spelt r) (hcap : Cap5 cs) (h : IsRule r cs w) (hk : r.kind = 6) :
    Calls Try.prog 54 #[.agg #[.slice a rs.length cap], .agg cs.toArray] w fun e w' => e = .returned (.bool (kindS rs r)) ∧ Below w.heap.size w w' := by
  have hm : Hid (kindS rs r = (shapeB r false false true false (r.names.length : Int) && namesB r.names)) := by
    show _ = _
    simp [kindS, hk]
  obtain ⟨a4, c4, a5, c5, a6, c6, a7, c7, rfl, h4, h5, h6, h7⟩ := h
  obtain ⟨w0, hw0⟩ : ∃ w0, w0 = (w.alloc (.cells #[.slice a rs.length cap] 29)).alloc (.cells #[.string r.name, .int .i64 6, .int .i64 r.size, .bool r.little, .slice a4 r.bytes.length c4, .slice a5 r.names.length c5, .slice a6 r.tags.length c6, .slice a7 r.kids.length c7] 38) := ⟨_, rfl⟩
  have hB0 : Below w.heap.size w w0 := by subst hw0; exact ((Below.refl _ _).alloc (Nat.le_refl _) _).alloc (by simp) _
  have hX0 : CellsAt w.heap.size [.slice a rs.length cap] w0 := by subst hw0; exact (CellsAt.new w _ _).below ((Below.refl _ _).alloc (Nat.le_refl _) _)
  have hY0 : CellsAt (w.heap.size + 1) [.string r.name, .int .i64 6, .int .i64 r.size, .bool r.little, .slice a4 r.bytes.length c4, .slice a5 r.names.length c5, .slice a6 r.tags.length c6, .slice a7 r.kids.length c7] w0 := by
    subst hw0
    have h1 := CellsAt.new (w.alloc (.cells #[.slice a rs.length cap] 29)) [.string r.name, .int .i64 6, .int .i64 r.size, .bool r.little, .slice a4 r.bytes.length c4, .slice a5 r.names.length c5, .slice a6 r.tags.length c6, .slice a7 r.kids.length c7] 38
    simpa using h1
  have HI : Hid (IsRule r [.string r.name, .int .i64 6, .int .i64 r.size, .bool r.little, .slice a4 r.bytes.length c4, .slice a5 r.names.length c5, .slice a6 r.tags.length c6, .slice a7 r.kids.length c7] w0) := by
    rw [← hk]
    exact ⟨a4, c4, a5, c5, a6, c6, a7, c7, rfl, h4.below hB0, h5.below hB0, h6.below hB0, h7.below hB0⟩
  have HSH := Lib.hid (shape_names r [.string r.name, .int .i64 6, .int .i64 r.size, .bool r.little, .slice a4 r.bytes.length c4, .slice a5 r.names.length c5, .slice a6 r.tags.length c6, .slice a7 r.kids.length c7] (r.names.length : Int) w0 HI.out (by omega))
  have HB := Lib.hid hB0
  have HX := Lib.hid hX0
  have HY := Lib.hid hY0
  have s5 := hs.2.1
  have HP := Lib.hid hp.2
  have hc5 : r.names.length ≤ c5 := hcap a5 _ c5 rfl
  have H5 := Lib.hid (h5.below hB0)
  rw [hk]
  clear h4 h5 h6 h7 hB0 hX0 hY0 hk
  clear hs hp hcap HI
  cases hsb : shapeB r false false true false (r.names.length : Int) with
  | false =>
    rw [hsb] at HSH hm
    go_enter Try.func54, Try.ntmps54
    go_wp2_with fail
    rw [← hw0]
    clear hw0
    refine HSH.out.mono ?_
    rintro e w1 ⟨rfl, hb⟩
    replace HX := Lib.hid (HX.out.below hb)
    replace HY := Lib.hid (HY.out.below hb)
    replace HB := Lib.hid (HB.out.trans (hb.mono HB.out.size))
    clear hb
    go_wp2
    go_ret
    exact ⟨ret_bool (by rw [hm.out]; rfl), HB.out⟩
  | true =>
    rw [hsb] at HSH
    rw [hsb, Bool.true_and] at hm
    go_enter Try.func54, Try.ntmps54
    go_wp2_with fail
    rw [← hw0]
    clear hw0
    refine HSH.out.mono ?_
    rintro e w1 ⟨rfl, hb⟩
    replace HX := Lib.hid (HX.out.below hb)
    replace HY := Lib.hid (HY.out.below hb)
    replace HB := Lib.hid (HB.out.trans (hb.mono HB.out.size))
    have y5 := (HY.out 5 _ rfl).1
    replace H5 := Lib.hid (H5.out.below hb)
    clear hb
    go_wp2_with fail
    refine (names_spec a5 r.names c5 _ s5 hc5 HP.out H5.out).mono ?_
    rintro e w2 ⟨rfl, hb⟩
    replace HB := Lib.hid (HB.out.trans ((below_drew hb).mono HB.out.size))
    clear hb
    go_wp2
    go_ret
    exact ⟨ret_bool hm.out.symm, HB.out⟩
set_option maxRecDepth 100000 in
set_option maxHeartbeats 4000000 in
theorem kinds_7 (hl : rs.length ≤ 1048576) (hs : Short r) (hrd : RdR a rs w) (h : IsRule r cs w) (hk : r.kind = 7) :
    Calls Try.prog 54 #[.agg #[.slice a rs.length cap], .agg cs.toArray] w fun e w' => e = .returned (.bool (kindS rs r)) ∧ Below w.heap.size w w' := by
  have hm : Hid (kindS rs r = (shapeB r false false false true (-1) && tagsB rs r)) := by
    show _ = _
    simp [kindS, hk]
  obtain ⟨a4, c4, a5, c5, a6, c6, a7, c7, rfl, h4, h5, h6, h7⟩ := h
  obtain ⟨w0, hw0⟩ : ∃ w0, w0 = (w.alloc (.cells #[.slice a rs.length cap] 29)).alloc (.cells #[.string r.name, .int .i64 7, .int .i64 r.size, .bool r.little, .slice a4 r.bytes.length c4, .slice a5 r.names.length c5, .slice a6 r.tags.length c6, .slice a7 r.kids.length c7] 38) := ⟨_, rfl⟩
  have hB0 : Below w.heap.size w w0 := by subst hw0; exact ((Below.refl _ _).alloc (Nat.le_refl _) _).alloc (by simp) _
  have hX0 : CellsAt w.heap.size [.slice a rs.length cap] w0 := by subst hw0; exact (CellsAt.new w _ _).below ((Below.refl _ _).alloc (Nat.le_refl _) _)
  have hY0 : CellsAt (w.heap.size + 1) [.string r.name, .int .i64 7, .int .i64 r.size, .bool r.little, .slice a4 r.bytes.length c4, .slice a5 r.names.length c5, .slice a6 r.tags.length c6, .slice a7 r.kids.length c7] w0 := by
    subst hw0
    have h1 := CellsAt.new (w.alloc (.cells #[.slice a rs.length cap] 29)) [.string r.name, .int .i64 7, .int .i64 r.size, .bool r.little, .slice a4 r.bytes.length c4, .slice a5 r.names.length c5, .slice a6 r.tags.length c6, .slice a7 r.kids.length c7] 38
    simpa using h1
  have HI : Hid (IsRule r [.string r.name, .int .i64 7, .int .i64 r.size, .bool r.little, .slice a4 r.bytes.length c4, .slice a5 r.names.length c5, .slice a6 r.tags.length c6, .slice a7 r.kids.length c7] w0) := by
    rw [← hk]
    exact ⟨a4, c4, a5, c5, a6, c6, a7, c7, rfl, h4.below hB0, h5.below hB0, h6.below hB0, h7.below hB0⟩
  have HSH := Lib.hid (shape_tags r [.string r.name, .int .i64 7, .int .i64 r.size, .bool r.little, .slice a4 r.bytes.length c4, .slice a5 r.names.length c5, .slice a6 r.tags.length c6, .slice a7 r.kids.length c7] w0 HI.out)
  have HB := Lib.hid hB0
  have HX := Lib.hid hX0
  have HY := Lib.hid hY0
  have HR := Lib.hid (hrd.below hB0)
  have HS := Lib.hid hs
  rw [hk]
  clear h4 h5 h6 h7 hB0 hX0 hY0 hk
  cases hsb : shapeB r false false false true (-1) with
  | false =>
    rw [hsb] at HSH hm
    go_enter Try.func54, Try.ntmps54
    go_wp2_with fail
    rw [← hw0]
    clear hw0
    refine HSH.out.mono ?_
    rintro e w1 ⟨rfl, hb⟩
    replace HX := Lib.hid (HX.out.below hb)
    replace HY := Lib.hid (HY.out.below hb)
    replace HB := Lib.hid (HB.out.trans (hb.mono HB.out.size))
    clear hb
    go_wp2
    go_ret
    exact ⟨ret_bool (by rw [hm.out]; rfl), HB.out⟩
  | true =>
    rw [hsb] at HSH
    rw [hsb, Bool.true_and] at hm
    go_enter Try.func54, Try.ntmps54
    go_wp2_with fail
    rw [← hw0]
    clear hw0
    refine HSH.out.mono ?_
    rintro e w1 ⟨rfl, hb⟩
    replace HX := Lib.hid (HX.out.below hb)
    replace HY := Lib.hid (HY.out.below hb)
    replace HB := Lib.hid (HB.out.trans (hb.mono HB.out.size))
    have bx := (HX.out 0 _ rfl).1
    have y0 := (HY.out 0 _ rfl).1
    have y1 := (HY.out 1 _ rfl).1
    have y2 := (HY.out 2 _ rfl).1
    have y3 := (HY.out 3 _ rfl).1
    have y4 := (HY.out 4 _ rfl).1
    have y5 := (HY.out 5 _ rfl).1
    have y6 := (HY.out 6 _ rfl).1
    have y7 := (HY.out 7 _ rfl).1
    replace HR := Lib.hid (HR.out.below hb)
    replace HI := Lib.hid (HI.out.below hb)
    clear hb
    go_wp2_with fail
    refine (tags_spec a rs cap r _ _ hl HS.out HR.out HI.out).mono ?_
    rintro e w2 ⟨rfl, hb⟩
    replace HB := Lib.hid (HB.out.trans (hb.mono HB.out.size))
    clear hb
    go_wp2
    go_ret
    exact ⟨ret_bool hm.out.symm, HB.out⟩
set_option maxRecDepth 100000 in
set_option maxHeartbeats 4000000 in
theorem kinds_8 (h : IsRule r cs w) (hk : r.kind = 8) :
    Calls Try.prog 54 #[.agg #[.slice a rs.length cap], .agg cs.toArray] w fun e w' => e = .returned (.bool (kindS rs r)) ∧ Below w.heap.size w w' := by
  have hm : Hid (kindS rs r = shapeB r false false false false 1) := by
    show _ = _
    simp [kindS, hk]
  obtain ⟨a4, c4, a5, c5, a6, c6, a7, c7, rfl, h4, h5, h6, h7⟩ := h
  obtain ⟨w0, hw0⟩ : ∃ w0, w0 = (w.alloc (.cells #[.slice a rs.length cap] 29)).alloc (.cells #[.string r.name, .int .i64 8, .int .i64 r.size, .bool r.little, .slice a4 r.bytes.length c4, .slice a5 r.names.length c5, .slice a6 r.tags.length c6, .slice a7 r.kids.length c7] 38) := ⟨_, rfl⟩
  have hB0 : Below w.heap.size w w0 := by subst hw0; exact ((Below.refl _ _).alloc (Nat.le_refl _) _).alloc (by simp) _
  have hX0 : CellsAt w.heap.size [.slice a rs.length cap] w0 := by subst hw0; exact (CellsAt.new w _ _).below ((Below.refl _ _).alloc (Nat.le_refl _) _)
  have hY0 : CellsAt (w.heap.size + 1) [.string r.name, .int .i64 8, .int .i64 r.size, .bool r.little, .slice a4 r.bytes.length c4, .slice a5 r.names.length c5, .slice a6 r.tags.length c6, .slice a7 r.kids.length c7] w0 := by
    subst hw0
    have h1 := CellsAt.new (w.alloc (.cells #[.slice a rs.length cap] 29)) [.string r.name, .int .i64 8, .int .i64 r.size, .bool r.little, .slice a4 r.bytes.length c4, .slice a5 r.names.length c5, .slice a6 r.tags.length c6, .slice a7 r.kids.length c7] 38
    simpa using h1
  have HI : Hid (IsRule r [.string r.name, .int .i64 8, .int .i64 r.size, .bool r.little, .slice a4 r.bytes.length c4, .slice a5 r.names.length c5, .slice a6 r.tags.length c6, .slice a7 r.kids.length c7] w0) := by
    rw [← hk]
    exact ⟨a4, c4, a5, c5, a6, c6, a7, c7, rfl, h4.below hB0, h5.below hB0, h6.below hB0, h7.below hB0⟩
  have HSH := Lib.hid (shape_none r [.string r.name, .int .i64 8, .int .i64 r.size, .bool r.little, .slice a4 r.bytes.length c4, .slice a5 r.names.length c5, .slice a6 r.tags.length c6, .slice a7 r.kids.length c7] 1 w0 HI.out (by omega))
  have HB := Lib.hid hB0
  have HX := Lib.hid hX0
  have HY := Lib.hid hY0
  rw [hk]
  clear h4 h5 h6 h7 hB0 hX0 hY0 hk
  go_enter Try.func54, Try.ntmps54
  go_wp2_with fail
  rw [← hw0]
  clear hw0
  refine HSH.out.mono ?_
  rintro e w1 ⟨rfl, hb⟩
  replace HX := Lib.hid (HX.out.below hb)
  replace HY := Lib.hid (HY.out.below hb)
  replace HB := Lib.hid (HB.out.trans (hb.mono HB.out.size))
  clear hb
  go_wp2
  go_ret
  exact ⟨ret_bool hm.out.symm, HB.out⟩
set_option maxRecDepth 100000 in
set_option maxHeartbeats 4000000 in
theorem kinds_9 (h : IsRule r cs w) (hk : r.kind = 9) :
    Calls Try.prog 54 #[.agg #[.slice a rs.length cap], .agg cs.toArray] w fun e w' => e = .returned (.bool (kindS rs r)) ∧ Below w.heap.size w w' := by
  have hm : Hid (kindS rs r = shapeB r false false false false 1) := by
    show _ = _
    simp [kindS, hk]
  obtain ⟨a4, c4, a5, c5, a6, c6, a7, c7, rfl, h4, h5, h6, h7⟩ := h
  obtain ⟨w0, hw0⟩ : ∃ w0, w0 = (w.alloc (.cells #[.slice a rs.length cap] 29)).alloc (.cells #[.string r.name, .int .i64 9, .int .i64 r.size, .bool r.little, .slice a4 r.bytes.length c4, .slice a5 r.names.length c5, .slice a6 r.tags.length c6, .slice a7 r.kids.length c7] 38) := ⟨_, rfl⟩
  have hB0 : Below w.heap.size w w0 := by subst hw0; exact ((Below.refl _ _).alloc (Nat.le_refl _) _).alloc (by simp) _
  have hX0 : CellsAt w.heap.size [.slice a rs.length cap] w0 := by subst hw0; exact (CellsAt.new w _ _).below ((Below.refl _ _).alloc (Nat.le_refl _) _)
  have hY0 : CellsAt (w.heap.size + 1) [.string r.name, .int .i64 9, .int .i64 r.size, .bool r.little, .slice a4 r.bytes.length c4, .slice a5 r.names.length c5, .slice a6 r.tags.length c6, .slice a7 r.kids.length c7] w0 := by
    subst hw0
    have h1 := CellsAt.new (w.alloc (.cells #[.slice a rs.length cap] 29)) [.string r.name, .int .i64 9, .int .i64 r.size, .bool r.little, .slice a4 r.bytes.length c4, .slice a5 r.names.length c5, .slice a6 r.tags.length c6, .slice a7 r.kids.length c7] 38
    simpa using h1
  have HI : Hid (IsRule r [.string r.name, .int .i64 9, .int .i64 r.size, .bool r.little, .slice a4 r.bytes.length c4, .slice a5 r.names.length c5, .slice a6 r.tags.length c6, .slice a7 r.kids.length c7] w0) := by
    rw [← hk]
    exact ⟨a4, c4, a5, c5, a6, c6, a7, c7, rfl, h4.below hB0, h5.below hB0, h6.below hB0, h7.below hB0⟩
  have HSH := Lib.hid (shape_none r [.string r.name, .int .i64 9, .int .i64 r.size, .bool r.little, .slice a4 r.bytes.length c4, .slice a5 r.names.length c5, .slice a6 r.tags.length c6, .slice a7 r.kids.length c7] 1 w0 HI.out (by omega))
  have HB := Lib.hid hB0
  have HX := Lib.hid hX0
  have HY := Lib.hid hY0
  rw [hk]
  clear h4 h5 h6 h7 hB0 hX0 hY0 hk
  go_enter Try.func54, Try.ntmps54
  go_wp2_with fail
  rw [← hw0]
  clear hw0
  refine HSH.out.mono ?_
  rintro e w1 ⟨rfl, hb⟩
  replace HX := Lib.hid (HX.out.below hb)
  replace HY := Lib.hid (HY.out.below hb)
  replace HB := Lib.hid (HB.out.trans (hb.mono HB.out.size))
  clear hb
  go_wp2
  go_ret
  exact ⟨ret_bool hm.out.symm, HB.out⟩
set_option maxRecDepth 100000 in
set_option maxHeartbeats 4000000 in
theorem kinds_10 (hs : Short r) (h : IsRule r cs w) (hk : r.kind = 10) :
    Calls Try.prog 54 #[.agg #[.slice a rs.length cap], .agg cs.toArray] w fun e w' => e = .returned (.bool (kindS rs r)) ∧ Below w.heap.size w w' := by
  have hm : Hid (kindS rs r = (shapeB r false true false false 0 && (decide (r.bytes.length = 1) && decide (r.bytes.headD 0 ≠ 92)))) := by
    show _ = _
    simp [kindS, hk, termB]
  obtain ⟨a4, c4, a5, c5, a6, c6, a7, c7, rfl, h4, h5, h6, h7⟩ := h
  obtain ⟨w0, hw0⟩ : ∃ w0, w0 = (w.alloc (.cells #[.slice a rs.length cap] 29)).alloc (.cells #[.string r.name, .int .i64 10, .int .i64 r.size, .bool r.little, .slice a4 r.bytes.length c4, .slice a5 r.names.length c5, .slice a6 r.tags.length c6, .slice a7 r.kids.length c7] 38) := ⟨_, rfl⟩
  have hB0 : Below w.heap.size w w0 := by subst hw0; exact ((Below.refl _ _).alloc (Nat.le_refl _) _).alloc (by simp) _
  have hX0 : CellsAt w.heap.size [.slice a rs.length cap] w0 := by subst hw0; exact (CellsAt.new w _ _).below ((Below.refl _ _).alloc (Nat.le_refl _) _)
  have hY0 : CellsAt (w.heap.size + 1) [.string r.name, .int .i64 10, .int .i64 r.size, .bool r.little, .slice a4 r.bytes.length c4, .slice a5 r.names.length c5, .slice a6 r.tags.length c6, .slice a7 r.kids.length c7] w0 := by
    subst hw0
    have h1 := CellsAt.new (w.alloc (.cells #[.slice a rs.length cap] 29)) [.string r.name, .int .i64 10, .int .i64 r.size, .bool r.little, .slice a4 r.bytes.length c4, .slice a5 r.names.length c5, .slice a6 r.tags.length c6, .slice a7 r.kids.length c7] 38
    simpa using h1
  have HI : Hid (IsRule r [.string r.name, .int .i64 10, .int .i64 r.size, .bool r.little, .slice a4 r.bytes.length c4, .slice a5 r.names.length c5, .slice a6 r.tags.length c6, .slice a7 r.kids.length c7] w0) := by
    rw [← hk]
    exact ⟨a4, c4, a5, c5, a6, c6, a7, c7, rfl, h4.below hB0, h5.below hB0, h6.below hB0, h7.below hB0⟩
  have HSH := Lib.hid (shape_bytes r [.string r.name, .int .i64 10, .int .i64 r.size, .bool r.little, .slice a4 r.bytes.length c4, .slice a5 r.names.length c5, .slice a6 r.tags.length c6, .slice a7 r.kids.length c7] 0 w0 HI.out (by omega))
  have HB := Lib.hid hB0
  have HX := Lib.hid hX0
  have HY := Lib.hid hY0
  have s4 := hs.1
  have H4 := Lib.hid (h4.below hB0)
  rw [hk]
  clear h4 h5 h6 h7 hB0 hX0 hY0 hk
  cases hsb : shapeB r false true false false 0 with
  | false =>
    rw [hsb] at HSH hm
    go_enter Try.func54, Try.ntmps54
    go_wp2_with fail
    rw [← hw0]
    clear hw0
    refine HSH.out.mono ?_
    rintro e w1 ⟨rfl, hb⟩
    replace HX := Lib.hid (HX.out.below hb)
    replace HY := Lib.hid (HY.out.below hb)
    replace HB := Lib.hid (HB.out.trans (hb.mono HB.out.size))
    clear hb
    go_wp2
    go_ret
    exact ⟨ret_bool (by rw [hm.out]; rfl), HB.out⟩
  | true =>
    rw [hsb] at HSH
    rw [hsb, Bool.true_and] at hm
    by_cases h1 : r.bytes.length = 1
    case neg =>
      have e1 : ((r.bytes.length : Int) == 1) = false := by simp; omega
      rw [decide_eq_false h1] at hm
      clear h1
      go_enter Try.func54, Try.ntmps54
      go_wp2_with fail
      rw [← hw0]
      clear hw0
      refine HSH.out.mono ?_
      rintro e w1 ⟨rfl, hb⟩
      replace HX := Lib.hid (HX.out.below hb)
      replace HY := Lib.hid (HY.out.below hb)
      replace HB := Lib.hid (HB.out.trans (hb.mono HB.out.size))
      have y4 := (HY.out 4 _ rfl).1
      clear hb
      go_wp2
      go_ret
      exact ⟨ret_bool (by rw [hm.out]; rfl), HB.out⟩
    have e1 : ((r.bytes.length : Int) == 1) = true := by simp; omega
    rw [decide_eq_true h1, Bool.true_and] at hm
    have hb0 : 0 < r.bytes.length := by omega
    have hb1 : (0 : Int) < (r.bytes.length : Int) := by omega
    have hhd : r.bytes.headD 0 = r.bytes[0] := by
      match r.bytes, hb0 with
      | x :: _, _ => rfl
    rw [hhd] at hm
    clear hhd h1
    obtain ⟨b4, o4, ha4, hc4⟩ := H4.out 0 hb0
    subst ha4
    have HC4 : Hid (w0.cell? ⟨b4, o4, none⟩ = some (.int .u8 (r.bytes[0].toNat : Int))) := hc4
    clear hc4
    generalize r.bytes[0] = c at HC4 hm
    by_cases h2 : c = 92
    · subst h2
      have e2 : (((92 : UInt8).toNat : Int) != 92) = false := by decide
      go_enter Try.func54, Try.ntmps54
      go_wp2_with fail
      rw [← hw0]
      clear hw0
      refine HSH.out.mono ?_
      rintro e w1 ⟨rfl, hb⟩
      replace HX := Lib.hid (HX.out.below hb)
      replace HY := Lib.hid (HY.out.below hb)
      replace HB := Lib.hid (HB.out.trans (hb.mono HB.out.size))
      have y4 := (HY.out 4 _ rfl).1
      have y40 := (hb.cell (cell_lt HC4.out)).trans HC4.out
      clear hb
      go_wp2
      go_ret
      exact ⟨ret_bool (by rw [hm.out]; rfl), HB.out⟩
    · have e2 : ((c.toNat : Int) != 92) = true := by
        have : c.toNat ≠ 92 := fun e => h2 (UInt8.toNat_inj.1 (by rw [e]; rfl))
        simp; omega
      rw [decide_eq_true (show c ≠ 92 from h2)] at hm
      clear h2
      go_enter Try.func54, Try.ntmps54
      go_wp2_with fail
      rw [← hw0]
      clear hw0
      refine HSH.out.mono ?_
      rintro e w1 ⟨rfl, hb⟩
      replace HX := Lib.hid (HX.out.below hb)
      replace HY := Lib.hid (HY.out.below hb)
      replace HB := Lib.hid (HB.out.trans (hb.mono HB.out.size))
      have y4 := (HY.out 4 _ rfl).1
      have y40 := (hb.cell (cell_lt HC4.out)).trans HC4.out
      clear hb
      go_wp2
      go_ret
      exact ⟨ret_bool hm.out.symm, HB.out⟩
set_option maxRecDepth 100000 in
set_option maxHeartbeats 2000000 in
theorem kinds_0 (h : IsRule r cs w) (k1 : r.kind ≠ 1) (k2 : r.kind ≠ 2) (k3 : r.kind ≠ 3) (k4 : r.kind ≠ 4) (k5 : r.kind ≠ 5) (k6 : r.kind ≠ 6) (k7 : r.kind ≠ 7) (k8 : r.kind ≠ 8) (k9 : r.kind ≠ 9) (k10 : r.kind ≠ 10) :
    Calls Try.prog 54 #[.agg #[.slice a rs.length cap], .agg cs.toArray] w fun e w' => e = .returned (.bool (kindS rs r)) ∧ Below w.heap.size w w' := by
  obtain ⟨a4, c4, a5, c5, a6, c6, a7, c7, rfl, -⟩ := h
  have hm : Hid (kindS rs r = false) := by
    show _ = _
    simp [kindS, k1, k2, k3, k4, k5, k6, k7, k8, k9, k10]
  generalize r.kind = kd at *
  have g1 : (kd == 1) = false := by simpa using k1
  have g2 : (kd == 2) = false := by simpa using k2
  have g3 : (kd == 3) = false := by simpa using k3
  have g4 : (kd == 4) = false := by simpa using k4
  have g5 : (kd == 5) = false := by simpa using k5
  have g6 : (kd == 6) = false := by simpa using k6
  have g7 : (kd == 7) = false := by simpa using k7
  have g8 : (kd == 8) = false := by simpa using k8
  have g9 : (kd == 9) = false := by simpa using k9
  have g10 : (kd == 10) = false := by simpa using k10
  have HB : ∀ o p, Hid (Below w.heap.size w ((w.alloc o).alloc p)) := fun o p => ((Below.refl _ _).alloc (Nat.le_refl _) _).alloc (by simp) _
  go_enter Try.func54, Try.ntmps54
  go_wp2
  go_ret
  exact ⟨ret_bool hm.out.symm, (HB _ _).out⟩
theorem kinds_spec (hl : rs.length ≤ 1048576) (hs : Short r) (hp : Spelt r) (hcap : Cap5 cs) (hrd : RdR a rs w) (h : IsRule r cs w) :
    Calls Try.prog 54 #[.agg #[.slice a rs.length cap], .agg cs.toArray] w fun e w' => e = .returned (.bool (kindS rs r)) ∧ Below w.heap.size w w' := by
  rcases kind_cases r.kind with hk | hk | hk | hk | hk | hk | hk | hk | hk | hk | ⟨k1, k2, k3, k4, k5, k6, k7, k8, k9, k10⟩
  · exact kinds_1 a rs cap r cs w h hk
  · exact kinds_2 a rs cap r cs w hs h hk
  · exact kinds_3 a rs cap r cs w h hk
  · exact kinds_4 a rs cap r cs w hl hs hrd h hk
  · exact kinds_5 a rs cap r cs w hl hs hrd h hk
  · exact kinds_6 a rs cap r cs w hs hp hcap h hk
  · exact kinds_7 a rs cap r cs w hl hs hrd h hk
  · exact kinds_8 a rs cap r cs w h hk
  · exact kinds_9 a rs cap r cs w h hk
  · exact kinds_10 a rs cap r cs w hs h hk
  · exact kinds_0 a rs cap r cs w h k1 k2 k3 k4 k5 k6 k7 k8 k9 k10
end
end Go.Proofs.Ytdhfcopfoknokaa
