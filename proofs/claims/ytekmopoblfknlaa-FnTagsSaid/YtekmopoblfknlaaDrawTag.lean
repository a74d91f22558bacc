/- Drawing a description, a rule of it (a choice, mostly) and one of its alternatives: DrawTagBytes. -/
import Derived.Test.YtekmopoblfknlaaAnyD
import Derived.Test.YtekmopoblfknlaaGBase
import Derived.Deep.RegionHeld3
namespace Go.Proofs.Ytekmopoblfknlaa
open Go Go.RowKit
/-- What comes back: a description that can be read, two numbers. -/
def TagsDrawn (w : World) (e : Ending) (w' : World) : Prop :=
  ∃ (rs : List RuleV) (x : Option Addr) (cp : Nat) (r k : Int), e = .returned (.tuple #[.agg #[.slice x rs.length cp], .int .i64 r, .int .i64 k]) ∧ rs.length ≤ 6 ∧ (∀ r ∈ rs, Short r ∧ Spelt r) ∧ RowR w.heap.size (.slice x rs.length cp) rs w' ∧ (-1 ≤ r ∧ r ≤ 7) ∧ (-1 ≤ k ∧ k ≤ 3) ∧ Below w.heap.size w w'
/-- What holds while it is drawn. -/
def TagSt (a : Option Addr) (len cap c D B : Nat) (v : Value) (rs : List RuleV) (w W : World) : Prop :=
  CellsAt w.heap.size [.slice none 0 0] W ∧ CellsAt D [v] W ∧ RowR B v rs W ∧ Cur a len cap c W ∧ Below w.heap.size w W ∧ D < W.heap.size
theorem TagSt.draw {a : Option Addr} {len cap c D B : Nat} {v : Value} {rs : List RuleV} {w W W' : World} (h : TagSt a len cap c D B v rs w W) (hg : W.grownBy W' (some c)) (hc : Cur a len cap c W') (hcX : w.heap.size < c) (hcD : D ≠ c) (hcB : c < B) : TagSt a len cap c D B v rs w W' := by
  obtain ⟨hX, hD, hR, _, hB, hs⟩ := h
  exact ⟨hX.grown hg (by intro e; injection e with e; omega), hD.grown hg (by intro e; injection e with e; omega), hR.grown hg hcB, hc, hB.grown hg hB.size (fun k e => by injection e with e; omega), Nat.lt_of_lt_of_le hs hg.size⟩
set_option maxRecDepth 100000 in
set_option maxHeartbeats 16000000 in
theorem draw_tags (a : Option Addr) (len cap : Nat) (w : World) (hl : len ≤ 140737488355328) (hs : Code a len w) :
    Calls Try.prog 18 #[.slice a len cap] w (TagsDrawn w) := by
  obtain ⟨w0, hw0⟩ : ∃ w0, w0 = w.alloc (.cells #[.slice none 0 0] 26) := ⟨_, rfl⟩
  have hB : Below w.heap.size w w0 := by subst hw0; exact (Below.refl _ _).alloc (Nat.le_refl _) _
  have hX : CellsAt w.heap.size [.slice none 0 0] w0 := by subst hw0; exact CellsAt.new w _ _
  have hz : Hid (w0.heap.size = w.heap.size + 1) := by subst hw0; exact World.size_alloc _ _
  have HS := Lib.hid (hs.below hB)
  have HB := Lib.hid hB
  have HX := Lib.hid hX
  have hW := Lib.hid hw0
  clear hs hB hX hw0
  go_enter Try.func18, Try.ntmps18
  go_wp2_with fail
  rw [← hW.out]
  clear hW
  refine (new_draw a len cap _ hl HS.out).mono ?_
  rintro e w1 ⟨rfl, hc1, hb1, hz1⟩
  have HC := Lib.hid hc1
  replace HB := Lib.hid (HB.out.trans (hb1.mono HB.out.size))
  replace HX := Lib.hid (HX.out.below hb1)
  have hz2 : w1.heap.size = w.heap.size + 2 := by rw [hz1, hz.out]
  obtain ⟨c, hcc⟩ : ∃ c, c = w0.heap.size := ⟨_, rfl⟩
  have hcX : w.heap.size < c := by have := hz.out; omega
  have hcw : c < w1.heap.size := by have := hz.out; omega
  rw [← hcc] at HC ⊢
  clear hc1 hb1 hz1 hcc hz HS
  go_wp2_with fail
  refine (any_draw a len cap c _ hl HC.out).mono ?_
  rintro e w2 ⟨rs, x, cp, rfl, hn6, hall, hrow, hc2, hg2⟩
  obtain ⟨B, hBe⟩ : ∃ B, B = w1.heap.size := ⟨_, rfl⟩
  rw [← hBe] at hrow
  have hcB : c < B := by omega
  have hwB : w.heap.size < B := by omega
  have hD2 : w1.heap.size ≤ w2.heap.size := hg2.size
  obtain ⟨z, hzz⟩ : ∃ z, z = w2.alloc (.cells #[.slice x rs.length cp] 26) := ⟨_, rfl⟩
  have hbz : Below w2.heap.size w2 z := by subst hzz; exact (Below.refl _ _).alloc (Nat.le_refl _) _
  have hDc : CellsAt w2.heap.size [.slice x rs.length cp] z := by subst hzz; exact CellsAt.new w2 _ _
  have hzs : z.heap.size = w2.heap.size + 1 := by subst hzz; exact World.size_alloc _ _
  have hX2 := HX.out.grown hg2 (by intro e; injection e with e; omega)
  have hB2 : Below w.heap.size w w2 := HB.out.grown hg2 HB.out.size (fun k e => by injection e with e; omega)
  have HST : Hid (TagSt a len cap c w2.heap.size B (.slice x rs.length cp) rs w z) := ⟨hX2.below hbz, hDc, hrow.below hbz, hc2.below hbz, hB2.trans (hbz.mono hB2.size), by omega⟩
  have HALL := Lib.hid hall
  have hDn : w2.heap.size ≠ c := by omega
  have hDX : w.heap.size < w2.heap.size := by omega
  obtain ⟨D, hD⟩ : ∃ D, D = w2.heap.size := ⟨_, rfl⟩
  rw [← hD] at HST hDn hDX
  have HDD := Lib.hid hD
  have hW := Lib.hid hzz
  clear hzz hbz hDc hzs hX2 hB2 hrow hc2 hg2 hall hD HX HB HC hD2 hBe hz2 hcw
  go_upto_region 3 with fail
  rw [← hW.out, ← HDD.out]
  clear hW HDD
  have bx := (HST.out.2.1 0 _ rfl).1
  have hw1 : IntKind.i64.wrap ((rs.length : Int) + 2) = (rs.length : Int) + 2 := IntWalk.i64_in _ (by omega)
  go_wp2_with fail
  refine (below_draw a len cap c ((rs.length : Int) + 2) z hl (by omega) (by omega) HST.out.2.2.2.1).mono ?_
  rintro e z1 ⟨q, ⟨q0, q1⟩, rfl, hc3, hg3⟩
  replace HST := Lib.hid (HST.out.draw hg3 hc3 hcX hDn hcB)
  obtain ⟨r0, hr0⟩ : ∃ r0, r0 = q - 1 := ⟨_, rfl⟩
  have hr1 : -1 ≤ r0 ∧ r0 ≤ 7 := by omega
  have hw2 : q - 1 = r0 := hr0.symm
  have hw3 : IntKind.i64.wrap r0 = r0 := IntWalk.i64_in _ (by omega)
  clear hc3 hg3 hw1 hr0 bx
  go_wp2_with fail
  clear hw2 hw3
  go_loopw [7, 8] (fun r i W => ∃ (j : Nat) (rr : Int), j ≤ rs.length ∧ i = .int .i64 j ∧ r = .int .i64 rr ∧ (-1 ≤ rr ∧ rr ≤ 7) ∧ Hid (TagSt a len cap c D B (.slice x rs.length cp) rs w W)) (fun _ i _ => rs.length - (intOf i).toNat)
  case atStart => exact ⟨0, r0, Nat.zero_le _, rfl, rfl, hr1, HST⟩
  case round =>
    clear HST hr1 q0 q1
    obtain ⟨j, rr, hjl, rfl, rfl, hrr, hst⟩ := hrel
    have j0 : (0 : Int) ≤ (j : Int) := by omega
    have bx := (hst.out.2.1 0 _ rfl).1
    by_cases hlt : j < rs.length
    · have j1 : (j : Int) < (rs.length : Int) := by omega
      go_wp2_with fail
      refine (once_draw a len cap c 3 _ hl (by omega) (by omega) hst.out.2.2.2.1).mono ?_
      rintro e y1 ⟨b, rfl, hc4, hg4⟩
      replace hst := Lib.hid (hst.out.draw hg4 hc4 hcX hDn hcB)
      clear hc4 hg4 bx
      have bx := (hst.out.2.1 0 _ rfl).1
      cases b with
      | true =>
        go_upto_region 9 with fail
        go_region_held3 (fun W => W.cell? ⟨D, 0, none⟩ = some (.slice x rs.length cp)) (first | exact bx | exact bx9 | (refine (World.cell?_setCell_far _ _ _ _ ?_).trans bx9; show w.heap.size ≠ D; omega)) (first | (go_at_call 46; refine (below_draw a len cap c 5 y1.drew hl (by omega) (by omega) hst.out.2.2.2.1).mono ?_; rintro e y9 ⟨y, ⟨y0, y1⟩, rfl, hc9, hg9⟩; have hst9 := Lib.hid (hst.out.draw (W' := y9) ⟨hg9.os, hg9.tape, hg9.output, hg9.size, hg9.block⟩ hc9 hcX hDn hcB); have bx9 := (hst9.out.2.1 0 _ rfl).1; obtain ⟨z9, t9⟩ := hst9.out.1 0 _ rfl; obtain ⟨ny, hny⟩ : ∃ ny, y - 1 = ny := ⟨_, rfl⟩; have hnw : IntKind.i64.wrap ny = ny := IntWalk.i64_in _ (by omega); clear hc9 hg9))
        have HRF := Lib.hid ((hst9.out.2.2.1.grown (grown_set (grown_refl y9 w.heap.size) 0 (.slice x rs.length cp)) hwB).more (base' := w.heap.size) (by omega))
        have HBF := Lib.hid (hst9.out.2.2.2.2.1.setCell (p := ⟨w.heap.size, 0, none⟩) (Nat.le_refl _) (.slice x rs.length cp))
        have hny2 : -1 ≤ ny ∧ ny ≤ 3 := by omega
        clear hst9 hst bx bx9 hny hnw
        go_wp2
        (try simp only [Exit.inBlock, Exit.then])
        refine bodyPost_ret (v := .tuple #[.agg #[.slice x rs.length cp], .int .i64 rr, .int .i64 ny]) ?_ rfl ?_
        · simp [results, Try.results18, go_sem, z9]
        · exact ⟨rs, x, cp, rr, ny, rfl, hn6, HALL.out, HRF.out, hrr, hny2, HBF.out⟩
      | false =>
        obtain ⟨bb, off, cs, rfl, hri, -, hcell⟩ := hst.out.2.2.1.at j hlt
        obtain ⟨a4, c4, a5, c5, a6, c6, a7, c7, rfl, -⟩ := hri
        have d1 := hcell 1 _ rfl
        obtain ⟨kd, hkd⟩ : ∃ kd, kd = rs[j].kind := ⟨_, rfl⟩
        rw [← hkd] at d1
        clear hkd hcell
        by_cases hk : kd = 7
        · subst hk
          go_wp2
          go_roundw
          case rel => exact ⟨j + 1, (j : Int), by omega, by go_num, rfl, by omega, hst⟩
          case measure => simp [intOf]; omega
        · go_wp2
          go_roundw
          case rel => exact ⟨j + 1, rr, by omega, by go_num, rfl, hrr, hst⟩
          case measure => simp [intOf]; omega
    · have j1 : ¬ (j : Int) < (rs.length : Int) := by omega
      go_upto_region 9 with fail
      go_region_held3 (fun W => W.cell? ⟨D, 0, none⟩ = some (.slice x rs.length cp)) (first | exact bx | exact bx9 | (refine (World.cell?_setCell_far _ _ _ _ ?_).trans bx9; show w.heap.size ≠ D; omega)) (first | (go_at_call 46; refine (below_draw a len cap c 5 wr.drew hl (by omega) (by omega) hst.out.2.2.2.1).mono ?_; rintro e y9 ⟨y, ⟨y0, y1⟩, rfl, hc9, hg9⟩; have hst9 := Lib.hid (hst.out.draw (W' := y9) ⟨hg9.os, hg9.tape, hg9.output, hg9.size, hg9.block⟩ hc9 hcX hDn hcB); have bx9 := (hst9.out.2.1 0 _ rfl).1; obtain ⟨z9, t9⟩ := hst9.out.1 0 _ rfl; obtain ⟨ny, hny⟩ : ∃ ny, y - 1 = ny := ⟨_, rfl⟩; have hnw : IntKind.i64.wrap ny = ny := IntWalk.i64_in _ (by omega); clear hc9 hg9))
      have HRF := Lib.hid ((hst9.out.2.2.1.grown (grown_set (grown_refl y9 w.heap.size) 0 (.slice x rs.length cp)) hwB).more (base' := w.heap.size) (by omega))
      have HBF := Lib.hid (hst9.out.2.2.2.2.1.setCell (p := ⟨w.heap.size, 0, none⟩) (Nat.le_refl _) (.slice x rs.length cp))
      have hny2 : -1 ≤ ny ∧ ny ≤ 3 := by omega
      clear hst9 hst bx bx9 hny hnw
      go_wp2
      (try simp only [Exit.inBlock, Exit.then])
      refine bodyPost_ret (v := .tuple #[.agg #[.slice x rs.length cp], .int .i64 rr, .int .i64 ny]) ?_ rfl ?_
      · simp [results, Try.results18, go_sem, z9]
      · exact ⟨rs, x, cp, rr, ny, rfl, hn6, HALL.out, HRF.out, hrr, hny2, HBF.out⟩
end Go.Proofs.Ytekmopoblfknlaa
