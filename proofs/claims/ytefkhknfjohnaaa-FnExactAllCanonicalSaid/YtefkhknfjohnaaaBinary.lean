/- The contracts of IsBinaryOnly, of the model and of the program. -/
import Derived.Test.YtefkhknfjohnaaaSUnused
import Derived.Deep.RegionHeld3
namespace Go.Proofs.Ytefkhknfjohnaaa
open Go Go.RowKit
/-- The kind of the rule at an index; 0 where there is none. -/
def kindOf (rs : List RuleV) (x : Int) : Int := match rs[x.toNat]? with | some r => r.kind | none => 0
theorem kindOf_at {rs : List RuleV} {j : Nat} (h : j < rs.length) : kindOf rs (j : Int) = rs[j].kind := by
  unfold kindOf
  rw [Int.toNat_natCast, List.getElem?_eq_getElem h]
/-- Whether none of some rules ends by a byte. -/
def allBin (rs : List RuleV) (ls : List Int) : Bool := ls.all fun x => !(kindOf rs x == 10)
theorem allBin_next {rs : List RuleV} {ls : List Int} {q : Nat} (h : q < ls.length) : allBin rs (ls.take (q + 1)) = (allBin rs (ls.take q) && !(kindOf rs ls[q] == 10)) := by
  unfold allBin
  rw [List.take_succ_eq_append_getElem h, List.all_append]
  simp
theorem allBin_take {rs : List RuleV} {ls : List Int} {q : Nat} (h : allBin rs (ls.take q) = false) : allBin rs ls = false := by
  unfold allBin at h ⊢
  rw [List.all_eq_false] at h ⊢
  obtain ⟨x, hx, h2⟩ := h
  exact ⟨x, List.mem_of_mem_take hx, h2⟩
/-- The answer of IsBinaryOnly. -/
noncomputable def binD (rs : List RuleV) : Bool := allBin rs (usedD rs ((rs.length : Int) - 1)) && descrB (kindI rs) rs
theorem usedD_mem {rs : List RuleV} {k x : Int} (h : x ∈ usedD rs k) : ∃ j : Nat, x = (j : Int) ∧ j < rs.length := by
  unfold usedD at h
  split at h
  · obtain ⟨i, h1, _, h3⟩ := (picks_mem _ _ _).1 h
    exact ⟨i, h3, h1⟩
  · simp at h
theorem usedD_len (rs : List RuleV) (k : Int) : (usedD rs k).length ≤ rs.length := by
  unfold usedD
  split
  · exact picks_length _ _
  · simp
theorem unusedD_len (rs : List RuleV) : (unusedD rs).length ≤ rs.length := by
  unfold unusedD
  split
  · exact picks_length _ _
  · simp
set_option maxRecDepth 100000 in
set_option maxHeartbeats 4000000 in
theorem binary_spec (a : Option Addr) (rs : List RuleV) (cap : Nat) (w : World) (hl : rs.length ≤ 1048576) (hs : ∀ r ∈ rs, Short r) (hp : ∀ r ∈ rs, Spelt r) (h : RdC a rs w) :
    Calls Try.prog 36 #[.agg #[.slice a rs.length cap]] w fun e w' => e = .returned (.bool (binD rs)) ∧ Below w.heap.size w w' := by
  obtain ⟨w0, hw0⟩ : ∃ w0, w0 = w.alloc (.cells #[.slice a rs.length cap] 38) := ⟨_, rfl⟩
  have hB0 : Below w.heap.size w w0 := by subst hw0; exact (Below.refl _ _).alloc (Nat.le_refl _) _
  have hX0 : CellsAt w.heap.size [.slice a rs.length cap] w0 := by subst hw0; exact CellsAt.new w _ _
  have HX := Lib.hid hX0
  have HB := Lib.hid hB0
  have HC := Lib.hid (h.below hB0)
  have HS := Lib.hid hs
  have HP := Lib.hid hp
  have hW := Lib.hid hw0
  clear h hB0 hX0 hs hp hw0
  obtain ⟨ls, hls⟩ : ∃ ls, ls = usedD rs ((rs.length : Int) - 1) := ⟨_, rfl⟩
  have HLM : Hid (∀ x ∈ ls, ∃ j : Nat, x = (j : Int) ∧ j < rs.length) := fun x hx => by rw [hls] at hx; exact usedD_mem hx
  have hll : ls.length ≤ 1048576 := by rw [hls]; exact Nat.le_trans (usedD_len _ _) hl
  have HBD : Hid (binD rs = (allBin rs ls && descrB (kindI rs) rs)) := by show _ = _; rw [hls]; rfl
  have HLS := Lib.hid hls
  clear hls
  go_enter Try.func36, Try.ntmps36
  go_upto_region 1 with fail
  rw [← hW.out]
  clear hW
  replace HX : Hid (CellsAt w.heap.size [.slice a rs.length cap] w0.drew) := HX.out
  replace HC : Hid (RdC a rs w0.drew) := HC.out
  replace HB : Hid (Below w.heap.size w w0.drew) := below_drewN HB.out 1
  go_region_held3 (fun W => W.cell? ⟨w.heap.size, 0, none⟩ = some (.slice a rs.length cap)) (exact (HX.out 0 _ rfl).1) (first | (go_at_call 59; refine (root_spec a rs cap _ (by omega) HC.out.rd).mono ?_; rintro e w1 ⟨rfl, hb1⟩; replace HX := Lib.hid (HX.out.below hb1); replace HC := Lib.hid (HC.out.below hb1); replace HB := Lib.hid (HB.out.trans (hb1.mono HB.out.size)); clear hb1) | (go_at_call 58; refine (used_spec a rs cap ((rs.length : Int) - 1) _ hl HS.out HP.out HC.out).mono ?_; rintro e w2 ⟨xl, cl, rfl, hrow, hb2⟩; rw [← HLS.out] at hrow ⊢; replace HX := Lib.hid (HX.out.below hb2); replace HC := Lib.hid (HC.out.below hb2); have HRL := Lib.hid hrow.rd; replace HB := Lib.hid (HB.out.trans (hb2.mono HB.out.size)); clear hb2 hrow))
  go_wp2
  go_loopw [4] (fun i W => ∃ n : Nat, n ≤ ls.length ∧ i = .int .i64 n ∧ Hid (allBin rs (ls.take n) = true) ∧ Hid (Below w2.heap.size w2 W)) (fun i _ => ls.length - (intOf i).toNat)
  case atStart => exact ⟨0, Nat.zero_le _, rfl, rfl, Below.refl _ _⟩
  case round =>
    obtain ⟨n, hnl, rfl, hall, hbw⟩ := hrel
    have n0 : (0 : Int) ≤ (n : Int) := by omega
    have bx := (HX.out.below hbw.out 0 _ rfl).1
    have HBW := Lib.hid (HB.out.trans (hbw.out.mono HB.out.size))
    by_cases hlt : n < ls.length
    · have n1 : (n : Int) < (ls.length : Int) := by omega
      obtain ⟨j, hj, hjr⟩ := HLM.out _ (List.getElem_mem hlt)
      have hnx := Lib.hid (allBin_next (rs := rs) hlt)
      obtain ⟨bl, ol, hxl, hcl⟩ := (HRL.out.below hbw.out).cellAt hlt
      subst hxl
      rw [hj] at hcl hnx
      rw [kindOf_at hjr, hall.out] at hnx
      have j0 : (0 : Int) ≤ (j : Int) := by omega
      have j1 : (j : Int) < (rs.length : Int) := by omega
      obtain ⟨b0, off, a4, c4, a5, c5, a6, c6, a7, c7, rfl, ⟨d0, d1, d2, d3, d4, d5, d6, d7⟩, -⟩ := (HC.out.rd.below hbw.out).at j hjr
      clear d0 d2 d3 d4 d5 d6 d7 hj
      generalize rs[j].kind = kd at d1 hnx
      cases hk : (kd == 10) with
      | true =>
        have hr : Hid (binD rs = false) := by show _ = _; rw [HBD.out, allBin_take (q := n + 1) (by rw [hnx.out, hk]; rfl)]; rfl
        go_upto_region 5 with fail
        replace HBW : Hid (Below w.heap.size w wr.drew) := below_drewN HBW.out 1
        go_region_held3 (fun W => W.cell? ⟨w.heap.size, 0, none⟩ = some (.slice (some ⟨b0, off, none⟩) rs.length cap) ∧ W.cell? ⟨bl, ol + n, none⟩ = some (.int .i64 (j : Int)) ∧ W.cell? ⟨b0, off + j * 8 + 1, none⟩ = some (.int .i64 kd)) (exact ⟨bx, hcl, d1⟩) (fail)
        go_wp2
        go_ret
        exact ⟨ret_bool hr.out.symm, HBW.out⟩
      | false =>
        have hall2 : Hid (allBin rs (ls.take (n + 1)) = true) := by show _ = _; rw [hnx.out, hk]; rfl
        replace hbw : Hid (Below w2.heap.size w2 wr.drew) := below_drewN hbw.out 1
        go_upto_region 5 with fail
        go_region_held3 (fun W => W.cell? ⟨w.heap.size, 0, none⟩ = some (.slice (some ⟨b0, off, none⟩) rs.length cap) ∧ W.cell? ⟨bl, ol + n, none⟩ = some (.int .i64 (j : Int)) ∧ W.cell? ⟨b0, off + j * 8 + 1, none⟩ = some (.int .i64 kd)) (exact ⟨bx, hcl, d1⟩) (fail)
        go_wp2
        go_roundw
        case rel => exact ⟨n + 1, by omega, by go_num, hall2, hbw⟩
        case measure => simp [intOf]; omega
    · have n1 : ¬ (n : Int) < (ls.length : Int) := by omega
      have hr : Hid (binD rs = descrB (kindI rs) rs) := by show _ = _; have := hall.out; rw [List.take_of_length_le (by omega)] at this; rw [HBD.out, this, Bool.true_and]
      obtain ⟨b, hb⟩ : ∃ b, b = binD rs := ⟨_, rfl⟩
      have HBB := Lib.hid hb
      clear hb
      go_wp2_with fail
      refine (validd_spec a rs cap _ hl HS.out HP.out (HC.out.below hbw.out)).mono ?_
      rintro e w3 ⟨rfl, hb3⟩
      rw [← hr.out, ← HBB.out]
      replace HBW := Lib.hid (HBW.out.trans (hb3.mono HBW.out.size))
      clear hb3 bx hbw
      go_wp2
      go_ret
      exact ⟨ret_bool HBB.out, HBW.out⟩
set_option maxRecDepth 100000 in
set_option maxHeartbeats 4000000 in
theorem binary_impl (a : Option Addr) (rs : List RuleV) (cap : Nat) (w : World) (hl : rs.length ≤ 1048576) (hs : ∀ r ∈ rs, Short r) (hp : ∀ r ∈ rs, Spelt r) (h : RdC a rs w) :
    Calls Try.prog 38 #[.agg #[.slice a rs.length cap]] w fun e w' => e = .returned (.bool (binD rs)) ∧ Below w.heap.size w w' := by
  obtain ⟨w0, hw0⟩ : ∃ w0, w0 = w.alloc (.cells #[.slice a rs.length cap] 38) := ⟨_, rfl⟩
  have hB0 : Below w.heap.size w w0 := by subst hw0; exact (Below.refl _ _).alloc (Nat.le_refl _) _
  have hX0 : CellsAt w.heap.size [.slice a rs.length cap] w0 := by subst hw0; exact CellsAt.new w _ _
  have HX := Lib.hid hX0
  have HB := Lib.hid hB0
  have HC := Lib.hid (h.below hB0)
  have HS := Lib.hid hs
  have HP := Lib.hid hp
  have hW := Lib.hid hw0
  clear h hB0 hX0 hs hp hw0
  obtain ⟨ls, hls⟩ : ∃ ls, ls = usedD rs ((rs.length : Int) - 1) := ⟨_, rfl⟩
  have HLM : Hid (∀ x ∈ ls, ∃ j : Nat, x = (j : Int) ∧ j < rs.length) := fun x hx => by rw [hls] at hx; exact usedD_mem hx
  have hll : ls.length ≤ 1048576 := by rw [hls]; exact Nat.le_trans (usedD_len _ _) hl
  have HBD : Hid (binD rs = (allBin rs ls && descrB (kindI rs) rs)) := by show _ = _; rw [hls]; rfl
  have HLS := Lib.hid hls
  clear hls
  go_enter Try.func38, Try.ntmps38
  go_upto_region 1 with fail
  rw [← hW.out]
  clear hW
  replace HX : Hid (CellsAt w.heap.size [.slice a rs.length cap] w0.drew) := HX.out
  replace HC : Hid (RdC a rs w0.drew) := HC.out
  replace HB : Hid (Below w.heap.size w w0.drew) := below_drewN HB.out 1
  go_region_held3 (fun W => W.cell? ⟨w.heap.size, 0, none⟩ = some (.slice a rs.length cap)) (exact (HX.out 0 _ rfl).1) (first | (go_at_call 63; refine (root_impl a rs cap _ (by omega) HC.out.rd).mono ?_; rintro e w1 ⟨rfl, hb1⟩; replace HX := Lib.hid (HX.out.below hb1); replace HC := Lib.hid (HC.out.below hb1); replace HB := Lib.hid (HB.out.trans (hb1.mono HB.out.size)); clear hb1) | (go_at_call 62; refine (used_impl a rs cap ((rs.length : Int) - 1) _ hl HS.out HP.out HC.out).mono ?_; rintro e w2 ⟨xl, cl, rfl, hrow, hb2⟩; rw [← HLS.out] at hrow ⊢; replace HX := Lib.hid (HX.out.below hb2); replace HC := Lib.hid (HC.out.below hb2); have HRL := Lib.hid hrow.rd; replace HB := Lib.hid (HB.out.trans (hb2.mono HB.out.size)); clear hb2 hrow))
  go_wp2
  go_loopw [4, 10] (fun _ i W => ∃ n : Nat, n ≤ ls.length ∧ i = .int .i64 n ∧ Hid (allBin rs (ls.take n) = true) ∧ Hid (Below w2.heap.size w2 W)) (fun _ i _ => ls.length - (intOf i).toNat)
  case atStart => exact ⟨0, Nat.zero_le _, rfl, rfl, Below.refl _ _⟩
  case round =>
    obtain ⟨n, hnl, rfl, hall, hbw⟩ := hrel
    have n0 : (0 : Int) ≤ (n : Int) := by omega
    have bx := (HX.out.below hbw.out 0 _ rfl).1
    have HBW := Lib.hid (HB.out.trans (hbw.out.mono HB.out.size))
    by_cases hlt : n < ls.length
    · have n1 : (n : Int) < (ls.length : Int) := by omega
      obtain ⟨j, hj, hjr⟩ := HLM.out _ (List.getElem_mem hlt)
      have hnx := Lib.hid (allBin_next (rs := rs) hlt)
      obtain ⟨bl, ol, hxl, hcl⟩ := (HRL.out.below hbw.out).cellAt hlt
      subst hxl
      rw [hj] at hcl hnx
      rw [kindOf_at hjr, hall.out] at hnx
      have j0 : (0 : Int) ≤ (j : Int) := by omega
      have j1 : (j : Int) < (rs.length : Int) := by omega
      obtain ⟨b0, off, a4, c4, a5, c5, a6, c6, a7, c7, rfl, ⟨d0, d1, d2, d3, d4, d5, d6, d7⟩, -⟩ := (HC.out.rd.below hbw.out).at j hjr
      clear d0 d2 d3 d4 d5 d6 d7 hj
      generalize rs[j].kind = kd at d1 hnx
      cases hk : (kd == 10) with
      | true =>
        have hr : Hid (binD rs = false) := by show _ = _; rw [HBD.out, allBin_take (q := n + 1) (by rw [hnx.out, hk]; rfl)]; rfl
        go_wp2
        go_ret
        exact ⟨ret_bool hr.out.symm, HBW.out⟩
      | false =>
        have hall2 : Hid (allBin rs (ls.take (n + 1)) = true) := by show _ = _; rw [hnx.out, hk]; rfl
        go_wp2
        go_roundw
        case rel => exact ⟨n + 1, by omega, by go_num, hall2, hbw⟩
        case measure => simp [intOf]; omega
    · have n1 : ¬ (n : Int) < (ls.length : Int) := by omega
      have hr : Hid (binD rs = descrB (kindI rs) rs) := by show _ = _; have := hall.out; rw [List.take_of_length_le (by omega)] at this; rw [HBD.out, this, Bool.true_and]
      obtain ⟨b, hb⟩ : ∃ b, b = binD rs := ⟨_, rfl⟩
      have HBB := Lib.hid hb
      clear hb
      go_wp2_with fail
      refine (validd_impl a rs cap _ hl HS.out HP.out (HC.out.below hbw.out)).mono ?_
      rintro e w3 ⟨rfl, hb3⟩
      rw [← hr.out, ← HBB.out]
      replace HBW := Lib.hid (HBW.out.trans (hb3.mono HBW.out.size))
      clear hb3 bx hbw
      go_wp2
      go_ret
      exact ⟨ret_bool HBB.out, HBW.out⟩
end Go.Proofs.Ytefkhknfjohnaaa
