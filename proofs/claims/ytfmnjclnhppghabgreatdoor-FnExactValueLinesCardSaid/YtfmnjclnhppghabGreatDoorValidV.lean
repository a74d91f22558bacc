/- The contracts of the model's l9Valid and IsValidValue. -/
import Derived.Test.YtfmnjclnhppghabGreatDoorOwn
import Derived.Test.YtfmnjclnhppghabGreatDoorRuleOk
import Derived.Deep.RegionHeld3
import Derived.Deep.CutRange
namespace Go.Proofs.YtfmnjclnhppghabGreatDoor
open Go Go.RowKit
theorem own_len {rs : List RuleV} {r : RuleV} {v : ValueV} (hk : kindI rs r = true) (h : ownB rs r v = true) : v.items.length ≤ 40 := by
  have hkn := kindI_known hk
  rcases (by omega : r.kind = 1 ∨ r.kind = 2 ∨ r.kind = 3 ∨ r.kind = 4 ∨ r.kind = 5 ∨ r.kind = 6 ∨ r.kind = 7 ∨ r.kind = 8 ∨ r.kind = 9 ∨ r.kind = 10) with e | e | e | e | e | e | e | e | e | e
  · simp [ownB, e] at h; rw [h.2.2]; simp
  · simp [ownB, e] at h; rw [h.2.2]; simp
  · simp [ownB, e] at h; rw [h.2.2]; simp
  · simp [ownB, e] at h; rw [h.2.2]; simp
  · simp [ownB, e] at h; omega
  · have := kindI_6 hk e; simp [ownB, e] at h; omega
  · simp [ownB, e] at h; omega
  · simp [ownB, e] at h; omega
  · simp [ownB, e] at h; omega
  · simp [ownB, e] at h; rw [h.2.2]; simp
/-- The cells of an item. -/
theorem IsVal.cells {n : Nat} {v : ValueV} {cs : List Value} {w : World} (h : IsVal n v cs w) : ∃ ab cb ai ci, cs = [.int .i64 v.number, .slice ab v.bytes.length cb, .slice ai v.items.length ci] := by
  cases n with
  | zero => exact h.elim
  | succ n => obtain ⟨ab, cb, ai, ci, e, _⟩ := h; exact ⟨ab, cb, ai, ci, e⟩
/-- What l9Valid promises of values of a height. -/
def ValidC (a : Option Addr) (rs : List RuleV) (cap n : Nat) : Prop :=
  ∀ (v : ValueV) (vs : List Value) (k : Nat) (w : World), k < rs.length → RdR a rs w → IsVal n v vs w →
    Calls Tryz.prog 37 #[.agg #[.slice a rs.length cap], .int .i64 (k : Int), .agg vs.toArray] w fun e w' => e = .returned (.bool (validV rs (k : Int) v)) ∧ Below w.heap.size w w'
set_option maxRecDepth 100000 in
set_option maxHeartbeats 8000000 in
theorem valid_step (a : Option Addr) (rs : List RuleV) (cap n : Nat) (hl : rs.length ≤ 1048576) (hall : allV (kindI rs) rs) (ih : ValidC a rs cap n) : ValidC a rs cap (n + 1) := by
  intro v vs k w hk hrd hv
  obtain ⟨ab, cb, ai, ci, rfl, hb, hit⟩ := hv
  obtain ⟨w0, hw0⟩ : ∃ w0, w0 = (w.alloc (.cells #[.slice a rs.length cap] 35)).alloc (.cells #[.int .i64 v.number, .slice ab v.bytes.length cb, .slice ai v.items.length ci] 39) := ⟨_, rfl⟩
  have hB : Below w.heap.size w w0 := by subst hw0; exact ((Below.refl _ _).alloc (Nat.le_refl _) _).alloc (by simp) _
  have hD : CellsAt w.heap.size [.slice a rs.length cap] w0 := by subst hw0; exact (CellsAt.new w _ _).below ((Below.refl _ _).alloc (Nat.le_refl _) _)
  have hVC : CellsAt (w.heap.size + 1) [.int .i64 v.number, .slice ab v.bytes.length cb, .slice ai v.items.length ci] w0 := by subst hw0; have h1 := CellsAt.new (w.alloc (.cells #[.slice a rs.length cap] 35)) [.int .i64 v.number, .slice ab v.bytes.length cb, .slice ai v.items.length ci] 39; rw [World.size_alloc] at h1; exact h1
  have HIT : Hid (∀ j (h : j < v.items.length), ∃ b off cs', ai = some ⟨b, off, none⟩ ∧ IsVal n v.items[j] cs' w0 ∧ ∀ i u, cs'[i]? = some u → w0.cell? ⟨b, off + j * 3 + i, none⟩ = some u) := fun j hj => by obtain ⟨b, off, cs', e, h3, h4⟩ := hit j hj; exact ⟨b, off, cs', e, h3.below hB, fun i u hi => (hB.cell (cell_lt (h4 i u hi))).trans (h4 i u hi)⟩
  have hIV : IsVal (n + 1) v [.int .i64 v.number, .slice ab v.bytes.length cb, .slice ai v.items.length ci] w0 := ⟨ab, cb, ai, ci, rfl, hb.below hB, HIT.out⟩
  obtain ⟨b0, off, a4, c4, a5, c5, a6, c6, a7, c7, rfl, ⟨d0, d1, d2, d3, d4, d5, d6, d7⟩, r4, r5, r6, r7⟩ := (hrd.below hB).at k hk
  have HKI := Lib.hid (allV_kind hall hk)
  have HKR : Hid (∀ x ∈ rs[k].kids, ∃ m : Nat, x = (m : Int) ∧ m < rs.length) := fun x hx => by have h1 := allV_kids hall hk x hx; exact ⟨x.toNat, by omega, by omega⟩
  have HVE : Hid (validV rs (k : Int) v = (ownB rs rs[k] v && validL rs rs[k] v.number 0 v.items)) := by show _ = _; rw [validV_eq, ruleAt_at hk]
  obtain ⟨r, hr⟩ : ∃ r, r = rs[k] := ⟨_, rfl⟩
  rw [← hr] at d0 d1 d2 d3 d4 d5 d6 d7 r4 r5 r6 r7 HKI HKR HVE
  clear hr
  obtain ⟨w2, hw2⟩ : ∃ w2, w2 = w0.alloc (.cells #[.string r.name, .int .i64 r.kind, .int .i64 r.size, .bool r.little, .slice a4 r.bytes.length c4, .slice a5 r.names.length c5, .slice a6 r.tags.length c6, .slice a7 r.kids.length c7] 54) := ⟨_, rfl⟩
  have hb2 : Below w0.heap.size w0 w2 := by subst hw2; exact (Below.refl _ _).alloc (Nat.le_refl _) _
  have HC : Hid (CellsAt w0.heap.size [.string r.name, .int .i64 r.kind, .int .i64 r.size, .bool r.little, .slice a4 r.bytes.length c4, .slice a5 r.names.length c5, .slice a6 r.tags.length c6, .slice a7 r.kids.length c7] w2) := by subst hw2; exact CellsAt.new w0 _ _
  have HD := Lib.hid (hD.below hb2)
  have HVC := Lib.hid (hVC.below hb2)
  have HIV := Lib.hid (hIV.below hb2)
  have HIS : Hid (IsRule r [.string r.name, .int .i64 r.kind, .int .i64 r.size, .bool r.little, .slice a4 r.bytes.length c4, .slice a5 r.names.length c5, .slice a6 r.tags.length c6, .slice a7 r.kids.length c7] w2) := ⟨a4, c4, a5, c5, a6, c6, a7, c7, rfl, r4.below hb2, r5.below hb2, r6.below hb2, r7.below hb2⟩
  have HRD := Lib.hid ((hrd.below hB).below hb2)
  replace HIT : Hid (∀ j (h : j < v.items.length), ∃ b off cs', ai = some ⟨b, off, none⟩ ∧ IsVal n v.items[j] cs' w2 ∧ ∀ i u, cs'[i]? = some u → w2.cell? ⟨b, off + j * 3 + i, none⟩ = some u) := fun j hj => by obtain ⟨b, off, cs', e, h3, h4⟩ := HIT.out j hj; exact ⟨b, off, cs', e, h3.below hb2, fun i u hi => (hb2.cell (cell_lt (h4 i u hi))).trans (h4 i u hi)⟩
  have HB := Lib.hid (hB.trans (hb2.mono hB.size))
  have HIH := Lib.hid ih
  have HALL := Lib.hid hall
  have hW := Lib.hid hw0
  have hW2 := Lib.hid hw2
  have bx := (hD 0 _ rfl).1
  have k0 : (0 : Int) ≤ (k : Int) := by omega
  have k1 : (k : Int) < (rs.length : Int) := by omega
  clear hB hD hVC hIV hb2 hw0 hw2 hb hit hrd ih hall r4 r5 r6 r7
  go_enter Tryz.func37, Tryz.ntmps37
  go_upto_region 1 with fail
  rw [← hW.out]
  clear hW
  go_upto_region 2 with fail
  rw [← hW2.out]
  clear hW2 bx d0 d1 d2 d3 d4 d5 d6 d7
  have bx := (HD.out 0 _ rfl).1
  have z0 := (HVC.out 0 _ rfl).1
  have z1 := (HVC.out 1 _ rfl).1
  have z2 := (HVC.out 2 _ rfl).1
  have y0 := (HC.out 0 _ rfl).1
  have y1 := (HC.out 1 _ rfl).1
  have y2 := (HC.out 2 _ rfl).1
  have y3 := (HC.out 3 _ rfl).1
  have y4 := (HC.out 4 _ rfl).1
  have y5 := (HC.out 5 _ rfl).1
  have y6 := (HC.out 6 _ rfl).1
  have y7 := (HC.out 7 _ rfl).1
  go_wp2_with fail
  refine (own_spec (some ⟨b0, off, none⟩) rs cap r _ _ v (n + 1) _ hl HRD.out HKI.out HIS.out HIV.out).mono ?_
  rintro e w3 ⟨rfl, hb3⟩
  replace HD := Lib.hid (HD.out.below hb3)
  replace HVC := Lib.hid (HVC.out.below hb3)
  replace HC := Lib.hid (HC.out.below hb3)
  replace HIS : Hid (IsRule r [.string r.name, .int .i64 r.kind, .int .i64 r.size, .bool r.little, .slice a4 r.bytes.length c4, .slice a5 r.names.length c5, .slice a6 r.tags.length c6, .slice a7 r.kids.length c7] w3) := HIS.out.below hb3
  replace HRD := Lib.hid (HRD.out.below hb3)
  replace HIT : Hid (∀ j (h : j < v.items.length), ∃ b off cs', ai = some ⟨b, off, none⟩ ∧ IsVal n v.items[j] cs' w3 ∧ ∀ i u, cs'[i]? = some u → w3.cell? ⟨b, off + j * 3 + i, none⟩ = some u) := fun j hj => by obtain ⟨b, off, cs', e, h3, h4⟩ := HIT.out j hj; exact ⟨b, off, cs', e, h3.below hb3, fun i u hi => (hb3.cell (cell_lt (h4 i u hi))).trans (h4 i u hi)⟩
  replace HB := Lib.hid (HB.out.trans (hb3.mono HB.out.size))
  clear hb3 bx z0 z1 z2 y0 y1 y2 y3 y4 y5 y6 y7 HIV
  cases hown : ownB rs r v with
  | false =>
    have hr : Hid (validV rs (k : Int) v = false) := by show _ = _; rw [HVE.out, hown]; rfl
    go_wp2
    go_ret
    exact ⟨ret_bool hr.out.symm, HB.out⟩
  | true =>
    have hil := own_len HKI.out hown
    have hve : Hid (validV rs (k : Int) v = validL rs r v.number 0 v.items) := by show _ = _; rw [HVE.out, hown]; rfl
    have hik : Hid (∀ q, q < v.items.length → ∃ m : Nat, itemR r v.number q = (m : Int) ∧ m < rs.length) := fun q hq => by have h1 := item_kid HKI.out hown hq; obtain ⟨m, h2, h3⟩ := HKR.out _ h1; exact ⟨m, h2, h3⟩
    go_wp2
    go_loopw [8] (fun i W => ∃ q : Nat, q ≤ v.items.length ∧ i = .int .i64 q ∧ Hid (validV rs (k : Int) v = validL rs r v.number q (v.items.drop q)) ∧ Hid (Below w3.heap.size w3 W)) (fun i _ => v.items.length - (intOf i).toNat)
    case atStart => exact ⟨0, Nat.zero_le _, rfl, hve, Below.refl _ _⟩
    case round =>
      obtain ⟨q, hql, rfl, hvq, hbw⟩ := hrel
      have q0 : (0 : Int) ≤ (q : Int) := by omega
      have z2 := (HVC.out.below hbw.out 2 _ rfl).1
      have HBW := Lib.hid (HB.out.trans (hbw.out.mono HB.out.size))
      by_cases hlt : q < v.items.length
      · have q1 : (q : Int) < (v.items.length : Int) := by omega
        obtain ⟨m, hm, hmr⟩ := hik.out q hlt
        have hnx := Lib.hid (validL_next (rs := rs) (r := r) (x := v.number) hlt)
        obtain ⟨bi, oi, cs', hai, hiv, hcc⟩ := HIT.out q hlt
        subst hai
        obtain ⟨ab', cb', ai', ci', rfl⟩ := hiv.cells
        rw [hm] at hnx
        have HM := Lib.hid hm
        have HIV := Lib.hid hiv
        obtain ⟨it, hitt⟩ : ∃ it, it = v.items[q] := ⟨_, rfl⟩
        rw [← hitt] at hnx HIV hcc hiv
        have x0 := cell_keep hbw.out (hcc 0 _ rfl)
        have x1 := cell_keep hbw.out (hcc 1 _ rfl)
        have x2 := cell_keep hbw.out (hcc 2 _ rfl)
        simp only [Nat.add_zero] at x0
        clear hm hiv hcc hitt
        obtain ⟨vb, hvb⟩ : ∃ vb, vb = validV rs (m : Int) it := ⟨_, rfl⟩
        rw [← hvb] at hnx
        have HVB := Lib.hid hvb
        clear hvb
        have HW0 : Hid (Below wr.heap.size wr wr.drew) := below_drewN (Below.refl _ wr) 1
        have HSW : Hid (∀ W, Below wr.heap.size wr W → W.cell? ⟨w.heap.size, 0, none⟩ = some (.slice (some ⟨b0, off, none⟩) rs.length cap) ∧ W.cell? ⟨w0.heap.size, 0, none⟩ = some (.string r.name) ∧ W.cell? ⟨w0.heap.size, 1, none⟩ = some (.int .i64 r.kind) ∧ W.cell? ⟨w0.heap.size, 2, none⟩ = some (.int .i64 r.size) ∧ W.cell? ⟨w0.heap.size, 3, none⟩ = some (.bool r.little) ∧ W.cell? ⟨w0.heap.size, 4, none⟩ = some (.slice a4 r.bytes.length c4) ∧ W.cell? ⟨w0.heap.size, 5, none⟩ = some (.slice a5 r.names.length c5) ∧ W.cell? ⟨w0.heap.size, 6, none⟩ = some (.slice a6 r.tags.length c6) ∧ W.cell? ⟨w0.heap.size, 7, none⟩ = some (.slice a7 r.kids.length c7) ∧ W.cell? ⟨w.heap.size + 1, 0, none⟩ = some (.int .i64 v.number) ∧ W.cell? ⟨w.heap.size + 1, 2, none⟩ = some (.slice (some ⟨bi, oi, none⟩) v.items.length ci) ∧ W.cell? ⟨bi, oi + q * 3, none⟩ = some (.int .i64 it.number) ∧ W.cell? ⟨bi, oi + q * 3 + 1, none⟩ = some (.slice ab' it.bytes.length cb') ∧ W.cell? ⟨bi, oi + q * 3 + 2, none⟩ = some (.slice ai' it.items.length ci')) := fun W hW => ⟨(HD.out.below (hbw.out.trans (hW.mono hbw.out.size)) 0 _ rfl).1, (HC.out.below (hbw.out.trans (hW.mono hbw.out.size)) 0 _ rfl).1, (HC.out.below (hbw.out.trans (hW.mono hbw.out.size)) 1 _ rfl).1, (HC.out.below (hbw.out.trans (hW.mono hbw.out.size)) 2 _ rfl).1, (HC.out.below (hbw.out.trans (hW.mono hbw.out.size)) 3 _ rfl).1, (HC.out.below (hbw.out.trans (hW.mono hbw.out.size)) 4 _ rfl).1, (HC.out.below (hbw.out.trans (hW.mono hbw.out.size)) 5 _ rfl).1, (HC.out.below (hbw.out.trans (hW.mono hbw.out.size)) 6 _ rfl).1, (HC.out.below (hbw.out.trans (hW.mono hbw.out.size)) 7 _ rfl).1, (HVC.out.below (hbw.out.trans (hW.mono hbw.out.size)) 0 _ rfl).1, cell_keep hW z2, cell_keep hW x0, cell_keep hW x1, cell_keep hW x2⟩
        clear x0 x1 x2
        go_upto_region 7 with fail
        clear z2
        go_region_held3 (fun W => W.cell? ⟨w.heap.size, 0, none⟩ = some (.slice (some ⟨b0, off, none⟩) rs.length cap) ∧ W.cell? ⟨w0.heap.size, 0, none⟩ = some (.string r.name) ∧ W.cell? ⟨w0.heap.size, 1, none⟩ = some (.int .i64 r.kind) ∧ W.cell? ⟨w0.heap.size, 2, none⟩ = some (.int .i64 r.size) ∧ W.cell? ⟨w0.heap.size, 3, none⟩ = some (.bool r.little) ∧ W.cell? ⟨w0.heap.size, 4, none⟩ = some (.slice a4 r.bytes.length c4) ∧ W.cell? ⟨w0.heap.size, 5, none⟩ = some (.slice a5 r.names.length c5) ∧ W.cell? ⟨w0.heap.size, 6, none⟩ = some (.slice a6 r.tags.length c6) ∧ W.cell? ⟨w0.heap.size, 7, none⟩ = some (.slice a7 r.kids.length c7) ∧ W.cell? ⟨w.heap.size + 1, 0, none⟩ = some (.int .i64 v.number) ∧ W.cell? ⟨w.heap.size + 1, 2, none⟩ = some (.slice (some ⟨bi, oi, none⟩) v.items.length ci) ∧ W.cell? ⟨bi, oi + q * 3, none⟩ = some (.int .i64 it.number) ∧ W.cell? ⟨bi, oi + q * 3 + 1, none⟩ = some (.slice ab' it.bytes.length cb') ∧ W.cell? ⟨bi, oi + q * 3 + 2, none⟩ = some (.slice ai' it.items.length ci')) (exact HSW.out _ HW0.out) (first | (go_at_call 59; refine (item_spec rs r _ v.number q _ (by omega) HKI.out (HIS.out.below (hbw.out.trans (HW0.out.mono hbw.out.size)))).mono ?_; rintro e w5 ⟨rfl, hb5⟩; rw [HM.out]; replace HW0 := Lib.hid (HW0.out.trans (hb5.mono HW0.out.size)); clear hb5) | (go_at_call 37; refine (HIH.out it _ m _ hmr (HRD.out.below (hbw.out.trans (HW0.out.mono hbw.out.size))) (HIV.out.below (hbw.out.trans (HW0.out.mono hbw.out.size)))).mono ?_; rintro e w6 ⟨rfl, hb6⟩; rw [← HVB.out]; replace HW0 := Lib.hid (HW0.out.trans (hb6.mono HW0.out.size)); clear hb6))
        have HBN := Lib.hid (hbw.out.trans (HW0.out.mono hbw.out.size))
        cases vb with
        | false =>
          have hr : Hid (validV rs (k : Int) v = false) := by show _ = _; rw [hvq.out, hnx.out]; rfl
          have HBF := Lib.hid (HB.out.trans (HBN.out.mono HB.out.size))
          go_wp2
          go_ret
          exact ⟨ret_bool hr.out.symm, HBF.out⟩
        | true =>
          have hv2 : Hid (validV rs (k : Int) v = validL rs r v.number (q + 1) (v.items.drop (q + 1))) := by show _ = _; rw [hvq.out, hnx.out]; rfl
          go_wp2
          go_roundw
          case rel => exact ⟨q + 1, by omega, by go_num, hv2, HBN⟩
          case measure => simp [intOf]; omega
      · have q1 : ¬ (q : Int) < (v.items.length : Int) := by omega
        have hr : Hid (validV rs (k : Int) v = true) := by show _ = _; rw [hvq.out, List.drop_of_length_le (by omega), validL]
        go_wp2
        go_ret
        exact ⟨ret_bool hr.out.symm, HBW.out⟩
theorem valid_spec (a : Option Addr) (rs : List RuleV) (cap : Nat) (hl : rs.length ≤ 1048576) (hall : allV (kindI rs) rs) : ∀ n, ValidC a rs cap n
  | 0 => fun _ _ _ _ _ _ h => h.elim
  | n + 1 => valid_step a rs cap n hl hall (valid_spec a rs cap hl hall n)
end Go.Proofs.YtfmnjclnhppghabGreatDoor
