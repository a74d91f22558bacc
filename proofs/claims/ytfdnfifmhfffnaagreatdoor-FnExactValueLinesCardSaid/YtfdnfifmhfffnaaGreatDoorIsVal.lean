/- The contracts of the program's isValueOf and IsValidValue. -/
import Derived.Test.YtfdnfifmhfffnaaGreatDoorKidOf
import Derived.Test.YtfdnfifmhfffnaaGreatDoorBnd
import Derived.Test.YtfdnfifmhfffnaaGreatDoorFitI
import Derived.Test.YtfdnfifmhfffnaaGreatDoorValidI
import Derived.Test.YtfdnfifmhfffnaaGreatDoorIsDescr
import Derived.BigQuiet
import Derived.Deep.RegionHeld3
import Derived.Deep.CutRange
namespace Go.Proofs.YtfdnfifmhfffnaaGreatDoor
open Go Go.RowKit
/-- What isValueOf promises of values of a height. -/
def IsValC (a : Option Addr) (rs : List RuleV) (cap n : Nat) : Prop :=
  ∀ (v : ValueV) (vs : List Value) (k b o : Nat) (w : World), k < rs.length → RdR a rs w → IsVal n v vs w → (∀ i u, vs[i]? = some u → w.cell? ⟨b, o + i, none⟩ = some u) →
    Calls Tryz.prog 37 #[.agg #[.slice a rs.length cap], .int .i64 (k : Int), .pointer (some ⟨b, o, none⟩)] w fun e w' => e = .returned (.bool (validV rs (k : Int) v)) ∧ Below w.heap.size w w'
set_option maxRecDepth 100000 in
set_option maxHeartbeats 8000000 in
theorem isval_step (a : Option Addr) (rs : List RuleV) (cap n : Nat) (hl : rs.length ≤ 1048576) (hall : allV (kindI rs) rs) (ih : IsValC a rs cap n) : IsValC a rs cap (n + 1) := by
  intro v vs k b o w hk hrd hv hc
  obtain ⟨ab, cb, ai, ci, rfl, -, hit⟩ := hv
  have x0 := hc 0 _ rfl
  have x1 := hc 1 _ rfl
  have x2 := hc 2 _ rfl
  simp only [Nat.add_zero] at x0
  obtain ⟨w0, hw0⟩ : ∃ w0, w0 = w.alloc (.cells #[.slice a rs.length cap] 26) := ⟨_, rfl⟩
  have hB : Below w.heap.size w w0 := by subst hw0; exact (Below.refl _ _).alloc (Nat.le_refl _) _
  have hD : CellsAt w.heap.size [.slice a rs.length cap] w0 := by subst hw0; exact CellsAt.new w _ _
  have HIT : Hid (∀ j (h : j < v.items.length), ∃ b off cs', ai = some ⟨b, off, none⟩ ∧ IsVal n v.items[j] cs' w0 ∧ ∀ i u, cs'[i]? = some u → w0.cell? ⟨b, off + j * 3 + i, none⟩ = some u) := fun j hj => by obtain ⟨b, off, cs', e, h3, h4⟩ := hit j hj; exact ⟨b, off, cs', e, h3.below hB, fun i u hi => cell_keep hB (h4 i u hi)⟩
  obtain ⟨b0, off, a4, c4, a5, c5, a6, c6, a7, c7, rfl, ⟨d0, d1, d2, d3, d4, d5, d6, d7⟩, r4, r5, r6, r7⟩ := (hrd.below hB).at k hk
  have HKI := Lib.hid (allV_kind hall hk)
  have HKR : Hid (∀ x ∈ rs[k].kids, ∃ m : Nat, x = (m : Int) ∧ m < rs.length) := fun x hx => by have h1 := allV_kids hall hk x hx; exact ⟨x.toNat, by omega, by omega⟩
  have HVE : Hid (validV rs (k : Int) v = (ownB rs rs[k] v && validL rs rs[k] v.number 0 v.items)) := by show _ = _; rw [validV_eq, ruleAt_at hk]
  obtain ⟨r, hr⟩ : ∃ r, r = rs[k] := ⟨_, rfl⟩
  rw [← hr] at d0 d1 d2 d3 d4 d5 d6 d7 r4 r5 r6 r7 HKI HKR HVE
  have HRE := Lib.hid hr
  clear hr
  have HC : Hid (∀ W, Below w0.heap.size w0 W → W.cell? ⟨w.heap.size, 0, none⟩ = some (.slice (some ⟨b0, off, none⟩) rs.length cap) ∧ W.cell? ⟨b0, off + k * 8, none⟩ = some (.string r.name) ∧ W.cell? ⟨b0, off + k * 8 + 1, none⟩ = some (.int .i64 r.kind) ∧ W.cell? ⟨b0, off + k * 8 + 2, none⟩ = some (.int .i64 r.size) ∧ W.cell? ⟨b0, off + k * 8 + 3, none⟩ = some (.bool r.little) ∧ W.cell? ⟨b0, off + k * 8 + 4, none⟩ = some (.slice a4 r.bytes.length c4) ∧ W.cell? ⟨b0, off + k * 8 + 5, none⟩ = some (.slice a5 r.names.length c5) ∧ W.cell? ⟨b0, off + k * 8 + 6, none⟩ = some (.slice a6 r.tags.length c6) ∧ W.cell? ⟨b0, off + k * 8 + 7, none⟩ = some (.slice a7 r.kids.length c7) ∧ W.cell? ⟨b, o, none⟩ = some (.int .i64 v.number) ∧ W.cell? ⟨b, o + 1, none⟩ = some (.slice ab v.bytes.length cb) ∧ W.cell? ⟨b, o + 2, none⟩ = some (.slice ai v.items.length ci)) := fun W hW => ⟨(hD.below hW 0 _ rfl).1, cell_keep hW d0, cell_keep hW d1, cell_keep hW d2, cell_keep hW d3, cell_keep hW d4, cell_keep hW d5, cell_keep hW d6, cell_keep hW d7, cell_keep hW (cell_keep hB x0), cell_keep hW (cell_keep hB x1), cell_keep hW (cell_keep hB x2)⟩
  have HIS : Hid (IsRule r [.string r.name, .int .i64 r.kind, .int .i64 r.size, .bool r.little, .slice a4 r.bytes.length c4, .slice a5 r.names.length c5, .slice a6 r.tags.length c6, .slice a7 r.kids.length c7] w0) := ⟨a4, c4, a5, c5, a6, c6, a7, c7, rfl, r4, r5, r6, r7⟩
  have HRD := Lib.hid (hrd.below hB)
  have HB := Lib.hid hB
  have HIH := Lib.hid ih
  have HW := Lib.hid hw0
  have HHK := Lib.hid hk
  have k0 : (0 : Int) ≤ (k : Int) := by omega
  have k1 : (k : Int) < (rs.length : Int) := by omega
  clear hB hD hw0 hit hrd ih hall r4 r5 r6 r7 d0 d1 d2 d3 d4 d5 d6 d7 x0 x1 x2 hc
  go_enter Tryz.func37, Tryz.ntmps37
  go_upto_region 1 with fail
  rw [← HW.out]
  clear HW
  have bx := (HC.out w0 (Below.refl _ _)).1
  go_wp2_with fail
  refine (bnd_impl (some ⟨b0, off, none⟩) rs cap k r _ hl HHK.out HRE.out HKI.out HRD.out).mono ?_
  rintro e w1 ⟨rfl, hb1⟩
  have HW1 := Lib.hid hb1
  clear hb1 bx
  obtain ⟨B, hB⟩ : ∃ B, B = bndV rs r := ⟨_, rfl⟩
  rw [← hB]
  have HBD := Lib.hid hB
  clear hB
  obtain ⟨bx, -, -, -, -, -, -, -, -, x0, x1, x2⟩ := HC.out w1 HW1.out
  go_wp2_with fail
  refine (fit_impl B v b o ab cb ai ci _ x0 x1 x2).mono ?_
  rintro e w2 ⟨rfl, hb2⟩
  have HW2 := Lib.hid (HW1.out.trans (hb2.mono HW1.out.size))
  clear hb2 bx x0 x1 x2 HW1
  have HFT : Hid (fitB B v = fitB (bndV rs r) v) := by show _ = _; rw [HBD.out]
  have HFIN := Lib.hid (HB.out.trans (HW2.out.mono HB.out.size))
  cases hfit : fitB B v with
  | false =>
    have hr : Hid (validV rs (k : Int) v = false) := by show _ = _; rw [HVE.out, fit_no HKI.out (by rw [← HFT.out, hfit])]; rfl
    go_wp2
    go_ret
    exact ⟨ret_bool hr.out.symm, HFIN.out⟩
  | true =>
    have hil := fit_len HKI.out (by rw [← HFT.out, hfit])
    have HFIT : Hid (fitB (bndV rs r) v = true) := by show _ = _; rw [← HFT.out, hfit]
    have HKS : Hid (∀ x ∈ r.kids, 0 ≤ x) := fun x hx => by obtain ⟨m, h1, h2⟩ := HKR.out x hx; omega
    have HSTART : Hid (validV rs (k : Int) v = (ownB rs r v && validL rs r v.number 0 (v.items.drop 0))) := by show _ = _; rw [HVE.out, List.drop_zero]
    obtain ⟨bx, -, -, -, -, -, -, -, -, x0, x1, x2⟩ := HC.out w2 HW2.out
    clear hfit HFT HBD
    go_wp2
    clear bx x0 x1 x2
    go_loopw [20] (fun i W => ∃ q : Nat, q ≤ v.items.length ∧ i = .int .i64 q ∧ Hid (validV rs (k : Int) v = (ownB rs r v && validL rs r v.number q (v.items.drop q))) ∧ Hid (q = 0 ∨ ownB rs r v = true) ∧ Hid (Below w0.heap.size w0 W)) (fun i _ => v.items.length - (intOf i).toNat)
    case atStart => exact ⟨0, Nat.zero_le _, rfl, HSTART, Or.inl rfl, HW2⟩
    case round =>
      clear HSTART HW2 HFIN
      obtain ⟨q, hql, rfl, hvq, hown, hbw⟩ := hrel
      have q0 : (0 : Int) ≤ (q : Int) := by omega
      by_cases hlt : q < v.items.length
      · have q1 : (q : Int) < (v.items.length : Int) := by omega
        obtain ⟨f1, f2, f3⟩ := fit_kid HKI.out HKS.out HFIT.out hlt
        have hmem : 0 ≤ itemR r v.number q → itemR r v.number q ∈ r.kids := fun h => item_kid HKI.out (f3 h) hlt
        have hnx := Lib.hid (validL_next (rs := rs) (r := r) (x := v.number) hlt)
        obtain ⟨K, hK⟩ : ∃ K, K = kidI r v.number q := ⟨_, rfl⟩
        rw [← f1, ← hK] at f2 f3 hmem hnx
        have HK := Lib.hid hK
        have HF2 := Lib.hid f2
        have HF3 := Lib.hid f3
        have HMEM := Lib.hid hmem
        clear hK f1 f2 f3 hmem
        obtain ⟨bi, oi, cs', hai, hiv, hcc⟩ := HIT.out q hlt
        subst hai
        obtain ⟨it, hitt⟩ : ∃ it, it = v.items[q] := ⟨_, rfl⟩
        rw [← hitt] at hnx hiv
        have HIV := Lib.hid hiv
        have HCC := Lib.hid hcc
        clear hiv hcc hitt
        have HBW := Lib.hid (below_drewN hbw.out 1)
        clear hbw
        go_upto_region 6 with fail
        go_region_held3 (fun W => W.cell? ⟨w.heap.size, 0, none⟩ = some (.slice (some ⟨b0, off, none⟩) rs.length cap) ∧ W.cell? ⟨b0, off + k * 8, none⟩ = some (.string r.name) ∧ W.cell? ⟨b0, off + k * 8 + 1, none⟩ = some (.int .i64 r.kind) ∧ W.cell? ⟨b0, off + k * 8 + 2, none⟩ = some (.int .i64 r.size) ∧ W.cell? ⟨b0, off + k * 8 + 3, none⟩ = some (.bool r.little) ∧ W.cell? ⟨b0, off + k * 8 + 4, none⟩ = some (.slice a4 r.bytes.length c4) ∧ W.cell? ⟨b0, off + k * 8 + 5, none⟩ = some (.slice a5 r.names.length c5) ∧ W.cell? ⟨b0, off + k * 8 + 6, none⟩ = some (.slice a6 r.tags.length c6) ∧ W.cell? ⟨b0, off + k * 8 + 7, none⟩ = some (.slice a7 r.kids.length c7) ∧ W.cell? ⟨b, o, none⟩ = some (.int .i64 v.number) ∧ W.cell? ⟨b, o + 1, none⟩ = some (.slice ab v.bytes.length cb) ∧ W.cell? ⟨b, o + 2, none⟩ = some (.slice (some ⟨bi, oi, none⟩) v.items.length ci)) (exact HC.out _ HBW.out) (first | (go_at_call 81; refine (kidof_impl rs r _ v.number q _ (by omega) HKI.out (HIS.out.below HBW.out)).mono ?_; rintro e w5 ⟨rfl, hb5⟩; rw [← HK.out]; replace HBW := Lib.hid (HBW.out.trans (hb5.mono HBW.out.size)); clear hb5))
        by_cases hk0 : K < 0
        · have hd : decide (K < 0) = true := decide_eq_true hk0
          have hr : Hid (validV rs (k : Int) v = false) := by show _ = _; rw [hvq.out, HF2.out hk0]; rfl
          go_upto_region 7 with fail
          go_quiet (fail)
          have HFIN := Lib.hid (HB.out.trans ((below_drewN HBW.out nq).mono HB.out.size))
          go_wp2
          go_ret
          exact ⟨ret_bool hr.out.symm, HFIN.out⟩
        · obtain ⟨m, rfl, hm⟩ := HKR.out _ (HMEM.out (by omega))
          have hd : decide ((m : Int) < 0) = false := decide_eq_false hk0
          have HOW : Hid (ownB rs r v = true) := HF3.out (by omega)
          have HM := Lib.hid hm
          obtain ⟨vb, hvb⟩ : ∃ vb, vb = validV rs (m : Int) it := ⟨_, rfl⟩
          rw [← hvb] at hnx
          have HVB := Lib.hid hvb
          clear hvb hm
          replace HBW := Lib.hid (below_drewN HBW.out 1)
          go_upto_region 7 with fail
          go_region_held3 (fun W => W.cell? ⟨w.heap.size, 0, none⟩ = some (.slice (some ⟨b0, off, none⟩) rs.length cap) ∧ W.cell? ⟨b, o + 2, none⟩ = some (.slice (some ⟨bi, oi, none⟩) v.items.length ci)) (exact ⟨(HC.out _ HBW.out).1, (HC.out _ HBW.out).2.2.2.2.2.2.2.2.2.2.2⟩) (first | (go_at_call 37; refine (HIH.out it cs' m bi (oi + q * 3) _ HM.out (HRD.out.below HBW.out) (HIV.out.below HBW.out) (fun i u hi => cell_keep HBW.out (HCC.out i u hi))).mono ?_; rintro e w6 ⟨rfl, hb6⟩; rw [← HVB.out]; replace HBW := Lib.hid (HBW.out.trans (hb6.mono HBW.out.size)); clear hb6))
          cases vb with
          | false =>
            have hr : Hid (validV rs (k : Int) v = false) := by show _ = _; rw [hvq.out, hnx.out, Bool.false_and, Bool.and_false]
            have HFIN := Lib.hid (HB.out.trans (HBW.out.mono HB.out.size))
            go_wp2
            go_ret
            exact ⟨ret_bool hr.out.symm, HFIN.out⟩
          | true =>
            have hv2 : Hid (validV rs (k : Int) v = (ownB rs r v && validL rs r v.number (q + 1) (v.items.drop (q + 1)))) := by show _ = _; rw [hvq.out, hnx.out, Bool.true_and]
            go_wp2
            go_roundw
            case rel => exact ⟨q + 1, by omega, by go_num, hv2, Or.inr HOW.out, HBW⟩
            case measure => simp [intOf]; omega
      · have q1 : ¬ (q : Int) < (v.items.length : Int) := by omega
        have HOW : Hid (ownB rs r v = true) := by rcases hown.out with h | h; exact fit_end HKI.out HFIT.out (by omega); exact h
        have hr : Hid (validV rs (k : Int) v = true) := by show _ = _; rw [hvq.out, HOW.out, List.drop_of_length_le (by omega), validL]; rfl
        have HFIN := Lib.hid (HB.out.trans (hbw.out.mono HB.out.size))
        go_wp2
        go_ret
        exact ⟨ret_bool hr.out.symm, HFIN.out⟩
theorem isval_of (a : Option Addr) (rs : List RuleV) (cap : Nat) (hl : rs.length ≤ 1048576) (hall : allV (kindI rs) rs) : ∀ n, IsValC a rs cap n
  | 0 => fun _ _ _ _ _ _ _ _ h => h.elim
  | n + 1 => isval_step a rs cap n hl hall (isval_of a rs cap hl hall n)
set_option maxRecDepth 100000 in
set_option maxHeartbeats 4000000 in
theorem fits_impl (a : Option Addr) (rs : List RuleV) (cap n : Nat) (k : Int) (v : ValueV) (vs : List Value) (w : World) (hl : rs.length ≤ 1048576) (hs : ∀ r ∈ rs, Short r) (hp : ∀ r ∈ rs, Spelt r) (h : RdC a rs w) (hv : IsVal n v vs w) :
    Calls Tryz.prog 33 #[.agg #[.slice a rs.length cap], .int .i64 k, .agg vs.toArray] w fun e w' => e = .returned (.bool (fitsV rs k v)) ∧ Below w.heap.size w w' := by
  obtain ⟨ab, cb, ai, ci, rfl⟩ := hv.cells
  obtain ⟨w0, hw0⟩ : ∃ w0, w0 = (w.alloc (.cells #[.slice a rs.length cap] 26)).alloc (.cells #[.int .i64 v.number, .slice ab v.bytes.length cb, .slice ai v.items.length ci] 29) := ⟨_, rfl⟩
  have hB : Below w.heap.size w w0 := by subst hw0; exact ((Below.refl _ _).alloc (Nat.le_refl _) _).alloc (by simp) _
  have hD : CellsAt w.heap.size [.slice a rs.length cap] w0 := by subst hw0; exact (CellsAt.new w _ _).below ((Below.refl _ _).alloc (Nat.le_refl _) _)
  have hVC : CellsAt (w.heap.size + 1) [.int .i64 v.number, .slice ab v.bytes.length cb, .slice ai v.items.length ci] w0 := by subst hw0; have h1 := CellsAt.new (w.alloc (.cells #[.slice a rs.length cap] 26)) [.int .i64 v.number, .slice ab v.bytes.length cb, .slice ai v.items.length ci] 29; rw [World.size_alloc] at h1; exact h1
  have HC := Lib.hid (h.below hB)
  have HV := Lib.hid (hv.below hB)
  have HD := Lib.hid hD
  have HVC := Lib.hid hVC
  have HB := Lib.hid hB
  have HS := Lib.hid hs
  have HP := Lib.hid hp
  have HW := Lib.hid hw0
  have bx := (hD 0 _ rfl).1
  obtain ⟨ok, hok⟩ : ∃ b, b = okAt rs k := ⟨_, rfl⟩
  have HO := Lib.hid hok
  obtain ⟨fb, hfb⟩ : ∃ b, b = fitsV rs k v := ⟨_, rfl⟩
  rw [← hfb]
  have HF : Hid (fb = (ok && validV rs k v)) := by show _ = _; rw [hfb, hok]; rfl
  clear h hv hB hD hVC hs hp hw0 hok hfb
  go_enter Tryz.func33, Tryz.ntmps33
  go_upto_region 1 with fail
  rw [← HW.out]
  clear HW
  go_wp2_with fail
  refine (isdescr_impl a rs cap k _ hl HS.out HP.out HC.out).mono ?_
  rintro e w1 ⟨rfl, hb1⟩
  rw [← HO.out]
  replace HD := Lib.hid (HD.out.below hb1)
  replace HVC := Lib.hid (HVC.out.below hb1)
  replace HC := Lib.hid (HC.out.below hb1)
  replace HV := Lib.hid (HV.out.below hb1)
  replace HB := Lib.hid (HB.out.trans (hb1.mono HB.out.size))
  clear hb1 bx
  have bx := (HD.out 0 _ rfl).1
  cases ok with
  | false =>
    obtain rfl : fb = false := HF.out
    go_wp2
    go_ret
    exact ⟨rfl, HB.out⟩
  | true =>
    obtain ⟨⟨k0, k1⟩, hn, hv⟩ := okAt_yes HO.out.symm
    obtain ⟨m, rfl⟩ : ∃ m : Nat, k = (m : Int) := ⟨k.toNat, by omega⟩
    have hm : m < rs.length := by omega
    have HA := Lib.hid hv
    clear hv hn HO
    go_wp2_with fail
    refine (isval_of a rs cap hl HA.out n v _ m (w.heap.size + 1) 0 _ hm HC.out.rd HV.out (fun i u hu => by simpa using (HVC.out i u hu).1)).mono ?_
    rintro e w2 ⟨rfl, hb2⟩
    have hr : validV rs (m : Int) v = fb := by rw [HF.out]; rfl
    rw [hr]
    have HR := Lib.hid hr
    clear hr
    replace HB := Lib.hid (HB.out.trans (hb2.mono HB.out.size))
    clear hb2
    go_wp2
    go_ret
    exact ⟨rfl, HB.out⟩
end Go.Proofs.YtfdnfifmhfffnaaGreatDoor
