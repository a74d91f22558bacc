/- The contracts of the program's isValueOf (a closure that allItems calls) and IsValidValue. -/
import Derived.Test.YtefkhknfjohnaaaGK
import Derived.Test.YtefkhknfjohnaaaPW
import Derived.Test.YtefkhknfjohnaaaGV
import Derived.Test.YtefkhknfjohnaaaGD
import Derived.Test.YtefkhknfjohnaaaGX
import Derived.BigQuiet
import Derived.Deep.RegionHeld3
import Derived.Deep.CutRange
namespace Go.Proofs.Ytefkhknfjohnaaa
open Go Go.RowKit
/-- What isValueOf promises of values of a height. -/
def IsValC (a : Option Addr) (rs : List RuleV) (cap n : Nat) : Prop :=
  ∀ (v : ValueV) (vs : List Value) (k b o : Nat) (w : World), k < rs.length → RdR a rs w → IsVal n v vs w → (∀ i u, vs[i]? = some u → w.cell? ⟨b, o + i, none⟩ = some u) →
    Calls Try.prog 51 #[.agg #[.slice a rs.length cap], .int .i64 (k : Int), .pointer (some ⟨b, o, none⟩)] w fun e w' => e = .returned (.bool (validV rs (k : Int) v)) ∧ Below w.heap.size w w'
set_option maxRecDepth 100000 in
theorem valclo_impl (a : Option Addr) (rs : List RuleV) (cap n : Nat) (ih : IsValC a rs cap n) (v : ValueV) (vs : List Value) (k b o cl : Nat) (w : World) (hk : k < rs.length) (hrd : RdR a rs w) (hv : IsVal n v vs w) (hc : ∀ i u, vs[i]? = some u → w.cell? ⟨b, o + i, none⟩ = some u) (hd : w.cell? ⟨cl, 0, none⟩ = some (.slice a rs.length cap)) :
    Calls Try.prog 74 #[.int .i64 (k : Int), .pointer (some ⟨b, o, none⟩), .pointer (some ⟨cl, 0, none⟩)] w fun e w' => e = .returned (.bool (validV rs (k : Int) v)) ∧ Below w.heap.size w w' := by
  obtain ⟨R, hR⟩ : ∃ R, R = validV rs (k : Int) v := ⟨_, rfl⟩
  have HCL : Hid (Calls Try.prog 51 #[.agg #[.slice a rs.length cap], .int .i64 (k : Int), .pointer (some ⟨b, o, none⟩)] w fun e w' => e = .returned (.bool R) ∧ Below w.heap.size w w') := by rw [hR]; exact ih v vs k b o w hk hrd hv hc
  rw [← hR]
  clear hR ih hk hrd hv hc
  go_enter Try.func74, Try.ntmps74
  go_wp2_with fail
  refine HCL.out.mono ?_
  rintro e w1 ⟨rfl, hb⟩
  have HB := Lib.hid hb
  clear hb hd
  go_wp2
  go_ret
  exact ⟨rfl, HB.out⟩
set_option maxRecDepth 100000 in
set_option maxHeartbeats 8000000 in
theorem allv_impl (a : Option Addr) (rs : List RuleV) (cap n : Nat) (ih : IsValC a rs cap n) (r : RuleV) (cs : List Value) (v : ValueV) (b o cl : Nat) (ai : Option Addr) (ci : Nat) (w : World)
    (hki : kindI rs r = true) (hkr : ∀ x ∈ r.kids, ∃ m : Nat, x = (m : Int) ∧ m < rs.length) (hi : IsRule r cs w) (hfit : fitB (bndV rs r) v = true) (x0 : w.cell? ⟨b, o, none⟩ = some (.int .i64 v.number)) (x2 : w.cell? ⟨b, o + 2, none⟩ = some (.slice ai v.items.length ci)) (hit : ItemsAt n ai v.items w) (hd : w.cell? ⟨cl, 0, none⟩ = some (.slice a rs.length cap)) (hrd : RdR a rs w) :
    Calls Try.prog 77 #[.agg cs.toArray, .pointer (some ⟨b, o, none⟩), .func (.func 74) #[] #[.pointer (some ⟨cl, 0, none⟩)]] w fun e w' => e = .returned (.bool (ownB rs r v && validL rs r v.number 0 v.items)) ∧ Below w.heap.size w w' := by
  have hi0 := hi
  obtain ⟨a4, c4, a5, c5, a6, c6, a7, c7, rfl, -, -, -, -⟩ := hi
  obtain ⟨w0, hw0⟩ : ∃ w0, w0 = w.alloc (.cells #[.string r.name, .int .i64 r.kind, .int .i64 r.size, .bool r.little, .slice a4 r.bytes.length c4, .slice a5 r.names.length c5, .slice a6 r.tags.length c6, .slice a7 r.kids.length c7] 76) := ⟨_, rfl⟩
  have hB : Below w.heap.size w w0 := by subst hw0; exact (Below.refl _ _).alloc (Nat.le_refl _) _
  have hR : CellsAt w.heap.size [.string r.name, .int .i64 r.kind, .int .i64 r.size, .bool r.little, .slice a4 r.bytes.length c4, .slice a5 r.names.length c5, .slice a6 r.tags.length c6, .slice a7 r.kids.length c7] w0 := by subst hw0; exact CellsAt.new w _ _
  have hil := fit_len hki hfit
  obtain ⟨RB, hRB⟩ : ∃ RB, RB = (ownB rs r v && validL rs r v.number 0 v.items) := ⟨_, rfl⟩
  have HRB := Lib.hid hRB
  rw [← hRB]
  have HST : Hid (RB = (ownB rs r v && validL rs r v.number 0 (v.items.drop 0))) := by show _ = _; rw [hRB, List.drop_zero]
  have HKI := Lib.hid hki
  have HKR := Lib.hid hkr
  have HKS : Hid (∀ x ∈ r.kids, 0 ≤ x) := fun x hx => by obtain ⟨m, h1, h2⟩ := hkr x hx; omega
  have HFIT := Lib.hid hfit
  have HIS := Lib.hid hi0
  have HIT := Lib.hid hit
  have HIH := Lib.hid ih
  have HRD := Lib.hid hrd
  have HD0 := Lib.hid hd
  have HC : Hid (∀ W, Below w.heap.size w W → W.cell? ⟨b, o, none⟩ = some (.int .i64 v.number) ∧ W.cell? ⟨b, o + 2, none⟩ = some (.slice ai v.items.length ci)) := fun W hW => ⟨cellK hW (Nat.le_refl _) x0, cellK hW (Nat.le_refl _) x2⟩
  have HB := Lib.hid hB
  have HR := Lib.hid hR
  have HW := Lib.hid hw0
  clear hki hkr hi0 hfit hit ih hB hR hRB hw0 x0 x2 hd hrd
  go_enter Try.func77, Try.ntmps77
  go_upto_region 1 with fail
  rw [← HW.out]
  clear HW
  have z2 := (HC.out _ HB.out).2
  go_wp2
  clear z2
  go_loopw [14] (fun i W => ∃ q : Nat, q ≤ v.items.length ∧ i = .int .i64 q ∧ Hid (RB = (ownB rs r v && validL rs r v.number q (v.items.drop q))) ∧ Hid (q = 0 ∨ ownB rs r v = true) ∧ Hid (CellsAt w.heap.size [.string r.name, .int .i64 r.kind, .int .i64 r.size, .bool r.little, .slice a4 r.bytes.length c4, .slice a5 r.names.length c5, .slice a6 r.tags.length c6, .slice a7 r.kids.length c7] W) ∧ Hid (Below w.heap.size w W)) (fun i _ => v.items.length - (intOf i).toNat)
  case atStart => exact ⟨0, Nat.zero_le _, rfl, HST, Or.inl rfl, HR, HB⟩
  case round =>
    clear HST HR HB
    obtain ⟨q, hql, rfl, HVQ, HOWN, HR, HB⟩ := hrel
    have q0 : (0 : Int) ≤ (q : Int) := by omega
    by_cases hlt : q < v.items.length
    · have q1 : (q : Int) < (v.items.length : Int) := by omega
      obtain ⟨f1, f2, f3⟩ := fit_kid HKI.out HKS.out HFIT.out hlt
      have hmem : 0 ≤ itemR r v.number q → itemR r v.number q ∈ r.kids := fun h => item_kid HKI.out (f3 h) hlt
      have hnx := Lib.hid (validL_next (rs := rs) (r := r) (x := v.number) hlt)
      obtain ⟨K, hK⟩ : ∃ K, K = kidI r v.number q := ⟨_, rfl⟩
      rw [← f1, ← hK] at f2 f3 hmem hnx
      have HK := Lib.hid hK
      have HF2 := Lib.hid f2
      have HF3 := Lib.hid f3
      have HMEM := Lib.hid hmem
      clear hK f1 f2 f3 hmem
      obtain ⟨bi, oi, cs', hai, hiv, hcc⟩ := HIT.out q hlt
      subst hai
      obtain ⟨it, hitt⟩ : ∃ it, it = v.items[q] := ⟨_, rfl⟩
      rw [← hitt] at hnx hiv
      have HIV := Lib.hid hiv
      have HCC := Lib.hid hcc
      clear hiv hcc hitt
      have hb5 : Below wr.heap.size wr wr.drew := below_drewN (Below.refl _ wr) 1
      replace HR := Lib.hid (HR.out.below hb5)
      replace HB := Lib.hid (HB.out.trans (hb5.mono HB.out.size))
      clear hb5
      go_upto_region 4 with fail
      go_region_held3 (fun W => W.cell? ⟨w.heap.size, 0, none⟩ = some (.string r.name) ∧ W.cell? ⟨w.heap.size, 1, none⟩ = some (.int .i64 r.kind) ∧ W.cell? ⟨w.heap.size, 2, none⟩ = some (.int .i64 r.size) ∧ W.cell? ⟨w.heap.size, 3, none⟩ = some (.bool r.little) ∧ W.cell? ⟨w.heap.size, 4, none⟩ = some (.slice a4 r.bytes.length c4) ∧ W.cell? ⟨w.heap.size, 5, none⟩ = some (.slice a5 r.names.length c5) ∧ W.cell? ⟨w.heap.size, 6, none⟩ = some (.slice a6 r.tags.length c6) ∧ W.cell? ⟨w.heap.size, 7, none⟩ = some (.slice a7 r.kids.length c7) ∧ W.cell? ⟨b, o, none⟩ = some (.int .i64 v.number)) (exact ⟨(HR.out 0 _ rfl).1, (HR.out 1 _ rfl).1, (HR.out 2 _ rfl).1, (HR.out 3 _ rfl).1, (HR.out 4 _ rfl).1, (HR.out 5 _ rfl).1, (HR.out 6 _ rfl).1, (HR.out 7 _ rfl).1, (HC.out _ HB.out).1⟩) (first | (go_at_call 50; refine (kidof_impl rs r _ v.number q _ (by omega) HKI.out (HIS.out.below HB.out)).mono ?_; rintro e w5 ⟨rfl, hb5⟩; rw [← HK.out]; replace HR := Lib.hid (HR.out.below hb5); replace HB := Lib.hid (HB.out.trans (hb5.mono HB.out.size)); clear hb5))
      by_cases hk0 : K < 0
      · have hd : decide (K < 0) = true := decide_eq_true hk0
        have hr : RB = false := by rw [HVQ.out, HF2.out hk0]; rfl
        subst hr
        go_wp2
        go_ret
        exact ⟨rfl, HB.out⟩
      · obtain ⟨m, rfl, hm⟩ := HKR.out _ (HMEM.out (by omega))
        have hd : decide ((m : Int) < 0) = false := decide_eq_false hk0
        have HOW : Hid (ownB rs r v = true) := HF3.out (by omega)
        obtain ⟨vb, hvb⟩ : ∃ vb, vb = validV rs (m : Int) it := ⟨_, rfl⟩
        rw [← hvb] at hnx
        have HCL : Hid (∀ W, Below w5.heap.size w5 W → Calls Try.prog 74 #[.int .i64 (m : Int), .pointer (some ⟨bi, oi + q * 3, none⟩), .pointer (some ⟨cl, 0, none⟩)] W fun e w' => e = .returned (.bool vb) ∧ Below W.heap.size W w') := fun W hW => by rw [hvb]; have hBW := HB.out.trans (hW.mono HB.out.size); exact valclo_impl a rs cap n HIH.out it cs' m bi (oi + q * 3) cl W hm (HRD.out.below hBW) (HIV.out.below hBW) (fun i u hu => cellK hBW (Nat.le_refl _) (HCC.out i u hu)) (cellK hBW (Nat.le_refl _) HD0.out)
        clear hvb hm
        have y2 := (HC.out _ HB.out).2
        go_wp2_with fail
        refine (HCL.out _ (Below.refl _ _)).mono ?_
        rintro e w6 ⟨rfl, hb5⟩
        replace HR := Lib.hid (HR.out.below hb5)
        replace HB := Lib.hid (HB.out.trans (hb5.mono HB.out.size))
        clear hb5 y2
        cases vb with
        | false =>
          have hr : RB = false := by rw [HVQ.out, hnx.out, Bool.false_and, Bool.and_false]
          subst hr
          go_wp2
          go_ret
          exact ⟨rfl, HB.out⟩
        | true =>
          have HV2 : Hid (RB = (ownB rs r v && validL rs r v.number (q + 1) (v.items.drop (q + 1)))) := by show _ = _; rw [HVQ.out, hnx.out, Bool.true_and]
          go_wp2
          go_roundw
          case rel => exact ⟨q + 1, by omega, by go_num, HV2, Or.inr HOW.out, HR, HB⟩
          case measure => simp [intOf]; omega
    · have q1 : ¬ (q : Int) < (v.items.length : Int) := by omega
      have HOW : Hid (ownB rs r v = true) := by rcases HOWN.out with h | h; exact fit_end HKI.out HFIT.out (by omega); exact h
      have hr : RB = true := by rw [HVQ.out, HOW.out, List.drop_of_length_le (by omega), validL]; rfl
      subst hr
      go_wp2
      go_ret
      exact ⟨rfl, HB.out⟩
set_option maxRecDepth 100000 in
set_option maxHeartbeats 8000000 in
theorem isval_step (a : Option Addr) (rs : List RuleV) (cap n : Nat) (hl : rs.length ≤ 1048576) (hall : allV (kindI rs) rs) (ih : IsValC a rs cap n) : IsValC a rs cap (n + 1) := by
  intro v vs k b o w hk hrd hv hc
  obtain ⟨ab, cb, ai, ci, rfl, -, hit⟩ := hv
  have x0 := hc 0 _ rfl
  have x1 := hc 1 _ rfl
  have x2 := hc 2 _ rfl
  simp only [Nat.add_zero] at x0
  obtain ⟨w0, hw0⟩ : ∃ w0, w0 = w.alloc (.cells #[.slice a rs.length cap] 38) := ⟨_, rfl⟩
  have hB : Below w.heap.size w w0 := by subst hw0; exact (Below.refl _ _).alloc (Nat.le_refl _) _
  have hD : CellsAt w.heap.size [.slice a rs.length cap] w0 := by subst hw0; exact CellsAt.new w _ _
  obtain ⟨b0, off, a4, c4, a5, c5, a6, c6, a7, c7, rfl, ⟨d0, d1, d2, d3, d4, d5, d6, d7⟩, r4, r5, r6, r7⟩ := (hrd.below hB).at k hk
  have HKI := Lib.hid (allV_kind hall hk)
  have HKR : Hid (∀ x ∈ rs[k].kids, ∃ m : Nat, x = (m : Int) ∧ m < rs.length) := fun x hx => by have h1 := allV_kids hall hk x hx; exact ⟨x.toNat, by omega, by omega⟩
  have HVE : Hid (validV rs (k : Int) v = (ownB rs rs[k] v && validL rs rs[k] v.number 0 v.items)) := by show _ = _; rw [validV_eq, ruleAt_at hk]
  obtain ⟨r, hr⟩ : ∃ r, r = rs[k] := ⟨_, rfl⟩
  rw [← hr] at d0 d1 d2 d3 d4 d5 d6 d7 r4 r5 r6 r7 HKI HKR HVE
  have HRE := Lib.hid hr
  clear hr
  obtain ⟨R, hR⟩ : ∃ R, R = validV rs (k : Int) v := ⟨_, rfl⟩
  rw [← hR] at HVE ⊢
  have HC : Hid (∀ W, Below w0.heap.size w0 W → (W.cell? ⟨w.heap.size, 0, none⟩ = some (.slice (some ⟨b0, off, none⟩) rs.length cap) ∧ W.cell? ⟨b0, off + k * 8, none⟩ = some (.string r.name) ∧ W.cell? ⟨b0, off + k * 8 + 1, none⟩ = some (.int .i64 r.kind) ∧ W.cell? ⟨b0, off + k * 8 + 2, none⟩ = some (.int .i64 r.size) ∧ W.cell? ⟨b0, off + k * 8 + 3, none⟩ = some (.bool r.little) ∧ W.cell? ⟨b0, off + k * 8 + 4, none⟩ = some (.slice a4 r.bytes.length c4) ∧ W.cell? ⟨b0, off + k * 8 + 5, none⟩ = some (.slice a5 r.names.length c5) ∧ W.cell? ⟨b0, off + k * 8 + 6, none⟩ = some (.slice a6 r.tags.length c6) ∧ W.cell? ⟨b0, off + k * 8 + 7, none⟩ = some (.slice a7 r.kids.length c7)) ∧ W.cell? ⟨b, o, none⟩ = some (.int .i64 v.number) ∧ W.cell? ⟨b, o + 1, none⟩ = some (.slice ab v.bytes.length cb) ∧ W.cell? ⟨b, o + 2, none⟩ = some (.slice ai v.items.length ci)) := fun W hW => ⟨⟨(hD.below hW 0 _ rfl).1, cellK hW (Nat.le_refl _) d0, cellK hW (Nat.le_refl _) d1, cellK hW (Nat.le_refl _) d2, cellK hW (Nat.le_refl _) d3, cellK hW (Nat.le_refl _) d4, cellK hW (Nat.le_refl _) d5, cellK hW (Nat.le_refl _) d6, cellK hW (Nat.le_refl _) d7⟩, cellK hW (Nat.le_refl _) (cellK hB (Nat.le_refl _) x0), cellK hW (Nat.le_refl _) (cellK hB (Nat.le_refl _) x1), cellK hW (Nat.le_refl _) (cellK hB (Nat.le_refl _) x2)⟩
  have HIS : Hid (IsRule r [.string r.name, .int .i64 r.kind, .int .i64 r.size, .bool r.little, .slice a4 r.bytes.length c4, .slice a5 r.names.length c5, .slice a6 r.tags.length c6, .slice a7 r.kids.length c7] w0) := ⟨a4, c4, a5, c5, a6, c6, a7, c7, rfl, r4, r5, r6, r7⟩
  have hit0 : ItemsAt n ai v.items w := hit
  have HIT := Lib.hid (hit0.below hB)
  have HRD := Lib.hid (hrd.below hB)
  have HB := Lib.hid hB
  have HIH := Lib.hid ih
  have HW := Lib.hid hw0
  have HHK := Lib.hid hk
  have k0 : (0 : Int) ≤ (k : Int) := by omega
  have k1 : (k : Int) < (rs.length : Int) := by omega
  clear hB hD hw0 hit hit0 hrd ih hall r4 r5 r6 r7 d0 d1 d2 d3 d4 d5 d6 d7 x0 x1 x2 hc hR
  go_enter Try.func51, Try.ntmps51
  go_upto_region 1 with fail
  rw [← HW.out]
  clear HW
  have bx := (HC.out w0 (Below.refl _ _)).1.1
  go_wp2_with fail
  refine (bnd_impl (some ⟨b0, off, none⟩) rs cap k r _ hl HHK.out HRE.out HKI.out HRD.out).mono ?_
  rintro e w1 ⟨rfl, hb1⟩
  have HW1 := Lib.hid hb1
  clear hb1 bx
  obtain ⟨B, hB⟩ : ∃ B, B = bndV rs r := ⟨_, rfl⟩
  rw [← hB]
  have HBD := Lib.hid hB
  clear hB
  obtain ⟨-, x0, x1, x2⟩ := HC.out w1 HW1.out
  go_wp2_with fail
  refine (fit_impl B v b o ab cb ai ci _ x0 x1 x2).mono ?_
  rintro e w2 ⟨rfl, hb2⟩
  have HW2 := Lib.hid (HW1.out.trans (hb2.mono HW1.out.size))
  clear hb2 x0 x1 x2 HW1
  have HFT : Hid (fitB B v = fitB (bndV rs r) v) := by show _ = _; rw [HBD.out]
  have HFIN := Lib.hid (HB.out.trans (HW2.out.mono HB.out.size))
  cases hfit : fitB B v with
  | false =>
    have hr : R = false := by rw [HVE.out, fit_no HKI.out (by rw [← HFT.out, hfit])]; rfl
    subst hr
    go_wp2
    go_ret
    exact ⟨rfl, HFIN.out⟩
  | true =>
    have HFIT : Hid (fitB (bndV rs r) v = true) := by show _ = _; rw [← HFT.out, hfit]
    clear hfit HFT HBD
    have HAL : Hid (Calls Try.prog 77 #[.agg #[.string r.name, .int .i64 r.kind, .int .i64 r.size, .bool r.little, .slice a4 r.bytes.length c4, .slice a5 r.names.length c5, .slice a6 r.tags.length c6, .slice a7 r.kids.length c7], .pointer (some ⟨b, o, none⟩), .func (.func 74) #[] #[.pointer (some ⟨w.heap.size, 0, none⟩)]] w2 fun e w' => e = .returned (.bool R) ∧ Below w2.heap.size w2 w') := by
      show Calls _ _ _ _ _
      obtain ⟨⟨h1, -⟩, h2, -, h3⟩ := HC.out _ HW2.out
      rw [HVE.out]
      exact allv_impl (some ⟨b0, off, none⟩) rs cap n HIH.out r _ v b o w.heap.size ai ci w2 HKI.out HKR.out (HIS.out.below HW2.out) HFIT.out h2 h3 (HIT.out.below HW2.out) h1 (HRD.out.below HW2.out)
    obtain ⟨⟨bx, d0, d1, d2, d3, d4, d5, d6, d7⟩, -, -, -⟩ := HC.out w2 HW2.out
    go_wp2_with fail
    refine HAL.out.mono ?_
    rintro e w3 ⟨rfl, hb3⟩
    replace HFIN := Lib.hid (HFIN.out.trans (hb3.mono HFIN.out.size))
    clear hb3 bx d0 d1 d2 d3 d4 d5 d6 d7
    go_wp2
    go_ret
    exact ⟨rfl, HFIN.out⟩
theorem isval_of (a : Option Addr) (rs : List RuleV) (cap : Nat) (hl : rs.length ≤ 1048576) (hall : allV (kindI rs) rs) : ∀ n, IsValC a rs cap n
  | 0 => fun _ _ _ _ _ _ _ _ h => h.elim
  | n + 1 => isval_step a rs cap n hl hall (isval_of a rs cap hl hall n)
set_option maxRecDepth 100000 in
set_option maxHeartbeats 4000000 in
theorem fits_impl (a : Option Addr) (rs : List RuleV) (cap n : Nat) (k : Int) (v : ValueV) (vs : List Value) (w : World) (hl : rs.length ≤ 1048576) (hs : ∀ r ∈ rs, Short r) (hp : ∀ r ∈ rs, Spelt r) (h : RdC a rs w) (hv : IsVal n v vs w) :
    Calls Try.prog 29 #[.agg #[.slice a rs.length cap], .int .i64 k, .agg vs.toArray] w fun e w' => e = .returned (.bool (fitsV rs k v)) ∧ Below w.heap.size w w' := by
  obtain ⟨ab, cb, ai, ci, rfl⟩ := hv.cells
  obtain ⟨w0, hw0⟩ : ∃ w0, w0 = (w.alloc (.cells #[.slice a rs.length cap] 38)).alloc (.cells #[.int .i64 v.number, .slice ab v.bytes.length cb, .slice ai v.items.length ci] 47) := ⟨_, rfl⟩
  have hB : Below w.heap.size w w0 := by subst hw0; exact ((Below.refl _ _).alloc (Nat.le_refl _) _).alloc (by simp) _
  have hD : CellsAt w.heap.size [.slice a rs.length cap] w0 := by subst hw0; exact (CellsAt.new w _ _).below ((Below.refl _ _).alloc (Nat.le_refl _) _)
  have hVC : CellsAt (w.heap.size + 1) [.int .i64 v.number, .slice ab v.bytes.length cb, .slice ai v.items.length ci] w0 := by subst hw0; have h1 := CellsAt.new (w.alloc (.cells #[.slice a rs.length cap] 38)) [.int .i64 v.number, .slice ab v.bytes.length cb, .slice ai v.items.length ci] 47; rw [World.size_alloc] at h1; exact h1
  have HC := Lib.hid (h.below hB)
  have HV := Lib.hid (hv.below hB)
  have HD := Lib.hid hD
  have HVC := Lib.hid hVC
  have HB := Lib.hid hB
  have HS := Lib.hid hs
  have HP := Lib.hid hp
  have HW := Lib.hid hw0
  have bx := (hD 0 _ rfl).1
  obtain ⟨ok, hok⟩ : ∃ b, b = okAt rs k := ⟨_, rfl⟩
  have HO := Lib.hid hok
  obtain ⟨fb, hfb⟩ : ∃ b, b = fitsV rs k v := ⟨_, rfl⟩
  rw [← hfb]
  have HF : Hid (fb = (ok && validV rs k v)) := by show _ = _; rw [hfb, hok]; rfl
  clear h hv hB hD hVC hs hp hw0 hok hfb
  go_enter Try.func29, Try.ntmps29
  go_upto_region 1 with fail
  rw [← HW.out]
  clear HW
  go_wp2_with fail
  refine (isdescr_impl a rs cap k _ hl HS.out HP.out HC.out).mono ?_
  rintro e w1 ⟨rfl, hb1⟩
  rw [← HO.out]
  replace HD := Lib.hid (HD.out.below hb1)
  replace HVC := Lib.hid (HVC.out.below hb1)
  replace HC := Lib.hid (HC.out.below hb1)
  replace HV := Lib.hid (HV.out.below hb1)
  replace HB := Lib.hid (HB.out.trans (hb1.mono HB.out.size))
  clear hb1 bx
  have bx := (HD.out 0 _ rfl).1
  cases ok with
  | false =>
    obtain rfl : fb = false := HF.out
    go_wp2
    go_ret
    exact ⟨rfl, HB.out⟩
  | true =>
    obtain ⟨⟨k0, k1⟩, hn, hv⟩ := okAt_yes HO.out.symm
    obtain ⟨m, rfl⟩ : ∃ m : Nat, k = (m : Int) := ⟨k.toNat, by omega⟩
    have hm : m < rs.length := by omega
    have HA := Lib.hid hv
    clear hv hn HO
    go_wp2_with fail
    refine (isval_of a rs cap hl HA.out n v _ m (w.heap.size + 1) 0 _ hm HC.out.rd HV.out (fun i u hu => by simpa using (HVC.out i u hu).1)).mono ?_
    rintro e w2 ⟨rfl, hb2⟩
    have hr : validV rs (m : Int) v = fb := by rw [HF.out]; rfl
    rw [hr]
    have HR := Lib.hid hr
    clear hr
    replace HB := Lib.hid (HB.out.trans (hb2.mono HB.out.size))
    clear hb2
    go_wp2
    go_ret
    exact ⟨rfl, HB.out⟩
end Go.Proofs.Ytefkhknfjohnaaa
