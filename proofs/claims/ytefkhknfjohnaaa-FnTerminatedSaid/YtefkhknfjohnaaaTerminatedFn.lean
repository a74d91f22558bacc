/- It is proved that the law FnTerminated returns true at every input of its parameter type and leaves its argument as it was (statement Rows.FnTerminatedSaid), with no condition. -/
import Derived.Test.YtefkhknfjohnaaaGKG
import Derived.Test.YtefkhknfjohnaaaDrawEsc
import Derived.Test.YtefkhknfjohnaaaEscAI
import Derived.Test.YtefkhknfjohnaaaEscF
import Derived.Test.YtefkhknfjohnaaaGD
import Derived.Test.YtefkhknfjohnaaaParseE
import Derived.Test.YtefkhknfjohnaaaGX
import Derived.Test.YtefkhknfjohnaaaGEnd
import Derived.Test.YtefkhknfjohnaaaGSz
import Derived.Deep.CutRange
namespace Go.Proofs.Ytefkhknfjohnaaa
open Go Go.ChangeShapes Go.WideShapes Go.ChangeAt Go.RowKit
namespace fnTerminated
theorem big_no (a : Option Addr) (n cap : Nat) (w : World) (h : n ≤ 1048576) : Calls Try.prog 7 #[.slice a n cap] w fun e w' => e = .returned (.bool false) ∧ w = w' := by
  have g : ¬ (1048576 : Int) < (n : Int) := by omega
  go_enter Try.func7, Try.ntmps7
  go_wp2
  go_ret
  exact ⟨rfl, rfl⟩
theorem big_yes (a : Option Addr) (n cap : Nat) (w : World) (h : 1048576 < n) (_hm : n ≤ 9223372036854775807) : Calls Try.prog 7 #[.slice a n cap] w fun e w' => e = .returned (.bool true) ∧ w = w' := by
  have g : (1048576 : Int) < (n : Int) := by omega
  go_enter Try.func7, Try.ntmps7
  go_wp2
  go_ret
  exact ⟨rfl, rfl⟩
theorem walk_long (a0 : Option Addr) (bs0 : List UInt8) (cap0 : Nat) (w : World) (h : 1048576 < bs0.length) (hm : bs0.length ≤ 9223372036854775807) :
    Calls Try.prog 3 #[.slice a0 bs0.length cap0] w fun e w' => e = .returned (.bool true) ∧ Below w.heap.size w w' := by
  go_enter Try.func3, Try.ntmps3
  go_wp2_with fail
  refine (big_yes a0 bs0.length cap0 w h hm).mono ?_
  rintro e w1 ⟨rfl, rfl⟩
  go_wp2
  go_ret
  exact ⟨rfl, Below.refl _ _⟩
theorem head_src {x : Option Addr} {C E : List UInt8} {t : UInt8} {y : Nat} {W : World} (e : E = C ++ [t]) (h : SrcB x E y W) : SrcB x C y W := by
  subst e
  refine ⟨fun j hj => ?_, by have := h.2.1; simp at this; omega, h.2.2⟩
  obtain ⟨b, off, e1, hc⟩ := h.1 j (by simp; omega)
  refine ⟨b, off, e1, ?_⟩
  rw [hc, List.getElem_append_left hj]
set_option maxRecDepth 100000 in
set_option maxHeartbeats 8000000 in
theorem walk_short (a0 : Option Addr) (bs0 : List UInt8) (cap0 : Nat) (w : World) (h : bs0.length ≤ 1048576) (hs : Code a0 bs0.length w) :
    Calls Try.prog 3 #[.slice a0 bs0.length cap0] w fun e w' => e = .returned (.bool true) ∧ Below w.heap.size w w' := by
  have HS := Lib.hid hs
  clear hs
  go_enter Try.func3, Try.ntmps3
  go_wp2_with fail
  refine (big_no a0 bs0.length cap0 w h).mono ?_
  rintro e w1 ⟨rfl, rfl⟩
  go_wp2_with fail
  refine (drawEsc a0 bs0.length cap0 w (by omega) HS.out).mono ?_
  rintro e w1 ⟨ab, bs, cb, t, hb8, rfl, hr, hb⟩
  have HR := Lib.hid hr.rd
  have HB := Lib.hid hb
  obtain ⟨tn, htn⟩ : ∃ tn : Int, tn = (t.toNat : Int) := ⟨_, rfl⟩
  rw [← htn]
  have HTN := Lib.hid htn
  clear hr hb HS htn
  by_cases hx : tn = 92
  · have HTX : Hid (((10 : Int)) = ((10 : UInt8).toNat : Int)) := rfl
    subst hx
    clear HTN
    go_upto_region 6 with fail
    obtain ⟨t', ht, htn'⟩ : ∃ t' : UInt8, t' ≠ 92 ∧ (10 : Int) = (t'.toNat : Int) := ⟨10, by decide, HTX.out⟩
    clear HTX
    have hE1 := escB_read (t := t') bs (termR_enc ht bs)
    have hE2 := escAF_read ht bs
    have hE3 := escB_cut ht bs
    have hle := escF_le t' bs
    obtain ⟨C, hC⟩ : ∃ C, C = escB t' bs := ⟨_, rfl⟩
    obtain ⟨E, hE⟩ : ∃ E, E = escF t' bs := ⟨_, rfl⟩
    obtain ⟨F, hF⟩ : ∃ F, F = escAF t' bs := ⟨_, rfl⟩
    have hEC : E = C ++ [t'] := by rw [hE, hC]; rfl
    have hEl : E.length ≤ 2 * bs.length + 1 := by rw [hE]; exact hle
    have hel : E.length = C.length + 1 := by rw [hEC, List.length_append]; rfl
    have hfl : F.length = 2 * bs.length + 1 := by rw [hF]; exact escAF_length t' bs
    have HE1 : Hid (∀ W, Rd ab bs W → Calls Try.prog 10 #[.slice ab bs.length cb, .int .u8 10] W (BytesOut E W)) := fun W h1 => by rw [hE, htn']; exact escF_impl ab bs cb t' W (by omega) h1
    have HA1 : Hid (∀ W, Rd ab bs W → Calls Try.prog 11 #[.slice ab bs.length cb, .int .u8 10] W (BytesOut F W)) := fun W h1 => by rw [hF, htn']; exact escA_impl ab bs cb t' W (by omega) h1
    have HT1 : Hid (∀ x y W, SrcB x E y W → Calls Try.prog 9 #[.slice x E.length y, .int .i64 0, .int .u8 10] W (TermOut bs (E.length : Int) true W)) := fun x y W h1 => by
      have h2 := term_impl x E y 0 t' W (by omega) h1
      have h3 : termL E 0 t' = bs ∧ termN E 0 t' = (E.length : Int) ∧ termK E 0 t' = true := by rw [hE]; exact hE1
      rw [h3.1, h3.2.1, h3.2.2] at h2
      rw [htn']
      exact h2
    have HT2 : Hid (∀ x y W, SrcB x F y W → Calls Try.prog 9 #[.slice x F.length y, .int .i64 0, .int .u8 10] W (TermOut bs (2 * (bs.length : Int) + 1) true W)) := fun x y W h1 => by
      have h2 := term_impl x F y 0 t' W (by omega) h1
      have h3 : termL F 0 t' = bs ∧ termN F 0 t' = 2 * (bs.length : Int) + 1 ∧ termK F 0 t' = true := by rw [hF]; exact hE2
      rw [h3.1, h3.2.1, h3.2.2] at h2
      rw [htn']
      exact h2
    have HT3 : Hid (∀ x y W, SrcB x C y W → Calls Try.prog 9 #[.slice x C.length y, .int .i64 0, .int .u8 10] W (TermOut (termL C 0 t') (termN C 0 t') false W)) := fun x y W h1 => by
      have h2 := term_impl x C y 0 t' W (by omega) h1
      have h3 : termK C 0 t' = false := by rw [hC]; exact hE3
      rw [h3] at h2
      rw [htn']
      exact h2
    have hcn : C.length ≤ 17 := by omega
    have HEC := Lib.hid hEC
    generalize termL C 0 t' = TL at HT3
    generalize termN C 0 t' = TN at HT3
    have hm0 : max 0 ((C.length : Int)) = (C.length : Int) := by simp only [Int.max_def]; split <;> omega
    have hm1 : (E.length : Int) - 1 = (C.length : Int) := by omega
    have hm2 : (E.length : Int) ≤ 2 * (bs.length : Int) + 1 := by omega
    have HM : Hid (∀ W, Calls Try.prog 12 #[.int .i64 0, .int .i64 (C.length : Int)] W fun e w' => e = .returned (.int .i64 (C.length : Int)) ∧ W = w') := fun W => by
      have h2 := max_spec 0 (C.length : Int) W
      rw [hm0] at h2
      exact h2
    have HSL : Hid (∀ (x : Option Addr) (y : Nat) W, E.length ≤ y → (Instr.slice 22 (.slice x E.length y) none (some (.int .i64 (C.length : Int))) none).run Try.prog W = .ok (.slice x C.length y) W) := fun x y W hy => by
      rw [run_slice_h W 22 x E.length y elem8 .i64 (C.length : Int) (by omega) (by omega), size8]
      cases x <;> simp [Result.andThen, sliced, Addr.add]
    have h8 : Hid (bs.length ≤ 8) := hb8
    have HL9 : Hid (E.length ≤ 17 + 1) := by show _ ≤ _; omega
    have HM1 := Lib.hid hm1
    clear hel hm1
    clear hE1 hE2 hE3 hle hC hE hF hEC hfl htn' hcn hm0 ht
    go_wp2_with fail
    refine (HE1.out _ HR.out).mono ?_
    rintro e w2 ⟨x1, y1, rfl, hrow, hb⟩
    have R1 := Lib.hid hrow.srcB
    replace HR := Lib.hid (HR.out.below hb)
    replace HB := Lib.hid (HB.out.trans (hb.mono HB.out.size))
    clear hrow hb
    go_wp2_with fail
    refine (HT1.out _ _ _ R1.out).mono ?_
    rintro e w3 ⟨x2, y2, rfl, hrow, hb⟩
    have R2 := Lib.hid hrow.rd
    replace HR := Lib.hid (HR.out.below hb)
    replace HB := Lib.hid (HB.out.trans (hb.mono HB.out.size))
    clear hrow hb R1
    go_wp2_with fail
    refine (HA1.out _ HR.out).mono ?_
    rintro e w4 ⟨x3, y3, rfl, hrow, hb⟩
    have R3 := Lib.hid hrow.srcB
    replace R2 := Lib.hid (R2.out.below hb)
    replace HR := Lib.hid (HR.out.below hb)
    replace HB := Lib.hid (HB.out.trans (hb.mono HB.out.size))
    clear hrow hb
    go_wp2_with fail
    refine (HT2.out _ _ _ R3.out).mono ?_
    rintro e w5 ⟨x4, y4, rfl, hrow, hb⟩
    have R4 := Lib.hid hrow.rd
    replace R2 := Lib.hid (R2.out.below hb)
    replace HR := Lib.hid (HR.out.below hb)
    replace HB := Lib.hid (HB.out.trans (hb.mono HB.out.size))
    clear hrow hb R3
    go_wp2_with fail
    refine (HE1.out _ HR.out).mono ?_
    rintro e w6 ⟨x5, y5, rfl, hrow, hb⟩
    have R5 := Lib.hid hrow.srcB
    replace R2 := Lib.hid (R2.out.below hb)
    replace R4 := Lib.hid (R4.out.below hb)
    replace HR := Lib.hid (HR.out.below hb)
    replace HB := Lib.hid (HB.out.trans (hb.mono HB.out.size))
    clear hrow hb
    have hsl := fun W => HSL.out x5 y5 W R5.out.2.1
    have hm1 := HM1.out
    go_wp2_with fail
    refine (HM.out _).mono ?_
    rintro e w7 ⟨rfl, rfl⟩
    go_wp2_with fail
    refine (HT3.out _ _ _ (head_src HEC.out R5.out)).mono ?_
    rintro e w7 ⟨x6, y6, rfl, hrow, hb⟩
    replace R2 := Lib.hid (R2.out.below hb)
    replace R4 := Lib.hid (R4.out.below hb)
    replace HR := Lib.hid (HR.out.below hb)
    replace HB := Lib.hid (HB.out.trans (hb.mono HB.out.size))
    clear hrow hb hsl hm1
    go_wp2_with fail
    refine (same_any x2 ab bs bs y2 cb _ (by have := h8.out; omega) R2.out HR.out).mono ?_
    rintro e w8 ⟨rfl, nq, rfl⟩
    rw [decide_eq_true (rfl : bs = bs)]
    have hb : Below w7.heap.size w7 (w7.drewN nq) := below_drewN (Below.refl _ _) nq
    replace R4 := Lib.hid (R4.out.below hb)
    replace HR := Lib.hid (HR.out.below hb)
    replace HB := Lib.hid (HB.out.trans (hb.mono HB.out.size))
    generalize w7.drewN nq = w8 at *
    clear hb
    go_wp2_with fail
    refine (same_any x4 ab bs bs y4 cb _ (by have := h8.out; omega) R4.out HR.out).mono ?_
    rintro e w9 ⟨rfl, nq2, rfl⟩
    rw [decide_eq_true (rfl : bs = bs)]
    replace HB := Lib.hid (below_drewN HB.out nq2)
    go_wp2
    go_ret
    exact ⟨rfl, HB.out⟩
  · have e1 : (tn == 92) = false := by simpa using hx
    go_upto_region 6 with fail
    obtain ⟨t', ht, htn'⟩ : ∃ t' : UInt8, t' ≠ 92 ∧ tn = (t'.toNat : Int) := ⟨t, fun e => hx (by rw [HTN.out, e]; rfl), HTN.out⟩
    clear HTN e1
    have hE1 := escB_read (t := t') bs (termR_enc ht bs)
    have hE2 := escAF_read ht bs
    have hE3 := escB_cut ht bs
    have hle := escF_le t' bs
    obtain ⟨C, hC⟩ : ∃ C, C = escB t' bs := ⟨_, rfl⟩
    obtain ⟨E, hE⟩ : ∃ E, E = escF t' bs := ⟨_, rfl⟩
    obtain ⟨F, hF⟩ : ∃ F, F = escAF t' bs := ⟨_, rfl⟩
    have hEC : E = C ++ [t'] := by rw [hE, hC]; rfl
    have hEl : E.length ≤ 2 * bs.length + 1 := by rw [hE]; exact hle
    have hel : E.length = C.length + 1 := by rw [hEC, List.length_append]; rfl
    have hfl : F.length = 2 * bs.length + 1 := by rw [hF]; exact escAF_length t' bs
    have HE1 : Hid (∀ W, Rd ab bs W → Calls Try.prog 10 #[.slice ab bs.length cb, .int .u8 tn] W (BytesOut E W)) := fun W h1 => by rw [hE, htn']; exact escF_impl ab bs cb t' W (by omega) h1
    have HA1 : Hid (∀ W, Rd ab bs W → Calls Try.prog 11 #[.slice ab bs.length cb, .int .u8 tn] W (BytesOut F W)) := fun W h1 => by rw [hF, htn']; exact escA_impl ab bs cb t' W (by omega) h1
    have HT1 : Hid (∀ x y W, SrcB x E y W → Calls Try.prog 9 #[.slice x E.length y, .int .i64 0, .int .u8 tn] W (TermOut bs (E.length : Int) true W)) := fun x y W h1 => by
      have h2 := term_impl x E y 0 t' W (by omega) h1
      have h3 : termL E 0 t' = bs ∧ termN E 0 t' = (E.length : Int) ∧ termK E 0 t' = true := by rw [hE]; exact hE1
      rw [h3.1, h3.2.1, h3.2.2] at h2
      rw [htn']
      exact h2
    have HT2 : Hid (∀ x y W, SrcB x F y W → Calls Try.prog 9 #[.slice x F.length y, .int .i64 0, .int .u8 tn] W (TermOut bs (2 * (bs.length : Int) + 1) true W)) := fun x y W h1 => by
      have h2 := term_impl x F y 0 t' W (by omega) h1
      have h3 : termL F 0 t' = bs ∧ termN F 0 t' = 2 * (bs.length : Int) + 1 ∧ termK F 0 t' = true := by rw [hF]; exact hE2
      rw [h3.1, h3.2.1, h3.2.2] at h2
      rw [htn']
      exact h2
    have HT3 : Hid (∀ x y W, SrcB x C y W → Calls Try.prog 9 #[.slice x C.length y, .int .i64 0, .int .u8 tn] W (TermOut (termL C 0 t') (termN C 0 t') false W)) := fun x y W h1 => by
      have h2 := term_impl x C y 0 t' W (by omega) h1
      have h3 : termK C 0 t' = false := by rw [hC]; exact hE3
      rw [h3] at h2
      rw [htn']
      exact h2
    have hcn : C.length ≤ 17 := by omega
    have HEC := Lib.hid hEC
    generalize termL C 0 t' = TL at HT3
    generalize termN C 0 t' = TN at HT3
    have hm0 : max 0 ((C.length : Int)) = (C.length : Int) := by simp only [Int.max_def]; split <;> omega
    have hm1 : (E.length : Int) - 1 = (C.length : Int) := by omega
    have hm2 : (E.length : Int) ≤ 2 * (bs.length : Int) + 1 := by omega
    have HM : Hid (∀ W, Calls Try.prog 12 #[.int .i64 0, .int .i64 (C.length : Int)] W fun e w' => e = .returned (.int .i64 (C.length : Int)) ∧ W = w') := fun W => by
      have h2 := max_spec 0 (C.length : Int) W
      rw [hm0] at h2
      exact h2
    have HSL : Hid (∀ (x : Option Addr) (y : Nat) W, E.length ≤ y → (Instr.slice 22 (.slice x E.length y) none (some (.int .i64 (C.length : Int))) none).run Try.prog W = .ok (.slice x C.length y) W) := fun x y W hy => by
      rw [run_slice_h W 22 x E.length y elem8 .i64 (C.length : Int) (by omega) (by omega), size8]
      cases x <;> simp [Result.andThen, sliced, Addr.add]
    have h8 : Hid (bs.length ≤ 8) := hb8
    have HL9 : Hid (E.length ≤ 17 + 1) := by show _ ≤ _; omega
    have HM1 := Lib.hid hm1
    clear hel hm1
    clear hE1 hE2 hE3 hle hC hE hF hEC hfl htn' hcn hm0 ht
    go_wp2_with fail
    refine (HE1.out _ HR.out).mono ?_
    rintro e w2 ⟨x1, y1, rfl, hrow, hb⟩
    have R1 := Lib.hid hrow.srcB
    replace HR := Lib.hid (HR.out.below hb)
    replace HB := Lib.hid (HB.out.trans (hb.mono HB.out.size))
    clear hrow hb
    go_wp2_with fail
    refine (HT1.out _ _ _ R1.out).mono ?_
    rintro e w3 ⟨x2, y2, rfl, hrow, hb⟩
    have R2 := Lib.hid hrow.rd
    replace HR := Lib.hid (HR.out.below hb)
    replace HB := Lib.hid (HB.out.trans (hb.mono HB.out.size))
    clear hrow hb R1
    go_wp2_with fail
    refine (HA1.out _ HR.out).mono ?_
    rintro e w4 ⟨x3, y3, rfl, hrow, hb⟩
    have R3 := Lib.hid hrow.srcB
    replace R2 := Lib.hid (R2.out.below hb)
    replace HR := Lib.hid (HR.out.below hb)
    replace HB := Lib.hid (HB.out.trans (hb.mono HB.out.size))
    clear hrow hb
    go_wp2_with fail
    refine (HT2.out _ _ _ R3.out).mono ?_
    rintro e w5 ⟨x4, y4, rfl, hrow, hb⟩
    have R4 := Lib.hid hrow.rd
    replace R2 := Lib.hid (R2.out.below hb)
    replace HR := Lib.hid (HR.out.below hb)
    replace HB := Lib.hid (HB.out.trans (hb.mono HB.out.size))
    clear hrow hb R3
    go_wp2_with fail
    refine (HE1.out _ HR.out).mono ?_
    rintro e w6 ⟨x5, y5, rfl, hrow, hb⟩
    have R5 := Lib.hid hrow.srcB
    replace R2 := Lib.hid (R2.out.below hb)
    replace R4 := Lib.hid (R4.out.below hb)
    replace HR := Lib.hid (HR.out.below hb)
    replace HB := Lib.hid (HB.out.trans (hb.mono HB.out.size))
    clear hrow hb
    have hsl := fun W => HSL.out x5 y5 W R5.out.2.1
    have hm1 := HM1.out
    go_wp2_with fail
    refine (HM.out _).mono ?_
    rintro e w7 ⟨rfl, rfl⟩
    go_wp2_with fail
    refine (HT3.out _ _ _ (head_src HEC.out R5.out)).mono ?_
    rintro e w7 ⟨x6, y6, rfl, hrow, hb⟩
    replace R2 := Lib.hid (R2.out.below hb)
    replace R4 := Lib.hid (R4.out.below hb)
    replace HR := Lib.hid (HR.out.below hb)
    replace HB := Lib.hid (HB.out.trans (hb.mono HB.out.size))
    clear hrow hb hsl hm1
    go_wp2_with fail
    refine (same_any x2 ab bs bs y2 cb _ (by have := h8.out; omega) R2.out HR.out).mono ?_
    rintro e w8 ⟨rfl, nq, rfl⟩
    rw [decide_eq_true (rfl : bs = bs)]
    have hb : Below w7.heap.size w7 (w7.drewN nq) := below_drewN (Below.refl _ _) nq
    replace R4 := Lib.hid (R4.out.below hb)
    replace HR := Lib.hid (HR.out.below hb)
    replace HB := Lib.hid (HB.out.trans (hb.mono HB.out.size))
    generalize w7.drewN nq = w8 at *
    clear hb
    go_wp2_with fail
    refine (same_any x4 ab bs bs y4 cb _ (by have := h8.out; omega) R4.out HR.out).mono ?_
    rintro e w9 ⟨rfl, nq2, rfl⟩
    rw [decide_eq_true (rfl : bs = bs)]
    replace HB := Lib.hid (below_drewN HB.out nq2)
    go_wp2
    go_ret
    exact ⟨rfl, HB.out⟩
theorem walk (a0 : Option Addr) (bs0 : List UInt8) (cap0 : Nat) (w : World) (r0 : Arg a0 bs0 cap0 w) :
    Calls Try.prog 3 #[.slice a0 bs0.length cap0] w fun e w' => e = .returned (.bool true) ∧ Below w.heap.size w w' := by
  by_cases h0 : 1048576 < bs0.length
  · exact walk_long a0 bs0 cap0 w h0 (by have q1 := r0.2.1; have q2 := r0.2.2.2; omega)
  · exact walk_short a0 bs0 cap0 w (by omega) r0.code
set_option maxRecDepth 100000 in
theorem lifted (os : Os) (started : os.Started) (H : Type) (enc : TypeId × Value → H) :
    ReturnsInHanded {} Try.checked os 3 .any (Rows.fnTerminatedSpec.pre6 enc Try.prog Try.f3 Rows.fnTerminatedRow.domain false) (Rows.fnTerminatedSpec.post enc Try.prog Try.f3 false true false false) := by
  refine returnsInHanded_of_change (C := Try.checked) own started (by kernel_rfl) Try.func3
    (ChangeSpec.witness6 (enc := enc) (C := Try.checked) false ⟨#[], #[.slice none 0 0], []⟩ 8 (by kernel_rfl) (by kernel_rfl) (by kernel_rfl) (by kernel_rfl)) ?_
  intro W base args ds gs before hval0 hW hcnd _
  have hval : ∀ (j : Nat) t v, Try.f3.params[j]? = some t → args[j]? = some v → Value.okWide Try.prog W .any base t v := hval0
  have hW' := hW
  obtain ⟨p, q, hA0, hV, rfl, hfz, hnd⟩ := hW
  have hA : DataW.TrodAll enc Try.prog W 0 (fun _ => true) true Try.f3.params.toList args.toList ds p := hA0
  rw [Try.params3] at hA hval
  obtain ⟨v0, vs0, d0, ds0, p0, q0, hargs, rfl, rfl, h0, r0⟩ := trodAll_cons hA
  obtain ⟨rfl, rfl, rfl⟩ := trodAll_nil r0
  obtain rfl : args = #[v0] := by cases args; simp_all
  obtain ⟨rfl, rfl⟩ := trodVars_none hV
  simp only [List.append_nil] at hW'
  have hlt : ∀ x ∈ p0, x.block < W.heap.size := fun x hx => hW'.lt x (by simpa using hx)
  obtain ⟨a0, len0, cap0, rfl⟩ := okWide_slice Try.underlying22 (hval 0 22 v0 rfl rfl)
  obtain ⟨bs0, rfl, hb0⟩ := bytes_arg h0
  have m0 : ∀ (W' : World), Below W.heap.size W W' → DataW.Trod enc Try.prog W' 0 (fun b => decide (b < W.heap.size)) true 22 (.slice a0 bs0.length cap0) d0 p0 := fun W' hn => Below.trod laidOut (by kernel_rfl) (of_decide_eq_true (by kernel_rfl)) h0 hn (fun x hx => hlt x (by simp [hx]))
  clear hA0 hval0
  refine (walk a0 bs0 cap0 W hb0).mono fun e W' ⟨he, hb⟩ => ?_
  subst he
  exact ⟨_, rfl, _, _, _, [], _, [], hW', trodAll_cons_mk (shut_bool Try.underlying4 _) trodAll_mk0, (trodAll_cons_mk (m0 _ hb) trodAll_mk0), rfl, hb.frame _, fun h => by cases h⟩
theorem closed : joinedFacts Try.prog 3 Try.f3 Rows.fnTerminatedSpec Rows.fnTerminatedRow = true := by
  unfold joinedFacts
  rw [may_enter, lifts_final, make_is]
  kernel_rfl
theorem over : Rows.fnTerminatedRow.holds Try.pinned (OpenSpec.ofChange Rows.fnTerminatedSpec) :=
  OpenClaim.holds_of_wide 3 Try.f3 rfl rfl rfl rfl rfl rfl rfl ⟨rfl, rfl, rfl, rfl, rfl⟩ rfl rfl rfl rfl rfl (by kernel_rfl) Try.func3 closed
    (of_decide_eq_true (by kernel_rfl)) (by unfold Func.isWrapper; first | (rw [if_pos (by decide +kernel)]; kernel_rfl) | (rw [if_neg (by decide +kernel)]; exact ⟨rfl, rfl⟩))
    (fun os started H enc _ => lifted os started H enc)
/-- THE STATEMENT -/
theorem proved : Rows.FnTerminatedSaid := over
end fnTerminated
#print axioms fnTerminated.proved
end Go.Proofs.Ytefkhknfjohnaaa
