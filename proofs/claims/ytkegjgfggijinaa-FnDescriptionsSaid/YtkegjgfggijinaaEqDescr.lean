/- Contracts of EqualDescriptions: the model's, the program's (slices.EqualFunc over equalRules). -/
import Derived.Test.YtkegjgfggijinaaEqRules
import Derived.StillTailTactics
namespace Go.Proofs.Ytkegjgfggijinaa
open Go Go.RowKit
/-- Whether two lists of rules are equal. -/
def sameD : List RuleV → List RuleV → Bool
  | [], [] => true
  | r :: rs, s :: ss => sameR r s && sameD rs ss
  | _, _ => false
theorem sameD_iff : ∀ (rs ss : List RuleV), sameD rs ss = true ↔ rs = ss
  | [], [] => by simp [sameD]
  | [], _ :: _ => by simp [sameD]
  | _ :: _, [] => by simp [sameD]
  | r :: rs, s :: ss => by simp [sameD, sameR_iff, sameD_iff rs ss]
theorem sameD_no {rs ss : List RuleV} (h : rs ≠ ss) : sameD rs ss = false := by
  cases hb : sameD rs ss
  · rfl
  · exact absurd ((sameD_iff rs ss).1 hb) h
theorem sameR_no {r s : RuleV} (h : r ≠ s) : sameR r s = false := by
  cases hb : sameR r s
  · rfl
  · exact absurd ((sameR_iff r s).1 hb) h
set_option maxRecDepth 100000 in
set_option maxHeartbeats 2000000 in
theorem eqf_lib (a b : Option Addr) (rs ss : List RuleV) (ca cb : Nat) (w : World) (hl : rs.length ≤ 1048576) (hm : ss.length ≤ 1048576) (hr : ∀ r ∈ rs, Short r) (hs : ∀ r ∈ ss, Short r) (ha : RdR a rs w) (hb : RdR b ss w) (fv : Value) (hfv : fv = .func (.func 32) #[] #[]) :
    Calls Try.prog 35 #[.slice a rs.length ca, .slice b ss.length cb, fv] w fun e w' => e = .returned (.bool (sameD rs ss)) ∧ Below w.heap.size w w' := by
  subst hfv
  have HA := Lib.hid ha
  have HC := Lib.hid hb
  have HR := Lib.hid hr
  have HS := Lib.hid hs
  have _ := hm
  clear ha hb hr hs
  by_cases hlen : rs.length = ss.length
  · have h1 : ((rs.length : Int) != (ss.length : Int)) = false := by simp [hlen]
    have hle : ss.length ≤ rs.length := by omega
    have hge : rs.length ≤ ss.length := by omega
    clear hlen
    go_enter Try.func35, Try.ntmps35
    go_wp2
    clear h1
    go_loopw [17] (fun i W => ∃ k : Nat, k ≤ rs.length ∧ i = .int .i64 k ∧ Hid (rs.take k = ss.take k) ∧ Hid (Below w.heap.size w W)) (fun i _ => rs.length - (intOf i).toNat)
    case atStart => exact ⟨0, Nat.zero_le _, rfl, rfl, Below.refl _ _⟩
    case round =>
      obtain ⟨k, hk, rfl, ht, hbw⟩ := hrel
      have k0 : (0 : Int) ≤ (k : Int) := by omega
      by_cases hlt : k < rs.length
      · have k1 : (k : Int) < (rs.length : Int) := by omega
        have k2 : (k : Int) < (ss.length : Int) := by omega
        have hlt2 : k < ss.length := by omega
        have hsr := Lib.hid (HR.out _ (List.getElem_mem hlt))
        have hss := Lib.hid (HS.out _ (List.getElem_mem hlt2))
        obtain ⟨b1, o1, a4, c4, a5, c5, a6, c6, a7, c7, rfl, ⟨d0, d1, d2, d3, d4, d5, d6, d7⟩, h4, h5, h6, h7⟩ := (HA.out.below hbw.out).at k hlt
        have hB1 : Below wr.heap.size wr (wr.alloc (.cells #[.string rs[k].name, .int .i64 rs[k].kind, .int .i64 rs[k].size, .bool rs[k].little, .slice a4 rs[k].bytes.length c4, .slice a5 rs[k].names.length c5, .slice a6 rs[k].tags.length c6, .slice a7 rs[k].kids.length c7] 35)) := (Below.refl _ _).alloc (Nat.le_refl _) _
        obtain ⟨b2, o2, x4, y4, x5, y5, x6, y6, x7, y7, rfl, ⟨m0, m1, m2, m3, m4, m5, m6, m7⟩, j4, j5, j6, j7⟩ := ((HC.out.below hbw.out).below hB1).at k hlt2
        have HP : Hid (IsRule rs[k] _ wr) := ⟨a4, c4, a5, c5, a6, c6, a7, c7, rfl, h4, h5, h6, h7⟩
        have HQ : Hid (IsRule ss[k] _ _) := ⟨x4, y4, x5, y5, x6, y6, x7, y7, rfl, j4, j5, j6, j7⟩
        have hyes : Hid (rs[k] = ss[k] → rs.take (k + 1) = ss.take (k + 1)) := fun he => takeNext ht.out hlt hlt2 he
        have hno : Hid (rs[k] ≠ ss[k] → rs ≠ ss) := fun he => takeNot hlt hlt2 he
        have hB2 : ∀ o p, Below wr.heap.size wr ((wr.alloc o).alloc p) := fun o p => ((Below.refl _ _).alloc (Nat.le_refl _) _).alloc (by simp) _
        have HP2 := fun o p => Lib.hid (HP.out.below (hB2 o p))
        have HQ2 := fun p => Lib.hid (HQ.out.below ((Below.refl _ _).alloc (Nat.le_refl _) p))
        have HB2 := fun o p => Lib.hid (hbw.out.trans ((hB2 o p).mono hbw.out.size))
        clear h4 h5 h6 h7 j4 j5 j6 j7 hB1 hB2 HP HQ
        generalize rs[k] = r at d0 d1 d2 d3 d4 d5 d6 d7 HP2 hsr hyes hno m0 m1 m2 m3 m4 m5 m6 m7 HQ2
        generalize ss[k] = s at m0 m1 m2 m3 m4 m5 m6 m7 HQ2 hss hyes hno
        by_cases he : r = s
        · have hy := Lib.hid (hyes.out he)
          have hq := (sameR_iff r s).2 he
          clear he
          go_wp2_with fail
          refine (eqr_impl r s _ _ _ hsr.out hss.out (HP2 _ _).out (HQ2 _).out).mono ?_
          rintro e w3 ⟨rfl, hb3⟩
          have HB3 := Lib.hid ((HB2 _ _).out.trans (hb3.mono (HB2 _ _).out.size))
          clear hb3
          rw [hq]
          go_wp2
          go_roundw
          case rel => exact ⟨k + 1, by omega, by go_num, hy, HB3⟩
          case measure => simp [intOf]; omega
        · have hn := Lib.hid (sameD_no (hno.out he))
          have hq := sameR_no he
          clear he
          go_wp2_with fail
          refine (eqr_impl r s _ _ _ hsr.out hss.out (HP2 _ _).out (HQ2 _).out).mono ?_
          rintro e w3 ⟨rfl, hb3⟩
          have HB3 := Lib.hid ((HB2 _ _).out.trans (hb3.mono (HB2 _ _).out.size))
          clear hb3
          rw [hq]
          go_wp2
          go_ret
          exact ⟨ret_bool hn.out.symm, HB3.out⟩
      · have k1 : ¬ (k : Int) < (rs.length : Int) := by omega
        have heq : Hid (sameD rs ss = true) := by
          have h2 := ht.out
          rw [List.take_of_length_le (by omega), List.take_of_length_le (by omega)] at h2
          exact (sameD_iff rs ss).2 h2
        go_wp2
        go_ret
        exact ⟨ret_bool heq.out.symm, hbw.out⟩
  · have h1 : ((rs.length : Int) != (ss.length : Int)) = true := by simp; omega
    have hne : Hid (sameD rs ss = false) := sameD_no fun h => hlen (by rw [h])
    clear hlen
    go_enter Try.func35, Try.ntmps35
    go_wp2
    go_ret
    exact ⟨ret_bool hne.out.symm, Below.refl _ _⟩
set_option maxRecDepth 100000 in
theorem eqd_impl (a b : Option Addr) (rs ss : List RuleV) (ca cb : Nat) (w : World) (hl : rs.length ≤ 1048576) (hm : ss.length ≤ 1048576) (hr : ∀ r ∈ rs, Short r) (hs : ∀ r ∈ ss, Short r) (ha : RdR a rs w) (hb : RdR b ss w) :
    Calls Try.prog 14 #[.agg #[.slice a rs.length ca], .agg #[.slice b ss.length cb]] w fun e w' => e = .returned (.bool (sameD rs ss)) ∧ Below w.heap.size w w' := by
  have hB : ∀ o p, Below w.heap.size w ((w.alloc o).alloc p) := fun o p => ((Below.refl _ _).alloc (Nat.le_refl _) _).alloc (by simp) _
  have HA := fun o p => Lib.hid (ha.below (hB o p))
  have HC := fun o p => Lib.hid (hb.below (hB o p))
  have HB := fun o p => Lib.hid (hB o p)
  have HR := Lib.hid hr
  have HS := Lib.hid hs
  clear ha hb hB hr hs
  go_enter Try.func14, Try.ntmps14
  go_wp2_with fail
  refine (eqf_lib a b rs ss ca cb _ hl hm HR.out HS.out (HA _ _).out (HC _ _).out _ rfl).mono ?_
  rintro e w1 ⟨rfl, hb1⟩
  have HB1 := Lib.hid ((HB _ _).out.trans (hb1.mono (HB _ _).out.size))
  clear hb1
  go_wp2
  go_ret
  exact ⟨rfl, HB1.out⟩
end Go.Proofs.Ytkegjgfggijinaa
