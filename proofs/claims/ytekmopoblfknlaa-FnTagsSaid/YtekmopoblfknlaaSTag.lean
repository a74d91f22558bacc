/- The contract of the model's TagBytes. -/
import Derived.Test.YtekmopoblfknlaaSCan
import Derived.Test.YtekmopoblfknlaaGEnd
import Derived.StillTailTactics
namespace Go.Proofs.Ytekmopoblfknlaa
open Go Go.RowKit
theorem tagD_no {rs : List RuleV} {k j : Int} (h : ¬ (okAt rs k = true ∧ (ruleAt rs k).kind = 7 ∧ 0 ≤ j ∧ j < ((ruleAt rs k).tags.length : Int))) : tagD rs k j = [] := by unfold tagD; rw [if_neg h]
theorem tagD_yes {rs : List RuleV} {m t : Nat} (hok : okAt rs (m : Int) = true) (hm : m < rs.length) (hk : rs[m].kind = 7) (ht : t < rs[m].tags.length) : tagD rs (m : Int) (t : Int) = tagB rs rs[m] rs[m].tags[t] := by
  unfold tagD
  rw [if_pos ⟨hok, by rw [ruleAt_at hm]; exact hk, by omega, by rw [ruleAt_at hm]; omega⟩, ruleAt_at hm, Int.toNat_natCast, List.getD, List.getElem?_eq_getElem ht, Option.getD_some]
set_option maxRecDepth 100000 in
set_option maxHeartbeats 8000000 in
theorem tags8_spec (a : Option Addr) (rs : List RuleV) (cap : Nat) (k j : Int) (w : World) (hl : rs.length ≤ 1048576) (hs : ∀ r ∈ rs, Short r) (hp : ∀ r ∈ rs, Spelt r) (h : RdC a rs w) :
    Calls Try.prog 21 #[.agg #[.slice a rs.length cap], .int .i64 k, .int .i64 j] w (BytesOut (tagD rs k j) w) := by
  obtain ⟨w0, hw0⟩ : ∃ w0, w0 = w.alloc (.cells #[.slice a rs.length cap] 26) := ⟨_, rfl⟩
  have hB0 : Below w.heap.size w w0 := by subst hw0; exact (Below.refl _ _).alloc (Nat.le_refl _) _
  have hX0 : CellsAt w.heap.size [.slice a rs.length cap] w0 := by subst hw0; exact CellsAt.new w _ _
  have bx := (hX0 0 _ rfl).1
  have HX := Lib.hid hX0
  have HB := Lib.hid hB0
  have HC := Lib.hid (h.below hB0)
  have HS := Lib.hid hs
  have HP := Lib.hid hp
  have hW := Lib.hid hw0
  clear h hB0 hX0 hs hp hw0
  obtain ⟨ok, hok⟩ : ∃ x, x = okAt rs k := ⟨_, rfl⟩
  have HOK := Lib.hid hok
  clear hok
  obtain ⟨ans, hans⟩ : ∃ z0, z0 = tagD rs k j := ⟨_, rfl⟩
  rw [← hans]
  have HAN := Lib.hid hans
  clear hans
  go_enter Try.func21, Try.ntmps21
  go_wp2_with fail
  rw [← hW.out]
  clear hW
  refine (l7_spec a rs cap k _ hl HS.out HP.out HC.out).mono ?_
  rintro e w1 ⟨rfl, hb1⟩
  rw [← HOK.out]
  replace HX := Lib.hid (HX.out.below hb1)
  replace HC := Lib.hid (HC.out.below hb1)
  replace HB := Lib.hid (HB.out.trans (hb1.mono HB.out.size))
  clear hb1 bx
  have bx := (HX.out 0 _ rfl).1
  cases ok with
  | false =>
    obtain rfl : ans = [] := by rw [HAN.out]; exact tagD_no (fun h => by have := h.1; rw [← HOK.out] at this; cases this)
    go_wp2
    go_ret
    exact bytesOut_below HB.out (empty_out _)
  | true =>
    obtain ⟨⟨hk0, hk1⟩, hn, hall⟩ := okAt_yes HOK.out.symm
    obtain ⟨m, rfl⟩ : ∃ m : Nat, k = (m : Int) := ⟨k.toNat, by omega⟩
    have hm : m < rs.length := by omega
    obtain ⟨b0, off, a4, c4, a5, c5, a6, c6, a7, c7, hx, ⟨d0, d1, d2, d3, d4, d5, d6, d7⟩, r4, r5, r6, r7⟩ := HC.out.rd.at m hm
    subst hx
    by_cases hk7 : rs[m].kind = 7
    · have e7 : (rs[m].kind != 7) = false := by simp [hk7]
      obtain ⟨ib, hib⟩ : ∃ x, x = decide (0 ≤ j ∧ j ≤ (rs[m].tags.length : Int) - 1) := ⟨_, rfl⟩
      have HIB := Lib.hid hib
      clear hib
      have HSM := Lib.hid (HS.out _ (List.getElem_mem hm))
      have htl : rs[m].tags.length ≤ 1048576 := HSM.out.2.2.1
      have HK7 := Lib.hid hk7
      have HALL := Lib.hid hall
      clear hall hk7 hn
      have H6 : Hid (RdI a6 rs[m].tags w1) := r6
      have H7 : Hid (RdI a7 rs[m].kids w1) := r7
      clear r4 r5 r6 r7
      obtain ⟨r, hr⟩ : ∃ r, r = rs[m] := ⟨_, rfl⟩
      rw [← hr] at d0 d1 d2 d3 d4 d5 d6 d7 e7 htl HIB HSM HK7 H6 H7
      have HR := Lib.hid hr
      clear hr
      go_wp2_with fail
      refine (in_any _ _ _ ib _ HIB.out.symm).mono ?_
      rintro e w2 ⟨rfl, rfl⟩
      cases ib with
      | false =>
        obtain rfl : ans = [] := by
          rw [HAN.out]
          refine tagD_no (fun h => ?_)
          have h3 := of_decide_eq_false HIB.out.symm
          have h4 := h.2.2
          rw [ruleAt_at hm, ← HR.out] at h4
          omega
        go_wp2
        go_ret
        exact bytesOut_below HB.out (empty_out _)
      | true =>
        obtain ⟨hj0, hj1⟩ := of_decide_eq_true HIB.out.symm
        obtain ⟨t, rfl⟩ : ∃ t : Nat, j = (t : Int) := ⟨j.toNat, by omega⟩
        have ht : t < r.tags.length := by omega
        obtain ⟨q, hq, hqm, hqr, hkl, htl8, htag⟩ := choice_facts HALL.out hm (by rw [← HR.out]; exact HK7.out)
        rw [← HR.out] at hq hkl htl8 htag
        have HTG := Lib.hid (htag _ (List.getElem_mem ht)).1
        have HA2 : Hid (ans = encI rs[q].little r.tags[t] rs[q].size) := by
          show _ = _
          rw [HAN.out, ← HTG.out]
          have e1 := tagD_yes (t := t) HOK.out.symm hm (by rw [← HR.out]; exact HK7.out) (by rw [← HR.out]; exact ht)
          rw [e1]
          simp only [← HR.out]
        clear htag HTG HAN
        obtain ⟨b6, o6, h6, hc6⟩ := H6.out.cellAt (j := t) ht
        subst h6
        obtain ⟨b7, o7, h7, hc7⟩ := H7.out.cellAt (j := 0) hkl
        subst h7
        simp only [Nat.add_zero] at hc7
        rw [List.getD, List.getElem?_eq_getElem hkl, Option.getD_some] at hq
        rw [hq] at hc7
        obtain ⟨b00, off0, e4, f4, e5, f5, e6, f6, e7', f7, hx2, ⟨u0, u1, u2, u3, u4, u5, u6, u7⟩, s4, s5, s6, s7⟩ := HC.out.rd.at q hqr
        injection hx2 with hx2
        injection hx2 with hxb hxo
        subst hxb
        subst hxo
        obtain ⟨rm, hrm⟩ : ∃ rm, rm = rs[q] := ⟨_, rfl⟩
        rw [← hrm] at u0 u1 u2 u3 u4 u5 u6 u7 s4 s5 s6 s7 HA2
        clear hrm
        obtain ⟨tg, htg⟩ : ∃ tg, tg = r.tags[t] := ⟨_, rfl⟩
        rw [← htg] at hc6 HA2
        clear htg hq
        have HIM : Hid (IsRule rm [.string rm.name, .int .i64 rm.kind, .int .i64 rm.size, .bool rm.little, .slice e4 rm.bytes.length f4, .slice e5 rm.names.length f5, .slice e6 rm.tags.length f6, .slice e7' rm.kids.length f7] w1) := ⟨e4, f4, e5, f5, e6, f6, e7', f7, rfl, s4, s5, s6, s7⟩
        clear s4 s5 s6 s7
        have hq0 : (0 : Int) ≤ (q : Int) := by omega
        have hq1 : (q : Int) < (rs.length : Int) := by omega
        have hkl1 : (0 : Int) < (r.kids.length : Int) := by omega
        have ht0 : (0 : Int) ≤ (t : Int) := by omega
        have ht1 : (t : Int) < (r.tags.length : Int) := by omega
        obtain ⟨w4, hw4⟩ : ∃ w4, w4 = w1.alloc (.cells #[.string r.name, .int .i64 r.kind, .int .i64 r.size, .bool r.little, .slice a4 r.bytes.length c4, .slice a5 r.names.length c5, .slice (some ⟨b6, o6, none⟩) r.tags.length c6, .slice (some ⟨b7, o7, none⟩) r.kids.length c7] 44) := ⟨_, rfl⟩
        have hb4 : Below w1.heap.size w1 w4 := by subst hw4; exact (Below.refl _ _).alloc (Nat.le_refl _) _
        have HRC : Hid (CellsAt w1.heap.size [.string r.name, .int .i64 r.kind, .int .i64 r.size, .bool r.little, .slice a4 r.bytes.length c4, .slice a5 r.names.length c5, .slice (some ⟨b6, o6, none⟩) r.tags.length c6, .slice (some ⟨b7, o7, none⟩) r.kids.length c7] w4) := by subst hw4; exact CellsAt.new w1 _ _
        have HB4 := Lib.hid hb4
        have hW4 := Lib.hid hw4
        clear HR hb4 hw4 hm hqm hqr htl8 HIB
        go_upto_region 4 with fail
        rw [← hW4.out]
        clear hW4 d0 d1 d2 d3 d4 d5 d6 d7 bx
        have bx := (HX.out.below HB4.out 0 _ rfl).1
        have z6 := (HRC.out 6 _ rfl).1
        have z7 := (HRC.out 7 _ rfl).1
        have g6 := cell_keep HB4.out hc6
        have g7 := cell_keep HB4.out hc7
        have v0 := cell_keep HB4.out u0
        have v1 := cell_keep HB4.out u1
        have v2 := cell_keep HB4.out u2
        have v3 := cell_keep HB4.out u3
        have v4 := cell_keep HB4.out u4
        have v5 := cell_keep HB4.out u5
        have v6 := cell_keep HB4.out u6
        have v7 := cell_keep HB4.out u7
        clear u0 u1 u2 u3 u4 u5 u6 u7 hc6 hc7
        replace HB := Lib.hid (HB.out.trans (HB4.out.mono HB.out.size))
        replace HIM := Lib.hid (HIM.out.below HB4.out)
        generalize w1.heap.size = N at HRC z6 z7 ⊢
        clear HB4 HX HC HRC H6 H7
        go_still_tail 13, (by kernel_rfl)
        change wpList _ _ _ _ _ w4.drew
        replace HB : Hid (Below w.heap.size w w4.drew) := below_drewN HB.out 1
        replace HIM : Hid (IsRule rm _ w4.drew) := HIM.out
        clear bx z6 z7 g6 g7 v0 v1 v2 v3 v4 v5 v6 v7
        generalize w4.drew = w5 at HB HIM ⊢
        go_wp2_with fail
        refine (int8_spec rm _ tg _ HIM.out).mono ?_
        rintro e w6 ⟨z, rfl, hown, hb6⟩
        rw [← HA2.out] at hown
        obtain ⟨az, cz, rfl, hrow⟩ := hown.row
        have HRW := Lib.hid (hrow.more HB.out.size)
        replace HB := Lib.hid (HB.out.trans (hb6.mono HB.out.size))
        clear hown hrow hb6
        go_wp2
        go_ret
        exact ⟨az, cz, rfl, HRW.out, HB.out⟩
    · have e7 : (rs[m].kind != 7) = true := by simp [hk7]
      obtain rfl : ans = [] := by rw [HAN.out]; exact tagD_no (fun h => hk7 (by have := h.2.1; rw [ruleAt_at hm] at this; exact this))
      clear r4 r5 r6 r7 hall hk7 hn
      generalize rs[m] = r at d0 d1 d2 d3 d4 d5 d6 d7 e7
      go_wp2
      go_ret
      exact bytesOut_below HB.out (empty_out _)
end Go.Proofs.Ytekmopoblfknlaa
