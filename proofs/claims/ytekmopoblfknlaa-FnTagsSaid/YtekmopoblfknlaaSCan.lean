/- The contract of the model's CanStart. -/
import Derived.Test.YtekmopoblfknlaaStartP
import Derived.Test.YtekmopoblfknlaaRuleOk
import Derived.IntWalk
import Derived.Deep.RegionHeld3
import Derived.Deep.CutRange
namespace Go.Proofs.Ytekmopoblfknlaa
open Go Go.RowKit
theorem any_next {f : Int → Bool} {l : List Int} {j : Nat} (h : j < l.length) : (l.drop j).any f = (f l[j] || (l.drop (j + 1)).any f) := by
  rw [List.drop_eq_getElem_cons h, List.any_cons]
/-- What is known of the tags of a choice. -/
theorem choice_facts {rs : List RuleV} (hall : allV (kindI rs) rs) {k : Nat} (hk : k < rs.length) (hkd : rs[k].kind = 7) : ∃ m : Nat, rs[k].kids.getD 0 0 = (m : Int) ∧ ∃ (_ : m < k) (hm : m < rs.length), 0 < rs[k].kids.length ∧ rs[k].tags.length ≤ 8 ∧ ∀ t ∈ rs[k].tags, tagB rs rs[k] t = encI rs[m].little t rs[m].size ∧ 1 ≤ (encI rs[m].little t rs[m].size).length := by
  have hki := allV_kind hall hk
  have h7 := kindI_7 hki hkd
  obtain ⟨h1, m, hm, hmk⟩ := kid_int hall hk (.inr (.inr hkd))
  have hmr : m < rs.length := by omega
  rw [hm, ruleAt_at hmr] at h1
  have hs := kindI_size (allV_kind hall hmr) h1
  refine ⟨m, hm, hmk, hmr, by omega, by omega, fun t ht => ⟨by unfold tagB; rw [hm, ruleAt_at hmr], ?_⟩⟩
  have h8 : tagsB rs rs[k] = true := by simp [kindI, meetsB, hkd] at hki; exact hki.1
  unfold tagsB at h8
  rw [Bool.and_eq_true] at h8
  have h12 : rs[k].kids.headD 0 = rs[k].kids.getD 0 0 := by cases rs[k].kids <;> rfl
  rw [h12, hm] at h8
  have h9 := tagsOk_in h8.2 t ht
  rw [limitAt_in hmr, if_pos ⟨h1, hs⟩] at h9
  rw [enc_len hs.1 hs.2 h9.1 h9.2]
  omega
set_option maxRecDepth 100000 in
set_option maxHeartbeats 16000000 in
theorem cans_spec (a : Option Addr) (rs : List RuleV) (cap : Nat) (k b : Int) (w : World) (hl : rs.length ≤ 1048576) (hs : ∀ r ∈ rs, Short r) (hp : ∀ r ∈ rs, Spelt r) (h : RdC a rs w) :
    Calls Try.prog 24 #[.agg #[.slice a rs.length cap], .int .i64 k, .int .i64 b] w fun e w' => e = .returned (.bool (canB rs k b)) ∧ Below w.heap.size w w' := by
  obtain ⟨w0, hw0⟩ : ∃ w0, w0 = w.alloc (.cells #[.slice a rs.length cap] 26) := ⟨_, rfl⟩
  have hB0 : Below w.heap.size w w0 := by subst hw0; exact (Below.refl _ _).alloc (Nat.le_refl _) _
  have hX0 : CellsAt w.heap.size [.slice a rs.length cap] w0 := by subst hw0; exact CellsAt.new w _ _
  have bx := (hX0 0 _ rfl).1
  have HX := Lib.hid hX0
  have HB := Lib.hid hB0
  have HC := Lib.hid (h.below hB0)
  have HS := Lib.hid hs
  have HP := Lib.hid hp
  have hW := Lib.hid hw0
  clear h hB0 hX0 hs hp hw0
  obtain ⟨ok, hok⟩ : ∃ x, x = okAt rs k := ⟨_, rfl⟩
  have HOK := Lib.hid hok
  clear hok
  obtain ⟨ib, hib⟩ : ∃ x, x = decide (0 ≤ b ∧ b ≤ 255) := ⟨_, rfl⟩
  have HIB := Lib.hid hib
  clear hib
  obtain ⟨ans, hans⟩ : ∃ x, x = canB rs k b := ⟨_, rfl⟩
  rw [← hans]
  have HAN : Hid (ans = (ok && (ib && startB rs k.toNat b.toNat))) := by show _ = _; rw [hans, HOK.out, HIB.out]; rfl
  clear hans
  go_enter Try.func24, Try.ntmps24
  go_wp2_with fail
  rw [← hW.out]
  clear hW
  refine (l7_spec a rs cap k _ hl HS.out HP.out HC.out).mono ?_
  rintro e w1 ⟨rfl, hb1⟩
  rw [← HOK.out]
  replace HX := Lib.hid (HX.out.below hb1)
  replace HC := Lib.hid (HC.out.below hb1)
  replace HB := Lib.hid (HB.out.trans (hb1.mono HB.out.size))
  clear hb1 bx
  cases ok with
  | false =>
    obtain rfl : ans = false := HAN.out
    go_wp2
    go_ret
    exact ⟨rfl, HB.out⟩
  | true =>
    go_wp2_with fail
    refine (in_any _ _ _ ib _ HIB.out.symm).mono ?_
    rintro e w2 ⟨rfl, rfl⟩
    cases ib with
    | false =>
      obtain rfl : ans = false := HAN.out
      go_wp2
      go_ret
      exact ⟨rfl, HB.out⟩
    | true =>
      obtain ⟨⟨hk0, hk1⟩, hn, hall⟩ := okAt_yes HOK.out.symm
      obtain ⟨m, rfl⟩ : ∃ m : Nat, k = (m : Int) := ⟨k.toNat, by omega⟩
      obtain ⟨hb0, hb1⟩ := of_decide_eq_true HIB.out.symm
      obtain ⟨bb, rfl⟩ : ∃ n : Nat, b = (n : Int) := ⟨b.toNat, by omega⟩
      have hm : m < rs.length := by omega
      replace HAN : Hid (ans = startB rs m bb) := by show _ = _; rw [HAN.out]; simp
      have HALL := Lib.hid hall
      clear hall hn HOK HIB hk0 hk1
      have HB1 := Lib.hid (Below.refl w1.heap.size w1)
      go_wp2
      go_loopw [1] (fun i W => ∃ j : Nat, j < rs.length ∧ i = .int .i64 j ∧ Hid (ans = startB rs j bb) ∧ Hid (Below w1.heap.size w1 W)) (fun i _ => (intOf i).toNat)
      case atStart => exact ⟨m, hm, rfl, HAN, HB1⟩
      case round =>
        clear HAN HB1 hm
        obtain ⟨j, hj, rfl, HAN, hb⟩ := hrel
        have j0 : (0 : Int) ≤ (j : Int) := by omega
        have j1 : (j : Int) < (rs.length : Int) := by omega
        have bx := (HX.out.below hb.out 0 _ rfl).1
        obtain ⟨b0, off, a4, c4, a5, c5, a6, c6, a7, c7, hx, ⟨d0, d1, d2, d3, d4, d5, d6, d7⟩, r4, r5, r6, r7⟩ := (HC.out.below hb.out).rd.at j hj
        subst hx
        have HKI := Lib.hid (allV_kind HALL.out hj)
        have HK0 : Hid (rs[j].kind = 4 ∨ rs[j].kind = 5 ∨ rs[j].kind = 6 ∨ rs[j].kind = 9 → ∃ m : Nat, rs[j].kids.getD 0 0 = (m : Int) ∧ m < j ∧ 0 < rs[j].kids.length ∧ startB rs j bb = startB rs m bb) := fun h => by obtain ⟨m, h1, h2, h3⟩ := kid0 HALL.out hj h; exact ⟨m, h1, h2, h3, start_kid HALL.out hj h h1 bb⟩
        have HSI : Hid (rs[j].kind = 4 ∨ rs[j].kind = 5 → startB rs j bb = true) := fun h => start_int HALL.out hj h bb
        have HSS : Hid (¬ (rs[j].kind = 4 ∨ rs[j].kind = 5 ∨ rs[j].kind = 6 ∨ rs[j].kind = 9) → startB rs j bb = startR rs rs[j] bb) := fun h => start_self hj h bb
        have HCF := fun h => Lib.hid (choice_facts HALL.out hj h)
        obtain ⟨r, hr⟩ : ∃ r, r = rs[j] := ⟨_, rfl⟩
        rw [← hr] at d0 d1 d2 d3 d4 d5 d6 d7 r4 r5 r6 r7 HKI HK0 HSI HSS HCF
        clear hr
        obtain ⟨w4, hw4⟩ : ∃ w4, w4 = wr.alloc (.cells #[.string r.name, .int .i64 r.kind, .int .i64 r.size, .bool r.little, .slice a4 r.bytes.length c4, .slice a5 r.names.length c5, .slice a6 r.tags.length c6, .slice a7 r.kids.length c7] 44) := ⟨_, rfl⟩
        have hb4 : Below wr.heap.size wr w4 := by subst hw4; exact (Below.refl _ _).alloc (Nat.le_refl _) _
        have HR : Hid (CellsAt wr.heap.size [.string r.name, .int .i64 r.kind, .int .i64 r.size, .bool r.little, .slice a4 r.bytes.length c4, .slice a5 r.names.length c5, .slice a6 r.tags.length c6, .slice a7 r.kids.length c7] w4) := by subst hw4; exact CellsAt.new wr _ _
        have HBW := Lib.hid (hb.out.trans (hb4.mono hb.out.size))
        have HR4 := Lib.hid (r4.below hb4)
        have HR6 : Hid (RdI a6 r.tags w4) := r6.below hb4
        have HR7 : Hid (RdI a7 r.kids w4) := r7.below hb4
        have hW4 := Lib.hid hw4
        clear r4 r5 r6 r7 hb hb4 hw4
        go_upto_region 4 with fail
        rw [← hW4.out]
        clear hW4 bx d0 d1 d2 d3 d4 d5 d6 d7
        generalize wr.heap.size = N at HR ⊢
        clear wr
        have HBF := Lib.hid (HB.out.trans (HBW.out.mono HB.out.size))
        have bx := (HX.out.below HBW.out 0 _ rfl).1
        have y1 := (HR.out 1 _ rfl).1
        have y4 := (HR.out 4 _ rfl).1
        have y6 := (HR.out 6 _ rfl).1
        have y7 := (HR.out 7 _ rfl).1
        have hkn := kindI_known HKI.out
        rcases (by omega : (r.kind = 1 ∨ r.kind = 3 ∨ r.kind = 10) ∨ (r.kind = 4 ∨ r.kind = 5) ∨ r.kind = 2 ∨ r.kind = 8 ∨ r.kind = 7 ∨ r.kind = 6 ∨ r.kind = 9) with hk | hk | hk | hk | hk | hk | hk
        · have ht : Hid (ans = true) := by show _ = _; rw [HAN.out]; exact by rw [HSS.out (by omega)]; unfold startR; rw [if_neg (by omega), if_neg (by omega), if_neg (by omega)]
          obtain rfl : ans = true := ht.out
          rcases hk with hk | hk | hk
          all_goals (rw [hk] at y1; clear hk; go_wp2; go_ret; exact ⟨rfl, HBF.out⟩)
        · have ht : Hid (ans = true) := by show _ = _; rw [HAN.out]; exact HSI.out hk
          obtain rfl : ans = true := ht.out
          rcases hk with hk | hk
          all_goals (rw [hk] at y1; clear hk; go_wp2; go_ret; exact ⟨rfl, HBF.out⟩)
        · have hbl : 1 ≤ r.bytes.length := by have h := HKI.out; simp [kindI, meetsB, hk] at h; omega
          obtain ⟨b4, o4, h4, hc4⟩ := HR4.out 0 (by omega)
          subst h4
          simp only [Nat.add_zero] at hc4
          have hr : Hid (ans = decide ((r.bytes[0].toNat : Int) = (bb : Int))) := by show _ = _; rw [HAN.out, HSS.out (by omega)]; unfold startR; rw [if_pos hk, List.getD, List.getElem?_eq_getElem (by omega), Option.getD_some, Bool.eq_iff_iff, decide_eq_true_iff, decide_eq_true_iff]; omega
          have htr : 0 ≤ (r.bytes[0].toNat : Int) ∧ (r.bytes[0].toNat : Int) ≤ 255 := by have := r.bytes[0].toNat_lt; omega
          generalize (r.bytes[0].toNat : Int) = tn at hc4 hr htr
          obtain ⟨htr0, htr1⟩ := htr
          have hwt : IntKind.i64.wrap tn = tn := IntWalk.i64_in _ (by omega)
          have rl0 : (0 : Int) < (r.bytes.length : Int) := by omega
          rw [hk] at y1
          clear hk hbl
          by_cases heq : tn = (bb : Int)
          · obtain rfl : ans = true := by rw [hr.out]; exact decide_eq_true heq
            subst heq
            go_wp2
            go_ret
            exact ⟨ret_bool (by simp), HBF.out⟩
          · obtain rfl : ans = false := by rw [hr.out]; exact decide_eq_false heq
            have e1 : (tn == (bb : Int)) = false := by simpa using heq
            go_wp2
            go_ret
            exact ⟨ret_bool (by simp), HBF.out⟩
        · have hr : Hid (ans = decide (bb < 2)) := by show _ = _; rw [HAN.out, HSS.out (by omega)]; unfold startR; rw [if_neg (by omega), if_pos hk]
          rw [hk] at y1
          clear hk
          by_cases h2 : (bb : Int) < 2
          · obtain rfl : ans = true := by rw [hr.out]; exact decide_eq_true (by omega)
            go_wp2
            go_ret
            exact ⟨rfl, HBF.out⟩
          · obtain rfl : ans = false := by rw [hr.out]; exact decide_eq_false (by omega)
            go_wp2
            go_ret
            exact ⟨rfl, HBF.out⟩
        · obtain ⟨q, hq, hqj, hqr, hkl, htl, htg⟩ := (HCF hk).out
          have HTG := Lib.hid htg
          have hr : Hid (ans = (r.tags.drop 0).any fun t => decide (((tagB rs r t).getD 0 0).toNat = bb)) := by show _ = _; rw [HAN.out, HSS.out (by omega)]; unfold startR; rw [if_neg (by omega), if_neg (by omega), if_pos hk, List.drop_zero]
          obtain ⟨b7, o7, h7, hc7⟩ := HR7.out.cellAt (j := 0) (by omega)
          subst h7
          simp only [Nat.add_zero] at hc7
          rw [List.getD, List.getElem?_eq_getElem (by omega), Option.getD_some] at hq
          rw [hq] at hc7
          have HC7 := Lib.hid hc7
          obtain ⟨x1, x2, e4, f4, e5, f5, e6, f6, e7, f7, hxx, ⟨u0, u1, u2, u3, u4, u5, u6, u7⟩, s4, s5, s6, s7⟩ := (HC.out.below HBW.out).rd.at q hqr
          injection hxx with hxx
          injection hxx with hx1 hx2
          subst hx1 hx2
          obtain ⟨rm, hrm⟩ : ∃ rm, rm = rs[q] := ⟨_, rfl⟩
          rw [← hrm] at u0 u1 u2 u3 u4 u5 u6 u7 s4 s5 s6 s7 HTG
          have HIM : Hid (IsRule rm [.string rm.name, .int .i64 rm.kind, .int .i64 rm.size, .bool rm.little, .slice e4 rm.bytes.length f4, .slice e5 rm.names.length f5, .slice e6 rm.tags.length f6, .slice e7 rm.kids.length f7] w4) := ⟨e4, f4, e5, f5, e6, f6, e7, f7, rfl, s4, s5, s6, s7⟩
          have HUU := Lib.hid (And.intro u0 (And.intro u1 (And.intro u2 (And.intro u3 (And.intro u4 (And.intro u5 (And.intro u6 u7)))))))
          have q0 : (0 : Int) ≤ (q : Int) := by omega
          have q1 : (q : Int) < (rs.length : Int) := by omega
          have hkl1 : (0 : Int) < (r.kids.length : Int) := by omega
          rw [hk] at y1
          have HB4 := Lib.hid (Below.refl w4.heap.size w4)
          clear hk hq hqj htg hrm u0 u1 u2 u3 u4 u5 u6 u7 s4 s5 s6 s7 hc7 y4 y7 HCF HK0 HSI HSS
          go_wp2
          go_loopw [8] (fun i W => ∃ t : Nat, t ≤ r.tags.length ∧ i = .int .i64 t ∧ Hid (ans = (r.tags.drop t).any fun t => decide (((tagB rs r t).getD 0 0).toNat = bb)) ∧ Hid (Below w4.heap.size w4 W)) (fun i _ => r.tags.length - (intOf i).toNat)
          case atStart => exact ⟨0, Nat.zero_le _, rfl, hr, HB4⟩
          case round =>
            clear hr HB4 bx y1 y6
            obtain ⟨t, htn, rfl, hr, hbt⟩ := hrel
            have t0 : (0 : Int) ≤ (t : Int) := by omega
            have y6 := (HR.out.below hbt.out 6 _ rfl).1
            have HBT := Lib.hid (HB.out.trans ((HBW.out.trans (hbt.out.mono HBW.out.size)).mono HB.out.size))
            by_cases hlt : t < r.tags.length
            · have t1 : (t : Int) < (r.tags.length : Int) := by omega
              have hnx := Lib.hid (any_next (f := fun t => decide (((tagB rs r t).getD 0 0).toNat = bb)) hlt)
              obtain ⟨htb, htl1⟩ := HTG.out _ (List.getElem_mem hlt)
              obtain ⟨b6, o6, h6, hc6⟩ := HR6.out.cellAt hlt
              subst h6
              generalize r.tags[t] = tg at hc6 hnx htb htl1
              obtain ⟨bs, hbs⟩ : ∃ bs, bs = encI rm.little tg rm.size := ⟨_, rfl⟩
              rw [htb, ← hbs] at hnx
              rw [← hbs] at htl1
              have HBE := Lib.hid hbs
              clear htb hbs
              have hg0 : Hid (bs.getD 0 0 = bs[0]) := by show _ = _; rw [List.getD, List.getElem?_eq_getElem htl1, Option.getD_some]
              have HSW : Hid (∀ W, Below w4.heap.size w4 W → W.cell? ⟨w.heap.size, 0, none⟩ = some (.slice (some ⟨b0, off, none⟩) rs.length cap) ∧ W.cell? ⟨N, 7, none⟩ = some (.slice (some ⟨b7, o7, none⟩) r.kids.length c7) ∧ W.cell? ⟨N, 6, none⟩ = some (.slice (some ⟨b6, o6, none⟩) r.tags.length c6) ∧ W.cell? ⟨b7, o7, none⟩ = some (.int .i64 (q : Int)) ∧ W.cell? ⟨b6, o6 + t, none⟩ = some (.int .i64 tg) ∧ W.cell? ⟨b0, off + q * 8, none⟩ = some (.string rm.name) ∧ W.cell? ⟨b0, off + q * 8 + 1, none⟩ = some (.int .i64 rm.kind) ∧ W.cell? ⟨b0, off + q * 8 + 2, none⟩ = some (.int .i64 rm.size) ∧ W.cell? ⟨b0, off + q * 8 + 3, none⟩ = some (.bool rm.little) ∧ W.cell? ⟨b0, off + q * 8 + 4, none⟩ = some (.slice e4 rm.bytes.length f4) ∧ W.cell? ⟨b0, off + q * 8 + 5, none⟩ = some (.slice e5 rm.names.length f5) ∧ W.cell? ⟨b0, off + q * 8 + 6, none⟩ = some (.slice e6 rm.tags.length f6) ∧ W.cell? ⟨b0, off + q * 8 + 7, none⟩ = some (.slice e7 rm.kids.length f7)) := fun W hW => ⟨(HX.out.below (HBW.out.trans (hW.mono HBW.out.size)) 0 _ rfl).1, (HR.out.below hW 7 _ rfl).1, (HR.out.below hW 6 _ rfl).1, cell_keep hW HC7.out, cell_keep hW hc6, cell_keep hW HUU.out.1, cell_keep hW HUU.out.2.1, cell_keep hW HUU.out.2.2.1, cell_keep hW HUU.out.2.2.2.1, cell_keep hW HUU.out.2.2.2.2.1, cell_keep hW HUU.out.2.2.2.2.2.1, cell_keep hW HUU.out.2.2.2.2.2.2.1, cell_keep hW HUU.out.2.2.2.2.2.2.2⟩
              clear hc6
              have bl0 : 0 < bs.length := htl1
              have HW0 : Hid (Below w4.heap.size w4 wr.drew) := below_drewN hbt.out 1
              go_upto_region 14 with fail
              clear y6
              refine wp_region_held_drew (S := (fun W => W.cell? ⟨w.heap.size, 0, none⟩ = some (.slice (some ⟨b0, off, none⟩) rs.length cap) ∧ W.cell? ⟨N, 7, none⟩ = some (.slice (some ⟨b7, o7, none⟩) r.kids.length c7) ∧ W.cell? ⟨N, 6, none⟩ = some (.slice (some ⟨b6, o6, none⟩) r.tags.length c6) ∧ W.cell? ⟨b7, o7, none⟩ = some (.int .i64 (q : Int)) ∧ W.cell? ⟨b6, o6 + t, none⟩ = some (.int .i64 tg) ∧ W.cell? ⟨b0, off + q * 8, none⟩ = some (.string rm.name) ∧ W.cell? ⟨b0, off + q * 8 + 1, none⟩ = some (.int .i64 rm.kind) ∧ W.cell? ⟨b0, off + q * 8 + 2, none⟩ = some (.int .i64 rm.size) ∧ W.cell? ⟨b0, off + q * 8 + 3, none⟩ = some (.bool rm.little) ∧ W.cell? ⟨b0, off + q * 8 + 4, none⟩ = some (.slice e4 rm.bytes.length f4) ∧ W.cell? ⟨b0, off + q * 8 + 5, none⟩ = some (.slice e5 rm.names.length f5) ∧ W.cell? ⟨b0, off + q * 8 + 6, none⟩ = some (.slice e6 rm.tags.length f6) ∧ W.cell? ⟨b0, off + q * 8 + 7, none⟩ = some (.slice e7 rm.kids.length f7))) (by kernel_rfl) ?_ (fun hHeld => ?_)
              · (try dsimp only); exact HSW.out _ HW0.out
              refine wpAnyH_take (i := 0) (v := ?v1) (by simp only [List.getElem?_toArray, List.getElem?_cons_zero]; rfl) (by kernel_rfl) (by kernel_rfl) (by kernel_rfl) (by exact fun _ _ _ h => h) (Or.inl ⟨by rfl, ?hy1⟩) (by assumption) ?rest1
              case hy1 => ((intro W hSw; (try dsimp only at hSw); go_simp); (try with_reducible rfl))
              simp only [Act.put, List.setIfInBounds_toArray, List.set_cons_zero, List.set_cons_succ]
              refine wpAnyH_take (i := 1) (v := ?v2) (by simp only [List.getElem?_toArray, List.getElem?_cons_succ, List.getElem?_cons_zero]; rfl) (by kernel_rfl) (by kernel_rfl) (by kernel_rfl) (by exact fun _ _ _ h => h) (Or.inl ⟨by rfl, ?hy2⟩) (by assumption) ?rest2
              case hy2 => ((intro W hSw; (try dsimp only at hSw); go_simp); (try with_reducible rfl))
              simp only [Act.put, List.setIfInBounds_toArray, List.set_cons_zero, List.set_cons_succ]
              refine wpAnyH_take (i := 2) (v := ?v3) (by simp only [List.getElem?_toArray, List.getElem?_cons_succ, List.getElem?_cons_zero]; rfl) (by kernel_rfl) (by kernel_rfl) (by kernel_rfl) (by exact fun _ _ _ h => h) (Or.inl ⟨by rfl, ?hy3⟩) (by assumption) ?rest3
              case hy3 => ((intro W hSw; (try dsimp only at hSw); go_simp); (try with_reducible rfl))
              simp only [Act.put, List.setIfInBounds_toArray, List.set_cons_zero, List.set_cons_succ]
              refine wpAnyH_take (i := 3) (v := ?v4) (by simp only [List.getElem?_toArray, List.getElem?_cons_succ, List.getElem?_cons_zero]; rfl) (by kernel_rfl) (by kernel_rfl) (by kernel_rfl) (by exact fun _ _ _ h => h) (Or.inl ⟨by rfl, ?hy4⟩) (by assumption) ?rest4
              case hy4 => ((intro W hSw; (try dsimp only at hSw); go_simp); (try with_reducible rfl))
              simp only [Act.put, List.setIfInBounds_toArray, List.set_cons_zero, List.set_cons_succ]
              refine wpAnyH_take (i := 4) (v := ?v5) (by simp only [List.getElem?_toArray, List.getElem?_cons_succ, List.getElem?_cons_zero]; rfl) (by kernel_rfl) (by kernel_rfl) (by kernel_rfl) (by exact fun _ _ _ h => h) (Or.inl ⟨by rfl, ?hy5⟩) (by assumption) ?rest5
              case hy5 => ((intro W hSw; (try dsimp only at hSw); go_simp); (try with_reducible rfl))
              simp only [Act.put, List.setIfInBounds_toArray, List.set_cons_zero, List.set_cons_succ]
              refine wpAnyH_take (i := 5) (v := ?v6) (by simp only [List.getElem?_toArray, List.getElem?_cons_succ, List.getElem?_cons_zero]; rfl) (by kernel_rfl) (by kernel_rfl) (by kernel_rfl) (by exact fun _ _ _ h => h) (Or.inl ⟨by rfl, ?hy6⟩) (by assumption) ?rest6
              case hy6 => ((intro W hSw; (try dsimp only at hSw); go_simp); (try with_reducible rfl))
              simp only [Act.put, List.setIfInBounds_toArray, List.set_cons_zero, List.set_cons_succ]
              refine wpAnyH_take (i := 6) (v := ?v7) (by simp only [List.getElem?_toArray, List.getElem?_cons_succ, List.getElem?_cons_zero]; rfl) (by kernel_rfl) (by kernel_rfl) (by kernel_rfl) (by exact fun _ _ _ h => h) (Or.inl ⟨by rfl, ?hy7⟩) (by assumption) ?rest7
              case hy7 => ((intro W hSw; (try dsimp only at hSw); go_simp); (try with_reducible rfl))
              simp only [Act.put, List.setIfInBounds_toArray, List.set_cons_zero, List.set_cons_succ]
              refine wpAnyH_take (i := 7) (v := ?v8) (by simp only [List.getElem?_toArray, List.getElem?_cons_succ, List.getElem?_cons_zero]; rfl) (by kernel_rfl) (by kernel_rfl) (by kernel_rfl) (by exact fun _ _ _ h => h) (Or.inl ⟨by rfl, ?hy8⟩) (by assumption) ?rest8
              case hy8 => ((intro W hSw; (try dsimp only at hSw); go_simp); (try with_reducible rfl))
              simp only [Act.put, List.setIfInBounds_toArray, List.set_cons_zero, List.set_cons_succ]
              refine wpAnyH_take (i := 8) (v := ?v9) (by simp only [List.getElem?_toArray, List.getElem?_cons_succ, List.getElem?_cons_zero]; rfl) (by kernel_rfl) (by kernel_rfl) (by kernel_rfl) (by exact fun _ _ _ h => h) (Or.inl ⟨by rfl, ?hy9⟩) (by assumption) ?rest9
              case hy9 => ((intro W hSw; (try dsimp only at hSw); go_simp); (try with_reducible rfl))
              simp only [Act.put, List.setIfInBounds_toArray, List.set_cons_zero, List.set_cons_succ]
              refine wpAnyH_take (i := 9) (v := ?v10) (by simp only [List.getElem?_toArray, List.getElem?_cons_succ, List.getElem?_cons_zero]; rfl) (by kernel_rfl) (by kernel_rfl) (by kernel_rfl) (by exact fun _ _ _ h => h) (Or.inl ⟨by rfl, ?hy10⟩) (by assumption) ?rest10
              case hy10 => ((intro W hSw; (try dsimp only at hSw); go_simp); (try with_reducible rfl))
              simp only [Act.put, List.setIfInBounds_toArray, List.set_cons_zero, List.set_cons_succ]
              refine wpAnyH_take (i := 10) (v := ?v11) (by simp only [List.getElem?_toArray, List.getElem?_cons_succ, List.getElem?_cons_zero]; rfl) (by kernel_rfl) (by kernel_rfl) (by kernel_rfl) (by exact fun _ _ _ h => h) (Or.inl ⟨by rfl, ?hy11⟩) (by assumption) ?rest11
              case hy11 => ((intro W hSw; (try dsimp only at hSw); go_simp); (try with_reducible rfl))
              simp only [Act.put, List.setIfInBounds_toArray, List.set_cons_zero, List.set_cons_succ]
              refine wpAnyH_take (i := 11) (v := ?v12) (by simp only [List.getElem?_toArray, List.getElem?_cons_succ, List.getElem?_cons_zero]; rfl) (by kernel_rfl) (by kernel_rfl) (by kernel_rfl) (by exact fun _ _ _ h => h) (Or.inl ⟨by rfl, ?hy12⟩) (by assumption) ?rest12
              case hy12 => ((intro W hSw; (try dsimp only at hSw); go_simp); (try with_reducible rfl))
              simp only [Act.put, List.setIfInBounds_toArray, List.set_cons_zero, List.set_cons_succ]
              refine wpAnyH_take (i := 12) (v := ?v13) (by simp only [List.getElem?_toArray, List.getElem?_cons_succ, List.getElem?_cons_zero]; rfl) (by kernel_rfl) (by kernel_rfl) (by kernel_rfl) (by exact fun _ _ _ h => h) (Or.inl ⟨by rfl, ?hy13⟩) (by assumption) ?rest13
              case hy13 => ((intro W hSw; (try dsimp only at hSw); go_simp); (try with_reducible rfl))
              simp only [Act.put, List.setIfInBounds_toArray, List.set_cons_zero, List.set_cons_succ]
              refine wpAnyH_take (i := 17) (v := ?v14) (by simp only [List.getElem?_toArray, List.getElem?_cons_succ, List.getElem?_cons_zero]; rfl) (by kernel_rfl) (by kernel_rfl) (by kernel_rfl) (by exact fun _ _ _ h => h) (Or.inl ⟨by rfl, ?hy14⟩) (by assumption) ?rest14
              case hy14 => ((intro W hSw; (try dsimp only at hSw); go_simp); (try with_reducible rfl))
              simp only [Act.put, List.setIfInBounds_toArray, List.set_cons_zero, List.set_cons_succ]
              refine wpAnyH_ready (rs := [13]) (by kernel_rfl) (by simp) ?_
              refine AllReadyH.cons (by simp only [List.getElem?_toArray, List.getElem?_cons_succ, List.getElem?_cons_zero]; rfl) (fun K hK => ?_) AllReadyH.nil
              go_simp
              (go_at_call 51; refine (int8_spec rm _ tg _ (HIM.out.below HW0.out)).mono ?_; rintro e w6 ⟨z, rfl, hown, hb6⟩; rw [← HBE.out] at hown; obtain ⟨az, cz, rfl, hrow⟩ := hown.row; obtain ⟨bz, oz, hz, hcz⟩ := hrow.rd 0 htl1; subst hz; simp only [Nat.add_zero] at hcz; generalize hxb : (bs[0].toNat : Int) = xb at hcz; have hxb0 : 0 ≤ xb := (by omega); have hxb1 : xb ≤ 255 := (by have := bs[0].toNat_lt; omega); have hwx : IntKind.i64.wrap xb = xb := IntWalk.i64_in _ (by omega); have HXB := Lib.hid hxb; replace HW0 := Lib.hid (HW0.out.trans (hb6.mono HW0.out.size)); clear hown hrow hb6 hxb)
              go_wp2_with fail
              refine hK.out _ _ ?_ (fun hHeld => ?_)
              · (try dsimp only); exact HSW.out _ HW0.out
              clear hK K
              refine wpAnyH_take (i := 14) (v := ?v15) (by simp only [List.getElem?_toArray, List.getElem?_cons_succ, List.getElem?_cons_zero]; rfl) (by kernel_rfl) (by kernel_rfl) (by kernel_rfl) (by exact fun _ _ _ h => h) (Or.inl ⟨by rfl, ?hy15⟩) (by assumption) ?rest15
              case hy15 => ((intro W hSw; (try dsimp only at hSw); go_simp); (try with_reducible rfl))
              simp only [Act.put, List.setIfInBounds_toArray, List.set_cons_zero, List.set_cons_succ]
              refine wpAnyH_ready (rs := [15]) (by kernel_rfl) (by simp) ?_
              refine AllReadyH.cons (by simp only [List.getElem?_toArray, List.getElem?_cons_succ, List.getElem?_cons_zero]; rfl) (fun K hK => ?_) AllReadyH.nil
              go_simp
              refine hK.out _ _ ?_ (fun hHeld => ?_)
              · (try dsimp only); exact HSW.out _ HW0.out
              clear hK K
              refine wpAnyH_take (i := 16) (v := ?v16) (by simp only [List.getElem?_toArray, List.getElem?_cons_succ, List.getElem?_cons_zero]; rfl) (by kernel_rfl) (by kernel_rfl) (by kernel_rfl) (by exact fun _ _ _ h => h) (Or.inl ⟨by rfl, ?hy16⟩) (by assumption) ?rest16
              case hy16 => ((intro W hSw; (try dsimp only at hSw); go_simp); (try with_reducible rfl))
              simp only [Act.put, List.setIfInBounds_toArray, List.set_cons_zero, List.set_cons_succ]
              refine wpAnyH_take (i := 18) (v := ?v17) (by simp only [List.getElem?_toArray, List.getElem?_cons_succ, List.getElem?_cons_zero]; rfl) (by kernel_rfl) (by kernel_rfl) (by kernel_rfl) (by exact fun _ _ _ h => h) (Or.inl ⟨by rfl, ?hy17⟩) (by assumption) ?rest17
              case hy17 => ((intro W hSw; (try dsimp only at hSw); go_simp); (try with_reducible rfl))
              simp only [Act.put, List.setIfInBounds_toArray, List.set_cons_zero, List.set_cons_succ]
              refine wpAnyH_done (by kernel_rfl) ?_ _
              have HBN := Lib.hid (HB.out.trans ((HBW.out.trans (HW0.out.mono HBW.out.size)).mono HB.out.size))
              by_cases heq : xb = (bb : Int)
              · have hbt2 : Hid (ans = true) := by show _ = _; rw [hr.out, hnx.out, hg0.out, decide_eq_true (by have h := HXB.out; omega)]; rfl
                obtain rfl : ans = true := hbt2.out
                subst heq
                go_wp2
                go_ret
                exact ⟨rfl, HBN.out⟩
              · have e1 : (xb == (bb : Int)) = false := by simpa using heq
                have hr2 : Hid (ans = (r.tags.drop (t + 1)).any fun t => decide (((tagB rs r t).getD 0 0).toNat = bb)) := by show _ = _; rw [hr.out, hnx.out, hg0.out, decide_eq_false (by have h := HXB.out; omega), Bool.false_or]
                go_wp2
                go_roundw
                case rel => exact ⟨t + 1, by omega, by go_num, hr2, HW0⟩
                case measure => simp [intOf]; omega
            · have t1 : ¬ (t : Int) < (r.tags.length : Int) := by omega
              obtain rfl : ans = false := by rw [hr.out, List.drop_of_length_le (by omega)]; rfl
              go_wp2
              go_ret
              exact ⟨rfl, HBT.out⟩
        · obtain ⟨q, hq, hqj, hkl, hst⟩ := HK0.out (by omega)
          have hr : Hid (ans = startB rs q bb) := by show _ = _; rw [HAN.out]; exact hst
          obtain ⟨b7, o7, h7, hc7⟩ := HR7.out.cellAt (j := 0) hkl
          subst h7
          simp only [Nat.add_zero] at hc7
          rw [List.getD, List.getElem?_eq_getElem hkl, Option.getD_some] at hq
          rw [hq] at hc7
          have hkl1 : (0 : Int) < (r.kids.length : Int) := by omega
          rw [hk] at y1
          clear hk hq hst HCF HK0 HSI HSS
          go_wp2
          go_roundw
          case rel => exact ⟨q, by omega, rfl, hr, HBW⟩
          case measure => simp [intOf]; omega
        · obtain ⟨q, hq, hqj, hkl, hst⟩ := HK0.out (by omega)
          have hr : Hid (ans = startB rs q bb) := by show _ = _; rw [HAN.out]; exact hst
          obtain ⟨b7, o7, h7, hc7⟩ := HR7.out.cellAt (j := 0) hkl
          subst h7
          simp only [Nat.add_zero] at hc7
          rw [List.getD, List.getElem?_eq_getElem hkl, Option.getD_some] at hq
          rw [hq] at hc7
          have hkl1 : (0 : Int) < (r.kids.length : Int) := by omega
          rw [hk] at y1
          clear hk hq hst HCF HK0 HSI HSS
          go_wp2
          go_roundw
          case rel => exact ⟨q, by omega, rfl, hr, HBW⟩
          case measure => simp [intOf]; omega
end Go.Proofs.Ytekmopoblfknlaa
