/- The contracts of the program's encodeInteger, encodeTag, firstPart. -/
import Derived.Test.YtekmopoblfknlaaStartP
import Derived.Test.YtekmopoblfknlaaIEndian
import Derived.Test.YtekmopoblfknlaaGDI
import Derived.Test.YtekmopoblfknlaaRuleOk
import Derived.StillTailTactics
import Derived.Deep.CutRange
namespace Go.Proofs.Ytekmopoblfknlaa
open Go Go.RowKit
set_option maxRecDepth 100000 in
set_option maxHeartbeats 2000000 in
theorem enci_impl (r : RuleV) (cs : List Value) (n : Int) (w : World) (h : IsRule r cs w) :
    Calls Try.prog 67 #[.agg cs.toArray, .int .i64 n] w (BytesOut (encI r.little n r.size) w) := by
  obtain ⟨a4, c4, a5, c5, a6, c6, a7, c7, rfl, -, -, -, -⟩ := h
  obtain ⟨w0, hw0⟩ : ∃ w0, w0 = w.alloc (.cells #[.string r.name, .int .i64 r.kind, .int .i64 r.size, .bool r.little, .slice a4 r.bytes.length c4, .slice a5 r.names.length c5, .slice a6 r.tags.length c6, .slice a7 r.kids.length c7] 44) := ⟨_, rfl⟩
  have hB : Below w.heap.size w w0 := by subst hw0; exact (Below.refl _ _).alloc (Nat.le_refl _) _
  have hC : CellsAt w.heap.size [.string r.name, .int .i64 r.kind, .int .i64 r.size, .bool r.little, .slice a4 r.bytes.length c4, .slice a5 r.names.length c5, .slice a6 r.tags.length c6, .slice a7 r.kids.length c7] w0 := by subst hw0; exact CellsAt.new w _ _
  have y2 := (hC 2 _ rfl).1
  have y3 := (hC 3 _ rfl).1
  have HB := Lib.hid hB
  have hW := Lib.hid hw0
  clear hB hC hw0
  generalize r.little = lt at *
  generalize r.size = s at *
  obtain ⟨bs, hbs⟩ : ∃ bs, bs = encI lt n s := ⟨_, rfl⟩
  rw [← hbs]
  have HBS := Lib.hid hbs
  clear hbs
  go_enter Try.func67, Try.ntmps67
  go_upto_region 1 with fail
  rw [← hW.out]
  clear hW
  cases lt with
  | true =>
    have HQ : Hid (∀ W, Calls Try.prog 83 #[.int .i64 n, .int .i64 s] W (BytesOut bs W)) := fun W => by rw [HBS.out]; exact le_impl n s W
    go_wp2_with fail
    refine (HQ.out _).mono ?_
    rintro e w2 ⟨az, cz, rfl, hrow, hb2⟩
    have HRW := Lib.hid (hrow.more HB.out.size)
    replace HB := Lib.hid (HB.out.trans (hb2.mono HB.out.size))
    clear hb2 hrow
    go_wp2
    go_ret
    exact ⟨az, cz, rfl, HRW.out, HB.out⟩
  | false =>
    have HQ : Hid (∀ W, Calls Try.prog 84 #[.int .i64 n, .int .i64 s] W (BytesOut bs W)) := fun W => by rw [HBS.out]; exact be_impl n s W
    go_wp2_with fail
    refine (HQ.out _).mono ?_
    rintro e w2 ⟨az, cz, rfl, hrow, hb2⟩
    have HRW := Lib.hid (hrow.more HB.out.size)
    replace HB := Lib.hid (HB.out.trans (hb2.mono HB.out.size))
    clear hb2 hrow
    go_wp2
    go_ret
    exact ⟨az, cz, rfl, HRW.out, HB.out⟩
set_option maxRecDepth 100000 in
set_option maxHeartbeats 4000000 in
theorem enct_impl (a : Option Addr) (rs : List RuleV) (cap : Nat) (r : RuleV) (cs : List Value) (tg : Int) (q : Nat) (w : World) (_hl : rs.length ≤ 1048576) (hq : r.kids.getD 0 0 = (q : Int)) (hqr : q < rs.length) (hkl : 0 < r.kids.length) (h : RdC a rs w) (hr : IsRule r cs w) :
    Calls Try.prog 48 #[.agg #[.slice a rs.length cap], .agg cs.toArray, .int .i64 tg] w (BytesOut (tagB rs r tg) w) := by
  obtain ⟨a4, c4, a5, c5, a6, c6, a7, c7, rfl, -, -, -, h7⟩ := hr
  have H7 : RdI a7 r.kids w := h7
  obtain ⟨b7, o7, ha7, hc7⟩ := H7.cellAt (j := 0) hkl
  subst ha7
  simp only [Nat.add_zero] at hc7
  obtain ⟨bs, hbs⟩ : ∃ bs, bs = tagB rs r tg := ⟨_, rfl⟩
  have hbs2 : bs = encI rs[q].little tg rs[q].size := by rw [hbs]; unfold tagB; rw [hq, ruleAt_at hqr]
  rw [← hbs]
  rw [List.getD, List.getElem?_eq_getElem hkl, Option.getD_some] at hq
  rw [hq] at hc7
  obtain ⟨b0, off, e4, f4, e5, f5, e6, f6, e7, f7, hx, ⟨u0, u1, u2, u3, u4, u5, u6, u7⟩, s4, s5, s6, s7⟩ := h.rd.at q hqr
  subst hx
  obtain ⟨rm, hrm⟩ : ∃ rm, rm = rs[q] := ⟨_, rfl⟩
  rw [← hrm] at u0 u1 u2 u3 u4 u5 u6 u7 s4 s5 s6 s7 hbs2
  clear hrm hbs hq h7 H7
  have HBS := Lib.hid hbs2
  clear hbs2
  have HQ : Hid (∀ cs W, IsRule rm cs W → Calls Try.prog 67 #[.agg cs.toArray, .int .i64 tg] W (BytesOut bs W)) := fun cs W hc => by rw [HBS.out]; exact enci_impl rm cs tg W hc
  obtain ⟨w0, hw0⟩ : ∃ w0, w0 = (w.alloc (.cells #[.slice (some ⟨b0, off, none⟩) rs.length cap] 26)).alloc (.cells #[.string r.name, .int .i64 r.kind, .int .i64 r.size, .bool r.little, .slice a4 r.bytes.length c4, .slice a5 r.names.length c5, .slice a6 r.tags.length c6, .slice (some ⟨b7, o7, none⟩) r.kids.length c7] 44) := ⟨_, rfl⟩
  have hB : Below w.heap.size w w0 := by subst hw0; exact ((Below.refl _ _).alloc (Nat.le_refl _) _).alloc (by simp) _
  have hX : CellsAt w.heap.size [.slice (some ⟨b0, off, none⟩) rs.length cap] w0 := by subst hw0; exact (CellsAt.new w _ _).below ((Below.refl _ _).alloc (Nat.le_refl _) _)
  have hR : CellsAt (w.heap.size + 1) [.string r.name, .int .i64 r.kind, .int .i64 r.size, .bool r.little, .slice a4 r.bytes.length c4, .slice a5 r.names.length c5, .slice a6 r.tags.length c6, .slice (some ⟨b7, o7, none⟩) r.kids.length c7] w0 := by subst hw0; have h1 := CellsAt.new (w.alloc (.cells #[.slice (some ⟨b0, off, none⟩) rs.length cap] 26)) [.string r.name, .int .i64 r.kind, .int .i64 r.size, .bool r.little, .slice a4 r.bytes.length c4, .slice a5 r.names.length c5, .slice a6 r.tags.length c6, .slice (some ⟨b7, o7, none⟩) r.kids.length c7] 44; rw [World.size_alloc] at h1; exact h1
  have HIM : Hid (IsRule rm [.string rm.name, .int .i64 rm.kind, .int .i64 rm.size, .bool rm.little, .slice e4 rm.bytes.length f4, .slice e5 rm.names.length f5, .slice e6 rm.tags.length f6, .slice e7 rm.kids.length f7] w0) := IsRule.below ⟨e4, f4, e5, f5, e6, f6, e7, f7, rfl, s4, s5, s6, s7⟩ hB
  have bx := (hX 0 _ rfl).1
  have z7 := (hR 7 _ rfl).1
  have g7 := cell_keep hB hc7
  have v0 := cell_keep hB u0
  have v1 := cell_keep hB u1
  have v2 := cell_keep hB u2
  have v3 := cell_keep hB u3
  have v4 := cell_keep hB u4
  have v5 := cell_keep hB u5
  have v6 := cell_keep hB u6
  have v7 := cell_keep hB u7
  have hq0 : (0 : Int) ≤ (q : Int) := by omega
  have hq1 : (q : Int) < (rs.length : Int) := by omega
  have hkl1 : (0 : Int) < (r.kids.length : Int) := by omega
  have HB := Lib.hid hB
  have hW := Lib.hid hw0
  clear hB hX hR hw0 u0 u1 u2 u3 u4 u5 u6 u7 s4 s5 s6 s7 hc7 h hqr
  go_enter Try.func48, Try.ntmps48
  go_upto_region 1 with fail
  rw [← hW.out]
  clear hW
  go_still_tail 9, (by kernel_rfl)
  change wpList _ _ _ _ _ w0.drew
  replace HB : Hid (Below w.heap.size w w0.drew) := below_drewN HB.out 1
  replace HIM : Hid (IsRule rm _ w0.drew) := HIM.out
  clear bx z7 g7 v0 v1 v2 v3 v4 v5 v6 v7
  generalize w0.drew = w5 at HB HIM ⊢
  go_wp2_with fail
  refine (HQ.out _ _ HIM.out).mono ?_
  rintro e w6 ⟨az, cz, rfl, hrow, hb6⟩
  have HRW := Lib.hid (hrow.more HB.out.size)
  replace HB := Lib.hid (HB.out.trans (hb6.mono HB.out.size))
  clear hrow hb6
  go_wp2
  go_ret
  exact ⟨az, cz, rfl, HRW.out, HB.out⟩
/-- The rule with which the encodings of a rule begin. -/
def firstR (rs : List RuleV) (m : Nat) : RuleV := ruleAt rs (firstN rs m m : Nat)
theorem firstR_kid {rs : List RuleV} (hall : allV (kindI rs) rs) {k m : Nat} (hk : k < rs.length) (h : rs[k].kind = 4 ∨ rs[k].kind = 5 ∨ rs[k].kind = 6 ∨ rs[k].kind = 9) (hm : rs[k].kids.getD 0 0 = (m : Int)) : firstR rs k = firstR rs m := by
  obtain ⟨q, hq, hqk, _⟩ := kid0 hall hk h
  obtain rfl : q = m := by omega
  unfold firstR
  cases k with
  | zero => omega
  | succ k =>
    rw [firstN, if_pos (by rw [ruleAt_at hk]; exact h), ruleAt_at hk, hq, Int.toNat_natCast, firstN_more hall k q q (by omega) (by omega) (Nat.le_refl _)]
theorem firstR_self {rs : List RuleV} {k : Nat} (hk : k < rs.length) (h : ¬ (rs[k].kind = 4 ∨ rs[k].kind = 5 ∨ rs[k].kind = 6 ∨ rs[k].kind = 9)) : firstR rs k = rs[k] := by
  unfold firstR
  cases k with
  | zero => rw [firstN, ruleAt_at hk]
  | succ k => rw [firstN, if_neg (by rw [ruleAt_at hk]; exact h), ruleAt_at hk]
theorem startB_first (rs : List RuleV) (m b : Nat) : startB rs m b = startR rs (firstR rs m) b := rfl
def FirstOut (r : RuleV) (W0 w : World) (e : Ending) (w' : World) : Prop := ∃ cs, e = .returned (.agg cs.toArray) ∧ IsRule r cs W0 ∧ Below w.heap.size w w'
set_option maxRecDepth 100000 in
set_option maxHeartbeats 8000000 in
theorem first_impl (W0 : World) (a : Option Addr) (rs : List RuleV) (cap : Nat) (_hl : rs.length ≤ 1048576) (hall : allV (kindI rs) rs) (h : RdC a rs W0) : ∀ m, ∀ (hm : m < rs.length) (cs : List Value) (w : World), IsRule rs[m] cs W0 → Below W0.heap.size W0 w → Calls Try.prog 63 #[.agg #[.slice a rs.length cap], .agg cs.toArray] w (FirstOut (firstR rs m) W0 w) := by
  intro m
  induction m using Nat.strongRecOn with
  | ind m ih =>
    intro hm cs w hr hb
    have HIS := Lib.hid hr
    have HIH := Lib.hid ih
    have HCW := Lib.hid h
    have HALL := Lib.hid hall
    have hkn := kindI_known (allV_kind hall hm)
    have HKI := Lib.hid (allV_kind hall hm)
    have HK0 : Hid (rs[m].kind = 4 ∨ rs[m].kind = 5 ∨ rs[m].kind = 6 ∨ rs[m].kind = 9 → ∃ q : Nat, rs[m].kids.getD 0 0 = (q : Int) ∧ q < m ∧ 0 < rs[m].kids.length ∧ firstR rs m = firstR rs q) := fun h => by obtain ⟨q, h1, h2, h3⟩ := kid0 hall hm h; exact ⟨q, h1, h2, h3, firstR_kid hall hm h h1⟩
    have HSS : Hid (¬ (rs[m].kind = 4 ∨ rs[m].kind = 5 ∨ rs[m].kind = 6 ∨ rs[m].kind = 9) → firstR rs m = rs[m]) := fun h => firstR_self hm h
    obtain ⟨ans, hans⟩ : ∃ z0, z0 = firstR rs m := ⟨_, rfl⟩
    rw [← hans] at HK0 HSS ⊢
    clear hans ih h hall
    obtain ⟨r, hrr⟩ : ∃ r, r = rs[m] := ⟨_, rfl⟩
    rw [← hrr] at hr HIS HK0 HSS hkn HKI
    clear hrr HKI
    obtain ⟨a4, c4, a5, c5, a6, c6, a7, c7, rfl, -, -, -, r7⟩ := hr
    have R7 : RdI a7 r.kids W0 := r7
    have HR7 := Lib.hid R7
    clear r7 R7
    obtain ⟨w0, hw0⟩ : ∃ w0, w0 = ((w.alloc (.cells #[.slice a rs.length cap] 26)).alloc (.cells #[.string r.name, .int .i64 r.kind, .int .i64 r.size, .bool r.little, .slice a4 r.bytes.length c4, .slice a5 r.names.length c5, .slice a6 r.tags.length c6, .slice a7 r.kids.length c7] 44)).alloc (.cells #[.string ⟨#[]⟩, .int .i64 0, .int .i64 0, .bool false, .slice none 0 0, .slice none 0 0, .slice none 0 0, .slice none 0 0] 44) := ⟨_, rfl⟩
    have hB : Below w.heap.size w w0 := by subst hw0; exact (((Below.refl _ _).alloc (Nat.le_refl _) _).alloc (by simp) _).alloc (by simp; omega) _
    have hX : CellsAt w.heap.size [.slice a rs.length cap] w0 := by subst hw0; exact ((CellsAt.new w _ _).below ((Below.refl _ _).alloc (Nat.le_refl _) _)).below ((Below.refl _ _).alloc (Nat.le_refl _) _)
    have hR : CellsAt (w.heap.size + 1) [.string r.name, .int .i64 r.kind, .int .i64 r.size, .bool r.little, .slice a4 r.bytes.length c4, .slice a5 r.names.length c5, .slice a6 r.tags.length c6, .slice a7 r.kids.length c7] w0 := by subst hw0; have h1 := CellsAt.new (w.alloc (.cells #[.slice a rs.length cap] 26)) [.string r.name, .int .i64 r.kind, .int .i64 r.size, .bool r.little, .slice a4 r.bytes.length c4, .slice a5 r.names.length c5, .slice a6 r.tags.length c6, .slice a7 r.kids.length c7] 44; rw [World.size_alloc] at h1; exact h1.below ((Below.refl _ _).alloc (Nat.le_refl _) _)
    have hZ : CellsAt (w.heap.size + 2) [.string ⟨#[]⟩, .int .i64 0, .int .i64 0, .bool false, .slice none 0 0, .slice none 0 0, .slice none 0 0, .slice none 0 0] w0 := by subst hw0; have h1 := CellsAt.new ((w.alloc (.cells #[.slice a rs.length cap] 26)).alloc (.cells #[.string r.name, .int .i64 r.kind, .int .i64 r.size, .bool r.little, .slice a4 r.bytes.length c4, .slice a5 r.names.length c5, .slice a6 r.tags.length c6, .slice a7 r.kids.length c7] 44)) [.string ⟨#[]⟩, .int .i64 0, .int .i64 0, .bool false, .slice none 0 0, .slice none 0 0, .slice none 0 0, .slice none 0 0] 44; simpa using h1
    have bx := (hX 0 _ rfl).1
    have y0 := (hR 0 _ rfl).1
    have y1 := (hR 1 _ rfl).1
    have y2 := (hR 2 _ rfl).1
    have y3 := (hR 3 _ rfl).1
    have y4 := (hR 4 _ rfl).1
    have y5 := (hR 5 _ rfl).1
    have y6 := (hR 6 _ rfl).1
    have y7 := (hR 7 _ rfl).1
    have HB := Lib.hid hB
    have HX := Lib.hid hX
    have HZ := Lib.hid hZ
    have HBW := Lib.hid (hb.trans (hB.mono hb.size))
    have hW := Lib.hid hw0
    clear hB hX hR hZ hw0 hb
    go_enter Try.func63, Try.ntmps63
    go_upto_region 1 with fail
    rw [← hW.out]
    clear hW
    rcases (by omega : (r.kind = 1 ∨ r.kind = 2 ∨ r.kind = 3 ∨ r.kind = 7 ∨ r.kind = 8 ∨ r.kind = 10) ∨ (r.kind = 4 ∨ r.kind = 5 ∨ r.kind = 6 ∨ r.kind = 9)) with hk | hk
    · obtain rfl : ans = r := HSS.out (by omega)
      clear HK0 HSS
      obtain ⟨z0, t0⟩ := HZ.out 0 _ rfl
      obtain ⟨z1, t1⟩ := HZ.out 1 _ rfl
      obtain ⟨z2, t2⟩ := HZ.out 2 _ rfl
      obtain ⟨z3, t3⟩ := HZ.out 3 _ rfl
      obtain ⟨z4, t4⟩ := HZ.out 4 _ rfl
      obtain ⟨z5, t5⟩ := HZ.out 5 _ rfl
      obtain ⟨z6, t6⟩ := HZ.out 6 _ rfl
      obtain ⟨z7, t7⟩ := HZ.out 7 _ rfl
      have e4 : (ans.kind == 4) = false := by simp; omega
      have e5 : (ans.kind == 5) = false := by simp; omega
      have e6 : (ans.kind == 6) = false := by simp; omega
      have e9 : (ans.kind == 9) = false := by simp; omega
      clear hk hkn bx
      go_wp2
      (try simp only [Exit.inBlock, Exit.then])
      refine bodyPost_ret (v := .agg #[.string ans.name, .int .i64 ans.kind, .int .i64 ans.size, .bool ans.little, .slice a4 ans.bytes.length c4, .slice a5 ans.names.length c5, .slice a6 ans.tags.length c6, .slice a7 ans.kids.length c7]) ?_ rfl ?_
      · simp [results, Try.results63, go_sem, z0, z1, z2, z3, z4, z5, z6, z7]
      · refine ⟨_, rfl, HIS.out, ?_⟩
        show Below _ _ _
        iterate 8 (refine Below.setCell ?_ (by show w.heap.size ≤ w.heap.size + 2; omega) _)
        exact HB.out
    · obtain ⟨q, hq, hqm, hkl, hst⟩ := HK0.out hk
      have HST := Lib.hid hst
      have hqr : q < rs.length := by omega
      obtain ⟨b7, o7, h7, hc7⟩ := HR7.out.cellAt (j := 0) hkl
      subst h7
      simp only [Nat.add_zero] at hc7
      rw [List.getD, List.getElem?_eq_getElem hkl, Option.getD_some] at hq
      rw [hq] at hc7
      obtain ⟨b0, off, e4, f4, e5, f5, e6, f6, e7, f7, hx, ⟨u0, u1, u2, u3, u4, u5, u6, u7⟩, s4, s5, s6, s7⟩ := HCW.out.rd.at q hqr
      subst hx
      have HIM : Hid (IsRule rs[q] [.string rs[q].name, .int .i64 rs[q].kind, .int .i64 rs[q].size, .bool rs[q].little, .slice e4 rs[q].bytes.length f4, .slice e5 rs[q].names.length f5, .slice e6 rs[q].tags.length f6, .slice e7 rs[q].kids.length f7] W0) := ⟨e4, f4, e5, f5, e6, f6, e7, f7, rfl, s4, s5, s6, s7⟩
      have HCALL : Hid (∀ W, Below W0.heap.size W0 W → Calls Try.prog 63 #[.agg #[.slice (some ⟨b0, off, none⟩) rs.length cap], .agg #[.string rs[q].name, .int .i64 rs[q].kind, .int .i64 rs[q].size, .bool rs[q].little, .slice e4 rs[q].bytes.length f4, .slice e5 rs[q].names.length f5, .slice e6 rs[q].tags.length f6, .slice e7 rs[q].kids.length f7]] W (FirstOut ans W0 W)) := fun W hW => by rw [HST.out]; exact HIH.out q hqm hqr _ W HIM.out hW
      obtain ⟨rm, hrm⟩ : ∃ rm, rm = rs[q] := ⟨_, rfl⟩
      rw [← hrm] at u0 u1 u2 u3 u4 u5 u6 u7 HCALL
      clear hrm hst hq s4 s5 s6 s7 HIM HIH HSS HK0
      have g7 := cell_keep HBW.out hc7
      have v0 := cell_keep HBW.out u0
      have v1 := cell_keep HBW.out u1
      have v2 := cell_keep HBW.out u2
      have v3 := cell_keep HBW.out u3
      have v4 := cell_keep HBW.out u4
      have v5 := cell_keep HBW.out u5
      have v6 := cell_keep HBW.out u6
      have v7 := cell_keep HBW.out u7
      have hq0 : (0 : Int) ≤ (q : Int) := by omega
      have hq1 : (q : Int) < (rs.length : Int) := by omega
      have hkl1 : (0 : Int) < (r.kids.length : Int) := by omega
      clear u0 u1 u2 u3 u4 u5 u6 u7 hc7 hqr hqm hkn HCW
      rcases hk with hk | hk | hk | hk
      all_goals
        rw [hk] at y1
        clear hk
        go_upto_region 6 with fail
        go_still_tail 9, (by kernel_rfl)
        change wpList _ _ _ _ _ w0.drew
        have HBQ : Hid (Below W0.heap.size W0 w0.drew) := below_drewN HBW.out 1
        replace HB : Hid (Below w.heap.size w w0.drew) := below_drewN HB.out 1
        replace HZ : Hid (CellsAt (w.heap.size + 2) _ w0.drew) := HZ.out
        clear bx y0 y1 y2 y3 y4 y5 y6 y7 g7 v0 v1 v2 v3 v4 v5 v6 v7 HX HBW
        generalize w0.drew = w5 at HB HBQ HZ ⊢
        go_wp2_with fail
        refine (HCALL.out _ HBQ.out).mono ?_
        rintro e w6 ⟨cs, rfl, his, hb6⟩
        have HIS2 := Lib.hid his
        obtain ⟨g4, h4, g5, h5, g6, h6, g7, h7, rfl, -⟩ := his
        replace HB := Lib.hid (HB.out.trans (hb6.mono HB.out.size))
        replace HZ := Lib.hid (HZ.out.below hb6)
        clear hb6
        obtain ⟨z0, t0⟩ := HZ.out 0 _ rfl
        obtain ⟨z1, t1⟩ := HZ.out 1 _ rfl
        obtain ⟨z2, t2⟩ := HZ.out 2 _ rfl
        obtain ⟨z3, t3⟩ := HZ.out 3 _ rfl
        obtain ⟨z4, t4⟩ := HZ.out 4 _ rfl
        obtain ⟨z5, t5⟩ := HZ.out 5 _ rfl
        obtain ⟨z6, t6⟩ := HZ.out 6 _ rfl
        obtain ⟨z7, t7⟩ := HZ.out 7 _ rfl
        go_wp2
        (try simp only [Exit.inBlock, Exit.then])
        refine bodyPost_ret (v := .agg #[.string ans.name, .int .i64 ans.kind, .int .i64 ans.size, .bool ans.little, .slice g4 ans.bytes.length h4, .slice g5 ans.names.length h5, .slice g6 ans.tags.length h6, .slice g7 ans.kids.length h7]) ?_ rfl ?_
        · simp [results, Try.results63, go_sem, z0, z1, z2, z3, z4, z5, z6, z7]
        · refine ⟨_, rfl, HIS2.out, ?_⟩
          show Below _ _ _
          iterate 8 (refine Below.setCell ?_ (by show w.heap.size ≤ w.heap.size + 2; omega) _)
          exact HB.out
end Go.Proofs.Ytekmopoblfknlaa
