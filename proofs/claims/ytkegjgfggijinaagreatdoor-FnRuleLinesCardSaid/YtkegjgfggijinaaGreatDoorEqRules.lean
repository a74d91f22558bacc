/- Contracts of the comparison of two rules: the model's l4Equal, the program's equalRules. -/
import Derived.Test.YtkegjgfggijinaaGreatDoorEqs
import Derived.Test.YtkegjgfggijinaaGreatDoorRuleTo
namespace Go.Proofs.YtkegjgfggijinaaGreatDoor
open Go Go.RowKit
/-- Whether two rules are equal in every field. -/
def sameR (r s : RuleV) : Bool := decide (r.name = s.name ∧ r.kind = s.kind ∧ r.size = s.size ∧ r.little = s.little ∧ r.bytes = s.bytes ∧ r.names = s.names ∧ r.tags = s.tags ∧ r.kids = s.kids)
theorem sameR_iff (r s : RuleV) : sameR r s = true ↔ r = s := by
  unfold sameR
  cases r
  cases s
  simp
theorem below_drew {w w' : World} (h : ∃ n, w' = w.drewN n) : Below w.heap.size w w' := by
  obtain ⟨n, rfl⟩ := h
  exact below_drewN (Below.refl _ _) n

theorem eb_impl (a b : Option Addr) (xs ys : List UInt8) (ca cb : Nat) (w : World) (hl : xs.length ≤ 1048576) (hm : ys.length ≤ 1048576) (ha : Rd a xs w) (hb : Rd b ys w) (q : Bool) (hq : decide (xs = ys) = q) :
    Calls Tryz.prog 91 #[.slice a xs.length ca, .slice b ys.length cb] w fun e w' => e = .returned (.bool q) ∧ Below w.heap.size w w' := by
  subst hq
  exact eqb_impl a xs ca b ys cb w (by omega) ha (by omega) hb
theorem et_impl (a b : Option Addr) (xs ys : List ByteArray) (ca cb : Nat) (w : World) (hl : xs.length ≤ 1048576) (hm : ys.length ≤ 1048576) (ha : RdStr a xs w) (hb : RdStr b ys w) (q : Bool) (hq : decide (xs = ys) = q) :
    Calls Tryz.prog 92 #[.slice a xs.length ca, .slice b ys.length cb] w fun e w' => e = .returned (.bool q) ∧ Below w.heap.size w w' := by
  subst hq
  have _ := hm
  exact (eqt_lib a b xs ys ca cb w (by omega) ha hb).mono fun e w' h => ⟨h.1, below_drew h.2⟩
theorem ei_impl (a b : Option Addr) (xs ys : List Int) (ca cb : Nat) (w : World) (hl : xs.length ≤ 1048576) (hm : ys.length ≤ 1048576) (ha : RdI a xs w) (hb : RdI b ys w) (q : Bool) (hq : decide (xs = ys) = q) :
    Calls Tryz.prog 93 #[.slice a xs.length ca, .slice b ys.length cb] w fun e w' => e = .returned (.bool q) ∧ Below w.heap.size w w' := by
  subst hq
  have _ := hm
  exact (eqi_lib a b xs ys ca cb w (by omega) ha hb).mono fun e w' h => ⟨h.1, below_drew h.2⟩
set_option maxRecDepth 100000 in
set_option maxHeartbeats 2000000 in
theorem eqr_impl (r s : RuleV) (cs ds : List Value) (w : World) (hr : Short r) (hs : Short s) (h : IsRule r cs w) (k : IsRule s ds w) :
    Calls Tryz.prog 48 #[.agg cs.toArray, .agg ds.toArray] w fun e w' => e = .returned (.bool (sameR r s)) ∧ Below w.heap.size w w' := by
  obtain ⟨a4, c4, a5, c5, a6, c6, a7, c7, rfl, h4, h5, h6, h7⟩ := h
  obtain ⟨e4, f4, e5, f5, e6, f6, e7, f7, rfl, k4, k5, k6, k7⟩ := k
  obtain ⟨s4, s5, s6, s7⟩ := hr
  obtain ⟨r4, r5, r6, r7⟩ := hs
  obtain ⟨nm, kd, sz, lt, bs, ns, ts, ks⟩ := r
  obtain ⟨nm', kd', sz', lt', bs', ns', ts', ks'⟩ := s
  dsimp only at *
  obtain ⟨w0, hw0⟩ : ∃ w0, w0 = (w.alloc (.cells #[.string nm, .int .i64 kd, .int .i64 sz, .bool lt, .slice a4 bs.length c4, .slice a5 ns.length c5, .slice a6 ts.length c6, .slice a7 ks.length c7] 39)).alloc (.cells #[.string nm', .int .i64 kd', .int .i64 sz', .bool lt', .slice e4 bs'.length f4, .slice e5 ns'.length f5, .slice e6 ts'.length f6, .slice e7 ks'.length f7] 39) := ⟨_, rfl⟩
  have hB0 : Below w.heap.size w w0 := by subst hw0; exact ((Below.refl _ _).alloc (Nat.le_refl _) _).alloc (by simp) _
  have hX0 : CellsAt w.heap.size [.string nm, .int .i64 kd, .int .i64 sz, .bool lt, .slice a4 bs.length c4, .slice a5 ns.length c5, .slice a6 ts.length c6, .slice a7 ks.length c7] w0 := by subst hw0; exact (CellsAt.new w _ _).below ((Below.refl _ _).alloc (Nat.le_refl _) _)
  have hY0 : CellsAt (w.heap.size + 1) [.string nm', .int .i64 kd', .int .i64 sz', .bool lt', .slice e4 bs'.length f4, .slice e5 ns'.length f5, .slice e6 ts'.length f6, .slice e7 ks'.length f7] w0 := by
    subst hw0
    have h1 := CellsAt.new (w.alloc (.cells #[.string nm, .int .i64 kd, .int .i64 sz, .bool lt, .slice a4 bs.length c4, .slice a5 ns.length c5, .slice a6 ts.length c6, .slice a7 ks.length c7] 39)) [.string nm', .int .i64 kd', .int .i64 sz', .bool lt', .slice e4 bs'.length f4, .slice e5 ns'.length f5, .slice e6 ts'.length f6, .slice e7 ks'.length f7] 39
    simpa using h1
  have HB0 := Lib.hid hB0
  have HX0 := Lib.hid hX0
  have HY0 := Lib.hid hY0
  have H4 := Lib.hid (h4.below hB0)
  have K4 := Lib.hid (k4.below hB0)
  have H5 := Lib.hid (h5.below hB0)
  have K5 := Lib.hid (k5.below hB0)
  have H6 := Lib.hid (h6.below hB0)
  have K6 := Lib.hid (k6.below hB0)
  have H7 := Lib.hid (h7.below hB0)
  have K7 := Lib.hid (k7.below hB0)
  clear hB0 hX0 hY0 h4 h5 h6 h7 k4 k5 k6 k7
  by_cases q0 : nm = nm'
  case neg =>
    have g := str_ne q0
    go_enter Tryz.func48, Tryz.ntmps48
    go_wp2
    rw [← hw0]
    go_ret
    exact ⟨ret_bool (by simp [sameR, q0]), HB0.out⟩
  subst q0
  by_cases q1 : kd = kd'
  case neg =>
    have g : (kd == kd') = false := by simpa using q1
    go_enter Tryz.func48, Tryz.ntmps48
    go_wp2
    rw [← hw0]
    go_ret
    exact ⟨ret_bool (by simp [sameR, q1]), HB0.out⟩
  subst q1
  by_cases q2 : sz = sz'
  case neg =>
    have g : (sz == sz') = false := by simpa using q2
    go_enter Tryz.func48, Tryz.ntmps48
    go_wp2
    rw [← hw0]
    go_ret
    exact ⟨ret_bool (by simp [sameR, q2]), HB0.out⟩
  subst q2
  by_cases q3 : lt = lt'
  case neg =>
    have g : (lt == lt') = false := by simpa using q3
    go_enter Tryz.func48, Tryz.ntmps48
    go_wp2
    rw [← hw0]
    go_ret
    exact ⟨ret_bool (by simp [sameR, q3]), HB0.out⟩
  subst q3
  by_cases q4 : bs = bs'
  case neg =>
    go_enter Tryz.func48, Tryz.ntmps48
    go_wp2_with fail
    rw [← hw0]
    clear hw0
    refine (eb_impl a4 e4 bs bs' c4 f4 _ (by omega) (by omega) H4.out K4.out false (decide_eq_false q4)).mono ?_
    rintro e w1 ⟨rfl, hb1⟩
    have HB1 := Lib.hid (HB0.out.trans (hb1.mono HB0.out.size))
    clear HB0
    clear hb1
    go_wp2_with fail
    go_ret
    exact ⟨ret_bool (by simp [sameR, q4]), HB1.out⟩
  subst q4
  by_cases q5 : ns = ns'
  case neg =>
    go_enter Tryz.func48, Tryz.ntmps48
    go_wp2_with fail
    rw [← hw0]
    clear hw0
    refine (eb_impl a4 e4 bs bs c4 f4 _ (by omega) (by omega) H4.out K4.out true (by simp)).mono ?_
    rintro e w1 ⟨rfl, hb1⟩
    have HB1 := Lib.hid (HB0.out.trans (hb1.mono HB0.out.size))
    clear HB0
    have HX1 := Lib.hid (HX0.out.below hb1)
    have HY1 := Lib.hid (HY0.out.below hb1)
    clear HX0 HY0
    have bx1 := (HX1.out 5 _ rfl).1
    have by1 := (HY1.out 5 _ rfl).1
    replace H5 := Lib.hid (H5.out.below hb1)
    replace K5 := Lib.hid (K5.out.below hb1)
    replace H6 := Lib.hid (H6.out.below hb1)
    replace K6 := Lib.hid (K6.out.below hb1)
    replace H7 := Lib.hid (H7.out.below hb1)
    replace K7 := Lib.hid (K7.out.below hb1)
    clear hb1
    go_wp2_with fail
    refine (et_impl a5 e5 ns ns' c5 f5 _ (by omega) (by omega) H5.out K5.out false (decide_eq_false q5)).mono ?_
    rintro e w2 ⟨rfl, hb2⟩
    have HB2 := Lib.hid (HB1.out.trans (hb2.mono HB1.out.size))
    clear HB1
    clear hb2
    go_wp2_with fail
    go_ret
    exact ⟨ret_bool (by simp [sameR, q5]), HB2.out⟩
  subst q5
  by_cases q6 : ts = ts'
  case neg =>
    go_enter Tryz.func48, Tryz.ntmps48
    go_wp2_with fail
    rw [← hw0]
    clear hw0
    refine (eb_impl a4 e4 bs bs c4 f4 _ (by omega) (by omega) H4.out K4.out true (by simp)).mono ?_
    rintro e w1 ⟨rfl, hb1⟩
    have HB1 := Lib.hid (HB0.out.trans (hb1.mono HB0.out.size))
    clear HB0
    have HX1 := Lib.hid (HX0.out.below hb1)
    have HY1 := Lib.hid (HY0.out.below hb1)
    clear HX0 HY0
    have bx1 := (HX1.out 5 _ rfl).1
    have by1 := (HY1.out 5 _ rfl).1
    replace H5 := Lib.hid (H5.out.below hb1)
    replace K5 := Lib.hid (K5.out.below hb1)
    replace H6 := Lib.hid (H6.out.below hb1)
    replace K6 := Lib.hid (K6.out.below hb1)
    replace H7 := Lib.hid (H7.out.below hb1)
    replace K7 := Lib.hid (K7.out.below hb1)
    clear hb1
    go_wp2_with fail
    refine (et_impl a5 e5 ns ns c5 f5 _ (by omega) (by omega) H5.out K5.out true (by simp)).mono ?_
    rintro e w2 ⟨rfl, hb2⟩
    have HB2 := Lib.hid (HB1.out.trans (hb2.mono HB1.out.size))
    clear HB1
    have HX2 := Lib.hid (HX1.out.below hb2)
    have HY2 := Lib.hid (HY1.out.below hb2)
    clear HX1 HY1
    have bx2 := (HX2.out 6 _ rfl).1
    have by2 := (HY2.out 6 _ rfl).1
    replace H6 := Lib.hid (H6.out.below hb2)
    replace K6 := Lib.hid (K6.out.below hb2)
    replace H7 := Lib.hid (H7.out.below hb2)
    replace K7 := Lib.hid (K7.out.below hb2)
    clear hb2
    go_wp2_with fail
    refine (ei_impl a6 e6 ts ts' c6 f6 _ (by omega) (by omega) H6.out K6.out false (decide_eq_false q6)).mono ?_
    rintro e w3 ⟨rfl, hb3⟩
    have HB3 := Lib.hid (HB2.out.trans (hb3.mono HB2.out.size))
    clear HB2
    clear hb3
    go_wp2_with fail
    go_ret
    exact ⟨ret_bool (by simp [sameR, q6]), HB3.out⟩
  subst q6
  by_cases q7 : ks = ks'
  case neg =>
    go_enter Tryz.func48, Tryz.ntmps48
    go_wp2_with fail
    rw [← hw0]
    clear hw0
    refine (eb_impl a4 e4 bs bs c4 f4 _ (by omega) (by omega) H4.out K4.out true (by simp)).mono ?_
    rintro e w1 ⟨rfl, hb1⟩
    have HB1 := Lib.hid (HB0.out.trans (hb1.mono HB0.out.size))
    clear HB0
    have HX1 := Lib.hid (HX0.out.below hb1)
    have HY1 := Lib.hid (HY0.out.below hb1)
    clear HX0 HY0
    have bx1 := (HX1.out 5 _ rfl).1
    have by1 := (HY1.out 5 _ rfl).1
    replace H5 := Lib.hid (H5.out.below hb1)
    replace K5 := Lib.hid (K5.out.below hb1)
    replace H6 := Lib.hid (H6.out.below hb1)
    replace K6 := Lib.hid (K6.out.below hb1)
    replace H7 := Lib.hid (H7.out.below hb1)
    replace K7 := Lib.hid (K7.out.below hb1)
    clear hb1
    go_wp2_with fail
    refine (et_impl a5 e5 ns ns c5 f5 _ (by omega) (by omega) H5.out K5.out true (by simp)).mono ?_
    rintro e w2 ⟨rfl, hb2⟩
    have HB2 := Lib.hid (HB1.out.trans (hb2.mono HB1.out.size))
    clear HB1
    have HX2 := Lib.hid (HX1.out.below hb2)
    have HY2 := Lib.hid (HY1.out.below hb2)
    clear HX1 HY1
    have bx2 := (HX2.out 6 _ rfl).1
    have by2 := (HY2.out 6 _ rfl).1
    replace H6 := Lib.hid (H6.out.below hb2)
    replace K6 := Lib.hid (K6.out.below hb2)
    replace H7 := Lib.hid (H7.out.below hb2)
    replace K7 := Lib.hid (K7.out.below hb2)
    clear hb2
    go_wp2_with fail
    refine (ei_impl a6 e6 ts ts c6 f6 _ (by omega) (by omega) H6.out K6.out true (by simp)).mono ?_
    rintro e w3 ⟨rfl, hb3⟩
    have HB3 := Lib.hid (HB2.out.trans (hb3.mono HB2.out.size))
    clear HB2
    have HX3 := Lib.hid (HX2.out.below hb3)
    have HY3 := Lib.hid (HY2.out.below hb3)
    clear HX2 HY2
    have bx3 := (HX3.out 7 _ rfl).1
    have by3 := (HY3.out 7 _ rfl).1
    replace H7 := Lib.hid (H7.out.below hb3)
    replace K7 := Lib.hid (K7.out.below hb3)
    clear hb3
    go_wp2_with fail
    refine (ei_impl a7 e7 ks ks' c7 f7 _ (by omega) (by omega) H7.out K7.out false (decide_eq_false q7)).mono ?_
    rintro e w4 ⟨rfl, hb4⟩
    have HB4 := Lib.hid (HB3.out.trans (hb4.mono HB3.out.size))
    clear HB3
    clear hb4
    go_wp2_with fail
    go_ret
    exact ⟨ret_bool (by simp [sameR, q7]), HB4.out⟩
  subst q7
  go_enter Tryz.func48, Tryz.ntmps48
  go_wp2_with fail
  rw [← hw0]
  clear hw0
  refine (eb_impl a4 e4 bs bs c4 f4 _ (by omega) (by omega) H4.out K4.out true (by simp)).mono ?_
  rintro e w1 ⟨rfl, hb1⟩
  have HB1 := Lib.hid (HB0.out.trans (hb1.mono HB0.out.size))
  clear HB0
  have HX1 := Lib.hid (HX0.out.below hb1)
  have HY1 := Lib.hid (HY0.out.below hb1)
  clear HX0 HY0
  have bx1 := (HX1.out 5 _ rfl).1
  have by1 := (HY1.out 5 _ rfl).1
  replace H5 := Lib.hid (H5.out.below hb1)
  replace K5 := Lib.hid (K5.out.below hb1)
  replace H6 := Lib.hid (H6.out.below hb1)
  replace K6 := Lib.hid (K6.out.below hb1)
  replace H7 := Lib.hid (H7.out.below hb1)
  replace K7 := Lib.hid (K7.out.below hb1)
  clear hb1
  go_wp2_with fail
  refine (et_impl a5 e5 ns ns c5 f5 _ (by omega) (by omega) H5.out K5.out true (by simp)).mono ?_
  rintro e w2 ⟨rfl, hb2⟩
  have HB2 := Lib.hid (HB1.out.trans (hb2.mono HB1.out.size))
  clear HB1
  have HX2 := Lib.hid (HX1.out.below hb2)
  have HY2 := Lib.hid (HY1.out.below hb2)
  clear HX1 HY1
  have bx2 := (HX2.out 6 _ rfl).1
  have by2 := (HY2.out 6 _ rfl).1
  replace H6 := Lib.hid (H6.out.below hb2)
  replace K6 := Lib.hid (K6.out.below hb2)
  replace H7 := Lib.hid (H7.out.below hb2)
  replace K7 := Lib.hid (K7.out.below hb2)
  clear hb2
  go_wp2_with fail
  refine (ei_impl a6 e6 ts ts c6 f6 _ (by omega) (by omega) H6.out K6.out true (by simp)).mono ?_
  rintro e w3 ⟨rfl, hb3⟩
  have HB3 := Lib.hid (HB2.out.trans (hb3.mono HB2.out.size))
  clear HB2
  have HX3 := Lib.hid (HX2.out.below hb3)
  have HY3 := Lib.hid (HY2.out.below hb3)
  clear HX2 HY2
  have bx3 := (HX3.out 7 _ rfl).1
  have by3 := (HY3.out 7 _ rfl).1
  replace H7 := Lib.hid (H7.out.below hb3)
  replace K7 := Lib.hid (K7.out.below hb3)
  clear hb3
  go_wp2_with fail
  refine (ei_impl a7 e7 ks ks c7 f7 _ (by omega) (by omega) H7.out K7.out true (by simp)).mono ?_
  rintro e w4 ⟨rfl, hb4⟩
  have HB4 := Lib.hid (HB3.out.trans (hb4.mono HB3.out.size))
  clear HB3
  clear hb4
  go_wp2_with fail
  go_ret
  exact ⟨ret_bool (by simp [sameR]), HB4.out⟩
end Go.Proofs.YtkegjgfggijinaaGreatDoor
