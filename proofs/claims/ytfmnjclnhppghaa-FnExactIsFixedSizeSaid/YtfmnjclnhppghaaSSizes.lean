/- Contracts of the model's MinSize, MaxSize, IsFixedSize. -/
import Derived.Test.YtfmnjclnhppghaaQL
import Derived.Test.YtfmnjclnhppghaaSizeD
import Derived.Test.YtfmnjclnhppghaaSMins
import Derived.Test.YtfmnjclnhppghaaSMaxs
namespace Go.Proofs.Ytfmnjclnhppghaa
open Go Go.RowKit
set_option maxRecDepth 100000 in
theorem minsize_spec (a : Option Addr) (rs : List RuleV) (cap : Nat) (k : Int) (w : World) (hl : rs.length ≤ 1048576) (hs : ∀ r ∈ rs, Short r) (hp : ∀ r ∈ rs, Spelt r) (h : RdC a rs w) :
    Calls Try.prog 47 #[.agg #[.slice a rs.length cap], .int .i64 k] w fun e w' => e = .returned (.int .i64 (sizeD minStep rs k)) ∧ Below w.heap.size w w' := by
  obtain ⟨w0, hw0⟩ : ∃ w0, w0 = w.alloc (.cells #[.slice a rs.length cap] 35) := ⟨_, rfl⟩
  have hB0 : Below w.heap.size w w0 := by subst hw0; exact (Below.refl _ _).alloc (Nat.le_refl _) _
  have hX0 : CellsAt w.heap.size [.slice a rs.length cap] w0 := by subst hw0; exact CellsAt.new w _ _
  have bx := (hX0 0 _ rfl).1
  have HX := Lib.hid hX0
  have HB := Lib.hid hB0
  have HC := Lib.hid (h.below hB0)
  have HS := Lib.hid hs
  have HP := Lib.hid hp
  have hW := Lib.hid hw0
  clear h hB0 hX0 hs hp hw0
  obtain ⟨b, hb⟩ : ∃ b, b = okAt rs k := ⟨_, rfl⟩
  have HO := Lib.hid hb
  clear hb
  go_enter Try.func47, Try.ntmps47
  go_wp2_with fail
  rw [← hW.out]
  clear hW
  refine (l7_spec a rs cap k _ hl HS.out HP.out HC.out).mono ?_
  rintro e w1 ⟨rfl, hb1⟩
  rw [← HO.out]
  replace HX := Lib.hid (HX.out.below hb1)
  replace HC := Lib.hid (HC.out.below hb1)
  replace HB := Lib.hid (HB.out.trans (hb1.mono HB.out.size))
  clear hb1 bx
  have bx := (HX.out 0 _ rfl).1
  cases b with
  | false =>
    have hr := Lib.hid (sizeD_no (f := minStep) HO.out.symm)
    go_wp2
    go_ret
    exact ⟨ret_int hr.out.symm, HB.out⟩
  | true =>
    have hr := Lib.hid (sizeD_yes (f := minStep) HO.out.symm)
    obtain ⟨⟨k0, k1⟩, hn, hv⟩ := okAt_yes HO.out.symm
    have hn24 := hn.2
    obtain ⟨m, rfl⟩ : ∃ m : Nat, k = (m : Int) := ⟨k.toNat, by omega⟩
    have hm : m < rs.length := by omega
    have HV := Lib.hid hv
    clear hv hn HO
    go_wp2_with fail
    refine (mins_spec a rs cap _ hn24 HV.out HC.out.rd).mono ?_
    rintro e w2 ⟨xt, ct, rfl, hrow, hb2⟩
    replace HB := Lib.hid (HB.out.trans (hb2.mono HB.out.size))
    have hlt : m < (tabTo minStep rs rs.length).length := by rw [tabTo_length _ _ _ (Nat.le_refl _)]; exact hm
    obtain ⟨bt, ot, rfl, hct⟩ := hrow.rd.cellAt hlt
    have hv2 : Hid (sizeD minStep rs (m : Int) = (tabTo minStep rs rs.length)[m]) := by show _ = _; rw [hr.out]; unfold sizeAt; rw [tabAt_in hlt]
    have l1 : (m : Int) < ((tabTo minStep rs rs.length).length : Int) := by omega
    clear hb2 hrow hr bx HX HC HV HS HP
    generalize (tabTo minStep rs rs.length)[m] = y at hct hv2
    generalize (tabTo minStep rs rs.length).length = n at l1
    clear hlt
    go_wp2
    go_ret
    exact ⟨ret_int hv2.out.symm, HB.out⟩
set_option maxRecDepth 100000 in
theorem maxsize_spec (a : Option Addr) (rs : List RuleV) (cap : Nat) (k : Int) (w : World) (hl : rs.length ≤ 1048576) (hs : ∀ r ∈ rs, Short r) (hp : ∀ r ∈ rs, Spelt r) (h : RdC a rs w) :
    Calls Try.prog 89 #[.agg #[.slice a rs.length cap], .int .i64 k] w fun e w' => e = .returned (.int .i64 (sizeD (maxStep rs) rs k)) ∧ Below w.heap.size w w' := by
  obtain ⟨w0, hw0⟩ : ∃ w0, w0 = w.alloc (.cells #[.slice a rs.length cap] 35) := ⟨_, rfl⟩
  have hB0 : Below w.heap.size w w0 := by subst hw0; exact (Below.refl _ _).alloc (Nat.le_refl _) _
  have hX0 : CellsAt w.heap.size [.slice a rs.length cap] w0 := by subst hw0; exact CellsAt.new w _ _
  have bx := (hX0 0 _ rfl).1
  have HX := Lib.hid hX0
  have HB := Lib.hid hB0
  have HC := Lib.hid (h.below hB0)
  have HS := Lib.hid hs
  have HP := Lib.hid hp
  have hW := Lib.hid hw0
  clear h hB0 hX0 hs hp hw0
  obtain ⟨b, hb⟩ : ∃ b, b = okAt rs k := ⟨_, rfl⟩
  have HO := Lib.hid hb
  clear hb
  go_enter Try.func89, Try.ntmps89
  go_wp2_with fail
  rw [← hW.out]
  clear hW
  refine (l7_spec a rs cap k _ hl HS.out HP.out HC.out).mono ?_
  rintro e w1 ⟨rfl, hb1⟩
  rw [← HO.out]
  replace HX := Lib.hid (HX.out.below hb1)
  replace HC := Lib.hid (HC.out.below hb1)
  replace HB := Lib.hid (HB.out.trans (hb1.mono HB.out.size))
  clear hb1 bx
  have bx := (HX.out 0 _ rfl).1
  cases b with
  | false =>
    have hr := Lib.hid (sizeD_no (f := (maxStep rs)) HO.out.symm)
    go_wp2
    go_ret
    exact ⟨ret_int hr.out.symm, HB.out⟩
  | true =>
    have hr := Lib.hid (sizeD_yes (f := (maxStep rs)) HO.out.symm)
    obtain ⟨⟨k0, k1⟩, hn, hv⟩ := okAt_yes HO.out.symm
    have hn24 := hn.2
    obtain ⟨m, rfl⟩ : ∃ m : Nat, k = (m : Int) := ⟨k.toNat, by omega⟩
    have hm : m < rs.length := by omega
    have HV := Lib.hid hv
    clear hv hn HO
    go_wp2_with fail
    refine (maxs_spec a rs cap _ hn24 HV.out HC.out.rd).mono ?_
    rintro e w2 ⟨xt, ct, rfl, hrow, hb2⟩
    replace HB := Lib.hid (HB.out.trans (hb2.mono HB.out.size))
    have hlt : m < (tabTo (maxStep rs) rs rs.length).length := by rw [tabTo_length _ _ _ (Nat.le_refl _)]; exact hm
    obtain ⟨bt, ot, rfl, hct⟩ := hrow.rd.cellAt hlt
    have hv2 : Hid (sizeD (maxStep rs) rs (m : Int) = (tabTo (maxStep rs) rs rs.length)[m]) := by show _ = _; rw [hr.out]; unfold sizeAt; rw [tabAt_in hlt]
    have l1 : (m : Int) < ((tabTo (maxStep rs) rs rs.length).length : Int) := by omega
    clear hb2 hrow hr bx HX HC HV HS HP
    generalize (tabTo (maxStep rs) rs rs.length)[m] = y at hct hv2
    generalize (tabTo (maxStep rs) rs rs.length).length = n at l1
    clear hlt
    go_wp2
    go_ret
    exact ⟨ret_int hv2.out.symm, HB.out⟩
/-- Whether all encodings of a rule have one length. -/
noncomputable def fixedD (rs : List RuleV) (k : Int) : Bool := decide (0 < sizeD minStep rs k ∧ sizeD minStep rs k = sizeD (maxStep rs) rs k ∧ sizeD minStep rs k < 400)
set_option maxRecDepth 100000 in
theorem fixed_spec (a : Option Addr) (rs : List RuleV) (cap : Nat) (k : Int) (w : World) (hl : rs.length ≤ 1048576) (hs : ∀ r ∈ rs, Short r) (hp : ∀ r ∈ rs, Spelt r) (h : RdC a rs w) :
    Calls Try.prog 48 #[.agg #[.slice a rs.length cap], .int .i64 k] w fun e w' => e = .returned (.bool (fixedD rs k)) ∧ Below w.heap.size w w' := by
  obtain ⟨w0, hw0⟩ : ∃ w0, w0 = w.alloc (.cells #[.slice a rs.length cap] 35) := ⟨_, rfl⟩
  have hB0 : Below w.heap.size w w0 := by subst hw0; exact (Below.refl _ _).alloc (Nat.le_refl _) _
  have hX0 : CellsAt w.heap.size [.slice a rs.length cap] w0 := by subst hw0; exact CellsAt.new w _ _
  have bx := (hX0 0 _ rfl).1
  have HX := Lib.hid hX0
  have HB := Lib.hid hB0
  have HC := Lib.hid (h.below hB0)
  have HS := Lib.hid hs
  have HP := Lib.hid hp
  have hW := Lib.hid hw0
  clear h hB0 hX0 hs hp hw0
  obtain ⟨x, hx⟩ : ∃ x, x = sizeD minStep rs k := ⟨_, rfl⟩
  obtain ⟨y, hy⟩ : ∃ y, y = sizeD (maxStep rs) rs k := ⟨_, rfl⟩
  have hr : Hid (fixedD rs k = decide (0 < x ∧ x = y ∧ x < 400)) := by show _ = _; unfold fixedD; rw [hx, hy]
  have HXX := Lib.hid hx
  have HYY := Lib.hid hy
  clear hx hy
  go_enter Try.func48, Try.ntmps48
  go_wp2_with fail
  rw [← hW.out]
  clear hW
  refine (minsize_spec a rs cap k _ hl HS.out HP.out HC.out).mono ?_
  rintro e w1 ⟨rfl, hb1⟩
  rw [← HXX.out]
  replace HX := Lib.hid (HX.out.below hb1)
  replace HC := Lib.hid (HC.out.below hb1)
  replace HB := Lib.hid (HB.out.trans (hb1.mono HB.out.size))
  clear hb1 bx
  have bx := (HX.out 0 _ rfl).1
  by_cases g0 : 0 < x
  · go_wp2_with fail
    refine (maxsize_spec a rs cap k _ hl HS.out HP.out HC.out).mono ?_
    rintro e w2 ⟨rfl, hb2⟩
    rw [← HYY.out]
    replace HB := Lib.hid (HB.out.trans (hb2.mono HB.out.size))
    clear hb2 bx
    by_cases g1 : x = y
    · have e1 : (x == y) = true := by simpa using g1
      have hr2 : Hid (fixedD rs k = decide (x < 400)) := by show _ = _; rw [hr.out]; exact decide_eq_decide.2 ⟨fun h => h.2.2, fun h => ⟨g0, g1, h⟩⟩
      clear g1
      by_cases g2 : x < 400
      · have hr3 : Hid (fixedD rs k = true) := by show _ = _; rw [hr2.out]; simp [g2]
        go_wp2
        go_ret
        exact ⟨ret_bool (by first | exact hr3.out.symm | exact hr2.out.symm), HB.out⟩
      · have hr3 : Hid (fixedD rs k = false) := by show _ = _; rw [hr2.out]; simp [g2]
        go_wp2
        go_ret
        exact ⟨ret_bool (by first | exact hr3.out.symm | exact hr2.out.symm), HB.out⟩
    · have e1 : (x == y) = false := by simpa using g1
      have hr3 : Hid (fixedD rs k = false) := by show _ = _; rw [hr.out]; exact decide_eq_false (fun h => g1 h.2.1)
      go_wp2
      go_ret
      exact ⟨ret_bool hr3.out.symm, HB.out⟩
  · have hr3 : Hid (fixedD rs k = false) := by show _ = _; rw [hr.out]; exact decide_eq_false (fun h => g0 h.1)
    go_wp2
    go_ret
    exact ⟨ret_bool hr3.out.symm, HB.out⟩
end Go.Proofs.Ytfmnjclnhppghaa
