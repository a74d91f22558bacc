/- Contracts of KidName, of the model and of the program. -/
import Derived.Test.YtkegjgfggijinaaGreatDoorDescrImpl
import Derived.BigQuiet
import Derived.Deep.RegionWith
import Derived.IntWalk
namespace Go.Proofs.YtkegjgfggijinaaGreatDoor
open Go Go.RowKit
/-- The name of the rule that a kid refers to. -/
def kidName (rs : List RuleV) (i k : Int) : ByteArray :=
  if h : 0 ≤ i ∧ i < (rs.length : Int) then
    if g : 0 ≤ k ∧ k < ((rs[i.toNat]'(by omega)).kids.length : Int) then
      if f : 0 ≤ ((rs[i.toNat]'(by omega)).kids[k.toNat]'(by omega)) ∧ ((rs[i.toNat]'(by omega)).kids[k.toNat]'(by omega)) < (rs.length : Int) then (rs[((rs[i.toNat]'(by omega)).kids[k.toNat]'(by omega)).toNat]'(by omega)).name else ⟨#[]⟩
    else ⟨#[]⟩
  else ⟨#[]⟩
theorem kidName_no1 {rs : List RuleV} {i k : Int} (h : ¬ (0 ≤ i ∧ i < (rs.length : Int))) : kidName rs i k = ⟨#[]⟩ := by unfold kidName; rw [dif_neg h]
theorem kidName_no2 {rs : List RuleV} {n : Nat} {k : Int} (h : n < rs.length) (g : ¬ (0 ≤ k ∧ k < (rs[n].kids.length : Int))) : kidName rs (n : Int) k = ⟨#[]⟩ := by
  unfold kidName; rw [dif_pos (by omega), dif_neg (by simpa using g)]
theorem kidName_no3 {rs : List RuleV} {n m : Nat} (h : n < rs.length) (g : m < rs[n].kids.length) (f : ¬ (0 ≤ rs[n].kids[m] ∧ rs[n].kids[m] < (rs.length : Int))) : kidName rs (n : Int) (m : Int) = ⟨#[]⟩ := by
  unfold kidName; rw [dif_pos (by omega), dif_pos (by simpa using g), dif_neg (by simpa using f)]
theorem kidName_yes {rs : List RuleV} {n m q : Nat} (h : n < rs.length) (g : m < rs[n].kids.length) (e : rs[n].kids[m] = (q : Int)) (hq : q < rs.length) : kidName rs (n : Int) (m : Int) = rs[q].name := by
  unfold kidName
  rw [dif_pos (by omega), dif_pos (by simpa using g), dif_pos (by simp only [Int.toNat_natCast, e]; omega)]
  simp only [Int.toNat_natCast, e]
theorem cell_keep {w w' : World} {p : Addr} {v : Value} (hb : Below w.heap.size w w') (h : w.cell? p = some v) : w'.cell? p = some v := (hb.cell (cell_lt h)).trans h
theorem in_same (x lo hi : Int) (b : Bool) (w : World) (hb : decide (lo ≤ x ∧ x ≤ hi) = b) :
    Calls Tryz.prog 115 #[.int .i64 x, .int .i64 lo, .int .i64 hi] w fun e w' => e = .returned (.bool b) ∧ w' = w := (in_any x lo hi b w hb).mono fun _ _ ⟨h3, h4⟩ => ⟨h3, h4.symm⟩
theorem inI_same (x lo hi : Int) (b : Bool) (w : World) (hb : decide (lo ≤ x ∧ x ≤ hi) = b) :
    Calls Tryz.prog 85 #[.int .i64 x, .int .i64 lo, .int .i64 hi] w fun e w' => e = .returned (.bool b) ∧ w' = w := (inI_any x lo hi b w hb).mono fun _ _ ⟨h3, h4⟩ => ⟨h3, h4.symm⟩
set_option maxRecDepth 100000 in
set_option maxHeartbeats 1000000 in
theorem kid_spec (a : Option Addr) (rs : List RuleV) (cap : Nat) (i k : Int) (w : World) (hl : rs.length ≤ 1073741824) (hkl : ∀ r ∈ rs, Short r) (h : RdR a rs w) :
    Calls Tryz.prog 125 #[.agg #[.slice a rs.length cap], .int .i64 i, .int .i64 k] w fun e w' => e = .returned (.string (kidName rs i k)) ∧ Below w.heap.size w w' := by
  have hB : Below w.heap.size w (w.alloc (.cells #[.slice a rs.length cap] 26)) := (Below.refl _ _).alloc (Nat.le_refl _) _
  have H := Lib.hid (h.below hB)
  have HB := Lib.hid hB
  have HK := Lib.hid hkl
  clear h hB hkl
  by_cases hk : 0 ≤ i ∧ i < rs.length
  · obtain ⟨n, rfl⟩ : ∃ n : Nat, i = (n : Int) := ⟨i.toNat, by omega⟩
    have hlt : n < rs.length := by omega
    have k0 : (0 : Int) ≤ (n : Int) := by omega
    have k1 : (n : Int) < (rs.length : Int) := by omega
    have hkn : rs[n].kids.length ≤ 1048576 := (HK.out _ (List.getElem_mem hlt)).2.2.2
    obtain ⟨b, off, a4, c4, a5, c5, a6, c6, a7, c7, rfl, ⟨-, -, -, -, -, -, -, d7⟩, -, -, -, r7⟩ := H.out.at n hlt
    by_cases hj : 0 ≤ k ∧ k < (rs[n].kids.length : Int)
    · obtain ⟨m, rfl⟩ : ∃ m : Nat, k = (m : Int) := ⟨k.toNat, by omega⟩
      have hm : m < rs[n].kids.length := by omega
      have m0 : (0 : Int) ≤ (m : Int) := by omega
      have m1 : (m : Int) < (rs[n].kids.length : Int) := by omega
      obtain ⟨b7, o7, rfl, e7⟩ := r7 m hm
      by_cases hq : 0 ≤ rs[n].kids[m] ∧ rs[n].kids[m] < (rs.length : Int)
      · obtain ⟨q, hqe⟩ : ∃ q : Nat, rs[n].kids[m] = (q : Int) := ⟨rs[n].kids[m].toNat, by omega⟩
        have hql : q < rs.length := by omega
        have q0 : (0 : Int) ≤ (q : Int) := by omega
        have q1 : (q : Int) < (rs.length : Int) := by omega
        have hr := Lib.hid (kidName_yes hlt hm hqe hql)
        rw [hqe] at e7
        obtain ⟨b', off', _, _, _, _, _, _, _, _, he, ⟨s0, -⟩, -⟩ := H.out.at q hql
        obtain ⟨rfl, rfl⟩ : b = b' ∧ off = off' := by simpa using he
        generalize rs[q].name = nm at s0 hr
        clear hqe hq he r7 hj hk
        generalize rs[n].kids.length = kl at *
        go_enter Tryz.func125, Tryz.ntmps125
        go_wp2
        go_quiet ((go_at_call 115; exact Calls.quiet_of_same (in_same _ _ _ true _ (by simp; omega))))
        go_wp2
        go_quiet (fail)
        go_wp2
        go_ret
        exact ⟨ret_str hr.out.symm, below_drewN (below_drewN HB.out _) _⟩
      · have hr := Lib.hid (kidName_no3 hlt hm hq)
        generalize rs[n].kids[m] = q at e7 hq
        clear r7 hj hk
        generalize rs[n].kids.length = kl at *
        go_enter Tryz.func125, Tryz.ntmps125
        go_wp2
        go_quiet (first | (go_at_call 115; exact Calls.quiet_of_same (in_same _ _ _ true _ (by simp; omega))) | (go_at_call 115; exact Calls.quiet_of_same (in_same _ _ _ false _ (by simp; omega))))
        go_wp2
        go_ret
        exact ⟨ret_str hr.out.symm, below_drewN HB.out _⟩
    · have hr := Lib.hid (kidName_no2 hlt hj)
      generalize rs[n].kids.length = kl at d7 hj hkn
      clear r7 hk
      go_enter Tryz.func125, Tryz.ntmps125
      go_wp2
      go_quiet (first | (go_at_call 115; exact Calls.quiet_of_same (in_same _ _ _ true _ (by simp; omega))) | (go_at_call 115; exact Calls.quiet_of_same (in_same _ _ _ false _ (by simp; omega))))
      go_wp2
      go_ret
      exact ⟨ret_str hr.out.symm, below_drewN HB.out _⟩
  · have hr := Lib.hid (kidName_no1 (k := k) hk)
    go_enter Tryz.func125, Tryz.ntmps125
    go_wp2
    go_quiet ((go_at_call 115; exact Calls.quiet_of_same (in_same _ _ _ false _ (by simp; omega))))
    go_wp2
    go_ret
    exact ⟨ret_str hr.out.symm, below_drewN HB.out _⟩
set_option maxRecDepth 100000 in
set_option maxHeartbeats 1000000 in
theorem kid_impl (a : Option Addr) (rs : List RuleV) (cap : Nat) (i k : Int) (w : World) (hl : rs.length ≤ 1073741824) (hkl : ∀ r ∈ rs, Short r) (h : RdR a rs w) :
    Calls Tryz.prog 102 #[.agg #[.slice a rs.length cap], .int .i64 i, .int .i64 k] w fun e w' => e = .returned (.string (kidName rs i k)) ∧ Below w.heap.size w w' := by
  obtain ⟨w0, hw0⟩ : ∃ w0, w0 = w.alloc (.cells #[.slice a rs.length cap] 26) := ⟨_, rfl⟩
  have hB : Below w.heap.size w w0 := by subst hw0; exact (Below.refl _ _).alloc (Nat.le_refl _) _
  have hX : CellsAt w.heap.size [.slice a rs.length cap] w0 := by subst hw0; exact CellsAt.new w _ _
  have H := Lib.hid (h.below hB)
  have HB := Lib.hid hB
  have HX := Lib.hid hX
  have HK := Lib.hid hkl
  have hx0 := (hX 0 _ rfl).1
  clear h hB hX hkl
  by_cases hk : 0 ≤ i ∧ i < rs.length
  · go_enter Tryz.func102, Tryz.ntmps102
    go_wp2_with fail
    rw [← hw0]
    clear hw0
    refine (hasr_impl a rs.length cap i _ hl true (by simpa using hk)).mono ?_
    rintro e w1 ⟨rfl, hb1⟩
    have hx1 := (HX.out.below hb1 0 _ rfl).1
    have HX1 := Lib.hid (HX.out.below hb1)
    have HB1 := Lib.hid (HB.out.trans (hb1.mono HB.out.size))
    have H1 := Lib.hid (H.out.below hb1)
    clear hb1 HX HB H hx0
    obtain ⟨n, rfl⟩ : ∃ n : Nat, i = (n : Int) := ⟨i.toNat, by omega⟩
    have hlt : n < rs.length := by omega
    have k0 : (0 : Int) ≤ (n : Int) := by omega
    have k1 : (n : Int) < (rs.length : Int) := by omega
    have hkn : rs[n].kids.length ≤ 1048576 := (HK.out _ (List.getElem_mem hlt)).2.2.2
    obtain ⟨b, off, a4, c4, a5, c5, a6, c6, a7, c7, rfl, ⟨-, -, -, -, -, -, -, d7⟩, -, -, -, r7⟩ := H1.out.at n hlt
    by_cases hj : 0 ≤ k ∧ k < (rs[n].kids.length : Int)
    · obtain ⟨m, rfl⟩ : ∃ m : Nat, k = (m : Int) := ⟨k.toNat, by omega⟩
      have hm : m < rs[n].kids.length := by omega
      have m0 : (0 : Int) ≤ (m : Int) := by omega
      have m1 : (m : Int) < (rs[n].kids.length : Int) := by omega
      obtain ⟨b7, o7, rfl, e7⟩ := r7 m hm
      by_cases hq : 0 ≤ rs[n].kids[m] ∧ rs[n].kids[m] < (rs.length : Int)
      · obtain ⟨q, hqe⟩ : ∃ q : Nat, rs[n].kids[m] = (q : Int) := ⟨rs[n].kids[m].toNat, by omega⟩
        have hql : q < rs.length := by omega
        have q0 : (0 : Int) ≤ (q : Int) := by omega
        have q1 : (q : Int) < (rs.length : Int) := by omega
        have hr := Lib.hid (kidName_yes hlt hm hqe hql)
        rw [hqe] at e7
        obtain ⟨b', off', _, _, _, _, _, _, _, _, he, ⟨s0, -⟩, -⟩ := H1.out.at q hql
        obtain ⟨rfl, rfl⟩ : b = b' ∧ off = off' := by simpa using he
        generalize rs[q].name = nm at s0 hr
        clear hqe hq he r7 hj hk
        generalize rs[n].kids.length = kl at d7 hkn hm m1
        go_wp2
        have hw : IntKind.i64.wrap ((kl : Int) - 1) = (kl : Int) - 1 := IntWalk.i64_in _ (by omega)
        have HBd : Hid (Below w.heap.size w w1.drew) := below_drewN HB1.out 1
        go_region_with (first | (go_at_call 85; refine (inI_any _ _ _ true _ (by simp; omega)).mono ?_; rintro e v ⟨rfl, rfl⟩) | (go_at_call 94; refine (hasr_impl (some ⟨b, off, none⟩) rs.length cap (q : Int) _ hl true (by simp; omega)).mono ?_; rintro e v ⟨rfl, hb⟩; replace HBd := Lib.hid (HBd.out.trans (hb.mono HBd.out.size)); have x2 := cell_keep (w := w1.drew) hb hx1; have x3 := cell_keep (w := w1.drew) hb e7; have x4 := cell_keep (w := w1.drew) hb s0; clear hb))
        all_goals (go_wp2; go_quiet (fail); go_wp2; go_ret; exact ⟨ret_str hr.out.symm, below_drewN HBd.out _⟩)
      · have hr := Lib.hid (kidName_no3 hlt hm hq)
        generalize rs[n].kids[m] = q at e7 hq
        clear r7 hj hk
        generalize rs[n].kids.length = kl at d7 hkn hm m1
        go_wp2
        have hw : IntKind.i64.wrap ((kl : Int) - 1) = (kl : Int) - 1 := IntWalk.i64_in _ (by omega)
        have HBd : Hid (Below w.heap.size w w1.drew) := below_drewN HB1.out 1
        go_region_with (first | (go_at_call 85; refine (inI_any _ _ _ true _ (by simp; omega)).mono ?_; rintro e v ⟨rfl, rfl⟩) | (go_at_call 94; refine (hasr_impl (some ⟨b, off, none⟩) rs.length cap q _ hl false (by simp; omega)).mono ?_; rintro e v ⟨rfl, hb⟩; replace HBd := Lib.hid (HBd.out.trans (hb.mono HBd.out.size)); clear hb))
        all_goals (go_wp2; go_ret; exact ⟨ret_str hr.out.symm, HBd.out⟩)
    · have hr := Lib.hid (kidName_no2 hlt hj)
      generalize rs[n].kids.length = kl at d7 hj hkn
      clear r7 hk
      go_wp2
      go_quiet ((go_at_call 85; exact Calls.quiet_of_same (inI_same _ _ _ false _ (by simp; omega))))
      go_wp2
      go_ret
      exact ⟨ret_str hr.out.symm, below_drewN HB1.out _⟩
  · have hr := Lib.hid (kidName_no1 (k := k) hk)
    go_enter Tryz.func102, Tryz.ntmps102
    go_wp2_with fail
    rw [← hw0]
    clear hw0
    refine (hasr_impl a rs.length cap i _ hl false (by simpa using hk)).mono ?_
    rintro e w1 ⟨rfl, hb1⟩
    have HB1 := Lib.hid (HB.out.trans (hb1.mono HB.out.size))
    go_wp2
    go_ret
    exact ⟨ret_str hr.out.symm, HB1.out⟩
end Go.Proofs.YtkegjgfggijinaaGreatDoor
