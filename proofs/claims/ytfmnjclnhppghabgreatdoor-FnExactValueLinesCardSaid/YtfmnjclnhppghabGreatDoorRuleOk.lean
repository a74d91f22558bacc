/- The contract of the model's l7Rule; facts on kids and tables that the walks of chapter 7 use. -/
import Derived.Test.YtfmnjclnhppghabGreatDoorUsedP
import Derived.Test.YtfmnjclnhppghabGreatDoorGKS
import Derived.Test.YtfmnjclnhppghabGreatDoorMinMax
import Derived.Test.YtfmnjclnhppghabGreatDoorGPu
namespace Go.Proofs.YtfmnjclnhppghabGreatDoor
open Go Go.RowKit
/-- What is asked ahead of every answer of chapter 7: the description is valid, and there is such a rule. -/
noncomputable def okAt (rs : List RuleV) (k : Int) : Bool := decide (0 ≤ k ∧ k < (rs.length : Int)) && descrB (kindI rs) rs
theorem okAt_yes {rs : List RuleV} {k : Int} (h : okAt rs k = true) : (0 ≤ k ∧ k < (rs.length : Int)) ∧ (1 ≤ rs.length ∧ rs.length ≤ 24) ∧ allV (kindI rs) rs := by
  unfold okAt at h
  rw [Bool.and_eq_true] at h
  exact ⟨of_decide_eq_true h.1, (descrB_iff.1 h.2).1, (descrB_iff.1 h.2).2⟩
set_option maxRecDepth 100000 in
theorem l7_spec (a : Option Addr) (rs : List RuleV) (cap : Nat) (k : Int) (w : World) (hl : rs.length ≤ 1048576) (hs : ∀ r ∈ rs, Short r) (hp : ∀ r ∈ rs, Spelt r) (h : RdC a rs w) :
    Calls Tryz.prog 36 #[.agg #[.slice a rs.length cap], .int .i64 k] w fun e w' => e = .returned (.bool (okAt rs k)) ∧ Below w.heap.size w w' := by
  obtain ⟨w0, hw0⟩ : ∃ w0, w0 = w.alloc (.cells #[.slice a rs.length cap] 35) := ⟨_, rfl⟩
  have hB0 : Below w.heap.size w w0 := by subst hw0; exact (Below.refl _ _).alloc (Nat.le_refl _) _
  have hX0 : CellsAt w.heap.size [.slice a rs.length cap] w0 := by subst hw0; exact CellsAt.new w _ _
  have bx := (hX0 0 _ rfl).1
  have HB := Lib.hid hB0
  have HC := Lib.hid (h.below hB0)
  have HS := Lib.hid hs
  have HP := Lib.hid hp
  have hW := Lib.hid hw0
  clear h hB0 hX0 hs hp hw0
  by_cases hk : 0 ≤ k ∧ k ≤ (rs.length : Int) - 1
  · have hd := decide_eq_true hk
    have hr : Hid (okAt rs k = descrB (kindI rs) rs) := by
      show _ = _
      unfold okAt
      rw [decide_eq_true (by omega), Bool.true_and]
    go_enter Tryz.func36, Tryz.ntmps36
    go_wp2_with fail
    refine (in_any _ _ _ true _ hd).mono ?_
    rintro e w1 ⟨rfl, rfl⟩
    rw [← hW.out]
    clear hW
    go_wp2_with fail
    refine (validd_spec a rs cap _ hl HS.out HP.out HC.out).mono ?_
    rintro e w2 ⟨rfl, hb2⟩
    rw [← hr.out]
    obtain ⟨b, hb⟩ : ∃ b, b = okAt rs k := ⟨_, rfl⟩
    rw [← hb]
    have HBB := Lib.hid hb
    clear hb
    have HB2 := Lib.hid (HB.out.trans (hb2.mono HB.out.size))
    clear hb2 hr
    go_wp2
    go_ret
    exact ⟨ret_bool HBB.out, HB2.out⟩
  · have hd := decide_eq_false hk
    have hr : Hid (okAt rs k = false) := by
      show _ = _
      unfold okAt
      rw [decide_eq_false (by omega), Bool.false_and]
    go_enter Tryz.func36, Tryz.ntmps36
    go_wp2_with fail
    refine (in_any _ _ _ false _ hd).mono ?_
    rintro e w1 ⟨rfl, rfl⟩
    go_wp2
    rw [← hW.out]
    go_ret
    exact ⟨ret_bool hr.out.symm, HB.out⟩
end Go.Proofs.YtfmnjclnhppghabGreatDoor
