/- The contract of the program's isDescribed. -/
import Derived.Test.YtfmnjclnhppghabGreatDoorRuleOk
import Derived.Test.YtfmnjclnhppghabGreatDoorGVI
import Derived.Test.YtfmnjclnhppghabGreatDoorGDI
namespace Go.Proofs.YtfmnjclnhppghabGreatDoor
open Go Go.RowKit
set_option maxRecDepth 100000 in
theorem isdescr_impl (a : Option Addr) (rs : List RuleV) (cap : Nat) (k : Int) (w : World) (hl : rs.length ≤ 1048576) (hs : ∀ r ∈ rs, Short r) (hp : ∀ r ∈ rs, Spelt r) (h : RdC a rs w) :
    Calls Tryz.prog 43 #[.agg #[.slice a rs.length cap], .int .i64 k] w fun e w' => e = .returned (.bool (okAt rs k)) ∧ Below w.heap.size w w' := by
  obtain ⟨w0, hw0⟩ : ∃ w0, w0 = w.alloc (.cells #[.slice a rs.length cap] 35) := ⟨_, rfl⟩
  have hB0 : Below w.heap.size w w0 := by subst hw0; exact (Below.refl _ _).alloc (Nat.le_refl _) _
  have hX0 : CellsAt w.heap.size [.slice a rs.length cap] w0 := by subst hw0; exact CellsAt.new w _ _
  have bx := (hX0 0 _ rfl).1
  have HX := Lib.hid hX0
  have HB0 := Lib.hid hB0
  have HC := Lib.hid (h.below hB0)
  have hW := Lib.hid hw0
  have HS := Lib.hid hs
  have HP := Lib.hid hp
  clear h hs hp hB0 hX0 hw0
  obtain ⟨b, hb⟩ : ∃ b, b = descrB (kindI rs) rs := ⟨_, rfl⟩
  have HBB := Lib.hid hb
  clear hb
  go_enter Tryz.func43, Tryz.ntmps43
  go_wp2_with fail
  rw [← hW.out]
  clear hW
  refine (validd_impl a rs cap _ hl HS.out HP.out HC.out).mono ?_
  rintro e w1 ⟨rfl, hb1⟩
  rw [← HBB.out]
  have HB := Lib.hid (HB0.out.trans (hb1.mono HB0.out.size))
  replace HX := Lib.hid (HX.out.below hb1)
  clear hb1 bx
  have bx := (HX.out 0 _ rfl).1
  cases b with
  | false =>
    have hr : Hid (okAt rs k = false) := by show _ = _; unfold okAt; rw [← HBB.out, Bool.and_false]
    go_wp2
    go_ret
    exact ⟨ret_bool hr.out.symm, HB.out⟩
  | true =>
    have hr : Hid (okAt rs k = decide (0 ≤ k ∧ k < (rs.length : Int))) := by show _ = _; unfold okAt; rw [← HBB.out, Bool.and_true]
    obtain ⟨q, hq⟩ : ∃ q, q = decide (0 ≤ k ∧ k < (rs.length : Int)) := ⟨_, rfl⟩
    rw [← hq] at hr
    go_wp2_with fail
    refine (hasr_impl a rs.length cap k _ (by omega) q hq.symm).mono ?_
    rintro e w2 ⟨rfl, hb2⟩
    replace HB := Lib.hid (HB.out.trans (hb2.mono HB.out.size))
    clear hb2 hq
    go_wp2
    go_ret
    exact ⟨ret_bool hr.out.symm, HB.out⟩
end Go.Proofs.YtfmnjclnhppghabGreatDoor
