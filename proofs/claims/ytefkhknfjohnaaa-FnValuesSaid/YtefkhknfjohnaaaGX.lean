/- Contracts of Min and Max, of the model and of the program. The contract of the model's l7Rule; facts on kids and tables that the walks of chapter 7 use. The contract of the program's isDescribed. -/
import Derived.Test.YtefkhknfjohnaaaGBase
import Derived.Test.YtefkhknfjohnaaaGP
import Derived.Test.YtefkhknfjohnaaaGKS
import Derived.Test.YtefkhknfjohnaaaGPu
import Derived.Test.YtefkhknfjohnaaaGVI
import Derived.Test.YtefkhknfjohnaaaGDI
namespace Go.Proofs.Ytefkhknfjohnaaa
open Go Go.RowKit
theorem min_spec (a b : Int) (w : World) :
    Calls Try.prog 67 #[.int .i64 a, .int .i64 b] w fun e w' => e = .returned (.int .i64 (min a b)) ∧ w = w' := by
  by_cases h : b < a
  · have hr : Hid (min a b = b) := by show _ = _; omega
    go_enter Try.func67, Try.ntmps67
    go_wp2
    go_ret
    exact ⟨ret_int hr.out.symm, rfl⟩
  · have hr : Hid (min a b = a) := by show _ = _; omega
    go_enter Try.func67, Try.ntmps67
    go_wp2
    go_ret
    exact ⟨ret_int hr.out.symm, rfl⟩
theorem max_spec (a b : Int) (w : World) :
    Calls Try.prog 12 #[.int .i64 a, .int .i64 b] w fun e w' => e = .returned (.int .i64 (max a b)) ∧ w = w' := by
  by_cases h : a < b
  · have hr : Hid (max a b = b) := by show _ = _; omega
    go_enter Try.func12, Try.ntmps12
    go_wp2
    go_ret
    exact ⟨ret_int hr.out.symm, rfl⟩
  · have hr : Hid (max a b = a) := by show _ = _; omega
    go_enter Try.func12, Try.ntmps12
    go_wp2
    go_ret
    exact ⟨ret_int hr.out.symm, rfl⟩
theorem outer_least (a b : Int) (w : World) (c : Nat) (hc : w.cell? ⟨c, 0, none⟩ = some (.int .i64 b)) :
    Calls Try.prog 106 #[.bool false, .int .i64 a, .slice (some ⟨c, 0, none⟩) 1 1] w fun e w' => e = .returned (.int .i64 (if b < a then b else a)) ∧ w = w' := by
  by_cases h : b < a
  all_goals
    go_enter Try.func106, Try.ntmps106
    go_wp2
    go_loop [7, 9, 13] (fun t _ i => ∃ k : Nat, k ≤ 1 ∧ i = .int .i64 k ∧ t = .int .i64 (if k = 1 then (if b < a then b else a) else a)) (fun _ _ i => 1 - (intOf i).toNat)
    case atStart => exact ⟨0, Nat.zero_le _, rfl, rfl⟩
    case round =>
      obtain ⟨k, hk, rfl, rfl⟩ := hrel
      obtain rfl | rfl : k = 0 ∨ k = 1 := by omega
      · go_wp2
        go_round
        case rel => exact ⟨1, by omega, rfl, by first | rw [if_pos rfl, if_pos h] | rw [if_pos rfl, if_neg (by omega)]⟩
        case measure => simp [intOf]
      · go_wp2
        go_ret
        exact ⟨rfl, rfl⟩
theorem outer_most (a b : Int) (w : World) (c : Nat) (hc : w.cell? ⟨c, 0, none⟩ = some (.int .i64 b)) :
    Calls Try.prog 106 #[.bool true, .int .i64 a, .slice (some ⟨c, 0, none⟩) 1 1] w fun e w' => e = .returned (.int .i64 (if a < b then b else a)) ∧ w = w' := by
  by_cases h : a < b
  all_goals
    go_enter Try.func106, Try.ntmps106
    go_wp2
    go_loop [7, 9, 13] (fun t _ i => ∃ k : Nat, k ≤ 1 ∧ i = .int .i64 k ∧ t = .int .i64 (if k = 1 then (if a < b then b else a) else a)) (fun _ _ i => 1 - (intOf i).toNat)
    case atStart => exact ⟨0, Nat.zero_le _, rfl, rfl⟩
    case round =>
      obtain ⟨k, hk, rfl, rfl⟩ := hrel
      obtain rfl | rfl : k = 0 ∨ k = 1 := by omega
      · go_wp2
        go_round
        case rel => exact ⟨1, by omega, rfl, by first | rw [if_pos rfl, if_pos h] | rw [if_pos rfl, if_neg (by omega)]⟩
        case measure => simp [intOf]
      · go_wp2
        go_ret
        exact ⟨rfl, rfl⟩
theorem outer_leastM (a b : Int) (w : World) (c : Nat) (hc : w.cell? ⟨c, 0, none⟩ = some (.int .i64 b)) :
    Calls Try.prog 106 #[.bool false, .int .i64 a, .slice (some ⟨c, 0, none⟩) 1 1] w fun e w' => e = .returned (.int .i64 (min a b)) ∧ w = w' :=
  (outer_least a b w c hc).mono fun e w' ⟨h1, h2⟩ => ⟨by rw [h1]; exact ret_int (by split <;> omega), h2⟩
theorem min_impl (a b : Int) (w : World) :
    Calls Try.prog 97 #[.int .i64 a, .int .i64 b] w fun e w' => e = .returned (.int .i64 (min a b)) ∧ Below w.heap.size w w' := by
  go_enter Try.func97, Try.ntmps97
  go_wp2_with (go_at_call 106; refine (outer_leastM a b (w.alloc (Obj.cells #[.int .i64 b] 3)) w.heap.size (by simp)).mono ?_; rintro e w' ⟨rfl, rfl⟩)
  go_ret
  exact ⟨rfl, (Below.refl _ _).alloc (Nat.le_refl _) _⟩
theorem outer_mostM (a b : Int) (w : World) (c : Nat) (hc : w.cell? ⟨c, 0, none⟩ = some (.int .i64 b)) :
    Calls Try.prog 106 #[.bool true, .int .i64 a, .slice (some ⟨c, 0, none⟩) 1 1] w fun e w' => e = .returned (.int .i64 (max a b)) ∧ w = w' :=
  (outer_most a b w c hc).mono fun e w' ⟨h1, h2⟩ => ⟨by rw [h1]; exact ret_int (by split <;> omega), h2⟩
end Go.Proofs.Ytefkhknfjohnaaa
namespace Go.Proofs.Ytefkhknfjohnaaa
open Go Go.RowKit
/-- What is asked ahead of every answer of chapter 7: the description is valid, and there is such a rule. -/
noncomputable def okAt (rs : List RuleV) (k : Int) : Bool := decide (0 ≤ k ∧ k < (rs.length : Int)) && descrB (kindI rs) rs
theorem okAt_yes {rs : List RuleV} {k : Int} (h : okAt rs k = true) : (0 ≤ k ∧ k < (rs.length : Int)) ∧ (1 ≤ rs.length ∧ rs.length ≤ 24) ∧ allV (kindI rs) rs := by
  unfold okAt at h
  rw [Bool.and_eq_true] at h
  exact ⟨of_decide_eq_true h.1, (descrB_iff.1 h.2).1, (descrB_iff.1 h.2).2⟩
set_option maxRecDepth 100000 in
theorem l7_spec (a : Option Addr) (rs : List RuleV) (cap : Nat) (k : Int) (w : World) (hl : rs.length ≤ 1048576) (hs : ∀ r ∈ rs, Short r) (hp : ∀ r ∈ rs, Spelt r) (h : RdC a rs w) :
    Calls Try.prog 83 #[.agg #[.slice a rs.length cap], .int .i64 k] w fun e w' => e = .returned (.bool (okAt rs k)) ∧ Below w.heap.size w w' := by
  obtain ⟨w0, hw0⟩ : ∃ w0, w0 = w.alloc (.cells #[.slice a rs.length cap] 38) := ⟨_, rfl⟩
  have hB0 : Below w.heap.size w w0 := by subst hw0; exact (Below.refl _ _).alloc (Nat.le_refl _) _
  have hX0 : CellsAt w.heap.size [.slice a rs.length cap] w0 := by subst hw0; exact CellsAt.new w _ _
  have bx := (hX0 0 _ rfl).1
  have HB := Lib.hid hB0
  have HC := Lib.hid (h.below hB0)
  have HS := Lib.hid hs
  have HP := Lib.hid hp
  have hW := Lib.hid hw0
  clear h hB0 hX0 hs hp hw0
  by_cases hk : 0 ≤ k ∧ k ≤ (rs.length : Int) - 1
  · have hd := decide_eq_true hk
    have hr : Hid (okAt rs k = descrB (kindI rs) rs) := by
      show _ = _
      unfold okAt
      rw [decide_eq_true (by omega), Bool.true_and]
    go_enter Try.func83, Try.ntmps83
    go_wp2_with fail
    refine (in_any _ _ _ true _ hd).mono ?_
    rintro e w1 ⟨rfl, rfl⟩
    rw [← hW.out]
    clear hW
    go_wp2_with fail
    refine (validd_spec a rs cap _ hl HS.out HP.out HC.out).mono ?_
    rintro e w2 ⟨rfl, hb2⟩
    rw [← hr.out]
    obtain ⟨b, hb⟩ : ∃ b, b = okAt rs k := ⟨_, rfl⟩
    rw [← hb]
    have HBB := Lib.hid hb
    clear hb
    have HB2 := Lib.hid (HB.out.trans (hb2.mono HB.out.size))
    clear hb2 hr
    go_wp2
    go_ret
    exact ⟨ret_bool HBB.out, HB2.out⟩
  · have hd := decide_eq_false hk
    have hr : Hid (okAt rs k = false) := by
      show _ = _
      unfold okAt
      rw [decide_eq_false (by omega), Bool.false_and]
    go_enter Try.func83, Try.ntmps83
    go_wp2_with fail
    refine (in_any _ _ _ false _ hd).mono ?_
    rintro e w1 ⟨rfl, rfl⟩
    go_wp2
    rw [← hW.out]
    go_ret
    exact ⟨ret_bool hr.out.symm, HB.out⟩
end Go.Proofs.Ytefkhknfjohnaaa
namespace Go.Proofs.Ytefkhknfjohnaaa
open Go Go.RowKit
set_option maxRecDepth 100000 in
theorem isdescr_impl (a : Option Addr) (rs : List RuleV) (cap : Nat) (k : Int) (w : World) (hl : rs.length ≤ 1048576) (hs : ∀ r ∈ rs, Short r) (hp : ∀ r ∈ rs, Spelt r) (h : RdC a rs w) :
    Calls Try.prog 48 #[.agg #[.slice a rs.length cap], .int .i64 k] w fun e w' => e = .returned (.bool (okAt rs k)) ∧ Below w.heap.size w w' := by
  obtain ⟨w0, hw0⟩ : ∃ w0, w0 = w.alloc (.cells #[.slice a rs.length cap] 38) := ⟨_, rfl⟩
  have hB0 : Below w.heap.size w w0 := by subst hw0; exact (Below.refl _ _).alloc (Nat.le_refl _) _
  have hX0 : CellsAt w.heap.size [.slice a rs.length cap] w0 := by subst hw0; exact CellsAt.new w _ _
  have bx := (hX0 0 _ rfl).1
  have HX := Lib.hid hX0
  have HB0 := Lib.hid hB0
  have HC := Lib.hid (h.below hB0)
  have hW := Lib.hid hw0
  have HS := Lib.hid hs
  have HP := Lib.hid hp
  clear h hs hp hB0 hX0 hw0
  obtain ⟨b, hb⟩ : ∃ b, b = descrB (kindI rs) rs := ⟨_, rfl⟩
  have HBB := Lib.hid hb
  clear hb
  go_enter Try.func48, Try.ntmps48
  go_wp2_with fail
  rw [← hW.out]
  clear hW
  refine (validd_impl a rs cap _ hl HS.out HP.out HC.out).mono ?_
  rintro e w1 ⟨rfl, hb1⟩
  rw [← HBB.out]
  have HB := Lib.hid (HB0.out.trans (hb1.mono HB0.out.size))
  replace HX := Lib.hid (HX.out.below hb1)
  clear hb1 bx
  have bx := (HX.out 0 _ rfl).1
  cases b with
  | false =>
    have hr : Hid (okAt rs k = false) := by show _ = _; unfold okAt; rw [← HBB.out, Bool.and_false]
    go_wp2
    go_ret
    exact ⟨ret_bool hr.out.symm, HB.out⟩
  | true =>
    have hr : Hid (okAt rs k = decide (0 ≤ k ∧ k < (rs.length : Int))) := by show _ = _; unfold okAt; rw [← HBB.out, Bool.and_true]
    obtain ⟨q, hq⟩ : ∃ q, q = decide (0 ≤ k ∧ k < (rs.length : Int)) := ⟨_, rfl⟩
    rw [← hq] at hr
    go_wp2_with fail
    refine (hasr_impl a rs.length cap k _ (by omega) q hq.symm).mono ?_
    rintro e w2 ⟨rfl, hb2⟩
    replace HB := Lib.hid (HB.out.trans (hb2.mono HB.out.size))
    clear hb2 hq
    go_wp2
    go_ret
    exact ⟨ret_bool hr.out.symm, HB.out⟩
end Go.Proofs.Ytefkhknfjohnaaa
