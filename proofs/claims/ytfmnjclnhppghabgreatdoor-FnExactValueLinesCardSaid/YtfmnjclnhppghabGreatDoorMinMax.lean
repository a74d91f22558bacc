/- Contracts of Min and Max, of the model and of the program. -/
import Derived.Test.YtfmnjclnhppghabGreatDoorGBase
namespace Go.Proofs.YtfmnjclnhppghabGreatDoor
open Go Go.RowKit
theorem min_spec (a b : Int) (w : World) :
    Calls Tryz.prog 76 #[.int .i64 a, .int .i64 b] w fun e w' => e = .returned (.int .i64 (min a b)) ∧ w = w' := by
  by_cases h : b < a
  · have hr : Hid (min a b = b) := by show _ = _; omega
    go_enter Tryz.func76, Tryz.ntmps76
    go_wp2
    go_ret
    exact ⟨ret_int hr.out.symm, rfl⟩
  · have hr : Hid (min a b = a) := by show _ = _; omega
    go_enter Tryz.func76, Tryz.ntmps76
    go_wp2
    go_ret
    exact ⟨ret_int hr.out.symm, rfl⟩
theorem outer_least (a b : Int) (w : World) (c : Nat) (hc : w.cell? ⟨c, 0, none⟩ = some (.int .i64 b)) :
    Calls Tryz.prog 93 #[.bool false, .int .i64 a, .slice (some ⟨c, 0, none⟩) 1 1] w fun e w' => e = .returned (.int .i64 (if b < a then b else a)) ∧ w = w' := by
  by_cases h : b < a
  all_goals
    go_enter Tryz.func93, Tryz.ntmps93
    go_wp2
    go_loop [7, 9, 13] (fun t _ i => ∃ k : Nat, k ≤ 1 ∧ i = .int .i64 k ∧ t = .int .i64 (if k = 1 then (if b < a then b else a) else a)) (fun _ _ i => 1 - (intOf i).toNat)
    case atStart => exact ⟨0, Nat.zero_le _, rfl, rfl⟩
    case round =>
      obtain ⟨k, hk, rfl, rfl⟩ := hrel
      obtain rfl | rfl : k = 0 ∨ k = 1 := by omega
      · go_wp2
        go_round
        case rel => exact ⟨1, by omega, rfl, by first | rw [if_pos rfl, if_pos h] | rw [if_pos rfl, if_neg (by omega)]⟩
        case measure => simp [intOf]
      · go_wp2
        go_ret
        exact ⟨rfl, rfl⟩
theorem outer_most (a b : Int) (w : World) (c : Nat) (hc : w.cell? ⟨c, 0, none⟩ = some (.int .i64 b)) :
    Calls Tryz.prog 93 #[.bool true, .int .i64 a, .slice (some ⟨c, 0, none⟩) 1 1] w fun e w' => e = .returned (.int .i64 (if a < b then b else a)) ∧ w = w' := by
  by_cases h : a < b
  all_goals
    go_enter Tryz.func93, Tryz.ntmps93
    go_wp2
    go_loop [7, 9, 13] (fun t _ i => ∃ k : Nat, k ≤ 1 ∧ i = .int .i64 k ∧ t = .int .i64 (if k = 1 then (if a < b then b else a) else a)) (fun _ _ i => 1 - (intOf i).toNat)
    case atStart => exact ⟨0, Nat.zero_le _, rfl, rfl⟩
    case round =>
      obtain ⟨k, hk, rfl, rfl⟩ := hrel
      obtain rfl | rfl : k = 0 ∨ k = 1 := by omega
      · go_wp2
        go_round
        case rel => exact ⟨1, by omega, rfl, by first | rw [if_pos rfl, if_pos h] | rw [if_pos rfl, if_neg (by omega)]⟩
        case measure => simp [intOf]
      · go_wp2
        go_ret
        exact ⟨rfl, rfl⟩
theorem outer_leastM (a b : Int) (w : World) (c : Nat) (hc : w.cell? ⟨c, 0, none⟩ = some (.int .i64 b)) :
    Calls Tryz.prog 93 #[.bool false, .int .i64 a, .slice (some ⟨c, 0, none⟩) 1 1] w fun e w' => e = .returned (.int .i64 (min a b)) ∧ w = w' :=
  (outer_least a b w c hc).mono fun e w' ⟨h1, h2⟩ => ⟨by rw [h1]; exact ret_int (by split <;> omega), h2⟩
theorem min_impl (a b : Int) (w : World) :
    Calls Tryz.prog 81 #[.int .i64 a, .int .i64 b] w fun e w' => e = .returned (.int .i64 (min a b)) ∧ Below w.heap.size w w' := by
  go_enter Tryz.func81, Tryz.ntmps81
  go_wp2_with (go_at_call 93; refine (outer_leastM a b (w.alloc (Obj.cells #[.int .i64 b] 3)) w.heap.size (by simp)).mono ?_; rintro e w' ⟨rfl, rfl⟩)
  go_ret
  exact ⟨rfl, (Below.refl _ _).alloc (Nat.le_refl _) _⟩
theorem outer_mostM (a b : Int) (w : World) (c : Nat) (hc : w.cell? ⟨c, 0, none⟩ = some (.int .i64 b)) :
    Calls Tryz.prog 93 #[.bool true, .int .i64 a, .slice (some ⟨c, 0, none⟩) 1 1] w fun e w' => e = .returned (.int .i64 (max a b)) ∧ w = w' :=
  (outer_most a b w c hc).mono fun e w' ⟨h1, h2⟩ => ⟨by rw [h1]; exact ret_int (by split <;> omega), h2⟩
end Go.Proofs.YtfmnjclnhppghabGreatDoor
