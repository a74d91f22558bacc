/- The contracts of ErrorName, the model's and the program's. -/
import Derived.Test.YtikpbeealeofaaaDoorLimit
import Derived.Test.YtikpbeealeofaaaDoorSDig
namespace Go.Proofs.YtikpbeealeofaaaDoor
open Go Go.RowKit
def errNames : List ByteArray := [⟨#[111, 107]⟩, ⟨#[115, 104, 111, 114, 116]⟩, ⟨#[99, 111, 110, 115, 116]⟩, ⟨#[116, 97, 103]⟩, ⟨#[102, 108, 97, 103]⟩, ⟨#[115, 117, 109]⟩, ⟨#[99, 111, 117, 110, 116]⟩, ⟨#[116, 114, 97, 105, 108, 105, 110, 103]⟩, ⟨#[114, 117, 108, 101]⟩]
/-- The name of a code. -/
def errName (k : Int) : ByteArray := if 0 ≤ k ∧ k ≤ 8 then errNames.getD k.toNat ⟨#[]⟩ else ⟨#[]⟩
set_option maxRecDepth 100000 in
set_option maxHeartbeats 2000000 in
theorem errname_spec (k : Int) (w : World) :
    Calls Tryd.prog 6 #[.int .i64 k] w fun e w' => e = .returned (.string (errName k)) ∧ Below w.heap.size w w' := by
  have hB : Below w.heap.size w (w.alloc (.cells (errNames.map Value.string).toArray 9)) := (Below.refl _ _).alloc (Nat.le_refl _) _
  by_cases hk : 0 ≤ k ∧ k ≤ 8
  · obtain ⟨n, rfl⟩ : ∃ n : Nat, k = (n : Int) := ⟨k.toNat, by omega⟩
    have hn : n < 9 := by omega
    have n0 : (0 : Int) ≤ (n : Int) := by omega
    have n1 : (n : Int) < 9 := by omega
    have hr : Hid (errName (n : Int) = errNames.getD n ⟨#[]⟩) := by
      show _ = _
      unfold errName
      rw [if_pos hk, Int.toNat_natCast]
    have hc : (w.alloc (.cells (errNames.map Value.string).toArray 9)).cell? ⟨w.heap.size, n, none⟩ = some (.string (errNames.getD n ⟨#[]⟩)) := by
      rw [cell_new]
      have hl : n < errNames.length := hn
      simp [List.getD, hl]
    obtain ⟨x, hx⟩ : ∃ x, x = errNames.getD n ⟨#[]⟩ := ⟨_, rfl⟩
    rw [← hx] at hc hr
    clear hx
    have HB := Lib.hid hB
    clear hB
    simp only [errNames, List.map] at hc
    go_enter Tryd.func6, Tryd.ntmps6
    go_wp2_with fail
    refine (in_any (n : Int) 0 8 true _ (by simp; omega)).mono ?_
    rintro e w1 ⟨rfl, rfl⟩
    go_wp2
    go_ret
    exact ⟨ret_str hr.out.symm, HB.out⟩
  · have hr : Hid (errName k = ⟨#[]⟩) := by
      show _ = _
      unfold errName
      rw [if_neg hk]
    go_enter Tryd.func6, Tryd.ntmps6
    go_wp2_with fail
    refine (in_any k 0 8 false _ (by simp; omega)).mono ?_
    rintro e w1 ⟨rfl, rfl⟩
    go_wp2
    go_ret
    exact ⟨ret_str hr.out.symm, hB⟩
set_option maxRecDepth 100000 in
set_option maxHeartbeats 2000000 in
theorem errname_impl (k : Int) (w : World) :
    Calls Tryd.prog 8 #[.int .i64 k] w fun e w' => e = .returned (.string (errName k)) ∧ Below w.heap.size w w' := by
  have hB : Below w.heap.size w (w.alloc (.cells (errNames.map Value.string).toArray 9)) := (Below.refl _ _).alloc (Nat.le_refl _) _
  by_cases hk : 0 ≤ k ∧ k ≤ 8
  · obtain ⟨n, rfl⟩ : ∃ n : Nat, k = (n : Int) := ⟨k.toNat, by omega⟩
    have hn : n < 9 := by omega
    have n0 : (0 : Int) ≤ (n : Int) := by omega
    have n1 : (n : Int) < 9 := by omega
    have hr : Hid (errName (n : Int) = errNames.getD n ⟨#[]⟩) := by
      show _ = _
      unfold errName
      rw [if_pos hk, Int.toNat_natCast]
    have hc : (w.alloc (.cells (errNames.map Value.string).toArray 9)).cell? ⟨w.heap.size, n, none⟩ = some (.string (errNames.getD n ⟨#[]⟩)) := by
      rw [cell_new]
      have hl : n < errNames.length := hn
      simp [List.getD, hl]
    obtain ⟨x, hx⟩ : ∃ x, x = errNames.getD n ⟨#[]⟩ := ⟨_, rfl⟩
    rw [← hx] at hc hr
    clear hx
    have HB := Lib.hid hB
    clear hB
    simp only [errNames, List.map] at hc
    go_enter Tryd.func8, Tryd.ntmps8
    go_wp2_with fail
    refine (inR_impl (n : Int) 0 8 true _ (by simp; omega)).mono ?_
    rintro e w1 ⟨rfl, rfl⟩
    go_wp2
    go_ret
    exact ⟨ret_str hr.out.symm, HB.out⟩
  · have hr : Hid (errName k = ⟨#[]⟩) := by
      show _ = _
      unfold errName
      rw [if_neg hk]
    go_enter Tryd.func8, Tryd.ntmps8
    go_wp2_with fail
    refine (inR_impl k 0 8 false _ (by simp; omega)).mono ?_
    rintro e w1 ⟨rfl, rfl⟩
    go_wp2
    go_ret
    exact ⟨ret_str hr.out.symm, hB⟩
end Go.Proofs.YtikpbeealeofaaaDoor
