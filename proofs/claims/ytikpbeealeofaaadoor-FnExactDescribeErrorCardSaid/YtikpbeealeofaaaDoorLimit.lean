/- Contracts of the model's RootOf, IntegerLimit, KindName. -/
import Derived.Test.YtikpbeealeofaaaDoorRules
import Derived.Test.YtikpbeealeofaaaDoorDrawPick
namespace Go.Proofs.YtikpbeealeofaaaDoor
open Go Go.RowKit
theorem in_any (x lo hi : Int) (b : Bool) (w : World) (hb : decide (lo ≤ x ∧ x ≤ hi) = b) :
    Calls Tryd.prog 10 #[.int .i64 x, .int .i64 lo, .int .i64 hi] w fun e w' => e = .returned (.bool b) ∧ w = w' := by
  subst hb
  by_cases ha : lo ≤ x
  · by_cases hc : x ≤ hi
    · go_enter Tryd.func10, Tryd.ntmps10
      go_wp2
      go_ret
      exact ⟨ret_bool (decide_eq_true ⟨ha, hc⟩).symm, rfl⟩
    · have hd : decide (x ≤ hi) = false := by simp [hc]
      go_enter Tryd.func10, Tryd.ntmps10
      go_wp2
      go_ret
      first | exact ⟨rfl, rfl⟩ | exact ⟨ret_bool (decide_eq_false (by omega)).symm, rfl⟩ | exact ⟨ret_bool (by simp; omega), rfl⟩
  · have hd : decide (lo ≤ x) = false := by simp [ha]
    go_enter Tryd.func10, Tryd.ntmps10
    go_wp2
    go_ret
    first | exact ⟨rfl, rfl⟩ | exact ⟨ret_bool (decide_eq_false (by omega)).symm, rfl⟩ | exact ⟨ret_bool (by simp; omega), rfl⟩
/-- 256 to a small power. -/
def pow256 (n : Int) : Int := if n = 1 then 256 else if n = 2 then 65536 else if n = 3 then 16777216 else 4294967296
theorem pow256_bounds (n : Int) : 256 ≤ pow256 n ∧ pow256 n ≤ 4294967296 := by
  unfold pow256
  by_cases h1 : n = 1
  · rw [if_pos h1]; omega
  · rw [if_neg h1]
    by_cases h2 : n = 2
    · rw [if_pos h2]; omega
    · rw [if_neg h2]
      by_cases h3 : n = 3
      · rw [if_pos h3]; omega
      · rw [if_neg h3]; omega
/-- The largest number of the integer rule at an index, or -1. -/
def limitAt (rs : List RuleV) (k : Int) : Int :=
  if h : 0 ≤ k ∧ k < rs.length then (let r := rs[k.toNat]'(by omega); if r.kind = 1 ∧ 1 ≤ r.size ∧ r.size ≤ 4 then pow256 r.size - 1 else -1) else -1
theorem limitAt_out {rs : List RuleV} {k : Int} (h : ¬ (0 ≤ k ∧ k < rs.length)) : limitAt rs k = -1 := by unfold limitAt; rw [dif_neg h]
theorem limitAt_in {rs : List RuleV} {k : Nat} (h : k < rs.length) : limitAt rs (k : Int) = if rs[k].kind = 1 ∧ 1 ≤ rs[k].size ∧ rs[k].size ≤ 4 then pow256 rs[k].size - 1 else -1 := by
  unfold limitAt
  rw [dif_pos (by omega)]
  simp only [Int.toNat_natCast]
/-- The names of the kinds, from 0 on. -/
def kindNames : List ByteArray := [⟨#[]⟩, ⟨#[105, 110, 116, 101, 103, 101, 114]⟩, ⟨#[99, 111, 110, 115, 116]⟩, ⟨#[102, 105, 120, 101, 100]⟩, ⟨#[115, 105, 122, 101, 100]⟩, ⟨#[97, 114, 114, 97, 121]⟩, ⟨#[115, 101, 113, 117, 101, 110, 99, 101]⟩, ⟨#[99, 104, 111, 105, 99, 101]⟩, ⟨#[111, 112, 116, 105, 111, 110]⟩, ⟨#[99, 104, 101, 99, 107, 101, 100]⟩, ⟨#[116, 101, 114, 109, 105, 110, 97, 116, 101, 100]⟩]
/-- The name of a kind. -/
def kindName (k : Int) : ByteArray := if 1 ≤ k ∧ k ≤ 10 then kindNames.getD k.toNat ⟨#[]⟩ else ⟨#[]⟩
end Go.Proofs.YtikpbeealeofaaaDoor
