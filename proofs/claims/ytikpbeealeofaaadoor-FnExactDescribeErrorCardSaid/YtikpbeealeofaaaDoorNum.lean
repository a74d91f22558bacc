/- Plain facts on decimal digits (no program in this text). -/
import Derived.Lib.ItoaNum
namespace Go.Proofs.YtikpbeealeofaaaDoor
open Go
/-- The digits of v, none for 0. -/
def digs (v : Nat) : List UInt8 := if v = 0 then [] else Lib.decDigits v
theorem digs_zero : digs 0 = [] := rfl
theorem digs_pos {v : Nat} (h : v ≠ 0) : digs v = Lib.decDigits v := if_neg h
theorem digs_step {v : Nat} (h : v ≠ 0) : digs v = digs (v / 10) ++ [UInt8.ofNat (48 + v % 10)] := by
  rw [digs_pos h]
  by_cases h10 : v < 10
  · have e : v / 10 = 0 := by omega
    rw [e, digs_zero, Lib.decDigits_one h10, Nat.mod_eq_of_lt h10]; rfl
  · rw [Lib.decDigits, dif_neg h10, digs_pos (by omega)]
theorem nDigits_le : ∀ (k v : Nat), v < 10 ^ k → 1 ≤ k → Lib.nDigits v ≤ k
  | 0, _, _, h => by omega
  | k + 1, v, hv, _ => by
    by_cases h10 : v < 10
    · rw [Lib.nDigits_small h10]; omega
    · rw [Lib.nDigits_big h10]
      rw [Nat.pow_succ] at hv
      have h1 : 1 ≤ k := by
        rcases k with _ | k
        · simp at hv; omega
        · omega
      have := nDigits_le k (v / 10) (by omega) h1
      omega
theorem digs_length (v : Nat) (h : v < 10 ^ 20) : (digs v).length ≤ 20 := by
  by_cases h0 : v = 0
  · subst h0; simp [digs_zero]
  · rw [digs_pos h0, Lib.decDigits_length]; exact nDigits_le 20 v h (by omega)
theorem rest_length {v u : Nat} {l : List UInt8} (h : digs v ++ l = digs u) (hu : u < 10 ^ 20) : l.length ≤ 20 := by
  have h1 := congrArg List.length h
  have h2 := digs_length u hu
  rw [List.length_append] at h1
  omega
theorem itoa_zero : Lib.itoa 0 = [48] := by unfold Lib.itoa; rw [if_neg (by omega)]; exact Lib.decDigits_one (i := 0) (by omega)
theorem itoa_pos {n : Int} (h : 0 < n) : Lib.itoa n = digs n.natAbs := by
  unfold Lib.itoa; rw [if_neg (by omega), digs_pos (by omega), show n.toNat = n.natAbs by omega]
theorem itoa_neg {n : Int} (h : n < 0) : Lib.itoa n = 45 :: digs n.natAbs := by
  unfold Lib.itoa; rw [if_pos h, digs_pos (by omega)]
end Go.Proofs.YtikpbeealeofaaaDoor
