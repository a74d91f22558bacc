/- Used rules, as plain functions. No program is walked here. -/
import Derived.Test.YtfmnjclnhppghabGreatDoorSizeP
namespace Go.Proofs.YtfmnjclnhppghabGreatDoor
open Go Go.RowKit
/-- Which rules are marked, when the kids of one are marked too. -/
def markK (u : Nat → Bool) (ks : List Int) : Nat → Bool := fun i => u i || ks.contains (i : Int)
theorem markK_nil (u : Nat → Bool) : markK u [] = u := by funext i; simp [markK]
theorem markK_next (u : Nat → Bool) {ks : List Int} {j m : Nat} (h : j < ks.length) (e : ks[j] = (m : Int)) : markK u (ks.take (j + 1)) = fun i => if i = m then true else markK u (ks.take j) i := by
  funext i
  unfold markK
  rw [List.take_succ_eq_append_getElem h, e]
  by_cases hi : i = m
  · subst hi; simp
  · rw [if_neg hi]
    have : ¬ ((i : Int) = (m : Int)) := by omega
    simp [this]
/-- The marks when the rules from n - 1 down to 0 have been looked at. -/
def down (rs : List RuleV) : Nat → (Nat → Bool) → (Nat → Bool)
  | 0, u => u
  | n + 1, u => down rs n (if u n = true then markK u (if h : n < rs.length then rs[n].kids else []) else u)
/-- The marks at first. -/
def mark1 (k : Nat) : Nat → Bool := fun i => decide (i = k)
/-- The rules that a rule uses, as marks. -/
def usedBy (rs : List RuleV) (k : Nat) : Nat → Bool := down rs (k + 1) (mark1 k)
theorem down_next {rs : List RuleV} {n : Nat} {u : Nat → Bool} (h : n < rs.length) : down rs (n + 1) u = down rs n (if u n = true then markK u rs[n].kids else u) := by
  rw [down, dif_pos h]
/-- The indexes below n at which p holds. -/
def picks (p : Nat → Bool) : Nat → List Int
  | 0 => []
  | n + 1 => if p n = true then picks p n ++ [(n : Int)] else picks p n
theorem picks_length (p : Nat → Bool) : ∀ n, (picks p n).length ≤ n
  | 0 => Nat.le_refl _
  | n + 1 => by
    have := picks_length p n
    unfold picks
    split
    · rw [List.length_append]; simp; omega
    · omega
theorem picks_mem (p : Nat → Bool) (x : Int) : ∀ n, x ∈ picks p n ↔ ∃ i : Nat, i < n ∧ p i = true ∧ x = (i : Int)
  | 0 => by simp [picks]
  | n + 1 => by
    have ih := picks_mem p x n
    unfold picks
    split
    · rename_i hp
      rw [List.mem_append, ih]
      constructor
      · rintro (⟨i, h1, h2, h3⟩ | h)
        · exact ⟨i, by omega, h2, h3⟩
        · simp at h
          exact ⟨n, by omega, hp, h⟩
      · rintro ⟨i, h1, h2, h3⟩
        by_cases hi : i = n
        · subst hi; right; simp [h3]
        · exact .inl ⟨i, by omega, h2, h3⟩
    · rename_i hp
      rw [ih]
      constructor
      · rintro ⟨i, h1, h2, h3⟩; exact ⟨i, by omega, h2, h3⟩
      · rintro ⟨i, h1, h2, h3⟩
        refine ⟨i, ?_, h2, h3⟩
        by_cases hi : i = n
        · subst hi; exact absurd h2 hp
        · omega
theorem picks_both (p : Nat → Bool) : ∀ n, (picks p n).length + (picks (fun i => !p i) n).length = n
  | 0 => rfl
  | n + 1 => by
    have ih := picks_both p n
    unfold picks
    cases hp : p n with
    | true => simp; omega
    | false => simp; omega
/-- Marks below the rule are not taken away. -/
theorem down_keep {rs : List RuleV} : ∀ (n : Nat) (u : Nat → Bool) (i : Nat), u i = true → down rs n u i = true
  | 0, _, _, h => h
  | n + 1, u, i, h => by
    unfold down
    refine down_keep n _ i ?_
    split
    · unfold markK; rw [h]; rfl
    · exact h
/-- Looking at rules below n marks none from n on. -/
theorem down_far {rs : List RuleV} (hk : ∀ n (h : n < rs.length), ∀ k ∈ rs[n].kids, 0 ≤ k ∧ k < (n : Int)) : ∀ (n : Nat) (u : Nat → Bool) (i : Nat), n ≤ i → down rs n u i = u i
  | 0, _, _, _ => rfl
  | n + 1, u, i, h => by
    unfold down
    rw [down_far hk n _ i (by omega)]
    split
    · unfold markK
      by_cases hn : n < rs.length
      · rw [dif_pos hn]
        have : ¬ (i : Int) ∈ rs[n].kids := fun hm => by have := hk n hn _ hm; omega
        simp [this]
      · rw [dif_neg hn]; simp
    · rfl
theorem down_closed {rs : List RuleV} (hk : ∀ n (h : n < rs.length), ∀ k ∈ rs[n].kids, 0 ≤ k ∧ k < (n : Int)) : ∀ (n : Nat) (u : Nat → Bool) (i : Nat) (hi : i < rs.length), i < n → down rs n u i = true → ∀ k ∈ rs[i].kids, down rs n u k.toNat = true
  | 0, _, _, _, h, _, _, _ => by omega
  | n + 1, u, i, hi, hin, hu, k, hkm => by
    unfold down at hu ⊢
    by_cases e : i = n
    · subst e
      rw [down_far hk i _ i (Nat.le_refl _)] at hu
      have hkk := hk i hi k hkm
      refine down_keep _ _ _ ?_
      by_cases hc : u i = true
      · rw [if_pos hc, dif_pos hi]
        unfold markK
        rw [show ((k.toNat : Nat) : Int) = k from by omega]
        simp [hkm]
      · rw [if_neg hc] at hu; exact absurd hu hc
    · exact down_closed hk n _ i hi (by omega) hu k hkm
theorem usedBy_self {rs : List RuleV} {k : Nat} : usedBy rs k k = true := down_keep _ _ _ (by simp [mark1])
theorem usedBy_kids {rs : List RuleV} (h : allV (kindI rs) rs) {k i : Nat} (hi : i < rs.length) (hik : i ≤ k) (hu : usedBy rs k i = true) : ∀ x ∈ rs[i].kids, usedBy rs k x.toNat = true :=
  down_closed (fun _ hn => allV_kids h hn) (k + 1) _ i hi (by omega) hu
/-- Whether none of the rules that are marked ends by a byte. -/
def binaryB (rs : List RuleV) (p : Nat → Bool) : Nat → Bool
  | 0 => true
  | n + 1 => binaryB rs p n && !(p n && (if h : n < rs.length then decide (rs[n].kind = 10) else false))
/-- A kid, as a natural number, with the table's entry. -/
theorem kid_nat {ks : List Int} {j n : Nat} (h : ∀ k ∈ ks, 0 ≤ k ∧ k < (n : Int)) (hj : j < ks.length) : ∃ m : Nat, ks[j] = (m : Int) ∧ m < n := by
  have := h _ (List.getElem_mem hj)
  exact ⟨ks[j].toNat, by omega, by omega⟩
/-- A row of ints, at an index. -/
theorem RdF.cellAt {α : Type} {f : α → Value} {a : Option Addr} {xs : List α} {w : World} (h : RdF f a xs w) {j : Nat} (hj : j < xs.length) : ∃ b off, a = some ⟨b, off, none⟩ ∧ w.cell? ⟨b, off + j, none⟩ = some (f xs[j]) := h j hj
theorem getD_at {ks : List Int} {j : Nat} (h : j < ks.length) : ks.getD j 0 = ks[j] := by simp [List.getD, List.getElem?_eq_getElem h]
end Go.Proofs.YtfmnjclnhppghabGreatDoor
