/- First bytes, as data: with which bytes encodings of a rule can begin. No program is walked here. -/
import Derived.Test.YtfmnjclnhppghaaValLen
import Derived.Test.YtfmnjclnhppghaaPrintP
import Derived.Test.YtfmnjclnhppghaaRuleOk
namespace Go.Proofs.Ytfmnjclnhppghaa
open Go Go.RowKit
/-- The rule that decides the first byte, by n steps at most. -/
def firstN (rs : List RuleV) : Nat → Nat → Nat
  | 0, k => k
  | n + 1, k => if (ruleAt rs (k : Int)).kind = 4 ∨ (ruleAt rs (k : Int)).kind = 5 ∨ (ruleAt rs (k : Int)).kind = 6 ∨ (ruleAt rs (k : Int)).kind = 9 then firstN rs n ((ruleAt rs (k : Int)).kids.getD 0 0).toNat else k
/-- The encoding of a tag. -/
def tagB (rs : List RuleV) (r : RuleV) (t : Int) : List UInt8 := encI (ruleAt rs (r.kids.getD 0 0)).little t (ruleAt rs (r.kids.getD 0 0)).size
/-- Whether a rule that decides by itself can begin with a byte. -/
def startR (rs : List RuleV) (r : RuleV) (b : Nat) : Bool :=
  if r.kind = 2 then decide ((r.bytes.getD 0 0).toNat = b)
  else if r.kind = 8 then decide (b < 2)
  else if r.kind = 7 then r.tags.any fun t => decide (((tagB rs r t).getD 0 0).toNat = b)
  else true
def startB (rs : List RuleV) (k b : Nat) : Bool := startR rs (ruleAt rs (firstN rs k k : Nat)) b
/-- The answer of CanStart. -/
noncomputable def canB (rs : List RuleV) (k b : Int) : Bool := okAt rs k && (decide (0 ≤ b ∧ b ≤ 255) && startB rs k.toNat b.toNat)
theorem kid0 {rs : List RuleV} (hall : allV (kindI rs) rs) {k : Nat} (hk : k < rs.length) (h : rs[k].kind = 4 ∨ rs[k].kind = 5 ∨ rs[k].kind = 6 ∨ rs[k].kind = 9) : ∃ m : Nat, rs[k].kids.getD 0 0 = (m : Int) ∧ m < k ∧ 0 < rs[k].kids.length := by
  have hki := allV_kind hall hk
  have h0 : 0 < rs[k].kids.length := by
    rcases h with h | h | h | h
    · have := (kindI_4 hki h).1; omega
    · have := (kindI_5 hki h).1; omega
    · have := kindI_6 hki h; omega
    · have := kindI_9 hki h; omega
  obtain ⟨m, hm, hmk⟩ := kidLen hall hk h0
  exact ⟨m, hm, hmk, h0⟩
theorem firstN_zero {rs : List RuleV} (hall : allV (kindI rs) rs) (h0 : 0 < rs.length) : ∀ n, firstN rs n 0 = 0
  | 0 => rfl
  | n + 1 => by
    have e0 : ¬ ((ruleAt rs ((0 : Nat) : Int)).kind = 4 ∨ (ruleAt rs ((0 : Nat) : Int)).kind = 5 ∨ (ruleAt rs ((0 : Nat) : Int)).kind = 6 ∨ (ruleAt rs ((0 : Nat) : Int)).kind = 9) := fun h => by
      rw [ruleAt_at h0] at h
      obtain ⟨m, _, hm, _⟩ := kid0 hall h0 h
      omega
    rw [firstN, if_neg e0]
/-- More steps than the rule's number change nothing. -/
theorem firstN_more {rs : List RuleV} (hall : allV (kindI rs) rs) : ∀ (n m k : Nat), k < rs.length → k ≤ n → k ≤ m → firstN rs n k = firstN rs m k := by
  intro n
  induction n with
  | zero =>
    intro m k hk h _
    obtain rfl : k = 0 := by omega
    rw [firstN_zero hall hk, firstN_zero hall hk]
  | succ n ih =>
    intro m k hk h h2
    cases m with
    | zero =>
      obtain rfl : k = 0 := by omega
      rw [firstN_zero hall hk, firstN_zero hall hk]
    | succ m =>
      rw [firstN, firstN]
      by_cases e : (ruleAt rs (k : Int)).kind = 4 ∨ (ruleAt rs (k : Int)).kind = 5 ∨ (ruleAt rs (k : Int)).kind = 6 ∨ (ruleAt rs (k : Int)).kind = 9
      · rw [if_pos e, if_pos e]
        have e2 := e
        rw [ruleAt_at hk] at e2 ⊢
        obtain ⟨q, hq, hqk, _⟩ := kid0 hall hk e2
        rw [hq, Int.toNat_natCast]
        exact ih m q (by omega) (by omega) (by omega)
      · rw [if_neg e, if_neg e]
/-- A rule that begins with its first kid begins as that kid. -/
theorem start_kid {rs : List RuleV} (hall : allV (kindI rs) rs) {k m : Nat} (hk : k < rs.length) (h : rs[k].kind = 4 ∨ rs[k].kind = 5 ∨ rs[k].kind = 6 ∨ rs[k].kind = 9) (hm : rs[k].kids.getD 0 0 = (m : Int)) (b : Nat) : startB rs k b = startB rs m b := by
  obtain ⟨q, hq, hqk, _⟩ := kid0 hall hk h
  obtain rfl : q = m := by omega
  unfold startB
  cases k with
  | zero => omega
  | succ k =>
    rw [firstN, if_pos (by rw [ruleAt_at hk]; exact h), ruleAt_at hk, hq, Int.toNat_natCast, firstN_more hall k q q (by omega) (by omega) (Nat.le_refl _)]
/-- .. and every other rule by itself. -/
theorem start_self {rs : List RuleV} {k : Nat} (hk : k < rs.length) (h : ¬ (rs[k].kind = 4 ∨ rs[k].kind = 5 ∨ rs[k].kind = 6 ∨ rs[k].kind = 9)) (b : Nat) : startB rs k b = startR rs rs[k] b := by
  unfold startB
  cases k with
  | zero => rw [firstN, ruleAt_at hk]
  | succ k => rw [firstN, if_neg (by rw [ruleAt_at hk]; exact h), ruleAt_at hk]
/-- A sized and an array begin with an integer: with every byte. -/
theorem start_int {rs : List RuleV} (hall : allV (kindI rs) rs) {k : Nat} (hk : k < rs.length) (h : rs[k].kind = 4 ∨ rs[k].kind = 5) (b : Nat) : startB rs k b = true := by
  obtain ⟨h1, m, hm, hmk⟩ := kid_int hall hk (by omega)
  rw [start_kid hall hk (by omega) hm]
  rw [hm, ruleAt_at (by omega)] at h1
  rw [start_self (k := m) (by omega) (by omega)]
  unfold startR
  rw [if_neg (by omega), if_neg (by omega), if_neg (by omega)]
/-- How many of the first n bytes can begin a rule. -/
def countS (f : Nat → Bool) : Nat → Nat
  | 0 => 0
  | n + 1 => countS f n + if f n = true then 1 else 0
/-- The first of n numbers from x on of which f holds; -1 if there is none. -/
def leastS (f : Nat → Bool) (x : Nat) : Nat → Int
  | 0 => -1
  | n + 1 => if f x = true then (x : Int) else leastS f (x + 1) n
theorem countS_le (f : Nat → Bool) : ∀ n, countS f n ≤ n
  | 0 => Nat.le_refl _
  | n + 1 => by
    have := countS_le f n
    unfold countS
    split <;> omega
theorem countS_congr {f g : Nat → Bool} : ∀ {n : Nat}, (∀ i, i < n → f i = g i) → countS f n = countS g n
  | 0, _ => rfl
  | n + 1, h => by
    rw [countS, countS, countS_congr fun i hi => h i (by omega), h n (by omega)]
theorem leastS_congr {f g : Nat → Bool} : ∀ {n x : Nat}, (∀ i, x ≤ i → i < x + n → f i = g i) → leastS f x n = leastS g x n
  | 0, _, _ => rfl
  | n + 1, x, h => by
    rw [leastS, leastS, h x (Nat.le_refl _) (by omega), leastS_congr fun i h1 h2 => h i (by omega) (by omega)]
/-- Whether a byte can begin a rule, where the description is valid and there is such a rule. -/
noncomputable def startK (rs : List RuleV) (k : Int) (b : Nat) : Bool := okAt rs k && startB rs k.toNat b
theorem canB_byte (rs : List RuleV) (k : Int) {b : Nat} (h : b < 256) : canB rs k (b : Int) = startK rs k b := by
  unfold canB startK
  rw [decide_eq_true (by omega), Bool.true_and, Int.toNat_natCast]
/-- The answers of CountFirstBytes, CommonStart, OnlyStart. -/
noncomputable def countD (rs : List RuleV) (k : Int) : Int := (countS (startK rs k) 256 : Nat)
noncomputable def commonD (rs : List RuleV) (a b : Int) : Int := leastS (fun x => startK rs a x && startK rs b x) 0 256
noncomputable def onlyD (rs : List RuleV) (k : Int) : Int := if countD rs k = 1 then commonD rs k k else -1
/-- The answer of TagBytes. -/
noncomputable def tagD (rs : List RuleV) (k j : Int) : List UInt8 :=
  if okAt rs k = true ∧ (ruleAt rs k).kind = 7 ∧ 0 ≤ j ∧ j < ((ruleAt rs k).tags.length : Int) then tagB rs (ruleAt rs k) ((ruleAt rs k).tags.getD j.toNat 0) else []
end Go.Proofs.Ytfmnjclnhppghaa
