/- Plain facts on the values of decimal digits (no program in this text). -/
import Derived.Test.YtfmnjclnhppghabGreatDoorGBase
import Derived.Lib.Atoi
import Derived.Lib.AtoiTie
namespace Go.Proofs.YtfmnjclnhppghabGreatDoor
open Go
/-- The text is the decimal form of n, and n is at most MaxValue. -/
def Spells (s : ByteArray) (n : Nat) : Prop := n ≤ 1000000000000 ∧ s.data.toList = Lib.decDigits n
theorem digitVal_of (d : Nat) (h : d < 10) : Lib.digitVal (UInt8.ofNat (48 + d)) = some d := by
  have e : (UInt8.ofNat (48 + d)).toNat = 48 + d := by simp; omega
  unfold Lib.digitVal
  rw [e, if_pos (by omega)]
  congr 1; omega
theorem decFrom_snoc : ∀ (l : List UInt8) (acc m : Nat) (c : UInt8) (d : Nat), Lib.decFrom acc l = some m → Lib.digitVal c = some d → Lib.decFrom acc (l ++ [c]) = some (m * 10 + d)
  | [], acc, m, c, d, h, hc => by
    simp only [Lib.decFrom, Option.some.injEq] at h
    subst h
    simp [Lib.decFrom, hc]
  | b :: r, acc, m, c, d, h, hc => by
    simp only [List.cons_append, Lib.decFrom] at h ⊢
    cases hb : Lib.digitVal b with
    | none => simp [hb] at h
    | some e =>
      simp only [hb] at h ⊢
      exact decFrom_snoc r _ m c d h hc
theorem decFrom_digits (n : Nat) : Lib.decFrom 0 (Lib.decDigits n) = some n := by
  induction n using Nat.strongRecOn with
  | _ n ih =>
    by_cases h : n < 10
    · rw [Lib.decDigits_one h, ← List.nil_append [_], decFrom_snoc [] 0 0 _ n rfl (digitVal_of n h)]
      congr 1; omega
    · rw [Lib.decDigits, dif_neg h, decFrom_snoc _ _ _ _ _ (ih (n / 10) (by omega)) (digitVal_of (n % 10) (by omega))]
      congr 1; omega
theorem digits_ne (n : Nat) : Lib.decDigits n ≠ [] := by
  intro h
  have := Lib.decDigits_length n
  rw [h] at this
  have h1 := Lib.nDigits_pos n
  simp at this
  omega
theorem digits_length {n : Nat} (h : n ≤ 1000000000000) : 1 ≤ (Lib.decDigits n).length ∧ (Lib.decDigits n).length ≤ 13 := by
  rw [Lib.decDigits_length]
  exact ⟨Lib.nDigits_pos n, nDigits_le 13 n (by omega) (by omega)⟩
theorem atoiAll_digits {n : Nat} (h : n ≤ 1000000000000) : Lib.atoiAll (Lib.decDigits n) = .ok (n : Int) := by
  rw [Lib.atoiAll_short _ (by have := digits_length h; omega)]
  have hd := decFrom_digits n
  cases hl : Lib.decDigits n with
  | nil => exact absurd hl (digits_ne n)
  | cons b r =>
    rw [hl] at hd
    obtain ⟨d, hb⟩ := Lib.digit_of_decFrom _ _ _ hd 0 b rfl
    obtain ⟨b1, b2, _⟩ := Lib.digitVal_eq hb
    have n1 : (b == 45) = false := by
      simp only [beq_eq_false_iff_ne]; rintro rfl; simp at b1
    have n2 : (b == 43) = false := by
      simp only [beq_eq_false_iff_ne]; rintro rfl; simp at b1
    simp [Lib.atoi, n1, n2, Lib.decNat, hd, Lib.NumEnd.ofOption]
/-- At a text that spells v, the numeral of v. -/
theorem itoa_nat (v : Nat) : Lib.itoa (v : Int) = Lib.decDigits v := by unfold Lib.itoa; rw [if_neg (by omega)]; simp
theorem bytes_ext {s : ByteArray} {l : List UInt8} (h : s.data.toList = l) : s = ⟨l.toArray⟩ := by
  obtain ⟨⟨x⟩⟩ := s
  simp at h; subst h; rfl
theorem spells_unique {s : ByteArray} {n m : Nat} (h : Spells s n) (k : Spells s m) : n = m := by
  have h1 := decFrom_digits n
  have h2 := decFrom_digits m
  rw [← h.2, k.2, h2] at h1
  injection h1 with h1
  exact h1.symm
end Go.Proofs.YtfmnjclnhppghabGreatDoor
