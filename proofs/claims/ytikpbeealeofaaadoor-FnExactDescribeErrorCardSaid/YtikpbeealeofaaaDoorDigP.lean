/- Numbers and hexadecimal digits that are read out of a text, as data. No program is walked here. -/
import Derived.Test.YtikpbeealeofaaaDoorParseHex
import Derived.Test.YtikpbeealeofaaaDoorTxt2
namespace Go.Proofs.YtikpbeealeofaaaDoor
open Go Go.RowKit
/-- The number that leading digits add to a number, m digits at most, and how many digits there are. -/
def readD : Nat → List UInt8 → Nat → Nat × Nat
  | 0, _, n => (n, 0)
  | _ + 1, [], n => (n, 0)
  | m + 1, c :: l, n => if 48 ≤ c.toNat ∧ c.toNat ≤ 57 then ((readD m l (n * 10 + (c.toNat - 48))).1, (readD m l (n * 10 + (c.toNat - 48))).2 + 1) else (n, 0)
theorem readD_nil (m n : Nat) : readD m [] n = (n, 0) := by cases m <;> rfl
theorem readD_stop {m n : Nat} {c : UInt8} {l : List UInt8} (h : ¬ (48 ≤ c.toNat ∧ c.toNat ≤ 57)) : readD m (c :: l) n = (n, 0) := by
  cases m with
  | zero => rfl
  | succ m => rw [readD, if_neg h]
theorem readD_len : ∀ (m : Nat) (l : List UInt8) (n : Nat), (readD m l n).2 ≤ l.length ∧ (readD m l n).2 ≤ m
  | 0, _, _ => ⟨Nat.zero_le _, Nat.le_refl _⟩
  | _ + 1, [], _ => ⟨Nat.zero_le _, Nat.zero_le _⟩
  | m + 1, c :: l, n => by
    rw [readD]
    split
    · have := readD_len m l (n * 10 + (c.toNat - 48)); simp; omega
    · simp
theorem readD_le : ∀ (m : Nat) (l : List UInt8) (n : Nat), (readD m l n).1 + 1 ≤ (n + 1) * 10 ^ m
  | 0, _, n => by simp [readD]
  | m + 1, [], n => by
    have : 0 < 10 ^ (m + 1) := Nat.pos_of_ne_zero (by simp)
    rw [readD]; exact Nat.le_mul_of_pos_right _ this
  | m + 1, c :: l, n => by
    rw [readD]
    split
    · rename_i h
      have h1 := readD_le m l (n * 10 + (c.toNat - 48))
      have h2 : (n * 10 + (c.toNat - 48) + 1) * 10 ^ m ≤ ((n + 1) * 10) * 10 ^ m := Nat.mul_le_mul_right _ (by omega)
      have h3 : ((n + 1) * 10) * 10 ^ m = (n + 1) * 10 ^ (m + 1) := by rw [Nat.pow_succ, Nat.mul_assoc, Nat.mul_comm 10]
      show (readD m l (n * 10 + (c.toNat - 48))).1 + 1 ≤ _
      omega
    · have : 0 < 10 ^ (m + 1) := Nat.pos_of_ne_zero (by simp)
      exact Nat.le_mul_of_pos_right _ this
theorem readD_ten (l : List UInt8) : (readD 10 l 0).1 ≤ 9999999999 := by have := readD_le 10 l 0; omega
/-- What ReadDigits gives. -/
noncomputable def digN (s : ByteArray) (at_ : Int) : Int := if 0 ≤ at_ ∧ at_ < (s.size : Int) then ((readD 10 ((lst s).drop at_.toNat) 0).1 : Int) else 0
noncomputable def digE (s : ByteArray) (at_ : Int) : Int := if 0 ≤ at_ ∧ at_ < (s.size : Int) then at_ + ((readD 10 ((lst s).drop at_.toNat) 0).2 : Int) else at_
theorem dig_at {s : ByteArray} {p : Nat} (h : p ≤ s.size) : digN s (p : Int) = ((readD 10 ((lst s).drop p) 0).1 : Int) ∧ digE s (p : Int) = ((p + (readD 10 ((lst s).drop p) 0).2 : Nat) : Int) := by
  unfold digN digE
  by_cases h1 : p < s.size
  · rw [if_pos (by omega), if_pos (by omega), Int.toNat_natCast]
    exact ⟨rfl, by omega⟩
  · have : p = s.size := by omega
    subst this
    rw [if_neg (by omega), if_neg (by omega), drop_end, readD_nil]
    exact ⟨rfl, by omega⟩
/-- The bytes of the leading pairs of hexadecimal digits, and how many digits these are. -/
def readH : List UInt8 → List UInt8 × Nat
  | a :: b :: l => if 0 ≤ hexV a ∧ 0 ≤ hexV b then (UInt8.ofNat (hexV a * 16 + hexV b).toNat :: (readH l).1, (readH l).2 + 2) else ([], 0)
  | _ => ([], 0)
/-- How many leading hexadecimal digits there are. -/
def runH : List UInt8 → Nat
  | a :: l => if 0 ≤ hexV a then runH l + 1 else 0
  | [] => 0
theorem readH_unhex : ∀ (n : Nat) (l : List UInt8), l.length ≤ n → unhex (l.take (readH l).2) = some (readH l).1 ∧ (readH l).2 ≤ l.length ∧ (readH l).2 = 2 * (readH l).1.length
  | 0, l, h => by
    have : l = [] := List.eq_nil_of_length_eq_zero (by omega)
    subst this
    simp [readH, unhex]
  | n + 1, l, h => by
    match l, h with
    | [], _ => simp [readH, unhex]
    | [a], _ => simp [readH, unhex]
    | a :: b :: l, h =>
      rw [readH]
      split
      · rename_i hh
        obtain ⟨h1, h2, h3⟩ := readH_unhex n l (by simp at h; omega)
        refine ⟨?_, by simp; omega, by simp; omega⟩
        simp only [List.take_succ_cons, unhex]
        rw [if_pos hh, h1]
        rfl
      · simp [unhex]
theorem runH_read : ∀ (n : Nat) (l : List UInt8), l.length ≤ n → runH l - runH l % 2 = (readH l).2
  | 0, l, h => by
    have : l = [] := List.eq_nil_of_length_eq_zero (by omega)
    subst this
    simp [readH, runH]
  | n + 1, l, h => by
    match l, h with
    | [], _ => simp [readH, runH]
    | [a], _ => simp only [readH, runH]; split <;> simp
    | a :: b :: l, h =>
      have ih := runH_read n l (by simp at h; omega)
      simp only [readH, runH]
      by_cases ha : 0 ≤ hexV a
      · by_cases hb : 0 ≤ hexV b
        · rw [if_pos ha, if_pos hb, if_pos ⟨ha, hb⟩]
          show _ = (readH l).2 + 2
          rw [← ih]
          omega
        · rw [if_pos ha, if_neg hb, if_neg (fun h => hb h.2)]
      · rw [if_neg ha, if_neg (fun h => ha h.1)]
theorem runH_len : ∀ l : List UInt8, runH l ≤ l.length
  | [] => Nat.le_refl _
  | a :: l => by rw [runH]; have := runH_len l; split <;> simp; omega
/-- What ReadHexDigits gives. -/
noncomputable def hexRB (s : ByteArray) (at_ : Int) : List UInt8 := if 0 ≤ at_ ∧ at_ ≤ (s.size : Int) then (readH ((lst s).drop at_.toNat)).1 else []
noncomputable def hexRE (s : ByteArray) (at_ : Int) : Int := if 0 ≤ at_ ∧ at_ ≤ (s.size : Int) then at_ + ((readH ((lst s).drop at_.toNat)).2 : Int) else at_
theorem hexR_at {s : ByteArray} {p : Nat} (h : p ≤ s.size) : hexRB s (p : Int) = (readH ((lst s).drop p)).1 ∧ hexRE s (p : Int) = ((p + (readH ((lst s).drop p)).2 : Nat) : Int) := by
  unfold hexRB hexRE
  rw [if_pos (by omega), if_pos (by omega), Int.toNat_natCast]
  exact ⟨rfl, by omega⟩
theorem parse_read {s : ByteArray} {p e : Nat} (he : e = p + (readH ((lst s).drop p)).2) : (parseHexOf (s.extract p e).data.toList).1 = (readH ((lst s).drop p)).1 := by
  have h1 : (s.extract p e).data.toList = ((lst s).drop p).take (readH ((lst s).drop p)).2 := by
    rw [extract_txt, he, Nat.add_sub_cancel_left]
    exact lst_txt _
  rw [h1]
  unfold parseHexOf
  rw [(readH_unhex _ _ (Nat.le_refl _)).1]
end Go.Proofs.YtikpbeealeofaaaDoor
