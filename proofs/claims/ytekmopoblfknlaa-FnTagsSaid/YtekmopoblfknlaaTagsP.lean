/- What the bytes of a tag tell: the tag itself, a first byte, no other tag. No program is walked here. -/
import Derived.Test.YtekmopoblfknlaaTagP
import Derived.Test.YtekmopoblfknlaaChoice
import Derived.Test.YtekmopoblfknlaaGEnd
import Derived.Test.YtekmopoblfknlaaIStarts
namespace Go.Proofs.Ytekmopoblfknlaa
open Go Go.RowKit
theorem readB_beB8 (m : Nat) : ∀ (S k : Nat), readB (beB m S) k = k * 256 ^ S + m % 256 ^ S
  | 0, k => by simp [beB, readB, Nat.mod_one]
  | S + 1, k => by
    have e0 : m % 256 ^ (S + 1) = m % 256 ^ S + 256 ^ S * (m / 256 ^ S % 256) := by rw [Nat.pow_succ, Nat.mod_mul]
    have e1 : k * 256 ^ (S + 1) = k * 256 * 256 ^ S := by rw [Nat.pow_succ, Nat.mul_comm (256 ^ S) 256, Nat.mul_assoc]
    rw [beB, readB, readB_beB8 m S, UInt8.toNat_ofNat', e0, e1, Nat.add_mul, show (2 : Nat) ^ 8 = 256 from rfl, Nat.mul_comm (m / 256 ^ S % 256)]
    omega
theorem read_enc {little : Bool} {x s : Int} (h1 : 1 ≤ s) (h4 : s ≤ 4) (h0 : 0 ≤ x) (hx : x ≤ pow256 s - 1) : (readI (encI little x s) little : Int) = x := by
  have hl := enc_len (little := little) h1 h4 h0 hx
  have hp := pow_eq h1 h4
  obtain ⟨S, rfl⟩ : ∃ S : Nat, s = (S : Int) := ⟨s.toNat, by omega⟩
  obtain ⟨m, rfl⟩ : ∃ m : Nat, x = (m : Int) := ⟨x.toNat, by omega⟩
  rw [Int.toNat_natCast] at hl hp
  have hm : m < 256 ^ S := by
    have h2 : ((m : Nat) : Int) < (256 : Int) ^ S := by omega
    have h3 : ((256 ^ S : Nat) : Int) = (256 : Int) ^ S := Int.natCast_pow 256 S
    omega
  have e : beOf (m : Int) (S : Int) = beB m S := by
    unfold beOf
    rw [Int.toNat_natCast, Int.toNat_natCast, if_pos ⟨h1, h4, h0, by omega⟩]
  have hr : readB (beB m S) 0 = m := by rw [readB_beB8, Nat.zero_mul, Nat.zero_add, Nat.mod_eq_of_lt hm]
  unfold readI
  rw [if_neg (by omega)]
  unfold encI orderB
  rw [e]
  cases little <;> simp [hr]
theorem tags_lo {lim : Int} : ∀ {lo : Int} {ts : List Int}, tagsOk lim lo ts = true → ∀ (i j : Nat) (hi : i < ts.length) (hj : j < ts.length), i < j → ts[i] < ts[j]
  | _, [], _, i, _, hi, _, _ => by simp at hi
  | lo, t :: ts, h, i, j, hi, hj, hij => by
    rw [tagsOk, Bool.and_eq_true] at h
    obtain ⟨j, rfl⟩ : ∃ q, j = q + 1 := ⟨j - 1, by omega⟩
    rw [List.getElem_cons_succ]
    cases i with
    | zero =>
      rw [List.getElem_cons_zero]
      have := (tagsOk_in h.2 _ (List.getElem_mem (show j < ts.length by simpa using hj))).1
      omega
    | succ i =>
      rw [List.getElem_cons_succ]
      exact tags_lo h.2 i j (by simpa using hi) (by simpa using hj) (by omega)
theorem tags_facts {rs : List RuleV} {k j : Int} (h : tagD rs k j ≠ []) : ∃ (m t q : Nat) (hm : m < rs.length) (ht : t < rs[m].tags.length) (hq : q < rs.length), k = (m : Int) ∧ j = (t : Int) ∧ 0 < rs[m].kids.length ∧ rs[m].kids.getD 0 0 = (q : Int) ∧ rs[m].tags.length ≤ 8 ∧
    (∀ i : Nat, i < rs[m].tags.length → i ≠ t → tagD rs k (i : Int) ≠ tagD rs k j) ∧ (∀ b rest, tagD rs k j = b :: rest → canB rs k (b.toNat : Int) = true) ∧ (readI (tagD rs k j) rs[q].little : Int) = rs[m].tags[t] := by
  have h0 : okAt rs k = true ∧ (ruleAt rs k).kind = 7 ∧ 0 ≤ j ∧ j < ((ruleAt rs k).tags.length : Int) := Classical.byContradiction fun e => h (tagD_no e)
  obtain ⟨hok, hk7, j0, j1⟩ := h0
  obtain ⟨⟨k0, k1⟩, _, hall⟩ := okAt_yes hok
  obtain ⟨m, rfl⟩ : ∃ m : Nat, k = (m : Int) := ⟨k.toNat, by omega⟩
  obtain ⟨t, rfl⟩ : ∃ t : Nat, j = (t : Int) := ⟨j.toNat, by omega⟩
  have hm : m < rs.length := by omega
  rw [ruleAt_at hm] at hk7 j1
  have ht : t < rs[m].tags.length := by omega
  obtain ⟨q, hqe, hqm, hq, hkl, ht8, htag⟩ := choice_facts hall hm hk7
  have hki := allV_kind hall hm
  obtain ⟨h1, q2, hq2, _⟩ := kid_int hall hm (.inr (.inr hk7))
  have hqq : q2 = q := by omega
  subst hqq
  rw [hq2, ruleAt_at hq] at h1
  have hs := kindI_size (allV_kind hall hq) h1
  have h8 : tagsB rs rs[m] = true := by simp [kindI, meetsB, hk7] at hki; exact hki.1
  unfold tagsB at h8
  rw [Bool.and_eq_true] at h8
  have h12 : rs[m].kids.headD 0 = rs[m].kids.getD 0 0 := by cases rs[m].kids <;> rfl
  rw [h12, hqe] at h8
  have hin : ∀ x ∈ rs[m].tags, 0 ≤ x ∧ x ≤ pow256 rs[q2].size - 1 := fun x hx => by
    have h9 := tagsOk_in h8.2 x hx
    rw [limitAt_in hq, if_pos ⟨h1, hs⟩] at h9
    exact h9
  have hrd : ∀ x ∈ rs[m].tags, (readI (tagB rs rs[m] x) rs[q2].little : Int) = x := fun x hx => by
    rw [(htag x hx).1]
    exact read_enc hs.1 hs.2 (hin x hx).1 (hin x hx).2
  have hmem : ∀ (i : Nat) (hi : i < rs[m].tags.length), rs[m].tags[i] ∈ rs[m].tags := fun i hi => List.getElem_mem hi
  refine ⟨m, t, q2, hm, ht, hq, rfl, rfl, hkl, hqe, ht8, fun i hi hne e => ?_, fun b rest hb => ?_, ?_⟩
  · rw [tagD_yes hok hm hk7 hi, tagD_yes hok hm hk7 ht] at e
    have e1 := hrd _ (hmem i hi)
    have e2 := hrd _ (hmem t ht)
    rw [e] at e1
    have e3 : rs[m].tags[i] = rs[m].tags[t] := e1.symm.trans e2
    rcases Nat.lt_or_gt_of_ne hne with hlt | hlt
    · have := tags_lo h8.2 i t hi ht hlt; omega
    · have := tags_lo h8.2 t i ht hi hlt; omega
  · rw [tagD_yes hok hm hk7 ht] at hb
    rw [canB_byte rs _ b.toNat_lt]
    unfold startK
    rw [hok, Bool.true_and, Int.toNat_natCast, start_self hm (by omega), startR_choice rs hk7]
    unfold tagsU
    rw [List.take_length, List.any_eq_true]
    exact ⟨_, hmem t ht, by rw [hb]; simp⟩
  · rw [tagD_yes hok hm hk7 ht]
    exact hrd _ (hmem t ht)
theorem tagD_le (rs : List RuleV) (k j : Int) : (tagD rs k j).length ≤ 4 := by
  unfold tagD tagB encI
  split
  · split
    · rw [List.length_reverse]; exact beOf_length _ _
    · exact beOf_length _ _
  · simp
end Go.Proofs.Ytekmopoblfknlaa
