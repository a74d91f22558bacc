/- The first byte of an encoding, and what the answers on first bytes say of each other. No program is walked here. -/
import Derived.Test.YtekmopoblfknlaaEncV
import Derived.Test.YtekmopoblfknlaaStartP
namespace Go.Proofs.Ytekmopoblfknlaa
open Go Go.RowKit
theorem enc_pos {rs : List RuleV} (hall : allV (kindI rs) rs) {k : Nat} (hk : k < rs.length) {v : ValueV} (hv : validV rs (k : Int) v = true) : 0 < (encV rs (k : Int) v).length := by
  have h1 := plen_low hall k hk v hv
  have h2 := low_pos hall k hk
  rw [encV_length hall k hk v hv]
  omega
theorem first_of {l : List UInt8} (h : 0 < l.length) : ∃ b rest, l = b :: rest := by
  cases l with
  | nil => simp at h
  | cons b rest => exact ⟨b, rest, rfl⟩
theorem getD_first {b : UInt8} {rest : List UInt8} : (b :: rest).getD 0 0 = b := rfl
/-- Every encoding begins with a byte that can start its rule. -/
theorem first_byte {rs : List RuleV} (hall : allV (kindI rs) rs) : ∀ (k : Nat) (_ : k < rs.length) (v : ValueV), validV rs (k : Int) v = true → ∃ b rest, encV rs (k : Int) v = b :: rest ∧ startB rs k b.toNat = true := by
  intro k
  induction k using Nat.strongRecOn with
  | _ k ih =>
    intro hk v hv
    obtain ⟨hown, hit⟩ := items_of hall hk hv
    have hki := allV_kind hall hk
    have hkn := kindI_known hki
    have hpos := enc_pos hall hk hv
    have hE := encV_eq rs (k : Int) v
    rw [ruleAt_at hk] at hE
    have any : (∀ b, startB rs k b = true) → ∃ b rest, encV rs (k : Int) v = b :: rest ∧ startB rs k b.toNat = true := fun h => by
      obtain ⟨b, rest, e⟩ := first_of hpos
      exact ⟨b, rest, e, h _⟩
    have item : 0 < v.items.length → (∃ i : Nat, rs[k].kids.getD 0 0 = (i : Int) ∧ itemR rs[k] v.number 0 = (i : Int)) → (rs[k].kind = 4 ∨ rs[k].kind = 5 ∨ rs[k].kind = 6 ∨ rs[k].kind = 9) → (∃ more, encV rs (k : Int) v = encs rs rs[k] v.number 0 v.items ++ more) → ∃ b rest, encV rs (k : Int) v = b :: rest ∧ startB rs k b.toNat = true := fun h0 ⟨i, hi, hi2⟩ hkd ⟨more, hm⟩ => by
      obtain ⟨m, hmi, hmk, hvi⟩ := hit 0 h0
      have hme : m = i := by omega
      subst hme
      obtain ⟨b, rest, e, hs⟩ := ih m hmk (by omega) _ hvi
      have h1 := encs_next (rs := rs) (r := rs[k]) (x := v.number) (q := 0) (l := v.items) h0
      rw [List.drop_zero, hmi, e] at h1
      rw [hm, h1]
      exact ⟨b, _, rfl, by rw [start_kid hall hk hkd hi]; exact hs⟩
    rcases (by omega : (rs[k].kind = 1 ∨ rs[k].kind = 3 ∨ rs[k].kind = 10) ∨ (rs[k].kind = 4 ∨ rs[k].kind = 5) ∨ rs[k].kind = 2 ∨ rs[k].kind = 6 ∨ rs[k].kind = 7 ∨ rs[k].kind = 8 ∨ rs[k].kind = 9) with e | e | e | e | e | e | e
    · exact any fun b => by
        rw [start_self hk (by omega)]
        unfold startR
        rw [if_neg (by omega), if_neg (by omega), if_neg (by omega)]
    · exact any fun b => start_int hall hk e b
    · rw [wrap_2 e] at hE
      obtain ⟨b, rest, h1⟩ := first_of hpos
      refine ⟨b, rest, h1, ?_⟩
      rw [start_self hk (by omega)]
      unfold startR
      rw [if_pos e, ← hE, h1]
      simp
    · have h6 := kindI_6 hki e
      have hlen : v.items.length = rs[k].kids.length := by simp [ownB, e] at hown; omega
      obtain ⟨m, hm, _⟩ := kid0 hall hk (.inr (.inr (.inl e)))
      exact item (by omega) ⟨m, hm, by unfold itemR; rw [if_neg (by omega), if_pos e, if_pos (by omega)]; exact hm⟩ (.inr (.inr (.inl e))) ⟨[], by rw [hE, wrap_6 e, List.append_nil]⟩
    · obtain ⟨h1, m, hm, hmk⟩ := kid_int hall hk (by omega)
      have hmr : m < rs.length := by omega
      rw [hm, ruleAt_at hmr] at h1
      rw [wrap_7 hmr hm e] at hE
      have htag : v.number ∈ rs[k].tags := by
        simp [ownB, e] at hown
        have h4 : itemR rs[k] v.number 0 = tagKid rs[k].tags (rs[k].kids.drop 1) v.number := by unfold itemR; rw [if_neg (by omega), if_neg (by omega), if_pos e]
        have h5 := hown.2.2
        rw [h4] at h5
        exact tagKid_tag h5
      have htb : tagB rs rs[k] v.number = encI rs[m].little v.number rs[m].size := by unfold tagB; rw [hm, ruleAt_at hmr]
      have hs := kindI_size (allV_kind hall hmr) h1
      have h8 : tagsB rs rs[k] = true := by have := hki; simp [kindI, meetsB, e] at this; exact this.1
      unfold tagsB at h8
      rw [Bool.and_eq_true] at h8
      have h12 : rs[k].kids.headD 0 = rs[k].kids.getD 0 0 := by cases rs[k].kids <;> rfl
      rw [h12, hm] at h8
      have h9 := tagsOk_in h8.2 _ htag
      rw [limitAt_in hmr, if_pos ⟨h1, hs⟩] at h9
      have hl := enc_len (little := rs[m].little) hs.1 hs.2 h9.1 h9.2
      obtain ⟨b, rest, h2⟩ := first_of (l := encI rs[m].little v.number rs[m].size) (by omega)
      rw [h2] at hE
      refine ⟨b, _, hE, ?_⟩
      rw [start_self hk (by omega)]
      unfold startR
      rw [if_neg (by omega), if_neg (by omega), if_pos e, List.any_eq_true]
      exact ⟨v.number, htag, by rw [htb, h2]; simp⟩
    · rw [wrap_8 e] at hE
      refine ⟨_, _, hE, ?_⟩
      rw [start_self hk (by omega)]
      unfold startR
      rw [if_neg (by omega), if_pos e]
      have h1 : v.items.length ≤ 1 := by simp [ownB, e] at hown; omega
      have h2 : (UInt8.ofNat v.items.length).toNat = v.items.length := by rw [UInt8.toNat_ofNat']; omega
      rw [h2]
      exact decide_eq_true (by omega)
    · have h9 := kindI_9 hki e
      have hlen : v.items.length = 1 := by simp [ownB, e] at hown; omega
      obtain ⟨m, hm, _⟩ := kid0 hall hk (.inr (.inr (.inr e)))
      exact item (by omega) ⟨m, hm, by unfold itemR; rw [if_neg (by omega), if_neg (by omega), if_neg (by omega), if_pos (.inr e)]; exact hm⟩ (.inr (.inr (.inr e))) ⟨_, by rw [hE, wrap_9 e]⟩
theorem countS_pos {f : Nat → Bool} : ∀ {n i : Nat}, i < n → f i = true → 1 ≤ countS f n
  | 0, _, h, _ => by omega
  | n + 1, i, h, hf => by
    unfold countS
    by_cases e : i = n
    · subst e; rw [if_pos hf]; omega
    · have := countS_pos (n := n) (by omega) hf
      omega
theorem leastS_sound {f : Nat → Bool} : ∀ {n x : Nat}, 0 ≤ leastS f x n → ∃ i : Nat, leastS f x n = (i : Int) ∧ x ≤ i ∧ i < x + n ∧ f i = true
  | 0, _, h => by unfold leastS at h; omega
  | n + 1, x, h => by
    unfold leastS at h ⊢
    by_cases e : f x = true
    · rw [if_pos e]; exact ⟨x, rfl, by omega, by omega, e⟩
    · rw [if_neg e] at h ⊢
      obtain ⟨i, h1, h2, h3, h4⟩ := leastS_sound h
      exact ⟨i, h1, by omega, by omega, h4⟩
theorem leastS_some {f : Nat → Bool} : ∀ {n x i : Nat}, x ≤ i → i < x + n → f i = true → 0 ≤ leastS f x n
  | 0, _, _, h1, h2, _ => by omega
  | n + 1, x, i, h1, h2, hf => by
    unfold leastS
    by_cases e : f x = true
    · rw [if_pos e]; omega
    · rw [if_neg e]
      have : i ≠ x := fun h => e (by rw [← h]; exact hf)
      exact leastS_some (by omega) (by omega) hf
theorem leastS_ge {f : Nat → Bool} : ∀ {n x : Nat}, -1 ≤ leastS f x n
  | 0, _ => by unfold leastS; omega
  | n + 1, x => by
    unfold leastS
    split
    · omega
    · exact leastS_ge
theorem common_sound {rs : List RuleV} {a b : Int} (h : 0 ≤ commonD rs a b) : canB rs a (commonD rs a b) = true ∧ canB rs b (commonD rs a b) = true ∧ commonD rs a b ≤ 255 := by
  obtain ⟨i, h1, _, h3, h4⟩ := leastS_sound (f := fun x => startK rs a x && startK rs b x) h
  have h5 : commonD rs a b = (i : Int) := h1
  rw [h5, canB_byte rs a (by omega), canB_byte rs b (by omega)]
  simp only [Bool.and_eq_true] at h4
  exact ⟨h4.1, h4.2, by omega⟩
/-- What the law asks of a rule of which a value is known. -/
theorem firsts_of {rs : List RuleV} (hall : allV (kindI rs) rs) {k : Nat} (hk : k < rs.length) (hok : okAt rs (k : Int) = true) {v : ValueV} (hv : validV rs (k : Int) v = true) :
    1 ≤ countD rs (k : Int) ∧ countD rs (k : Int) ≤ 256 ∧ (countD rs (k : Int) == 1) = decide (0 ≤ onlyD rs (k : Int)) ∧ (0 ≤ onlyD rs (k : Int) → canB rs (k : Int) (onlyD rs (k : Int)) = true) ∧ canB rs (k : Int) 256 = false := by
  obtain ⟨b, rest, he, hb⟩ := first_byte hall k hk v hv
  have hs : startK rs (k : Int) b.toNat = true := by unfold startK; rw [hok, Bool.true_and, Int.toNat_natCast]; exact hb
  have hlt := b.toNat_lt
  have h1 := countS_pos (n := 256) hlt hs
  have h2 := countS_le (startK rs (k : Int)) 256
  have hc : countD rs (k : Int) = ((countS (startK rs (k : Int)) 256 : Nat) : Int) := rfl
  have h0 : 0 ≤ commonD rs (k : Int) (k : Int) := leastS_some (x := 0) (n := 256) (i := b.toNat) (by omega) (by omega) (by simp [hs])
  refine ⟨by rw [hc]; omega, by rw [hc]; omega, ?_, ?_, ?_⟩
  · unfold onlyD
    by_cases e : countD rs (k : Int) = 1
    · rw [if_pos e, e, decide_eq_true h0]; rfl
    · rw [if_neg e, decide_eq_false (by omega)]
      simpa using e
  · intro h
    unfold onlyD at h ⊢
    by_cases e : countD rs (k : Int) = 1
    · rw [if_pos e]; exact (common_sound h0).1
    · rw [if_neg e] at h; omega
  · unfold canB
    rw [decide_eq_false (by omega), Bool.false_and, Bool.and_false]
end Go.Proofs.Ytekmopoblfknlaa
