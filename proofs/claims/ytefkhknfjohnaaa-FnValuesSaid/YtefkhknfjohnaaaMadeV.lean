/- Values that are drawn: valid, and not too long. No program is walked here. -/
import Derived.Test.YtefkhknfjohnaaaPE
import Derived.Test.YtefkhknfjohnaaaGV
namespace Go.Proofs.Ytefkhknfjohnaaa
open Go Go.RowKit
theorem esc_le (t : UInt8) : ∀ bs : List UInt8, escLen t bs ≤ 2 * bs.length
  | [] => by simp [escLen]
  | b :: bs => by
    have := esc_le t bs
    rw [escLen, List.length_cons]
    split <;> omega
theorem plens_le {rs : List RuleV} {r : RuleV} {x : Int} {B : Nat} : ∀ (l : List ValueV) (i : Nat), (∀ q (h : q < l.length), plen rs (itemR r x (i + q)) l[q] ≤ B) → plens rs r x i l ≤ l.length * B
  | [], i, _ => by simp [plens]
  | v :: l, i, hl => by
    rw [plens, List.length_cons, Nat.add_mul, Nat.one_mul]
    have h0 := hl 0 (by simp)
    have ih := plens_le l (i + 1) (fun q hq => by
      have := hl (q + 1) (by simpa using hq)
      rw [show i + (q + 1) = i + 1 + q from by omega] at this
      simpa using this)
    simp only [Nat.add_zero, List.getElem_cons_zero] at h0
    omega
theorem validL_of {rs : List RuleV} {r : RuleV} {x : Int} : ∀ (l : List ValueV) (i : Nat), (∀ q (h : q < l.length), validV rs (itemR r x (i + q)) l[q] = true) → validL rs r x i l = true
  | [], i, _ => by rw [validL]
  | v :: l, i, hl => by
    rw [validL, Bool.and_eq_true]
    have h0 := hl 0 (by simp)
    simp only [Nat.add_zero, List.getElem_cons_zero] at h0
    exact ⟨h0, validL_of l (i + 1) (fun q hq => by
      have := hl (q + 1) (by simpa using hq)
      rw [show i + (q + 1) = i + 1 + q from by omega] at this
      simpa using this)⟩
/-- A drawn value of the rule k. -/
def MadeVal (rs : List RuleV) (k : Nat) (v : ValueV) : Prop := validV rs (k : Int) v = true ∧ plen rs (k : Int) v ≤ 200 * 9 ^ (k + 1) ∧ sizV v ≤ 72 * 9 ^ k
theorem sizL_le {B : Nat} : ∀ l : List ValueV, (∀ q (h : q < l.length), sizV l[q] ≤ B) → sizL l ≤ l.length * B
  | [], _ => by simp [sizL]
  | v :: l, hl => by
    rw [sizL, List.length_cons, Nat.add_mul, Nat.one_mul]
    have h0 := hl 0 (by simp)
    have ih := sizL_le l (fun q hq => by have := hl (q + 1) (by simpa using hq); simpa using this)
    simp only [List.getElem_cons_zero] at h0
    omega
theorem head_le {rs : List RuleV} (hall : allV (kindI rs) rs) {k : Nat} (hk : k < rs.length) {v : ValueV} (hb : v.bytes.length ≤ 64) : headLen rs rs[k] v.bytes ≤ 192 := by
  have hki := allV_kind hall hk
  have hkn := kindI_known hki
  have hint : rs[k].kind = 4 ∨ rs[k].kind = 5 ∨ rs[k].kind = 7 → (ruleAt rs (rs[k].kids.getD 0 0)).size ≤ 4 := fun h => by
    obtain ⟨h1, m, hm, hmk⟩ := kid_int hall hk h
    rw [hm] at h1 ⊢
    rw [ruleAt_at (by omega)] at h1 ⊢
    exact (kindI_size (allV_kind hall (by omega)) h1).2
  rcases (by omega : rs[k].kind = 1 ∨ rs[k].kind = 2 ∨ rs[k].kind = 3 ∨ rs[k].kind = 4 ∨ rs[k].kind = 5 ∨ rs[k].kind = 6 ∨ rs[k].kind = 7 ∨ rs[k].kind = 8 ∨ rs[k].kind = 9 ∨ rs[k].kind = 10) with e | e | e | e | e | e | e | e | e | e
  · have := kindI_size hki e; simp [headLen, e]; omega
  · have h2 : rs[k].bytes.length ≤ 16 := by simp [kindI, meetsB, e] at hki; omega
    simp [headLen, e]; omega
  · simp [headLen, e]; omega
  · have h9 := hint (by omega); simp [headLen, e] at h9 ⊢; omega
  · have h9 := hint (by omega); simp [headLen, e] at h9 ⊢; omega
  · simp [headLen, e]
  · have h9 := hint (by omega); simp [headLen, e] at h9 ⊢; omega
  · simp [headLen, e]
  · simp [headLen, e]
  · have := esc_le (rs[k].bytes.getD 0 0) v.bytes; simp [headLen, e] at this ⊢; omega
/-- A value whose own fields fit and whose items were drawn was drawn. -/
theorem made_node {rs : List RuleV} (hall : allV (kindI rs) rs) {k : Nat} (hk : k < rs.length) {v : ValueV} (ho : ownB rs rs[k] v = true) (hb : v.bytes.length ≤ 64) (hi : v.items.length ≤ 8)
    (hit : ∀ q (h : q < v.items.length), ∃ m : Nat, itemR rs[k] v.number q = (m : Int) ∧ m < k ∧ MadeVal rs m v.items[q]) : MadeVal rs k v := by
  refine ⟨?_, ?_, ?_⟩
  · rw [validV_eq, ruleAt_at hk, ho, Bool.true_and]
    refine validL_of _ _ fun q hq => ?_
    obtain ⟨m, hm, hmk, hv, -⟩ := hit q hq
    rw [Nat.zero_add, hm]
    exact hv
  · rw [plen_eq, ruleAt_at hk]
    have h1 := head_le hall hk hb
    have h2 : plens rs rs[k] v.number 0 v.items ≤ v.items.length * (200 * 9 ^ k) := plens_le _ _ fun q hq => by
      obtain ⟨m, hm, hmk, -, hp, -⟩ := hit q hq
      rw [Nat.zero_add, hm]
      refine Nat.le_trans hp (Nat.mul_le_mul_left 200 (Nat.pow_le_pow_right (by decide) (by omega)))
    have h3 : v.items.length * (200 * 9 ^ k) ≤ 8 * (200 * 9 ^ k) := Nat.mul_le_mul_right _ hi
    have h4 : 1 ≤ 9 ^ k := Nat.one_le_pow _ _ (by decide)
    rw [Nat.pow_succ]
    omega
  · rw [sizV_eq]
    by_cases h0 : v.items.length = 0
    · have e : v.items = [] := List.eq_nil_of_length_eq_zero h0
      have h4 : 1 ≤ 9 ^ k := Nat.one_le_pow _ _ (by decide)
      rw [e]
      simp only [List.length_nil, sizL]
      omega
    · obtain ⟨m0, -, hm0, -⟩ := hit 0 (by omega)
      obtain ⟨j, rfl⟩ : ∃ j, k = j + 1 := ⟨k - 1, by omega⟩
      have h2 : sizL v.items ≤ v.items.length * (72 * 9 ^ j) := sizL_le _ fun q hq => by
        obtain ⟨m, hm, hmk, -, -, hp⟩ := hit q hq
        exact Nat.le_trans hp (Nat.mul_le_mul_left 72 (Nat.pow_le_pow_right (by decide) (by omega)))
      have h3 : v.items.length * (72 * 9 ^ j) ≤ 8 * (72 * 9 ^ j) := Nat.mul_le_mul_right _ hi
      have h4 : 1 ≤ 9 ^ j := Nat.one_le_pow _ _ (by decide)
      rw [Nat.pow_succ]
      omega
theorem made_siz {rs : List RuleV} {k : Nat} {v : ValueV} (h : MadeVal rs k v) (hk : k < 6) : sizV v ≤ 4251528 :=
  Nat.le_trans h.2.2 (Nat.le_trans (Nat.mul_le_mul_left 72 (Nat.pow_le_pow_right (by decide) (show k ≤ 5 from by omega))) (by decide))
theorem made_short9 {rs : List RuleV} {k : Nat} {v : ValueV} (h : MadeVal rs k v) (hk : k < 9) : plen rs (k : Int) v ≤ 1099511627776 := by
  refine Nat.le_trans h.2.1 (Nat.le_trans (Nat.mul_le_mul_left 200 (Nat.pow_le_pow_right (by decide) (show k + 1 ≤ 9 from by omega))) (by decide))
/-- The kid of a tag of a choice, where the tags rise. -/
theorem tagKid_at {lim : Int} : ∀ {lo : Int} {ts ks : List Int} {j : Nat} (_ : tagsOk lim lo ts = true) (_ : ts.length ≤ ks.length) (h : j < ts.length) (h2 : j < ks.length), tagKid ts ks ts[j] = ks[j]
  | lo, [], ks, j, _, _, h, _ => by simp at h
  | lo, t :: ts, [], j, _, hl, _, h2 => by simp at h2
  | lo, t :: ts, k :: ks, 0, _, _, _, _ => by simp [tagKid]
  | lo, t :: ts, k :: ks, j + 1, ht, hl, h, h2 => by
    unfold tagsOk at ht
    rw [Bool.and_eq_true] at ht
    have hj : j < ts.length := by simpa using h
    have h3 := tagsOk_in ht.2 ts[j] (List.getElem_mem hj)
    unfold tagKid
    simp only [List.getElem_cons_succ]
    rw [if_neg (by omega)]
    exact tagKid_at ht.2 (by simpa using hl) hj (by simpa using h2)
end Go.Proofs.Ytefkhknfjohnaaa
