/- Used rules, as plain functions. No program is walked here. The length of an encoding lies between both bounds of its rule. No program is walked here. -/
import Derived.Test.YtefkhknfjohnaaaGV
namespace Go.Proofs.Ytefkhknfjohnaaa
open Go Go.RowKit
/-- Which rules are marked, when the kids of one are marked too. -/
def markK (u : Nat → Bool) (ks : List Int) : Nat → Bool := fun i => u i || ks.contains (i : Int)
theorem markK_nil (u : Nat → Bool) : markK u [] = u := by funext i; simp [markK]
theorem markK_next (u : Nat → Bool) {ks : List Int} {j m : Nat} (h : j < ks.length) (e : ks[j] = (m : Int)) : markK u (ks.take (j + 1)) = fun i => if i = m then true else markK u (ks.take j) i := by
  funext i
  unfold markK
  rw [List.take_succ_eq_append_getElem h, e]
  by_cases hi : i = m
  · subst hi; simp
  · rw [if_neg hi]
    have : ¬ ((i : Int) = (m : Int)) := by omega
    simp [this]
/-- The marks when the rules from n - 1 down to 0 have been looked at. -/
def down (rs : List RuleV) : Nat → (Nat → Bool) → (Nat → Bool)
  | 0, u => u
  | n + 1, u => down rs n (if u n = true then markK u (if h : n < rs.length then rs[n].kids else []) else u)
/-- The marks at first. -/
def mark1 (k : Nat) : Nat → Bool := fun i => decide (i = k)
/-- The rules that a rule uses, as marks. -/
def usedBy (rs : List RuleV) (k : Nat) : Nat → Bool := down rs (k + 1) (mark1 k)
theorem down_next {rs : List RuleV} {n : Nat} {u : Nat → Bool} (h : n < rs.length) : down rs (n + 1) u = down rs n (if u n = true then markK u rs[n].kids else u) := by
  rw [down, dif_pos h]
/-- The indexes below n at which p holds. -/
def picks (p : Nat → Bool) : Nat → List Int
  | 0 => []
  | n + 1 => if p n = true then picks p n ++ [(n : Int)] else picks p n
theorem picks_length (p : Nat → Bool) : ∀ n, (picks p n).length ≤ n
  | 0 => Nat.le_refl _
  | n + 1 => by
    have := picks_length p n
    unfold picks
    split
    · rw [List.length_append]; simp; omega
    · omega
theorem picks_mem (p : Nat → Bool) (x : Int) : ∀ n, x ∈ picks p n ↔ ∃ i : Nat, i < n ∧ p i = true ∧ x = (i : Int)
  | 0 => by simp [picks]
  | n + 1 => by
    have ih := picks_mem p x n
    unfold picks
    split
    · rename_i hp
      rw [List.mem_append, ih]
      constructor
      · rintro (⟨i, h1, h2, h3⟩ | h)
        · exact ⟨i, by omega, h2, h3⟩
        · simp at h
          exact ⟨n, by omega, hp, h⟩
      · rintro ⟨i, h1, h2, h3⟩
        by_cases hi : i = n
        · subst hi; right; simp [h3]
        · exact .inl ⟨i, by omega, h2, h3⟩
    · rename_i hp
      rw [ih]
      constructor
      · rintro ⟨i, h1, h2, h3⟩; exact ⟨i, by omega, h2, h3⟩
      · rintro ⟨i, h1, h2, h3⟩
        refine ⟨i, ?_, h2, h3⟩
        by_cases hi : i = n
        · subst hi; exact absurd h2 hp
        · omega
theorem picks_both (p : Nat → Bool) : ∀ n, (picks p n).length + (picks (fun i => !p i) n).length = n
  | 0 => rfl
  | n + 1 => by
    have ih := picks_both p n
    unfold picks
    cases hp : p n with
    | true => simp; omega
    | false => simp; omega
/-- Marks below the rule are not taken away. -/
theorem down_keep {rs : List RuleV} : ∀ (n : Nat) (u : Nat → Bool) (i : Nat), u i = true → down rs n u i = true
  | 0, _, _, h => h
  | n + 1, u, i, h => by
    unfold down
    refine down_keep n _ i ?_
    split
    · unfold markK; rw [h]; rfl
    · exact h
/-- Looking at rules below n marks none from n on. -/
theorem down_far {rs : List RuleV} (hk : ∀ n (h : n < rs.length), ∀ k ∈ rs[n].kids, 0 ≤ k ∧ k < (n : Int)) : ∀ (n : Nat) (u : Nat → Bool) (i : Nat), n ≤ i → down rs n u i = u i
  | 0, _, _, _ => rfl
  | n + 1, u, i, h => by
    unfold down
    rw [down_far hk n _ i (by omega)]
    split
    · unfold markK
      by_cases hn : n < rs.length
      · rw [dif_pos hn]
        have : ¬ (i : Int) ∈ rs[n].kids := fun hm => by have := hk n hn _ hm; omega
        simp [this]
      · rw [dif_neg hn]; simp
    · rfl
theorem down_closed {rs : List RuleV} (hk : ∀ n (h : n < rs.length), ∀ k ∈ rs[n].kids, 0 ≤ k ∧ k < (n : Int)) : ∀ (n : Nat) (u : Nat → Bool) (i : Nat) (hi : i < rs.length), i < n → down rs n u i = true → ∀ k ∈ rs[i].kids, down rs n u k.toNat = true
  | 0, _, _, _, h, _, _, _ => by omega
  | n + 1, u, i, hi, hin, hu, k, hkm => by
    unfold down at hu ⊢
    by_cases e : i = n
    · subst e
      rw [down_far hk i _ i (Nat.le_refl _)] at hu
      have hkk := hk i hi k hkm
      refine down_keep _ _ _ ?_
      by_cases hc : u i = true
      · rw [if_pos hc, dif_pos hi]
        unfold markK
        rw [show ((k.toNat : Nat) : Int) = k from by omega]
        simp [hkm]
      · rw [if_neg hc] at hu; exact absurd hu hc
    · exact down_closed hk n _ i hi (by omega) hu k hkm
theorem usedBy_self {rs : List RuleV} {k : Nat} : usedBy rs k k = true := down_keep _ _ _ (by simp [mark1])
theorem usedBy_kids {rs : List RuleV} (h : allV (kindI rs) rs) {k i : Nat} (hi : i < rs.length) (hik : i ≤ k) (hu : usedBy rs k i = true) : ∀ x ∈ rs[i].kids, usedBy rs k x.toNat = true :=
  down_closed (fun _ hn => allV_kids h hn) (k + 1) _ i hi (by omega) hu
/-- Whether none of the rules that are marked ends by a byte. -/
def binaryB (rs : List RuleV) (p : Nat → Bool) : Nat → Bool
  | 0 => true
  | n + 1 => binaryB rs p n && !(p n && (if h : n < rs.length then decide (rs[n].kind = 10) else false))
/-- A kid, as a natural number, with the table's entry. -/
theorem kid_nat {ks : List Int} {j n : Nat} (h : ∀ k ∈ ks, 0 ≤ k ∧ k < (n : Int)) (hj : j < ks.length) : ∃ m : Nat, ks[j] = (m : Int) ∧ m < n := by
  have := h _ (List.getElem_mem hj)
  exact ⟨ks[j].toNat, by omega, by omega⟩
/-- A row of ints, at an index. -/
theorem RdF.cellAt {α : Type} {f : α → Value} {a : Option Addr} {xs : List α} {w : World} (h : RdF f a xs w) {j : Nat} (hj : j < xs.length) : ∃ b off, a = some ⟨b, off, none⟩ ∧ w.cell? ⟨b, off + j, none⟩ = some (f xs[j]) := h j hj
theorem getD_at {ks : List Int} {j : Nat} (h : j < ks.length) : ks.getD j 0 = ks[j] := by simp [List.getD, List.getElem?_eq_getElem h]
end Go.Proofs.Ytefkhknfjohnaaa
namespace Go.Proofs.Ytefkhknfjohnaaa
open Go Go.RowKit
theorem kidLen {rs : List RuleV} (hall : allV (kindI rs) rs) {n : Nat} (hn : n < rs.length) {j : Nat} (hj : j < rs[n].kids.length) : ∃ m : Nat, rs[n].kids.getD j 0 = (m : Int) ∧ m < n := by
  rw [getD_at hj]
  exact kid_nat (allV_kids hall hn) hj
/-- The integer that stands ahead of a sized, an array, a choice. -/
theorem kid_int {rs : List RuleV} (hall : allV (kindI rs) rs) {n : Nat} (hn : n < rs.length) (hk : rs[n].kind = 4 ∨ rs[n].kind = 5 ∨ rs[n].kind = 7) : (ruleAt rs (rs[n].kids.getD 0 0)).kind = 1 ∧ ∃ m : Nat, rs[n].kids.getD 0 0 = (m : Int) ∧ m < n := by
  have hki := allV_kind hall hn
  have h1 : kindAtB rs (rs[n].kids.getD 0 0) = true ∧ 0 < rs[n].kids.length := by
    rcases hk with hk | hk | hk
    · have := kindI_4 hki hk; exact ⟨this.2, by omega⟩
    · have := kindI_5 hki hk; exact ⟨this.2, by omega⟩
    · have h7 := kindI_7 hki hk
      refine ⟨?_, by omega⟩
      have h8 : tagsB rs rs[n] = true := by simp [kindI, meetsB, hk] at hki; exact hki.1
      unfold tagsB at h8
      rw [Bool.and_eq_true] at h8
      have h9 : 0 < rs[n].tags.length := by omega
      have h10 : 0 ≤ limitAt rs (rs[n].kids.headD 0) := by
        have h11 := h8.2
        cases ht : rs[n].tags with
        | nil => rw [ht] at h9; simp at h9
        | cons t ts =>
          rw [ht] at h11
          unfold tagsOk at h11
          rw [Bool.and_eq_true] at h11
          have := of_decide_eq_true h11.1
          omega
      have h12 : rs[n].kids.headD 0 = rs[n].kids.getD 0 0 := by cases rs[n].kids <;> rfl
      rw [h12] at h10
      unfold limitAt at h10
      unfold kindAtB
      split at h10
      · rename_i hh
        rw [dif_pos hh]
        dsimp only at h10
        split at h10
        · rename_i h13
          exact decide_eq_true h13.1
        · omega
      · omega
  obtain ⟨m, hm, hmn⟩ := kidLen hall hn h1.2
  refine ⟨?_, m, hm, hmn⟩
  have h2 := h1.1
  rw [hm] at h2 ⊢
  rw [ruleAt_at (by omega)]
  unfold kindAtB at h2
  rw [dif_pos (by omega)] at h2
  have h3 := of_decide_eq_true h2
  simpa using h3
theorem int_len {rs : List RuleV} (hall : allV (kindI rs) rs) {m : Nat} (hm : m < rs.length) (hk : rs[m].kind = 1) : sizeAt minStep rs (m : Int) = rs[m].size ∧ sizeAt (maxStep rs) rs (m : Int) = rs[m].size ∧ 1 ≤ rs[m].size ∧ rs[m].size ≤ 4 := by
  have h1 := kindI_size (allV_kind hall hm) hk
  rw [sizeAt_at hm, sizeAt_at hm]
  unfold minStep maxStep minOf maxOf
  rw [if_pos (by omega), if_pos (by omega)]
  omega
theorem sum_low {rs : List RuleV} {r : RuleV} {x : Int} {zs : List Int} (hk : r.kind = 6) : ∀ (l : List ValueV) (i : Nat), l.length + i = r.kids.length → (∀ q (h : q < l.length), tabAt zs (r.kids.getD (i + q) 0) ≤ (plen rs (itemR r x (i + q)) l[q] : Nat)) → sumT zs (r.kids.drop i) ≤ ((plens rs r x i l : Nat) : Int)
  | [], i, h, _ => by
    rw [List.drop_of_length_le (by simp at h; omega)]
    simp [sumT, plens]
  | v :: l, i, h, hl => by
    simp only [List.length_cons] at h
    rw [List.drop_eq_getElem_cons (by omega), sumT, plens]
    have h0 := hl 0 (by simp)
    have ih := sum_low hk l (i + 1) (by omega) (fun q hq => by
      have := hl (q + 1) (by simpa using hq)
      rw [show i + (q + 1) = i + 1 + q from by omega] at this
      simpa using this)
    simp only [Nat.add_zero, List.getElem_cons_zero] at h0
    rw [getD_at (ks := r.kids) (j := i) (by omega)] at h0
    push_cast
    omega
theorem sum_high {rs : List RuleV} {r : RuleV} {x : Int} {zs : List Int} (hb : InB 400 zs) : ∀ (l : List ValueV) (i : Nat), l.length + i = r.kids.length → (∀ q (h : q < l.length), min 400 ((plen rs (itemR r x (i + q)) l[q] : Nat) : Int) ≤ tabAt zs (r.kids.getD (i + q) 0)) → min 400 ((plens rs r x i l : Nat) : Int) ≤ min 400 (sumT zs (r.kids.drop i))
  | [], i, h, _ => by
    rw [List.drop_of_length_le (by simp at h; omega)]
    simp [sumT, plens]
  | v :: l, i, h, hl => by
    simp only [List.length_cons] at h
    rw [List.drop_eq_getElem_cons (by omega), sumT, plens]
    have h0 := hl 0 (by simp)
    have ih := sum_high (rs := rs) (r := r) (x := x) hb l (i + 1) (by omega) (fun q hq => by
      have := hl (q + 1) (by simpa using hq)
      rw [show i + (q + 1) = i + 1 + q from by omega] at this
      simpa using this)
    simp only [Nat.add_zero, List.getElem_cons_zero] at h0
    rw [getD_at (ks := r.kids) (j := i) (by omega)] at h0
    have h1 := hb r.kids[i]
    have h2 := (sumT_b hb (r.kids.drop (i + 1))).1
    push_cast
    omega
theorem many_high {rs : List RuleV} {r : RuleV} {x t : Int} (h0 : 0 ≤ t) : ∀ (l : List ValueV) (i : Nat), (∀ q (h : q < l.length), min 400 ((plen rs (itemR r x (i + q)) l[q] : Nat) : Int) ≤ t) → min 400 ((plens rs r x i l : Nat) : Int) ≤ (l.length : Int) * t
  | [], i, _ => by
    simp [plens]
    omega
  | v :: l, i, hl => by
    rw [plens]
    have h1 := hl 0 (by simp)
    have ih := many_high h0 l (i + 1) (fun q hq => by
      have := hl (q + 1) (by simpa using hq)
      rw [show i + (q + 1) = i + 1 + q from by omega] at this
      simpa using this)
    simp only [Nat.add_zero, List.getElem_cons_zero] at h1
    have h2 : 0 ≤ (l.length : Int) * t := Int.mul_nonneg (by omega) h0
    rw [show (((v :: l).length : Nat) : Int) = (l.length : Int) + 1 from by simp, Int.add_mul, Int.one_mul]
    push_cast
    omega
theorem leastT_le {t ks : List Int} : ∀ {m : Int}, leastT t ks m ≤ m ∧ ∀ k ∈ ks, leastT t ks m ≤ tabAt t k := by
  induction ks with
  | nil => intro m; exact ⟨Int.le_refl _, fun k h => by simp at h⟩
  | cons x ks ih =>
    intro m
    have h1 := ih (m := min m (tabAt t x))
    unfold leastT
    refine ⟨by omega, fun k hk => ?_⟩
    rcases List.mem_cons.1 hk with rfl | hk
    · omega
    · exact h1.2 k hk
theorem mostT_ge {t ks : List Int} : ∀ {m : Int}, m ≤ mostT t ks m ∧ ∀ k ∈ ks, tabAt t k ≤ mostT t ks m := by
  induction ks with
  | nil => intro m; exact ⟨Int.le_refl _, fun k h => by simp at h⟩
  | cons x ks ih =>
    intro m
    have h1 := ih (m := max m (tabAt t x))
    unfold mostT
    refine ⟨by omega, fun k hk => ?_⟩
    rcases List.mem_cons.1 hk with rfl | hk
    · omega
    · exact h1.2 k hk
/-- What the items of a valid value are like. -/
theorem items_of {rs : List RuleV} (hall : allV (kindI rs) rs) {n : Nat} (hn : n < rs.length) {v : ValueV} (hv : validV rs (n : Int) v = true) :
    ownB rs rs[n] v = true ∧ ∀ q (h : q < v.items.length), ∃ m : Nat, itemR rs[n] v.number q = (m : Int) ∧ m < n ∧ validV rs (m : Int) v.items[q] = true := by
  rw [validV_eq, ruleAt_at hn, Bool.and_eq_true] at hv
  refine ⟨hv.1, fun q hq => ?_⟩
  have h1 := item_kid (allV_kind hall hn) hv.1 hq
  have h2 := allV_kids hall hn _ h1
  have h3 := validL_at hv.2 q hq
  rw [Nat.zero_add] at h3
  obtain ⟨m, hm⟩ : ∃ m : Nat, itemR rs[n] v.number q = (m : Int) := ⟨(itemR rs[n] v.number q).toNat, by omega⟩
  rw [hm] at h2 h3 ⊢
  exact ⟨m, rfl, by omega, h3⟩
/-- An encoding is at least as long as its rule's least length. -/
theorem plen_low {rs : List RuleV} (hall : allV (kindI rs) rs) : ∀ (n : Nat) (_ : n < rs.length) (v : ValueV), validV rs (n : Int) v = true → sizeAt minStep rs (n : Int) ≤ ((plen rs (n : Int) v : Nat) : Int) := by
  intro n
  induction n using Nat.strongRecOn with
  | _ n ih =>
    intro hn v hv
    obtain ⟨hown, hit⟩ := items_of hall hn hv
    have hki := allV_kind hall hn
    have hzb := mins_b hall n (by omega)
    have hkn := kindI_known hki
    have hlow : ∀ q (h : q < v.items.length), tabAt (tabTo minStep rs n) (itemR rs[n] v.number q) ≤ ((plen rs (itemR rs[n] v.number q) v.items[q] : Nat) : Int) := fun q hq => by
      obtain ⟨m, hm, hmn, hvm⟩ := hit q hq
      rw [hm, sizeAt_in (by omega) (by omega)]
      exact ih m hmn (by omega) _ hvm
    rw [sizeAt_at hn, plen_eq, ruleAt_at hn]
    obtain ⟨zs, hzs⟩ : ∃ zs, zs = tabTo minStep rs n := ⟨_, rfl⟩
    rw [← hzs] at hlow hzb ⊢
    have hmin : minStep zs rs[n] ≤ minOf zs rs[n] := by unfold minStep; omega
    refine Int.le_trans hmin ?_
    have hint : rs[n].kind = 4 ∨ rs[n].kind = 5 ∨ rs[n].kind = 7 → tabAt zs (rs[n].kids.getD 0 0) = (ruleAt rs (rs[n].kids.getD 0 0)).size ∧ 0 ≤ (ruleAt rs (rs[n].kids.getD 0 0)).size := fun hk => by
      obtain ⟨h1, m, hm, hmn⟩ := kid_int hall hn hk
      rw [hm] at h1 ⊢
      rw [ruleAt_at (by omega)] at h1 ⊢
      have h2 := int_len hall (by omega) h1
      rw [hzs, sizeAt_in (by omega) (by omega), h2.1]
      omega
    obtain ⟨r, hr⟩ : ∃ r, r = rs[n] := ⟨_, rfl⟩
    rw [← hr] at hown hki hkn hlow hint ⊢
    rcases (by omega : r.kind = 1 ∨ r.kind = 2 ∨ r.kind = 3 ∨ r.kind = 4 ∨ r.kind = 5 ∨ r.kind = 6 ∨ r.kind = 7 ∨ r.kind = 8 ∨ r.kind = 9 ∨ r.kind = 10) with e | e | e | e | e | e | e | e | e | e
    · have := kindI_size hki e
      simp [minOf, headLen, e]
      omega
    · simp [minOf, headLen, e]
      omega
    · have := kindI_3 hki e
      simp [ownB, e] at hown
      simp [minOf, headLen, e]
      omega
    · have := hint (.inl e)
      simp [minOf, headLen, e] at this ⊢
      omega
    · have := hint (.inr (.inl e))
      simp [minOf, headLen, e] at this ⊢
      omega
    · simp [ownB, e] at hown
      have h1 := sum_low (rs := rs) (x := v.number) (zs := zs) e v.items 0 (by omega) (fun q hq => by
        have h2 := hlow q hq
        rw [Nat.zero_add]
        have h3 : itemR r v.number q = r.kids.getD q 0 := by unfold itemR; rw [if_neg (by omega), if_pos e, if_pos (by omega)]
        rw [h3] at h2 ⊢
        exact h2)
      rw [List.drop_zero] at h1
      have h2 : minOf zs r = sumT zs r.kids := by simp [minOf, e]
      rw [h2]
      push_cast
      omega
    · have h7 := kindI_7 hki e
      have h1 := hint (.inr (.inr e))
      have hown7 : v.items.length = 1 := by simp [ownB, e] at hown; exact hown.2.1
      have h2 := item_kid hki hown (q := 0) (by omega)
      have h3 := hlow 0 (by omega)
      have h4 : minOf zs r = tabAt zs (r.kids.getD 0 0) + leastT zs (r.kids.drop 2) (tabAt zs (r.kids.getD 1 0)) := by simp [minOf, e]
      have h5 : plens rs r v.number 0 v.items = plen rs (itemR r v.number 0) (v.items[0]'(by omega)) := by
        obtain ⟨x, hx⟩ := List.length_eq_one_iff.1 hown7
        simp [hx, plens]
      have h6 : headLen rs r v.bytes = (ruleAt rs (r.kids.getD 0 0)).size.toNat := by simp [headLen, e]
      have h8 : leastT zs (r.kids.drop 2) (tabAt zs (r.kids.getD 1 0)) ≤ tabAt zs (itemR r v.number 0) := by
        have h9 := leastT_le (t := zs) (ks := r.kids.drop 2) (m := tabAt zs (r.kids.getD 1 0))
        have h10 : itemR r v.number 0 = tagKid r.tags (r.kids.drop 1) v.number := by unfold itemR; rw [if_neg (by omega), if_neg (by omega), if_pos e]
        have h11 : itemR r v.number 0 ∈ r.kids.drop 1 := by
          simp [ownB, e] at hown
          have h12 := hown.2.2
          rw [h10] at h12 ⊢
          rcases tagKid_mem r.tags (r.kids.drop 1) v.number with h13 | h13
          · omega
          · exact h13
        rw [List.drop_eq_getElem_cons (by omega)] at h11
        rcases List.mem_cons.1 h11 with h12 | h12
        · rw [h12, ← getD_at (by omega)]
          exact h9.1
        · exact h9.2 _ h12
      rw [h4, h5, h6]
      push_cast
      omega
    · simp [minOf, headLen, e]
      omega
    · have h9 := kindI_9 hki e
      have hown9 : v.items.length = 1 := by simp [ownB, e] at hown; exact hown.2.2
      have h3 := hlow 0 (by omega)
      have h4 : minOf zs r = tabAt zs (r.kids.getD 0 0) + 1 := by simp [minOf, e]
      have h5 : plens rs r v.number 0 v.items = plen rs (itemR r v.number 0) (v.items[0]'(by omega)) := by
        obtain ⟨x, hx⟩ := List.length_eq_one_iff.1 hown9
        simp [hx, plens]
      have h6 : headLen rs r v.bytes = 1 := by simp [headLen, e]
      have h10 : itemR r v.number 0 = r.kids.getD 0 0 := by unfold itemR; simp [e]
      rw [h10] at h3 h5
      rw [h4, h5, h6]
      push_cast
      omega
    · simp [minOf, headLen, e]
      omega
/-- An encoding that is not too long is at most as long as its rule's greatest length. -/
theorem plen_high {rs : List RuleV} (hall : allV (kindI rs) rs) : ∀ (n : Nat) (_ : n < rs.length) (v : ValueV), validV rs (n : Int) v = true → min 400 ((plen rs (n : Int) v : Nat) : Int) ≤ sizeAt (maxStep rs) rs (n : Int) := by
  intro n
  induction n using Nat.strongRecOn with
  | _ n ih =>
    intro hn v hv
    obtain ⟨hown, hit⟩ := items_of hall hn hv
    have hki := allV_kind hall hn
    have hzb := maxs_b hall n (by omega)
    have hkn := kindI_known hki
    have hhi : ∀ q (h : q < v.items.length), min 400 ((plen rs (itemR rs[n] v.number q) v.items[q] : Nat) : Int) ≤ tabAt (tabTo (maxStep rs) rs n) (itemR rs[n] v.number q) := fun q hq => by
      obtain ⟨m, hm, hmn, hvm⟩ := hit q hq
      rw [hm, sizeAt_in (by omega) (by omega)]
      exact ih m hmn (by omega) _ hvm
    rw [sizeAt_at hn, plen_eq, ruleAt_at hn]
    obtain ⟨zs, hzs⟩ : ∃ zs, zs = tabTo (maxStep rs) rs n := ⟨_, rfl⟩
    rw [← hzs] at hhi hzb ⊢
    unfold maxStep
    have hint : rs[n].kind = 4 ∨ rs[n].kind = 5 ∨ rs[n].kind = 7 → tabAt zs (rs[n].kids.getD 0 0) = (ruleAt rs (rs[n].kids.getD 0 0)).size ∧ 0 ≤ (ruleAt rs (rs[n].kids.getD 0 0)).size := fun hk => by
      obtain ⟨h1, m, hm, hmn⟩ := kid_int hall hn hk
      rw [hm] at h1 ⊢
      rw [ruleAt_at (by omega)] at h1 ⊢
      have h2 := int_len hall (by omega) h1
      rw [hzs, sizeAt_in (by omega) (by omega), h2.2.1]
      omega
    obtain ⟨r, hr⟩ : ∃ r, r = rs[n] := ⟨_, rfl⟩
    rw [← hr] at hown hki hkn hhi hint ⊢
    have h0 := hzb (r.kids.getD 0 0)
    have h1b := hzb (r.kids.getD 1 0)
    rcases (by omega : r.kind = 1 ∨ r.kind = 2 ∨ r.kind = 3 ∨ r.kind = 4 ∨ r.kind = 5 ∨ r.kind = 6 ∨ r.kind = 7 ∨ r.kind = 8 ∨ r.kind = 9 ∨ r.kind = 10) with e | e | e | e | e | e | e | e | e | e
    · have := kindI_size hki e
      have h2 : v.items = [] := by simp [ownB, e] at hown; exact hown.2.2
      simp [maxOf, headLen, e, h2, plens]
      omega
    · have h2 : v.items = [] := by simp [ownB, e] at hown; exact hown.2.2
      simp [maxOf, headLen, e, h2, plens]
    · have := kindI_3 hki e
      simp [ownB, e] at hown
      have h2 : v.items = [] := hown.2.2
      simp [maxOf, headLen, e, h2, plens]
      omega
    · have h3 := hint (.inl e)
      simp [ownB, e] at hown
      have h2 : v.items = [] := hown.2.2
      have h4 := hown.2.1
      simp [maxOf, headLen, e, h2, plens] at h3 ⊢
      omega
    · have h3 := hint (.inr (.inl e))
      have h5 := kindI_5 hki e
      have h6 := h5.2
      rw [limit_of_valid hall] at h6
      have h7 := of_decide_eq_true h6
      have hown5 : (v.items.length : Int) ≤ min 40 (limitAt rs (r.kids.getD 0 0)) := by simp [ownB, e] at hown; simp; omega
      have h8 := many_high (rs := rs) (r := r) (x := v.number) h1b.1 v.items 0 (fun q hq => by
        have h2 := hhi q hq
        rw [Nat.zero_add]
        have h3 : itemR r v.number q = r.kids.getD 1 0 := by unfold itemR; rw [if_pos e]
        rw [h3] at h2 ⊢
        exact h2)
      have h9 : (v.items.length : Int) * tabAt zs (r.kids.getD 1 0) ≤ min 40 (limitAt rs (r.kids.getD 0 0)) * tabAt zs (r.kids.getD 1 0) := Int.mul_le_mul_of_nonneg_right hown5 h1b.1
      have h10 : maxOf rs zs r = tabAt zs (r.kids.getD 0 0) + min 40 (limitAt rs (r.kids.getD 0 0)) * tabAt zs (r.kids.getD 1 0) := by unfold maxOf; rw [if_neg (by omega), if_neg (by omega), if_neg (by omega), if_pos e]
      have h11 : headLen rs r v.bytes = (ruleAt rs (r.kids.getD 0 0)).size.toNat := by simp [headLen, e]
      rw [h10, h11]
      push_cast
      omega
    · simp [ownB, e] at hown
      have h1 := sum_high (rs := rs) (r := r) (x := v.number) (zs := zs) hzb v.items 0 (by omega) (fun q hq => by
        have h2 := hhi q hq
        rw [Nat.zero_add]
        have h3 : itemR r v.number q = r.kids.getD q 0 := by unfold itemR; rw [if_neg (by omega), if_pos e, if_pos (by omega)]
        rw [h3] at h2 ⊢
        exact h2)
      rw [List.drop_zero] at h1
      have h2 : maxOf rs zs r = sumT zs r.kids := by simp [maxOf, e]
      have h4 : headLen rs r v.bytes = 0 := by simp [headLen, e]
      rw [h2, h4]
      push_cast
      omega
    · have h7 := kindI_7 hki e
      have h1 := hint (.inr (.inr e))
      have hown7 : v.items.length = 1 := by simp [ownB, e] at hown; exact hown.2.1
      have h3 := hhi 0 (by omega)
      have h4 : maxOf rs zs r = tabAt zs (r.kids.getD 0 0) + mostT zs (r.kids.drop 2) (tabAt zs (r.kids.getD 1 0)) := by simp [maxOf, e]
      have h5 : plens rs r v.number 0 v.items = plen rs (itemR r v.number 0) (v.items[0]'(by omega)) := by
        obtain ⟨x, hx⟩ := List.length_eq_one_iff.1 hown7
        simp [hx, plens]
      have h6 : headLen rs r v.bytes = (ruleAt rs (r.kids.getD 0 0)).size.toNat := by simp [headLen, e]
      have h8 : tabAt zs (itemR r v.number 0) ≤ mostT zs (r.kids.drop 2) (tabAt zs (r.kids.getD 1 0)) := by
        have h9 := mostT_ge (t := zs) (ks := r.kids.drop 2) (m := tabAt zs (r.kids.getD 1 0))
        have h10 : itemR r v.number 0 = tagKid r.tags (r.kids.drop 1) v.number := by unfold itemR; rw [if_neg (by omega), if_neg (by omega), if_pos e]
        have h11 : itemR r v.number 0 ∈ r.kids.drop 1 := by
          simp [ownB, e] at hown
          have h12 := hown.2.2
          rw [h10] at h12 ⊢
          rcases tagKid_mem r.tags (r.kids.drop 1) v.number with h13 | h13
          · omega
          · exact h13
        rw [List.drop_eq_getElem_cons (by omega)] at h11
        rcases List.mem_cons.1 h11 with h12 | h12
        · rw [h12, ← getD_at (by omega)]
          exact h9.1
        · exact h9.2 _ h12
      rw [h4, h5, h6]
      push_cast
      omega
    · have h8 := kindI_8 hki e
      have h4 : maxOf rs zs r = 1 + tabAt zs (r.kids.getD 0 0) := by simp [maxOf, e]
      have h6 : headLen rs r v.bytes = 1 := by simp [headLen, e]
      have h10 : itemR r v.number 0 = r.kids.getD 0 0 := by unfold itemR; simp [e]
      have hown8 : v.items.length ≤ 1 := by simp [ownB, e] at hown; exact hown.2.2
      rw [h4, h6]
      rcases (by omega : v.items.length = 0 ∨ v.items.length = 1) with h11 | h11
      · have h12 : v.items = [] := List.eq_nil_of_length_eq_zero h11
        rw [h12, plens]
        push_cast
        omega
      · have h3 := hhi 0 (by omega)
        have h5 : plens rs r v.number 0 v.items = plen rs (itemR r v.number 0) (v.items[0]'(by omega)) := by
          obtain ⟨x, hx⟩ := List.length_eq_one_iff.1 h11
          simp [hx, plens]
        rw [h10] at h3 h5
        rw [h5]
        push_cast
        omega
    · have h9 := kindI_9 hki e
      have hown9 : v.items.length = 1 := by simp [ownB, e] at hown; exact hown.2.2
      have h3 := hhi 0 (by omega)
      have h4 : maxOf rs zs r = 1 + tabAt zs (r.kids.getD 0 0) := by simp [maxOf, e]
      have h5 : plens rs r v.number 0 v.items = plen rs (itemR r v.number 0) (v.items[0]'(by omega)) := by
        obtain ⟨x, hx⟩ := List.length_eq_one_iff.1 hown9
        simp [hx, plens]
      have h6 : headLen rs r v.bytes = 1 := by simp [headLen, e]
      have h10 : itemR r v.number 0 = r.kids.getD 0 0 := by unfold itemR; simp [e]
      rw [h10] at h3 h5
      rw [h4, h5, h6]
      push_cast
      omega
    · have h4 : maxOf rs zs r = 400 := by simp [maxOf, e]
      rw [h4]
      omega
/-- No rule can be encoded by nothing. -/
theorem low_pos {rs : List RuleV} (hall : allV (kindI rs) rs) : ∀ (n : Nat) (_ : n < rs.length), 1 ≤ sizeAt minStep rs (n : Int) := by
  intro n
  induction n using Nat.strongRecOn with
  | _ n ih =>
    intro hn
    have hki := allV_kind hall hn
    have hkn := kindI_known hki
    have hzb := mins_b hall n (by omega)
    have hkid : ∀ j, j < rs[n].kids.length → 1 ≤ tabAt (tabTo minStep rs n) (rs[n].kids.getD j 0) := fun j hj => by
      obtain ⟨m, hm, hmn⟩ := kidLen hall hn hj
      rw [hm, sizeAt_in (by omega) (by omega)]
      exact ih m hmn (by omega)
    rw [sizeAt_at hn]
    obtain ⟨zs, hzs⟩ : ∃ zs, zs = tabTo minStep rs n := ⟨_, rfl⟩
    rw [← hzs] at hkid hzb ⊢
    obtain ⟨r, hr⟩ : ∃ r, r = rs[n] := ⟨_, rfl⟩
    rw [← hr] at hki hkn hkid ⊢
    unfold minStep
    have hm : 1 ≤ minOf zs r := by
      rcases (by omega : r.kind = 1 ∨ r.kind = 2 ∨ r.kind = 3 ∨ r.kind = 4 ∨ r.kind = 5 ∨ r.kind = 6 ∨ r.kind = 7 ∨ r.kind = 8 ∨ r.kind = 9 ∨ r.kind = 10) with e | e | e | e | e | e | e | e | e | e
      · have := kindI_size hki e; unfold minOf; rw [if_pos (by omega)]; omega
      · have := kindI_2 hki e; unfold minOf; rw [if_neg (by omega), if_pos (by omega)]; omega
      · have := kindI_3 hki e; unfold minOf; rw [if_pos (by omega)]; omega
      · have h4 := kindI_4 hki e; have := hkid 0 (by omega); unfold minOf; rw [if_neg (by omega), if_neg (by omega), if_pos (by omega)]; omega
      · have h5 := kindI_5 hki e; have := hkid 0 (by omega); unfold minOf; rw [if_neg (by omega), if_neg (by omega), if_pos (by omega)]; omega
      · have h6 := kindI_6 hki e
        have h7 := hkid 0 (by omega)
        have h8 : minOf zs r = sumT zs r.kids := by simp [minOf, e]
        rw [h8]
        have h9 : r.kids = r.kids[0]'(by omega) :: r.kids.drop 1 := by
          have := List.drop_eq_getElem_cons (l := r.kids) (i := 0) (by omega)
          simpa using this
        rw [getD_at (by omega)] at h7
        rw [h9, sumT]
        have := (sumT_b hzb (r.kids.drop 1)).1
        omega
      · have h7 := kindI_7 hki e
        have h8 := hkid 0 (by omega)
        have h9 := hzb (r.kids.getD 1 0)
        have h10 := leastT_b hzb (r.kids.drop 2) (tabAt zs (r.kids.getD 1 0)) h9.1 h9.2
        unfold minOf; rw [if_neg (by omega), if_neg (by omega), if_neg (by omega), if_neg (by omega), if_pos (by omega)]; omega
      · unfold minOf; rw [if_neg (by omega), if_neg (by omega), if_neg (by omega), if_neg (by omega), if_neg (by omega), if_neg (by omega)]; omega
      · have := hzb (r.kids.getD 0 0)
        unfold minOf; rw [if_neg (by omega), if_neg (by omega), if_neg (by omega), if_neg (by omega), if_neg (by omega), if_pos (by omega)]; omega
      · unfold minOf; rw [if_neg (by omega), if_neg (by omega), if_neg (by omega), if_neg (by omega), if_neg (by omega), if_neg (by omega)]; omega
    omega
/-- A kid is less deep. -/
theorem depth_kid {rs : List RuleV} (hall : allV (kindI rs) rs) {n : Nat} (hn : n < rs.length) {k : Int} (hk : k ∈ rs[n].kids) : sizeAt depthStep rs k < sizeAt depthStep rs (n : Int) := by
  have h1 := allV_kids hall hn k hk
  rw [sizeAt_at hn, ← sizeAt_in (f := depthStep) (n := n) (by omega) (by omega)]
  have h2 := (mostT_ge (t := tabTo depthStep rs n) (ks := rs[n].kids) (m := 0)).2 k hk
  unfold depthStep at h2 ⊢
  omega
end Go.Proofs.Ytefkhknfjohnaaa
