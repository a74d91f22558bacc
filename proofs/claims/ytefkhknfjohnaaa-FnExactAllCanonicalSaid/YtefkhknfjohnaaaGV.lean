/- Sizes and depths of rules, as plain functions over tables. No program is walked here. Values, as data and in memory; what a valid value is, how long its encoding is. No program is walked here. -/
import Derived.Test.YtefkhknfjohnaaaGRul
namespace Go.Proofs.Ytefkhknfjohnaaa
open Go Go.RowKit
/-- An entry of a table; 0 beyond it. -/
def tabAt (t : List Int) (k : Int) : Int := t.getD k.toNat 0
theorem tabAt_in {t : List Int} {k : Nat} (h : k < t.length) : tabAt t (k : Int) = t[k] := by
  unfold tabAt
  rw [Int.toNat_natCast]
  simp [List.getD, List.getElem?_eq_getElem h]
/-- The sum of the entries of some rules. -/
def sumT (t : List Int) : List Int → Int
  | [] => 0
  | k :: ks => tabAt t k + sumT t ks
/-- The least of the entries of some rules, and of m. -/
def leastT (t : List Int) : List Int → Int → Int
  | [], m => m
  | k :: ks, m => leastT t ks (min m (tabAt t k))
/-- The greatest of the entries of some rules, and of m. -/
def mostT (t : List Int) : List Int → Int → Int
  | [], m => m
  | k :: ks, m => mostT t ks (max m (tabAt t k))
theorem sumT_snoc (t : List Int) (k : Int) : ∀ ks, sumT t (ks ++ [k]) = sumT t ks + tabAt t k
  | [] => by simp [sumT]
  | x :: ks => by simp only [List.cons_append, sumT, sumT_snoc t k ks]; omega
theorem leastT_snoc (t : List Int) (k : Int) : ∀ ks m, leastT t (ks ++ [k]) m = min (leastT t ks m) (tabAt t k)
  | [], m => rfl
  | x :: ks, m => by simp only [List.cons_append, leastT]; exact leastT_snoc t k ks _
theorem mostT_snoc (t : List Int) (k : Int) : ∀ ks m, mostT t (ks ++ [k]) m = max (mostT t ks m) (tabAt t k)
  | [], m => rfl
  | x :: ks, m => by simp only [List.cons_append, mostT]; exact mostT_snoc t k ks _
theorem sumT_next {t ks : List Int} {j : Nat} (h : j < ks.length) : sumT t (ks.take (j + 1)) = sumT t (ks.take j) + tabAt t ks[j] := by
  rw [List.take_succ_eq_append_getElem h, sumT_snoc]
theorem leastT_next {t ks : List Int} {j : Nat} {m : Int} (h : j < ks.length) : leastT t (ks.take (j + 1)) m = min (leastT t (ks.take j) m) (tabAt t ks[j]) := by
  rw [List.take_succ_eq_append_getElem h, leastT_snoc]
theorem mostT_next {t ks : List Int} {j : Nat} {m : Int} (h : j < ks.length) : mostT t (ks.take (j + 1)) m = max (mostT t (ks.take j) m) (tabAt t ks[j]) := by
  rw [List.take_succ_eq_append_getElem h, mostT_snoc]
/-- All entries lie from 0 up to b. -/
def InB (b : Int) (t : List Int) : Prop := ∀ k, 0 ≤ tabAt t k ∧ tabAt t k ≤ b
theorem InB.snoc {b x : Int} {t : List Int} (h : InB b t) (h0 : 0 ≤ x) (h1 : x ≤ b) : InB b (t ++ [x]) := fun k => by
  have hk := h k
  unfold tabAt at hk ⊢
  simp only [List.getD] at hk ⊢
  by_cases c : k.toNat < t.length
  · rw [List.getElem?_append_left c]; exact hk
  · rw [List.getElem?_append_right (by omega)]
    by_cases c2 : k.toNat - t.length = 0
    · rw [c2]; exact ⟨h0, h1⟩
    · rw [List.getElem?_eq_none (by simp; omega)]
      simp; omega
theorem InB.nil {b : Int} (h : 0 ≤ b) : InB b [] := fun k => by simp [tabAt, h]
theorem InB.mono {b c : Int} {t : List Int} (h : InB b t) (hc : b ≤ c) : InB c t := fun k => by have := h k; omega
theorem sumT_b {b : Int} {t : List Int} (h : InB b t) : ∀ ks : List Int, 0 ≤ sumT t ks ∧ sumT t ks ≤ b * ks.length
  | [] => by simp [sumT]
  | k :: ks => by
    have h1 := h k
    have h2 := sumT_b h ks
    simp only [sumT, List.length_cons]
    rw [show ((ks.length + 1 : Nat) : Int) = (ks.length : Int) + 1 from by omega, Int.mul_add]
    omega
theorem leastT_b {b : Int} {t : List Int} (h : InB b t) : ∀ (ks : List Int) (m : Int), 0 ≤ m → m ≤ b → 0 ≤ leastT t ks m ∧ leastT t ks m ≤ b
  | [], m, h0, h1 => ⟨h0, h1⟩
  | k :: ks, m, h0, h1 => by
    have := h k
    exact leastT_b h ks _ (by omega) (by omega)
theorem mostT_b {b : Int} {t : List Int} (h : InB b t) : ∀ (ks : List Int) (m : Int), 0 ≤ m → m ≤ b → 0 ≤ mostT t ks m ∧ mostT t ks m ≤ b
  | [], m, h0, h1 => ⟨h0, h1⟩
  | k :: ks, m, h0, h1 => by
    have := h k
    exact mostT_b h ks _ (by omega) (by omega)
theorem mostT_one {t ks : List Int} (h : 1 < ks.length) (h0 : 0 ≤ tabAt t (ks.getD 1 0)) : mostT t (ks.drop 1) 0 = mostT t (ks.drop 2) (tabAt t (ks.getD 1 0)) := by
  match ks, h with
  | a :: b :: r, _ =>
    simp only [List.getD, List.getElem?_cons_succ, List.getElem?_cons_zero, Option.getD_some] at h0 ⊢
    show mostT t (b :: r) 0 = mostT t r (tabAt t b)
    rw [mostT, show max 0 (tabAt t b) = tabAt t b from by omega]
/-- The least length of a rule, by the least lengths of earlier rules. -/
def minOf (t : List Int) (r : RuleV) : Int :=
  if r.kind = 1 ∨ r.kind = 3 then r.size
  else if r.kind = 2 then (r.bytes.length : Int)
  else if r.kind = 4 ∨ r.kind = 5 then tabAt t (r.kids.getD 0 0)
  else if r.kind = 6 then sumT t r.kids
  else if r.kind = 7 then tabAt t (r.kids.getD 0 0) + leastT t (r.kids.drop 2) (tabAt t (r.kids.getD 1 0))
  else if r.kind = 9 then tabAt t (r.kids.getD 0 0) + 1
  else 1
def minStep (t : List Int) (r : RuleV) : Int := min 401 (minOf t r)
/-- The greatest length of a rule, by the greatest lengths of earlier rules. -/
def maxOf (rs : List RuleV) (t : List Int) (r : RuleV) : Int :=
  if r.kind = 1 ∨ r.kind = 3 then r.size
  else if r.kind = 2 then (r.bytes.length : Int)
  else if r.kind = 4 then tabAt t (r.kids.getD 0 0) + limitAt rs (r.kids.getD 0 0)
  else if r.kind = 5 then tabAt t (r.kids.getD 0 0) + min 40 (limitAt rs (r.kids.getD 0 0)) * tabAt t (r.kids.getD 1 0)
  else if r.kind = 6 then sumT t r.kids
  else if r.kind = 7 then tabAt t (r.kids.getD 0 0) + mostT t (r.kids.drop 2) (tabAt t (r.kids.getD 1 0))
  else if r.kind = 8 ∨ r.kind = 9 then 1 + tabAt t (r.kids.getD 0 0)
  else 400
def maxStep (rs : List RuleV) (t : List Int) (r : RuleV) : Int := min 400 (maxOf rs t r)
def depthStep (t : List Int) (r : RuleV) : Int := mostT t r.kids 0 + 1
/-- The table of the first n rules. -/
def tabTo (f : List Int → RuleV → Int) (rs : List RuleV) : Nat → List Int
  | 0 => []
  | n + 1 => if h : n < rs.length then tabTo f rs n ++ [f (tabTo f rs n) rs[n]] else tabTo f rs n
theorem tabTo_next {f : List Int → RuleV → Int} {rs : List RuleV} {n : Nat} (h : n < rs.length) : tabTo f rs (n + 1) = tabTo f rs n ++ [f (tabTo f rs n) rs[n]] := by
  rw [tabTo, dif_pos h]
theorem tabTo_length (f : List Int → RuleV → Int) (rs : List RuleV) : ∀ n, n ≤ rs.length → (tabTo f rs n).length = n
  | 0, _ => rfl
  | n + 1, h => by rw [tabTo_next (by omega), List.length_append, tabTo_length f rs n (by omega)]; rfl
theorem tabAt_left {t s : List Int} {k : Int} (h : k.toNat < t.length) : tabAt (t ++ s) k = tabAt t k := by
  unfold tabAt
  simp only [List.getD]
  rw [List.getElem?_append_left h]
/-- An entry stays. -/
theorem tabTo_stay (f : List Int → RuleV → Int) (rs : List RuleV) {k : Int} {n : Nat} (hk : k.toNat < n) : ∀ d, n + d ≤ rs.length → tabAt (tabTo f rs (n + d)) k = tabAt (tabTo f rs n) k
  | 0, _ => rfl
  | d + 1, h => by
    rw [show n + (d + 1) = (n + d) + 1 from by omega, tabTo_next (by omega), tabAt_left (by rw [tabTo_length _ _ _ (by omega)]; omega)]
    exact tabTo_stay f rs hk d (by omega)
/-- The entry of the rule at an index. -/
def sizeAt (f : List Int → RuleV → Int) (rs : List RuleV) (k : Int) : Int := tabAt (tabTo f rs rs.length) k
theorem sizeAt_at {f : List Int → RuleV → Int} {rs : List RuleV} {n : Nat} (h : n < rs.length) : sizeAt f rs (n : Int) = f (tabTo f rs n) rs[n] := by
  unfold sizeAt
  have h1 := tabTo_stay f rs (k := (n : Int)) (n := n + 1) (by omega) (rs.length - (n + 1)) (by omega)
  rw [show n + 1 + (rs.length - (n + 1)) = rs.length from by omega] at h1
  rw [h1, tabTo_next h]
  unfold tabAt
  simp only [List.getD, Int.toNat_natCast]
  rw [List.getElem?_append_right (by rw [tabTo_length _ _ _ (by omega)]; omega), tabTo_length _ _ _ (by omega)]
  simp
theorem sizeAt_in {f : List Int → RuleV → Int} {rs : List RuleV} {n : Nat} {k : Int} (h : n ≤ rs.length) (hk : k.toNat < n) : tabAt (tabTo f rs n) k = sizeAt f rs k := by
  unfold sizeAt
  have h1 := tabTo_stay f rs (k := k) (n := n) hk (rs.length - n) (by omega)
  rw [show n + (rs.length - n) = rs.length from by omega] at h1
  exact h1.symm
/-! What valid rules are like. -/
theorem kindI_2 {rs : List RuleV} {r : RuleV} (h : kindI rs r = true) (hk : r.kind = 2) : 1 ≤ r.bytes.length ∧ r.bytes.length ≤ 16 := by
  simp [kindI, meetsB, hk] at h
  omega
theorem kindI_3 {rs : List RuleV} {r : RuleV} (h : kindI rs r = true) (hk : r.kind = 3) : 1 ≤ r.size ∧ r.size ≤ 64 := by
  simp [kindI, meetsB, hk] at h
  exact h.1
theorem kindI_4 {rs : List RuleV} {r : RuleV} (h : kindI rs r = true) (hk : r.kind = 4) : r.kids.length = 1 ∧ kindAtB rs (r.kids.getD 0 0) = true := by
  simp [kindI, meetsB, hk] at h
  refine ⟨h.1.1, ?_⟩
  have := h.1.2
  cases hks : r.kids with
  | nil => rw [hks] at h; simp at h
  | cons x xs => rw [hks] at this; simpa using this
theorem kindI_5 {rs : List RuleV} {r : RuleV} (h : kindI rs r = true) (hk : r.kind = 5) : r.kids.length = 2 ∧ kindAtB rs (r.kids.getD 0 0) = true := by
  simp [kindI, meetsB, hk] at h
  refine ⟨h.1.1, ?_⟩
  have := h.1.2
  cases hks : r.kids with
  | nil => rw [hks] at h; simp at h
  | cons x xs => rw [hks] at this; simpa using this
theorem kindI_6 {rs : List RuleV} {r : RuleV} (h : kindI rs r = true) (hk : r.kind = 6) : r.names.length = r.kids.length ∧ 1 ≤ r.kids.length ∧ r.kids.length ≤ 8 := by
  simp [kindI, meetsB, hk, namesB] at h
  omega
theorem kindI_7 {rs : List RuleV} {r : RuleV} (h : kindI rs r = true) (hk : r.kind = 7) : r.kids.length = r.tags.length + 1 ∧ 1 ≤ r.tags.length ∧ r.tags.length ≤ 8 := by
  simp [kindI, meetsB, hk, tagsB] at h
  omega
theorem kindI_8 {rs : List RuleV} {r : RuleV} (h : kindI rs r = true) (hk : r.kind = 8) : r.kids.length = 1 := by
  simp [kindI, meetsB, hk] at h
  exact h.1
theorem kindI_9 {rs : List RuleV} {r : RuleV} (h : kindI rs r = true) (hk : r.kind = 9) : r.kids.length = 1 := by
  simp [kindI, meetsB, hk] at h
  exact h.1
theorem kindI_10 {rs : List RuleV} {r : RuleV} (h : kindI rs r = true) (hk : r.kind = 10) : r.bytes.length = 1 := by
  simp [kindI, meetsB, hk, termB] at h
  exact h.1.1
theorem kindI_known {rs : List RuleV} {r : RuleV} (h : kindI rs r = true) : 1 ≤ r.kind ∧ r.kind ≤ 10 := by
  rcases kind_cases r.kind with hk | hk | hk | hk | hk | hk | hk | hk | hk | hk | hk
  all_goals first | omega | (obtain ⟨k1, k2, k3, k4, k5, k6, k7, k8, k9, k10⟩ := hk; simp [kindI, meetsB, k1, k2, k3, k4, k5, k6, k7, k8, k9, k10] at h)
theorem mul_b {a b c : Int} (ha : 0 ≤ a) (hac : a ≤ c) (hb : 0 ≤ b) (hb2 : b ≤ 401) : 0 ≤ a * b ∧ a * b ≤ c * 401 := by
  refine ⟨Int.mul_nonneg ha hb, ?_⟩
  exact Int.le_trans (Int.mul_le_mul_of_nonneg_left hb2 ha) (Int.mul_le_mul_of_nonneg_right hac (by omega))
theorem minOf_b {rs : List RuleV} {t : List Int} {r : RuleV} (h : kindI rs r = true) (ht : InB 401 t) : 0 ≤ minOf t r ∧ minOf t r ≤ 4000 := by
  have hkn := kindI_known h
  have h0 := ht (r.kids.getD 0 0)
  have h1 := ht (r.kids.getD 1 0)
  have h2 := leastT_b ht (r.kids.drop 2) (tabAt t (r.kids.getD 1 0)) h1.1 h1.2
  have h3 := sumT_b ht r.kids
  unfold minOf
  rcases kind_cases r.kind with hk | hk | hk | hk | hk | hk | hk | hk | hk | hk | hk
  · have := kindI_size h hk; rw [if_pos (by omega)]; omega
  · have := kindI_2 h hk; rw [if_neg (by omega), if_pos (by omega)]; omega
  · have := kindI_3 h hk; rw [if_pos (by omega)]; omega
  · rw [if_neg (by omega), if_neg (by omega), if_pos (by omega)]; omega
  · rw [if_neg (by omega), if_neg (by omega), if_pos (by omega)]; omega
  · have := kindI_6 h hk
    rw [if_neg (by omega), if_neg (by omega), if_neg (by omega), if_pos (by omega)]
    omega
  · rw [if_neg (by omega), if_neg (by omega), if_neg (by omega), if_neg (by omega), if_pos (by omega)]; omega
  · rw [if_neg (by omega), if_neg (by omega), if_neg (by omega), if_neg (by omega), if_neg (by omega), if_neg (by omega)]; omega
  · rw [if_neg (by omega), if_neg (by omega), if_neg (by omega), if_neg (by omega), if_neg (by omega), if_pos (by omega)]; omega
  · rw [if_neg (by omega), if_neg (by omega), if_neg (by omega), if_neg (by omega), if_neg (by omega), if_neg (by omega)]; omega
  · omega
theorem limitAt_b (rs : List RuleV) (k : Int) : -1 ≤ limitAt rs k ∧ limitAt rs k ≤ 4294967295 := by
  unfold limitAt
  split
  · dsimp only
    split
    · rename_i h1 h2
      have := pow256_bounds (rs[k.toNat]'(by omega)).size
      omega
    · omega
  · omega
theorem maxOf_b {rs : List RuleV} {t : List Int} {r : RuleV} (h : kindI rs r = true) (hall : allV (kindI rs) rs) (ht : InB 401 t) : 0 ≤ maxOf rs t r ∧ maxOf rs t r ≤ 4294970000 := by
  have hkn := kindI_known h
  have h0 := ht (r.kids.getD 0 0)
  have h1 := ht (r.kids.getD 1 0)
  have h2 := mostT_b ht (r.kids.drop 2) (tabAt t (r.kids.getD 1 0)) h1.1 h1.2
  have h3 := sumT_b ht r.kids
  have h4 := limitAt_b rs (r.kids.getD 0 0)
  unfold maxOf
  rcases kind_cases r.kind with hk | hk | hk | hk | hk | hk | hk | hk | hk | hk | hk
  · have := kindI_size h hk; rw [if_pos (by omega)]; omega
  · have := kindI_2 h hk; rw [if_neg (by omega), if_pos (by omega)]; omega
  · have := kindI_3 h hk; rw [if_pos (by omega)]; omega
  · have h5 := (kindI_4 h hk).2
    rw [limit_of_valid hall] at h5
    have h6 := of_decide_eq_true h5
    rw [if_neg (by omega), if_neg (by omega), if_pos (by omega)]; omega
  · have h5 := (kindI_5 h hk).2
    rw [limit_of_valid hall] at h5
    have h6 := of_decide_eq_true h5
    have h7 := mul_b (a := min 40 (limitAt rs (r.kids.getD 0 0))) (c := 40) (by omega) (by omega) h1.1 h1.2
    rw [if_neg (by omega), if_neg (by omega), if_neg (by omega), if_pos (by omega)]; omega
  · have := kindI_6 h hk
    rw [if_neg (by omega), if_neg (by omega), if_neg (by omega), if_neg (by omega), if_pos (by omega)]
    omega
  · rw [if_neg (by omega), if_neg (by omega), if_neg (by omega), if_neg (by omega), if_neg (by omega), if_pos (by omega)]; omega
  · rw [if_neg (by omega), if_neg (by omega), if_neg (by omega), if_neg (by omega), if_neg (by omega), if_neg (by omega), if_pos (by omega)]; omega
  · rw [if_neg (by omega), if_neg (by omega), if_neg (by omega), if_neg (by omega), if_neg (by omega), if_neg (by omega), if_pos (by omega)]; omega
  · rw [if_neg (by omega), if_neg (by omega), if_neg (by omega), if_neg (by omega), if_neg (by omega), if_neg (by omega), if_neg (by omega)]; omega
  · omega
theorem tabTo_b {f : List Int → RuleV → Int} {rs : List RuleV} {b : Int} (hb : 0 ≤ b) (hf : ∀ t (n : Nat) (hn : n < rs.length), InB b t → 0 ≤ f t rs[n] ∧ f t rs[n] ≤ b) : ∀ n, n ≤ rs.length → InB b (tabTo f rs n)
  | 0, _ => InB.nil hb
  | n + 1, h => by
    have ih := tabTo_b hb hf n (by omega)
    rw [tabTo_next (by omega)]
    have hx := hf (tabTo f rs n) n (by omega) ih
    exact ih.snoc hx.1 hx.2
theorem allV_kind {rs : List RuleV} {n : Nat} (h : allV (kindI rs) rs) (hn : n < rs.length) : kindI rs rs[n] = true := validAt_kind hn (h n hn)
theorem mins_b {rs : List RuleV} (h : allV (kindI rs) rs) : ∀ n, n ≤ rs.length → InB 401 (tabTo minStep rs n) :=
  tabTo_b (by omega) fun t n hn ht => by
    have := minOf_b (allV_kind h hn) ht
    unfold minStep
    omega
theorem maxs_b {rs : List RuleV} (h : allV (kindI rs) rs) : ∀ n, n ≤ rs.length → InB 400 (tabTo (maxStep rs) rs n) :=
  tabTo_b (by omega) fun t n hn ht => by
    have := maxOf_b (allV_kind h hn) h (ht.mono (by omega))
    unfold maxStep
    omega
theorem depths_b (rs : List RuleV) : ∀ n, n ≤ rs.length → InB (n : Int) (tabTo depthStep rs n)
  | 0, _ => InB.nil (by omega)
  | n + 1, h => by
    have ih := depths_b rs n (by omega)
    rw [tabTo_next (by omega)]
    have hx := mostT_b ih rs[n].kids 0 (by omega) (by omega)
    have hd : depthStep (tabTo depthStep rs n) rs[n] = mostT (tabTo depthStep rs n) rs[n].kids 0 + 1 := rfl
    exact (ih.mono (by omega)).snoc (by omega) (by omega)
theorem allV_kids {rs : List RuleV} {n : Nat} (h : allV (kindI rs) rs) (hn : n < rs.length) : ∀ k ∈ rs[n].kids, 0 ≤ k ∧ k < (n : Int) := fun k hk => by
  have h1 := h n hn
  rw [validAt_in hn] at h1
  simp only [Bool.and_eq_true] at h1
  have h2 := h1.2.1
  unfold kidsB at h2
  rw [List.all_eq_true] at h2
  have h3 := of_decide_eq_true (h2 k hk)
  omega
end Go.Proofs.Ytefkhknfjohnaaa
namespace Go.Proofs.Ytefkhknfjohnaaa
open Go Go.RowKit
/-- A value, as data. -/
inductive ValueV where
  | mk (number : Int) (bytes : List UInt8) (items : List ValueV)
def ValueV.number : ValueV → Int | .mk n _ _ => n
def ValueV.bytes : ValueV → List UInt8 | .mk _ b _ => b
def ValueV.items : ValueV → List ValueV | .mk _ _ l => l
/-- A slice reads as these bytes; nil has no room. -/
def RdN (a : Option Addr) (bs : List UInt8) (cap : Nat) (w : World) : Prop := Rd a bs w ∧ (a = none → cap = 0)
theorem RdN.below {a : Option Addr} {bs : List UInt8} {cap : Nat} {w w' : World} (h : RdN a bs cap w) (hb : Below w.heap.size w w') : RdN a bs cap w' := ⟨h.1.below hb, h.2⟩
/-- Three cells hold this value, at most n levels deep. -/
def IsVal : Nat → ValueV → List Value → World → Prop
  | 0, _, _, _ => False
  | n + 1, v, cs, w => ∃ ab cb ai ci, cs = [.int .i64 v.number, .slice ab v.bytes.length cb, .slice ai v.items.length ci] ∧ RdN ab v.bytes cb w ∧
      ∀ j (h : j < v.items.length), ∃ b off cs', ai = some ⟨b, off, none⟩ ∧ IsVal n v.items[j] cs' w ∧ ∀ i u, cs'[i]? = some u → w.cell? ⟨b, off + j * 3 + i, none⟩ = some u
theorem IsVal.below : ∀ {n : Nat} {v : ValueV} {cs : List Value} {w w' : World}, IsVal n v cs w → Below w.heap.size w w' → IsVal n v cs w'
  | 0, _, _, _, _, h, _ => h
  | n + 1, v, cs, w, w', h, hb => by
    obtain ⟨ab, cb, ai, ci, e, h1, h2⟩ := h
    refine ⟨ab, cb, ai, ci, e, h1.below hb, fun j hj => ?_⟩
    obtain ⟨b, off, cs', e2, h3, h4⟩ := h2 j hj
    exact ⟨b, off, cs', e2, h3.below hb, fun i u hi => (hb.cell (cell_lt (h4 i u hi))).trans (h4 i u hi)⟩
/-- The kid of the alternative with a tag; -1 if there is none. -/
def tagKid : List Int → List Int → Int → Int
  | t :: ts, k :: ks, x => if t = x then k else tagKid ts ks x
  | _, _, _ => -1
/-- The rule of an item. -/
def itemR (r : RuleV) (x : Int) (i : Nat) : Int :=
  if r.kind = 5 then r.kids.getD 1 0
  else if r.kind = 6 then (if i < r.kids.length then r.kids.getD i 0 else -1)
  else if r.kind = 7 then tagKid r.tags (r.kids.drop 1) x
  else if r.kind = 8 ∨ r.kind = 9 then r.kids.getD 0 0
  else -1
def noRule : RuleV := ⟨⟨#[]⟩, 0, 0, false, [], [], [], []⟩
/-- The rule at an index. -/
def ruleAt (rs : List RuleV) (k : Int) : RuleV := rs.getD k.toNat noRule
theorem ruleAt_at {rs : List RuleV} {n : Nat} (h : n < rs.length) : ruleAt rs (n : Int) = rs[n] := by
  unfold ruleAt
  rw [Int.toNat_natCast]
  simp [List.getD, List.getElem?_eq_getElem h]
/-- Whether the fields of a value itself fit. -/
def ownB (rs : List RuleV) (r : RuleV) (v : ValueV) : Bool :=
  if r.kind = 1 then decide (0 ≤ v.number ∧ v.number ≤ pow256 r.size - 1) && (decide (v.bytes.length = 0) && decide (v.items.length = 0))
  else if r.kind = 2 then decide (v.number = 0) && (decide (v.bytes.length = 0) && decide (v.items.length = 0))
  else if r.kind = 3 then decide (v.number = 0) && (decide ((v.bytes.length : Int) = r.size) && decide (v.items.length = 0))
  else if r.kind = 4 then decide (v.number = 0) && (decide ((v.bytes.length : Int) ≤ min 400 (limitAt rs (r.kids.getD 0 0))) && decide (v.items.length = 0))
  else if r.kind = 10 then decide (v.number = 0) && (decide (v.bytes.length ≤ 400) && decide (v.items.length = 0))
  else if r.kind = 5 then decide (v.number = 0) && (decide (v.bytes.length = 0) && decide ((v.items.length : Int) ≤ min 40 (limitAt rs (r.kids.getD 0 0))))
  else if r.kind = 6 then decide (v.number = 0) && (decide (v.bytes.length = 0) && decide (v.items.length = r.kids.length))
  else if r.kind = 7 then decide (v.bytes.length = 0) && (decide (v.items.length = 1) && decide (0 ≤ itemR r v.number 0))
  else if r.kind = 8 then decide (v.number = 0) && (decide (v.bytes.length = 0) && decide (v.items.length ≤ 1))
  else decide (v.number = 0) && (decide (v.bytes.length = 0) && decide (v.items.length = 1))
mutual
/-- Whether a value is one of a rule. -/
def validV (rs : List RuleV) (k : Int) : ValueV → Bool
  | .mk n b l => ownB rs (ruleAt rs k) (.mk n b l) && validL rs (ruleAt rs k) n 0 l
/-- Whether items are those of a rule, from the one numbered i on. -/
def validL (rs : List RuleV) (r : RuleV) (x : Int) (i : Nat) : List ValueV → Bool
  | [] => true
  | v :: vs => validV rs (itemR r x i) v && validL rs r x (i + 1) vs
end
theorem validV_eq (rs : List RuleV) (k : Int) (v : ValueV) : validV rs k v = (ownB rs (ruleAt rs k) v && validL rs (ruleAt rs k) v.number 0 v.items) := by
  cases v with
  | mk n b l => rw [validV]; rfl
theorem validL_next {rs : List RuleV} {r : RuleV} {x : Int} {q : Nat} {l : List ValueV} (h : q < l.length) : validL rs r x q (l.drop q) = (validV rs (itemR r x q) l[q] && validL rs r x (q + 1) (l.drop (q + 1))) := by
  rw [List.drop_eq_getElem_cons h, validL]
theorem validL_at {rs : List RuleV} {r : RuleV} {x : Int} : ∀ {l : List ValueV} {i : Nat}, validL rs r x i l = true → ∀ q (h : q < l.length), validV rs (itemR r x (i + q)) l[q] = true
  | [], _, _, q, h => by simp at h
  | v :: l, i, hv, q, h => by
    rw [validL, Bool.and_eq_true] at hv
    cases q with
    | zero => exact hv.1
    | succ q =>
      have := validL_at hv.2 q (by simpa using h)
      rw [show i + 1 + q = i + (q + 1) from by omega] at this
      simpa using this
/-- The length of bytes with their escapes. -/
def escLen (t : UInt8) : List UInt8 → Nat
  | [] => 0
  | b :: bs => (if b = t ∨ b = 92 then 2 else 1) + escLen t bs
/-- What an encoding has beside those of its items. -/
def headLen (rs : List RuleV) (r : RuleV) (b : List UInt8) : Nat :=
  if r.kind = 1 then r.size.toNat
  else if r.kind = 2 then r.bytes.length
  else if r.kind = 3 then b.length
  else if r.kind = 4 then (ruleAt rs (r.kids.getD 0 0)).size.toNat + b.length
  else if r.kind = 5 ∨ r.kind = 7 then (ruleAt rs (r.kids.getD 0 0)).size.toNat
  else if r.kind = 8 ∨ r.kind = 9 then 1
  else if r.kind = 10 then escLen (r.bytes.getD 0 0) b + 1
  else 0
mutual
/-- The length of the encoding of a value. -/
def plen (rs : List RuleV) (k : Int) : ValueV → Nat
  | .mk n b l => headLen rs (ruleAt rs k) b + plens rs (ruleAt rs k) n 0 l
def plens (rs : List RuleV) (r : RuleV) (x : Int) (i : Nat) : List ValueV → Nat
  | [] => 0
  | v :: vs => plen rs (itemR r x i) v + plens rs r x (i + 1) vs
end
theorem plen_eq (rs : List RuleV) (k : Int) (v : ValueV) : plen rs k v = headLen rs (ruleAt rs k) v.bytes + plens rs (ruleAt rs k) v.number 0 v.items := by
  cases v with
  | mk n b l => rw [plen]; rfl
theorem tagKid_mem : ∀ (ts ks : List Int) (x : Int), tagKid ts ks x = -1 ∨ tagKid ts ks x ∈ ks
  | [], _, _ => .inl (by cases ‹List Int› <;> rfl)
  | t :: ts, [], x => .inl rfl
  | t :: ts, k :: ks, x => by
    unfold tagKid
    split
    · exact .inr (by simp)
    · rcases tagKid_mem ts ks x with h | h
      · exact .inl h
      · exact .inr (List.mem_cons_of_mem _ h)
theorem getD_mem {ks : List Int} {j : Nat} (h : j < ks.length) : ks.getD j 0 ∈ ks := by
  simp [List.getD, List.getElem?_eq_getElem h]
/-- The rules of the items of a value that fits are kids of its rule. -/
theorem item_kid {rs : List RuleV} {r : RuleV} {v : ValueV} (hk : kindI rs r = true) (h : ownB rs r v = true) {q : Nat} (hq : q < v.items.length) : itemR r v.number q ∈ r.kids := by
  have hkn := kindI_known hk
  rcases (by omega : r.kind = 1 ∨ r.kind = 2 ∨ r.kind = 3 ∨ r.kind = 4 ∨ r.kind = 5 ∨ r.kind = 6 ∨ r.kind = 7 ∨ r.kind = 8 ∨ r.kind = 9 ∨ r.kind = 10) with e | e | e | e | e | e | e | e | e | e
  · simp [ownB, e] at h; rw [h.2.2] at hq; simp at hq
  · simp [ownB, e] at h; rw [h.2.2] at hq; simp at hq
  · simp [ownB, e] at h; rw [h.2.2] at hq; simp at hq
  · simp [ownB, e] at h; rw [h.2.2] at hq; simp at hq
  · have := kindI_5 hk e
    unfold itemR
    rw [if_pos e]
    exact getD_mem (by omega)
  · simp [ownB, e] at h
    unfold itemR
    rw [if_neg (by omega), if_pos e, if_pos (by omega)]
    exact getD_mem (by omega)
  · simp [ownB, e] at h
    have h0 : q = 0 := by omega
    subst h0
    have h1 := h.2.2
    have h2 : itemR r v.number 0 = tagKid r.tags (r.kids.drop 1) v.number := by unfold itemR; rw [if_neg (by omega), if_neg (by omega), if_pos e]
    rw [h2] at h1 ⊢
    rcases tagKid_mem r.tags (r.kids.drop 1) v.number with h3 | h3
    · omega
    · exact List.mem_of_mem_drop h3
  · have := kindI_8 hk e
    unfold itemR
    rw [if_neg (by omega), if_neg (by omega), if_neg (by omega), if_pos (by omega)]
    exact getD_mem (by omega)
  · have := kindI_9 hk e
    unfold itemR
    rw [if_neg (by omega), if_neg (by omega), if_neg (by omega), if_pos (by omega)]
    exact getD_mem (by omega)
  · simp [ownB, e] at h; rw [h.2.2] at hq; simp at hq
end Go.Proofs.Ytefkhknfjohnaaa
