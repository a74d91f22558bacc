/- Sizes and depths of rules, as plain functions over tables. No program is walked here. Values, as data and in memory; what a valid value is, how long its encoding is. No program is walked here. A value in new memory, and a slice of values that a call builds by append. Values whose slices lie each in a block of its own: what stays when other blocks turn; marks of values. No program is walked here. Contracts of the laws' sizes of values. -/
import Derived.Test.YtefkhknfjohnaaaGRul
import Derived.Test.YtefkhknfjohnaaaGPu
import Derived.Test.YtefkhknfjohnaaaGSz
import Derived.IntWalk
import Derived.Deep.CutRange
namespace Go.Proofs.Ytefkhknfjohnaaa
open Go Go.RowKit
/-- An entry of a table; 0 beyond it. -/
def tabAt (t : List Int) (k : Int) : Int := t.getD k.toNat 0
theorem tabAt_in {t : List Int} {k : Nat} (h : k < t.length) : tabAt t (k : Int) = t[k] := by
  unfold tabAt
  rw [Int.toNat_natCast]
  simp [List.getD, List.getElem?_eq_getElem h]
/-- The sum of the entries of some rules. -/
def sumT (t : List Int) : List Int → Int
  | [] => 0
  | k :: ks => tabAt t k + sumT t ks
/-- The least of the entries of some rules, and of m. -/
def leastT (t : List Int) : List Int → Int → Int
  | [], m => m
  | k :: ks, m => leastT t ks (min m (tabAt t k))
/-- The greatest of the entries of some rules, and of m. -/
def mostT (t : List Int) : List Int → Int → Int
  | [], m => m
  | k :: ks, m => mostT t ks (max m (tabAt t k))
theorem sumT_snoc (t : List Int) (k : Int) : ∀ ks, sumT t (ks ++ [k]) = sumT t ks + tabAt t k
  | [] => by simp [sumT]
  | x :: ks => by simp only [List.cons_append, sumT, sumT_snoc t k ks]; omega
theorem leastT_snoc (t : List Int) (k : Int) : ∀ ks m, leastT t (ks ++ [k]) m = min (leastT t ks m) (tabAt t k)
  | [], m => rfl
  | x :: ks, m => by simp only [List.cons_append, leastT]; exact leastT_snoc t k ks _
theorem mostT_snoc (t : List Int) (k : Int) : ∀ ks m, mostT t (ks ++ [k]) m = max (mostT t ks m) (tabAt t k)
  | [], m => rfl
  | x :: ks, m => by simp only [List.cons_append, mostT]; exact mostT_snoc t k ks _
theorem sumT_next {t ks : List Int} {j : Nat} (h : j < ks.length) : sumT t (ks.take (j + 1)) = sumT t (ks.take j) + tabAt t ks[j] := by
  rw [List.take_succ_eq_append_getElem h, sumT_snoc]
theorem leastT_next {t ks : List Int} {j : Nat} {m : Int} (h : j < ks.length) : leastT t (ks.take (j + 1)) m = min (leastT t (ks.take j) m) (tabAt t ks[j]) := by
  rw [List.take_succ_eq_append_getElem h, leastT_snoc]
theorem mostT_next {t ks : List Int} {j : Nat} {m : Int} (h : j < ks.length) : mostT t (ks.take (j + 1)) m = max (mostT t (ks.take j) m) (tabAt t ks[j]) := by
  rw [List.take_succ_eq_append_getElem h, mostT_snoc]
/-- All entries lie from 0 up to b. -/
def InB (b : Int) (t : List Int) : Prop := ∀ k, 0 ≤ tabAt t k ∧ tabAt t k ≤ b
theorem InB.snoc {b x : Int} {t : List Int} (h : InB b t) (h0 : 0 ≤ x) (h1 : x ≤ b) : InB b (t ++ [x]) := fun k => by
  have hk := h k
  unfold tabAt at hk ⊢
  simp only [List.getD] at hk ⊢
  by_cases c : k.toNat < t.length
  · rw [List.getElem?_append_left c]; exact hk
  · rw [List.getElem?_append_right (by omega)]
    by_cases c2 : k.toNat - t.length = 0
    · rw [c2]; exact ⟨h0, h1⟩
    · rw [List.getElem?_eq_none (by simp; omega)]
      simp; omega
theorem InB.nil {b : Int} (h : 0 ≤ b) : InB b [] := fun k => by simp [tabAt, h]
theorem InB.mono {b c : Int} {t : List Int} (h : InB b t) (hc : b ≤ c) : InB c t := fun k => by have := h k; omega
theorem sumT_b {b : Int} {t : List Int} (h : InB b t) : ∀ ks : List Int, 0 ≤ sumT t ks ∧ sumT t ks ≤ b * ks.length
  | [] => by simp [sumT]
  | k :: ks => by
    have h1 := h k
    have h2 := sumT_b h ks
    simp only [sumT, List.length_cons]
    rw [show ((ks.length + 1 : Nat) : Int) = (ks.length : Int) + 1 from by omega, Int.mul_add]
    omega
theorem leastT_b {b : Int} {t : List Int} (h : InB b t) : ∀ (ks : List Int) (m : Int), 0 ≤ m → m ≤ b → 0 ≤ leastT t ks m ∧ leastT t ks m ≤ b
  | [], m, h0, h1 => ⟨h0, h1⟩
  | k :: ks, m, h0, h1 => by
    have := h k
    exact leastT_b h ks _ (by omega) (by omega)
theorem mostT_b {b : Int} {t : List Int} (h : InB b t) : ∀ (ks : List Int) (m : Int), 0 ≤ m → m ≤ b → 0 ≤ mostT t ks m ∧ mostT t ks m ≤ b
  | [], m, h0, h1 => ⟨h0, h1⟩
  | k :: ks, m, h0, h1 => by
    have := h k
    exact mostT_b h ks _ (by omega) (by omega)
theorem mostT_one {t ks : List Int} (h : 1 < ks.length) (h0 : 0 ≤ tabAt t (ks.getD 1 0)) : mostT t (ks.drop 1) 0 = mostT t (ks.drop 2) (tabAt t (ks.getD 1 0)) := by
  match ks, h with
  | a :: b :: r, _ =>
    simp only [List.getD, List.getElem?_cons_succ, List.getElem?_cons_zero, Option.getD_some] at h0 ⊢
    show mostT t (b :: r) 0 = mostT t r (tabAt t b)
    rw [mostT, show max 0 (tabAt t b) = tabAt t b from by omega]
/-- The least length of a rule, by the least lengths of earlier rules. -/
def minOf (t : List Int) (r : RuleV) : Int :=
  if r.kind = 1 ∨ r.kind = 3 then r.size
  else if r.kind = 2 then (r.bytes.length : Int)
  else if r.kind = 4 ∨ r.kind = 5 then tabAt t (r.kids.getD 0 0)
  else if r.kind = 6 then sumT t r.kids
  else if r.kind = 7 then tabAt t (r.kids.getD 0 0) + leastT t (r.kids.drop 2) (tabAt t (r.kids.getD 1 0))
  else if r.kind = 9 then tabAt t (r.kids.getD 0 0) + 1
  else 1
def minStep (t : List Int) (r : RuleV) : Int := min 401 (minOf t r)
/-- The greatest length of a rule, by the greatest lengths of earlier rules. -/
def maxOf (rs : List RuleV) (t : List Int) (r : RuleV) : Int :=
  if r.kind = 1 ∨ r.kind = 3 then r.size
  else if r.kind = 2 then (r.bytes.length : Int)
  else if r.kind = 4 then tabAt t (r.kids.getD 0 0) + limitAt rs (r.kids.getD 0 0)
  else if r.kind = 5 then tabAt t (r.kids.getD 0 0) + min 40 (limitAt rs (r.kids.getD 0 0)) * tabAt t (r.kids.getD 1 0)
  else if r.kind = 6 then sumT t r.kids
  else if r.kind = 7 then tabAt t (r.kids.getD 0 0) + mostT t (r.kids.drop 2) (tabAt t (r.kids.getD 1 0))
  else if r.kind = 8 ∨ r.kind = 9 then 1 + tabAt t (r.kids.getD 0 0)
  else 400
def maxStep (rs : List RuleV) (t : List Int) (r : RuleV) : Int := min 400 (maxOf rs t r)
def depthStep (t : List Int) (r : RuleV) : Int := mostT t r.kids 0 + 1
/-- The table of the first n rules. -/
def tabTo (f : List Int → RuleV → Int) (rs : List RuleV) : Nat → List Int
  | 0 => []
  | n + 1 => if h : n < rs.length then tabTo f rs n ++ [f (tabTo f rs n) rs[n]] else tabTo f rs n
theorem tabTo_next {f : List Int → RuleV → Int} {rs : List RuleV} {n : Nat} (h : n < rs.length) : tabTo f rs (n + 1) = tabTo f rs n ++ [f (tabTo f rs n) rs[n]] := by
  rw [tabTo, dif_pos h]
theorem tabTo_length (f : List Int → RuleV → Int) (rs : List RuleV) : ∀ n, n ≤ rs.length → (tabTo f rs n).length = n
  | 0, _ => rfl
  | n + 1, h => by rw [tabTo_next (by omega), List.length_append, tabTo_length f rs n (by omega)]; rfl
theorem tabAt_left {t s : List Int} {k : Int} (h : k.toNat < t.length) : tabAt (t ++ s) k = tabAt t k := by
  unfold tabAt
  simp only [List.getD]
  rw [List.getElem?_append_left h]
/-- An entry stays. -/
theorem tabTo_stay (f : List Int → RuleV → Int) (rs : List RuleV) {k : Int} {n : Nat} (hk : k.toNat < n) : ∀ d, n + d ≤ rs.length → tabAt (tabTo f rs (n + d)) k = tabAt (tabTo f rs n) k
  | 0, _ => rfl
  | d + 1, h => by
    rw [show n + (d + 1) = (n + d) + 1 from by omega, tabTo_next (by omega), tabAt_left (by rw [tabTo_length _ _ _ (by omega)]; omega)]
    exact tabTo_stay f rs hk d (by omega)
/-- The entry of the rule at an index. -/
def sizeAt (f : List Int → RuleV → Int) (rs : List RuleV) (k : Int) : Int := tabAt (tabTo f rs rs.length) k
theorem sizeAt_at {f : List Int → RuleV → Int} {rs : List RuleV} {n : Nat} (h : n < rs.length) : sizeAt f rs (n : Int) = f (tabTo f rs n) rs[n] := by
  unfold sizeAt
  have h1 := tabTo_stay f rs (k := (n : Int)) (n := n + 1) (by omega) (rs.length - (n + 1)) (by omega)
  rw [show n + 1 + (rs.length - (n + 1)) = rs.length from by omega] at h1
  rw [h1, tabTo_next h]
  unfold tabAt
  simp only [List.getD, Int.toNat_natCast]
  rw [List.getElem?_append_right (by rw [tabTo_length _ _ _ (by omega)]; omega), tabTo_length _ _ _ (by omega)]
  simp
theorem sizeAt_in {f : List Int → RuleV → Int} {rs : List RuleV} {n : Nat} {k : Int} (h : n ≤ rs.length) (hk : k.toNat < n) : tabAt (tabTo f rs n) k = sizeAt f rs k := by
  unfold sizeAt
  have h1 := tabTo_stay f rs (k := k) (n := n) hk (rs.length - n) (by omega)
  rw [show n + (rs.length - n) = rs.length from by omega] at h1
  exact h1.symm
/-! What valid rules are like. -/
theorem kindI_2 {rs : List RuleV} {r : RuleV} (h : kindI rs r = true) (hk : r.kind = 2) : 1 ≤ r.bytes.length ∧ r.bytes.length ≤ 16 := by
  simp [kindI, meetsB, hk] at h
  omega
theorem kindI_3 {rs : List RuleV} {r : RuleV} (h : kindI rs r = true) (hk : r.kind = 3) : 1 ≤ r.size ∧ r.size ≤ 64 := by
  simp [kindI, meetsB, hk] at h
  exact h.1
theorem kindI_4 {rs : List RuleV} {r : RuleV} (h : kindI rs r = true) (hk : r.kind = 4) : r.kids.length = 1 ∧ kindAtB rs (r.kids.getD 0 0) = true := by
  simp [kindI, meetsB, hk] at h
  refine ⟨h.1.1, ?_⟩
  have := h.1.2
  cases hks : r.kids with
  | nil => rw [hks] at h; simp at h
  | cons x xs => rw [hks] at this; simpa using this
theorem kindI_5 {rs : List RuleV} {r : RuleV} (h : kindI rs r = true) (hk : r.kind = 5) : r.kids.length = 2 ∧ kindAtB rs (r.kids.getD 0 0) = true := by
  simp [kindI, meetsB, hk] at h
  refine ⟨h.1.1, ?_⟩
  have := h.1.2
  cases hks : r.kids with
  | nil => rw [hks] at h; simp at h
  | cons x xs => rw [hks] at this; simpa using this
theorem kindI_6 {rs : List RuleV} {r : RuleV} (h : kindI rs r = true) (hk : r.kind = 6) : r.names.length = r.kids.length ∧ 1 ≤ r.kids.length ∧ r.kids.length ≤ 8 := by
  simp [kindI, meetsB, hk, namesB] at h
  omega
theorem kindI_7 {rs : List RuleV} {r : RuleV} (h : kindI rs r = true) (hk : r.kind = 7) : r.kids.length = r.tags.length + 1 ∧ 1 ≤ r.tags.length ∧ r.tags.length ≤ 8 := by
  simp [kindI, meetsB, hk, tagsB] at h
  omega
theorem kindI_8 {rs : List RuleV} {r : RuleV} (h : kindI rs r = true) (hk : r.kind = 8) : r.kids.length = 1 := by
  simp [kindI, meetsB, hk] at h
  exact h.1
theorem kindI_9 {rs : List RuleV} {r : RuleV} (h : kindI rs r = true) (hk : r.kind = 9) : r.kids.length = 1 := by
  simp [kindI, meetsB, hk] at h
  exact h.1
theorem kindI_10 {rs : List RuleV} {r : RuleV} (h : kindI rs r = true) (hk : r.kind = 10) : r.bytes.length = 1 := by
  simp [kindI, meetsB, hk, termB] at h
  exact h.1.1
theorem kindI_known {rs : List RuleV} {r : RuleV} (h : kindI rs r = true) : 1 ≤ r.kind ∧ r.kind ≤ 10 := by
  rcases kind_cases r.kind with hk | hk | hk | hk | hk | hk | hk | hk | hk | hk | hk
  all_goals first | omega | (obtain ⟨k1, k2, k3, k4, k5, k6, k7, k8, k9, k10⟩ := hk; simp [kindI, meetsB, k1, k2, k3, k4, k5, k6, k7, k8, k9, k10] at h)
theorem mul_b {a b c : Int} (ha : 0 ≤ a) (hac : a ≤ c) (hb : 0 ≤ b) (hb2 : b ≤ 401) : 0 ≤ a * b ∧ a * b ≤ c * 401 := by
  refine ⟨Int.mul_nonneg ha hb, ?_⟩
  exact Int.le_trans (Int.mul_le_mul_of_nonneg_left hb2 ha) (Int.mul_le_mul_of_nonneg_right hac (by omega))
theorem minOf_b {rs : List RuleV} {t : List Int} {r : RuleV} (h : kindI rs r = true) (ht : InB 401 t) : 0 ≤ minOf t r ∧ minOf t r ≤ 4000 := by
  have hkn := kindI_known h
  have h0 := ht (r.kids.getD 0 0)
  have h1 := ht (r.kids.getD 1 0)
  have h2 := leastT_b ht (r.kids.drop 2) (tabAt t (r.kids.getD 1 0)) h1.1 h1.2
  have h3 := sumT_b ht r.kids
  unfold minOf
  rcases kind_cases r.kind with hk | hk | hk | hk | hk | hk | hk | hk | hk | hk | hk
  · have := kindI_size h hk; rw [if_pos (by omega)]; omega
  · have := kindI_2 h hk; rw [if_neg (by omega), if_pos (by omega)]; omega
  · have := kindI_3 h hk; rw [if_pos (by omega)]; omega
  · rw [if_neg (by omega), if_neg (by omega), if_pos (by omega)]; omega
  · rw [if_neg (by omega), if_neg (by omega), if_pos (by omega)]; omega
  · have := kindI_6 h hk
    rw [if_neg (by omega), if_neg (by omega), if_neg (by omega), if_pos (by omega)]
    omega
  · rw [if_neg (by omega), if_neg (by omega), if_neg (by omega), if_neg (by omega), if_pos (by omega)]; omega
  · rw [if_neg (by omega), if_neg (by omega), if_neg (by omega), if_neg (by omega), if_neg (by omega), if_neg (by omega)]; omega
  · rw [if_neg (by omega), if_neg (by omega), if_neg (by omega), if_neg (by omega), if_neg (by omega), if_pos (by omega)]; omega
  · rw [if_neg (by omega), if_neg (by omega), if_neg (by omega), if_neg (by omega), if_neg (by omega), if_neg (by omega)]; omega
  · omega
theorem limitAt_b (rs : List RuleV) (k : Int) : -1 ≤ limitAt rs k ∧ limitAt rs k ≤ 4294967295 := by
  unfold limitAt
  split
  · dsimp only
    split
    · rename_i h1 h2
      have := pow256_bounds (rs[k.toNat]'(by omega)).size
      omega
    · omega
  · omega
theorem maxOf_b {rs : List RuleV} {t : List Int} {r : RuleV} (h : kindI rs r = true) (hall : allV (kindI rs) rs) (ht : InB 401 t) : 0 ≤ maxOf rs t r ∧ maxOf rs t r ≤ 4294970000 := by
  have hkn := kindI_known h
  have h0 := ht (r.kids.getD 0 0)
  have h1 := ht (r.kids.getD 1 0)
  have h2 := mostT_b ht (r.kids.drop 2) (tabAt t (r.kids.getD 1 0)) h1.1 h1.2
  have h3 := sumT_b ht r.kids
  have h4 := limitAt_b rs (r.kids.getD 0 0)
  unfold maxOf
  rcases kind_cases r.kind with hk | hk | hk | hk | hk | hk | hk | hk | hk | hk | hk
  · have := kindI_size h hk; rw [if_pos (by omega)]; omega
  · have := kindI_2 h hk; rw [if_neg (by omega), if_pos (by omega)]; omega
  · have := kindI_3 h hk; rw [if_pos (by omega)]; omega
  · have h5 := (kindI_4 h hk).2
    rw [limit_of_valid hall] at h5
    have h6 := of_decide_eq_true h5
    rw [if_neg (by omega), if_neg (by omega), if_pos (by omega)]; omega
  · have h5 := (kindI_5 h hk).2
    rw [limit_of_valid hall] at h5
    have h6 := of_decide_eq_true h5
    have h7 := mul_b (a := min 40 (limitAt rs (r.kids.getD 0 0))) (c := 40) (by omega) (by omega) h1.1 h1.2
    rw [if_neg (by omega), if_neg (by omega), if_neg (by omega), if_pos (by omega)]; omega
  · have := kindI_6 h hk
    rw [if_neg (by omega), if_neg (by omega), if_neg (by omega), if_neg (by omega), if_pos (by omega)]
    omega
  · rw [if_neg (by omega), if_neg (by omega), if_neg (by omega), if_neg (by omega), if_neg (by omega), if_pos (by omega)]; omega
  · rw [if_neg (by omega), if_neg (by omega), if_neg (by omega), if_neg (by omega), if_neg (by omega), if_neg (by omega), if_pos (by omega)]; omega
  · rw [if_neg (by omega), if_neg (by omega), if_neg (by omega), if_neg (by omega), if_neg (by omega), if_neg (by omega), if_pos (by omega)]; omega
  · rw [if_neg (by omega), if_neg (by omega), if_neg (by omega), if_neg (by omega), if_neg (by omega), if_neg (by omega), if_neg (by omega)]; omega
  · omega
theorem tabTo_b {f : List Int → RuleV → Int} {rs : List RuleV} {b : Int} (hb : 0 ≤ b) (hf : ∀ t (n : Nat) (hn : n < rs.length), InB b t → 0 ≤ f t rs[n] ∧ f t rs[n] ≤ b) : ∀ n, n ≤ rs.length → InB b (tabTo f rs n)
  | 0, _ => InB.nil hb
  | n + 1, h => by
    have ih := tabTo_b hb hf n (by omega)
    rw [tabTo_next (by omega)]
    have hx := hf (tabTo f rs n) n (by omega) ih
    exact ih.snoc hx.1 hx.2
theorem allV_kind {rs : List RuleV} {n : Nat} (h : allV (kindI rs) rs) (hn : n < rs.length) : kindI rs rs[n] = true := validAt_kind hn (h n hn)
theorem mins_b {rs : List RuleV} (h : allV (kindI rs) rs) : ∀ n, n ≤ rs.length → InB 401 (tabTo minStep rs n) :=
  tabTo_b (by omega) fun t n hn ht => by
    have := minOf_b (allV_kind h hn) ht
    unfold minStep
    omega
theorem maxs_b {rs : List RuleV} (h : allV (kindI rs) rs) : ∀ n, n ≤ rs.length → InB 400 (tabTo (maxStep rs) rs n) :=
  tabTo_b (by omega) fun t n hn ht => by
    have := maxOf_b (allV_kind h hn) h (ht.mono (by omega))
    unfold maxStep
    omega
theorem depths_b (rs : List RuleV) : ∀ n, n ≤ rs.length → InB (n : Int) (tabTo depthStep rs n)
  | 0, _ => InB.nil (by omega)
  | n + 1, h => by
    have ih := depths_b rs n (by omega)
    rw [tabTo_next (by omega)]
    have hx := mostT_b ih rs[n].kids 0 (by omega) (by omega)
    have hd : depthStep (tabTo depthStep rs n) rs[n] = mostT (tabTo depthStep rs n) rs[n].kids 0 + 1 := rfl
    exact (ih.mono (by omega)).snoc (by omega) (by omega)
theorem allV_kids {rs : List RuleV} {n : Nat} (h : allV (kindI rs) rs) (hn : n < rs.length) : ∀ k ∈ rs[n].kids, 0 ≤ k ∧ k < (n : Int) := fun k hk => by
  have h1 := h n hn
  rw [validAt_in hn] at h1
  simp only [Bool.and_eq_true] at h1
  have h2 := h1.2.1
  unfold kidsB at h2
  rw [List.all_eq_true] at h2
  have h3 := of_decide_eq_true (h2 k hk)
  omega
end Go.Proofs.Ytefkhknfjohnaaa
namespace Go.Proofs.Ytefkhknfjohnaaa
open Go Go.RowKit
/-- A value, as data. -/
inductive ValueV where
  | mk (number : Int) (bytes : List UInt8) (items : List ValueV)
def ValueV.number : ValueV → Int | .mk n _ _ => n
def ValueV.bytes : ValueV → List UInt8 | .mk _ b _ => b
def ValueV.items : ValueV → List ValueV | .mk _ _ l => l
/-- A slice reads as these bytes; nil has no room. -/
def RdN (a : Option Addr) (bs : List UInt8) (cap : Nat) (w : World) : Prop := Rd a bs w ∧ (a = none → cap = 0)
theorem RdN.below {a : Option Addr} {bs : List UInt8} {cap : Nat} {w w' : World} (h : RdN a bs cap w) (hb : Below w.heap.size w w') : RdN a bs cap w' := ⟨h.1.below hb, h.2⟩
/-- Three cells hold this value, at most n levels deep. -/
def IsVal : Nat → ValueV → List Value → World → Prop
  | 0, _, _, _ => False
  | n + 1, v, cs, w => ∃ ab cb ai ci, cs = [.int .i64 v.number, .slice ab v.bytes.length cb, .slice ai v.items.length ci] ∧ RdN ab v.bytes cb w ∧
      ∀ j (h : j < v.items.length), ∃ b off cs', ai = some ⟨b, off, none⟩ ∧ IsVal n v.items[j] cs' w ∧ ∀ i u, cs'[i]? = some u → w.cell? ⟨b, off + j * 3 + i, none⟩ = some u
theorem IsVal.below : ∀ {n : Nat} {v : ValueV} {cs : List Value} {w w' : World}, IsVal n v cs w → Below w.heap.size w w' → IsVal n v cs w'
  | 0, _, _, _, _, h, _ => h
  | n + 1, v, cs, w, w', h, hb => by
    obtain ⟨ab, cb, ai, ci, e, h1, h2⟩ := h
    refine ⟨ab, cb, ai, ci, e, h1.below hb, fun j hj => ?_⟩
    obtain ⟨b, off, cs', e2, h3, h4⟩ := h2 j hj
    exact ⟨b, off, cs', e2, h3.below hb, fun i u hi => (hb.cell (cell_lt (h4 i u hi))).trans (h4 i u hi)⟩
/-- The kid of the alternative with a tag; -1 if there is none. -/
def tagKid : List Int → List Int → Int → Int
  | t :: ts, k :: ks, x => if t = x then k else tagKid ts ks x
  | _, _, _ => -1
/-- The rule of an item. -/
def itemR (r : RuleV) (x : Int) (i : Nat) : Int :=
  if r.kind = 5 then r.kids.getD 1 0
  else if r.kind = 6 then (if i < r.kids.length then r.kids.getD i 0 else -1)
  else if r.kind = 7 then tagKid r.tags (r.kids.drop 1) x
  else if r.kind = 8 ∨ r.kind = 9 then r.kids.getD 0 0
  else -1
def noRule : RuleV := ⟨⟨#[]⟩, 0, 0, false, [], [], [], []⟩
/-- The rule at an index. -/
def ruleAt (rs : List RuleV) (k : Int) : RuleV := rs.getD k.toNat noRule
theorem ruleAt_at {rs : List RuleV} {n : Nat} (h : n < rs.length) : ruleAt rs (n : Int) = rs[n] := by
  unfold ruleAt
  rw [Int.toNat_natCast]
  simp [List.getD, List.getElem?_eq_getElem h]
/-- Whether the fields of a value itself fit. -/
def ownB (rs : List RuleV) (r : RuleV) (v : ValueV) : Bool :=
  if r.kind = 1 then decide (0 ≤ v.number ∧ v.number ≤ pow256 r.size - 1) && (decide (v.bytes.length = 0) && decide (v.items.length = 0))
  else if r.kind = 2 then decide (v.number = 0) && (decide (v.bytes.length = 0) && decide (v.items.length = 0))
  else if r.kind = 3 then decide (v.number = 0) && (decide ((v.bytes.length : Int) = r.size) && decide (v.items.length = 0))
  else if r.kind = 4 then decide (v.number = 0) && (decide ((v.bytes.length : Int) ≤ min 400 (limitAt rs (r.kids.getD 0 0))) && decide (v.items.length = 0))
  else if r.kind = 10 then decide (v.number = 0) && (decide (v.bytes.length ≤ 400) && decide (v.items.length = 0))
  else if r.kind = 5 then decide (v.number = 0) && (decide (v.bytes.length = 0) && decide ((v.items.length : Int) ≤ min 40 (limitAt rs (r.kids.getD 0 0))))
  else if r.kind = 6 then decide (v.number = 0) && (decide (v.bytes.length = 0) && decide (v.items.length = r.kids.length))
  else if r.kind = 7 then decide (v.bytes.length = 0) && (decide (v.items.length = 1) && decide (0 ≤ itemR r v.number 0))
  else if r.kind = 8 then decide (v.number = 0) && (decide (v.bytes.length = 0) && decide (v.items.length ≤ 1))
  else decide (v.number = 0) && (decide (v.bytes.length = 0) && decide (v.items.length = 1))
mutual
/-- Whether a value is one of a rule. -/
def validV (rs : List RuleV) (k : Int) : ValueV → Bool
  | .mk n b l => ownB rs (ruleAt rs k) (.mk n b l) && validL rs (ruleAt rs k) n 0 l
/-- Whether items are those of a rule, from the one numbered i on. -/
def validL (rs : List RuleV) (r : RuleV) (x : Int) (i : Nat) : List ValueV → Bool
  | [] => true
  | v :: vs => validV rs (itemR r x i) v && validL rs r x (i + 1) vs
end
theorem validV_eq (rs : List RuleV) (k : Int) (v : ValueV) : validV rs k v = (ownB rs (ruleAt rs k) v && validL rs (ruleAt rs k) v.number 0 v.items) := by
  cases v with
  | mk n b l => rw [validV]; rfl
theorem validL_next {rs : List RuleV} {r : RuleV} {x : Int} {q : Nat} {l : List ValueV} (h : q < l.length) : validL rs r x q (l.drop q) = (validV rs (itemR r x q) l[q] && validL rs r x (q + 1) (l.drop (q + 1))) := by
  rw [List.drop_eq_getElem_cons h, validL]
theorem validL_at {rs : List RuleV} {r : RuleV} {x : Int} : ∀ {l : List ValueV} {i : Nat}, validL rs r x i l = true → ∀ q (h : q < l.length), validV rs (itemR r x (i + q)) l[q] = true
  | [], _, _, q, h => by simp at h
  | v :: l, i, hv, q, h => by
    rw [validL, Bool.and_eq_true] at hv
    cases q with
    | zero => exact hv.1
    | succ q =>
      have := validL_at hv.2 q (by simpa using h)
      rw [show i + 1 + q = i + (q + 1) from by omega] at this
      simpa using this
/-- The length of bytes with their escapes. -/
def escLen (t : UInt8) : List UInt8 → Nat
  | [] => 0
  | b :: bs => (if b = t ∨ b = 92 then 2 else 1) + escLen t bs
/-- What an encoding has beside those of its items. -/
def headLen (rs : List RuleV) (r : RuleV) (b : List UInt8) : Nat :=
  if r.kind = 1 then r.size.toNat
  else if r.kind = 2 then r.bytes.length
  else if r.kind = 3 then b.length
  else if r.kind = 4 then (ruleAt rs (r.kids.getD 0 0)).size.toNat + b.length
  else if r.kind = 5 ∨ r.kind = 7 then (ruleAt rs (r.kids.getD 0 0)).size.toNat
  else if r.kind = 8 ∨ r.kind = 9 then 1
  else if r.kind = 10 then escLen (r.bytes.getD 0 0) b + 1
  else 0
mutual
/-- The length of the encoding of a value. -/
def plen (rs : List RuleV) (k : Int) : ValueV → Nat
  | .mk n b l => headLen rs (ruleAt rs k) b + plens rs (ruleAt rs k) n 0 l
def plens (rs : List RuleV) (r : RuleV) (x : Int) (i : Nat) : List ValueV → Nat
  | [] => 0
  | v :: vs => plen rs (itemR r x i) v + plens rs r x (i + 1) vs
end
theorem plen_eq (rs : List RuleV) (k : Int) (v : ValueV) : plen rs k v = headLen rs (ruleAt rs k) v.bytes + plens rs (ruleAt rs k) v.number 0 v.items := by
  cases v with
  | mk n b l => rw [plen]; rfl
theorem tagKid_mem : ∀ (ts ks : List Int) (x : Int), tagKid ts ks x = -1 ∨ tagKid ts ks x ∈ ks
  | [], _, _ => .inl (by cases ‹List Int› <;> rfl)
  | t :: ts, [], x => .inl rfl
  | t :: ts, k :: ks, x => by
    unfold tagKid
    split
    · exact .inr (by simp)
    · rcases tagKid_mem ts ks x with h | h
      · exact .inl h
      · exact .inr (List.mem_cons_of_mem _ h)
theorem getD_mem {ks : List Int} {j : Nat} (h : j < ks.length) : ks.getD j 0 ∈ ks := by
  simp [List.getD, List.getElem?_eq_getElem h]
/-- The rules of the items of a value that fits are kids of its rule. -/
theorem item_kid {rs : List RuleV} {r : RuleV} {v : ValueV} (hk : kindI rs r = true) (h : ownB rs r v = true) {q : Nat} (hq : q < v.items.length) : itemR r v.number q ∈ r.kids := by
  have hkn := kindI_known hk
  rcases (by omega : r.kind = 1 ∨ r.kind = 2 ∨ r.kind = 3 ∨ r.kind = 4 ∨ r.kind = 5 ∨ r.kind = 6 ∨ r.kind = 7 ∨ r.kind = 8 ∨ r.kind = 9 ∨ r.kind = 10) with e | e | e | e | e | e | e | e | e | e
  · simp [ownB, e] at h; rw [h.2.2] at hq; simp at hq
  · simp [ownB, e] at h; rw [h.2.2] at hq; simp at hq
  · simp [ownB, e] at h; rw [h.2.2] at hq; simp at hq
  · simp [ownB, e] at h; rw [h.2.2] at hq; simp at hq
  · have := kindI_5 hk e
    unfold itemR
    rw [if_pos e]
    exact getD_mem (by omega)
  · simp [ownB, e] at h
    unfold itemR
    rw [if_neg (by omega), if_pos e, if_pos (by omega)]
    exact getD_mem (by omega)
  · simp [ownB, e] at h
    have h0 : q = 0 := by omega
    subst h0
    have h1 := h.2.2
    have h2 : itemR r v.number 0 = tagKid r.tags (r.kids.drop 1) v.number := by unfold itemR; rw [if_neg (by omega), if_neg (by omega), if_pos e]
    rw [h2] at h1 ⊢
    rcases tagKid_mem r.tags (r.kids.drop 1) v.number with h3 | h3
    · omega
    · exact List.mem_of_mem_drop h3
  · have := kindI_8 hk e
    unfold itemR
    rw [if_neg (by omega), if_neg (by omega), if_neg (by omega), if_pos (by omega)]
    exact getD_mem (by omega)
  · have := kindI_9 hk e
    unfold itemR
    rw [if_neg (by omega), if_neg (by omega), if_neg (by omega), if_pos (by omega)]
    exact getD_mem (by omega)
  · simp [ownB, e] at h; rw [h.2.2] at hq; simp at hq
end Go.Proofs.Ytefkhknfjohnaaa
namespace Go.Proofs.Ytefkhknfjohnaaa
open Go Go.RowKit
/-- Three cells hold this value, at most n levels deep; f holds of every block that it reaches. -/
def OwnV (f : Nat → Prop) : Nat → ValueV → List Value → World → Prop
  | 0, _, _, _ => False
  | n + 1, v, cs, w => ∃ ab cb ai ci, cs = [.int .i64 v.number, .slice ab v.bytes.length cb, .slice ai v.items.length ci] ∧ RdN ab v.bytes cb w ∧ (∀ b off, ab = some ⟨b, off, none⟩ → v.bytes.length ≠ 0 → f b) ∧
      ∀ j (h : j < v.items.length), ∃ b off cs', ai = some ⟨b, off, none⟩ ∧ f b ∧ OwnV f n v.items[j] cs' w ∧ ∀ i u, cs'[i]? = some u → w.cell? ⟨b, off + j * 3 + i, none⟩ = some u
theorem OwnV.is {f : Nat → Prop} : ∀ {n : Nat} {v : ValueV} {cs : List Value} {w : World}, OwnV f n v cs w → IsVal n v cs w
  | 0, _, _, _, h => h
  | n + 1, v, cs, w, h => by
    obtain ⟨ab, cb, ai, ci, e, h1, _, h2⟩ := h
    exact ⟨ab, cb, ai, ci, e, h1, fun j hj => by obtain ⟨b, off, cs', e2, _, h3, h4⟩ := h2 j hj; exact ⟨b, off, cs', e2, h3.is, h4⟩⟩
theorem OwnV.cells {f : Nat → Prop} {n : Nat} {v : ValueV} {cs : List Value} {w : World} (h : OwnV f n v cs w) : ∃ ab cb ai ci, cs = [.int .i64 v.number, .slice ab v.bytes.length cb, .slice ai v.items.length ci] := by
  cases n with
  | zero => exact h.elim
  | succ n => obtain ⟨ab, cb, ai, ci, e, _⟩ := h; exact ⟨ab, cb, ai, ci, e⟩
theorem OwnV.length {f : Nat → Prop} {n : Nat} {v : ValueV} {cs : List Value} {w : World} (h : OwnV f n v cs w) : cs.length = 3 := by
  obtain ⟨ab, cb, ai, ci, rfl⟩ := h.cells
  rfl
theorem OwnV.one {f : Nat → Prop} {n : Nat} {v : ValueV} {cs : List Value} {w : World} (h : OwnV f n v cs w) : ∀ u ∈ cs, u.oneCell' = true := by
  obtain ⟨ab, cb, ai, ci, rfl⟩ := h.cells
  intro u hu
  simp at hu
  rcases hu with rfl | rfl | rfl <;> rfl
/-- What is there stays: only a block has turned that the value does not reach. -/
theorem OwnV.grown {f g : Nat → Prop} : ∀ {n : Nat} {v : ValueV} {cs : List Value} {w w' : World} {row : Option Nat}, OwnV f n v cs w → w.grownBy w' row → (∀ b, b < w.heap.size → f b → g b ∧ some b ≠ row) → OwnV g n v cs w'
  | 0, _, _, _, _, _, h, _, _ => h.elim
  | n + 1, v, cs, w, w', row, h, hg, hf => by
    obtain ⟨ab, cb, ai, ci, e, ⟨h1, h1n⟩, hb, h2⟩ := h
    have hlt : ∀ b off, ab = some ⟨b, off, none⟩ → v.bytes.length ≠ 0 → b < w.heap.size := fun b off ha hn => by
      obtain ⟨b', off', ha', hc⟩ := h1 0 (by omega)
      rw [ha] at ha'
      injection ha' with ha'
      injection ha' with e1
      subst e1
      exact cell_lt hc
    refine ⟨ab, cb, ai, ci, e, ⟨h1.grown hg fun b off ha hn => (hf b (hlt b off ha hn) (hb b off ha hn)).2, h1n⟩, fun b off ha hn => (hf b (hlt b off ha hn) (hb b off ha hn)).1, fun j hj => ?_⟩
    obtain ⟨b, off, cs', e2, hfb, h3, h4⟩ := h2 j hj
    have hbl : b < w.heap.size := by
      have h5 := h3.length
      exact cell_lt (h4 0 cs'[0] (by rw [List.getElem?_eq_getElem (by omega)]))
    exact ⟨b, off, cs', e2, (hf b hbl hfb).1, h3.grown hg hf, fun i u hi => hg.cell (h4 i u hi) (hf b hbl hfb).2⟩
theorem OwnV.below {f g : Nat → Prop} {n : Nat} {v : ValueV} {cs : List Value} {w w' : World} (h : OwnV f n v cs w) (hb : Below w.heap.size w w') (hf : ∀ b, b < w.heap.size → f b → g b) : OwnV g n v cs w' :=
  h.grown (row := none) ⟨hb.os, hb.tape, hb.output, hb.size, fun k hk _ => hb.block k hk⟩ (fun b hl h => ⟨hf b hl h, by simp⟩)
theorem OwnV.mono {f g : Nat → Prop} {n : Nat} {v : ValueV} {cs : List Value} {w : World} (h : OwnV f n v cs w) (hf : ∀ b, b < w.heap.size → f b → g b) : OwnV g n v cs w := h.below (Below.refl _ _) hf
/-- A value is also one of a greater height. -/
theorem OwnV.up {f : Nat → Prop} : ∀ {n : Nat} {v : ValueV} {cs : List Value} {w : World} {m : Nat}, OwnV f n v cs w → n ≤ m → OwnV f m v cs w
  | 0, _, _, _, _, h, _ => h.elim
  | n + 1, v, cs, w, m, h, hm => by
    obtain ⟨m, rfl⟩ : ∃ m', m = m' + 1 := ⟨m - 1, by omega⟩
    obtain ⟨ab, cb, ai, ci, e, h1, hb, h2⟩ := h
    exact ⟨ab, cb, ai, ci, e, h1, hb, fun j hj => by obtain ⟨b, off, cs', e2, hfb, h3, h4⟩ := h2 j hj; exact ⟨b, off, cs', e2, hfb, h3.up (by omega), h4⟩⟩
/-- A slice of values that the call owns. -/
def RowV (n base : Nat) (v : Value) (vs : List ValueV) (w : World) : Prop :=
  ∃ css : List (List Value), css.length = vs.length ∧ w.ownsRow base 47 3 v vs.length css.flatten ∧
    ∀ j (h : j < vs.length) (h' : j < css.length), OwnV (fun b => base ≤ b ∧ some b ≠ v.ownBlock) n vs[j] css[j] w
theorem RowV.start (n base : Nat) (w : World) : RowV n base (.slice none 0 0) [] w := ⟨[], rfl, ⟨rfl, .inl ⟨rfl, rfl⟩⟩, fun j h => by simp at h⟩
theorem flat3_at {css : List (List Value)} (h3 : ∀ cs ∈ css, cs.length = 3) : ∀ (j i : Nat) (hj : j < css.length), i < 3 → css.flatten[j * 3 + i]? = css[j][i]? := by
  induction css with
  | nil => intro j i hj; simp at hj
  | cons cs css ih =>
    intro j i hj hi
    have hl := h3 cs (by simp)
    cases j with
    | zero => rw [List.flatten_cons, List.getElem?_append_left (by omega)]; simp
    | succ j =>
      rw [List.flatten_cons, List.getElem?_append_right (by omega), hl, show (j + 1) * 3 + i - 3 = j * 3 + i from by omega]
      exact ih (fun c hc => h3 c (by simp [hc])) j i (by simpa using hj) hi
theorem RowV.own {n base : Nat} {v : Value} {vs : List ValueV} {w : World} (h : RowV n base v vs w) : ∀ g, v.ownBlock = some g → base ≤ g ∧ g < w.heap.size := fun g hg => by
  obtain ⟨css, hl, ho, hr⟩ := h
  exact World.ownsRow.lt (w := w) ho g hg
theorem RowV.slice {n base : Nat} {v : Value} {vs : List ValueV} {w : World} (h : RowV n base v vs w) : ∃ a cap, v = .slice a vs.length cap := by
  obtain ⟨css, hl, ho, hr⟩ := h
  rcases ho.2 with ⟨rfl, hn⟩ | ⟨g, cap, cur, rfl, _⟩
  · exact ⟨none, 0, by rw [hn]⟩
  · exact ⟨_, cap, rfl⟩
/-- The items of a value, out of the row that was built. -/
theorem RowV.items {n base : Nat} {v : Value} {vs : List ValueV} {w : World} (h : RowV n base v vs w) : ∃ a cap, v = .slice a vs.length cap ∧ ∀ j (h : j < vs.length), ∃ b off cs', a = some ⟨b, off, none⟩ ∧ base ≤ b ∧ OwnV (fun b => base ≤ b) n vs[j] cs' w ∧ ∀ i u, cs'[i]? = some u → w.cell? ⟨b, off + j * 3 + i, none⟩ = some u := by
  obtain ⟨css, hl, ho, hr⟩ := h
  have h3 : ∀ cs ∈ css, cs.length = 3 := fun cs hc => by
    obtain ⟨j, hj, rfl⟩ := List.getElem_of_mem hc
    exact (hr j (by omega) hj).length
  have h0 := ho
  rcases ho.2 with ⟨rfl, hn⟩ | ⟨g, cap, cur, rfl, hb, hg, hnc, hcm, hcs, ht⟩
  · have : vs = [] := List.eq_nil_of_length_eq_zero hn
    subst this
    exact ⟨none, 0, rfl, fun j hj => by simp at hj⟩
  · refine ⟨_, cap, rfl, fun j hj => ?_⟩
    have hj' : j < css.length := by omega
    refine ⟨g, 0, css[j], rfl, hb, (hr j hj hj').mono (fun b _ h => h.1), fun i u hu => ?_⟩
    have hi : i < 3 := by
      have := h3 _ (List.getElem_mem hj')
      rcases Nat.lt_or_ge i 3 with h | h
      · exact h
      · rw [List.getElem?_eq_none (by omega)] at hu; cases hu
    rw [Nat.zero_add, h0.cellAt (j * 3 + i) (by
      have : (j + 1) * 3 ≤ vs.length * 3 := Nat.mul_le_mul_right 3 (by omega)
      omega), flat3_at h3 j i hj' hi]
    exact hu
theorem RowV.grown {n base : Nat} {v : Value} {vs : List ValueV} {w w' : World} {row : Option Nat} (h : RowV n base v vs w) (hg : w.grownBy w' row) (hc : ∀ k, row = some k → k < base ∨ w.heap.size ≤ k) : RowV n base v vs w' := by
  obtain ⟨css, hl, ho, hr⟩ := h
  refine ⟨css, hl, World.ownsRow.kept (w := w) ho hg ?_, fun j h1 h2 => (hr j h1 h2).grown hg fun b hbl hb => ⟨hb, fun e => by have := hc b e.symm; omega⟩⟩
  cases hv : v.ownBlock with
  | none => exact .inl rfl
  | some g =>
    have := (World.ownsRow.lt (w := w) ho g hv)
    exact .inr (fun e => by have := hc g e.symm; omega)
theorem RowV.below {n base : Nat} {v : Value} {vs : List ValueV} {w w' : World} (h : RowV n base v vs w) (hb : Below w.heap.size w w') : RowV n base v vs w' :=
  h.grown (row := none) ⟨hb.os, hb.tape, hb.output, hb.size, fun k hk _ => hb.block k hk⟩ (fun k e => by cases e)
theorem infoVal : (Try.prog.info? 47).map (fun i => (i.zero, i.size, i.bytes)) = some (some (.agg #[.int .i64 0, .slice none 0 0, .slice none 0 0]), 3, 56) := by kernel_rfl
/-- One value more. -/
theorem run_pushV (ty : TypeId) (n base : Nat) (v : Value) (vs : List ValueV) (x : ValueV) (cs : List Value) (w : World) (hrow : RowV n base v vs w) (hx : OwnV (fun b => base ≤ b ∧ some b ≠ v.ownBlock) n x cs w) (hl : vs.length ≤ 16777216) (hbase : base ≤ w.heap.size) :
    ∃ v' w', (Builtin.append_ #[45, 45] ty #[v, .slice (some ⟨w.heap.size, 0, none⟩) 1 1]).run Try.prog (w.alloc (.cells cs.toArray 47)) = .ok v' w' ∧ RowV n base v' (vs ++ [x]) w' ∧ w.grownBy w' v.ownBlock ∧
      (v'.ownBlock = v.ownBlock ∨ ∃ g, v'.ownBlock = some g ∧ w.heap.size ≤ g) := by
  obtain ⟨css, hcl, ho, hrs⟩ := hrow
  obtain ⟨i, hi, h⟩ := Option.map_eq_some_iff.1 infoVal
  simp only [Prod.mk.injEq] at h
  obtain ⟨hz, hsz, hby⟩ := h
  have h3 := hx.length
  obtain ⟨v', w', hrun, ho', hg, hw⟩ := run_append_where (P := Try.prog) (w.alloc (.cells cs.toArray 47)) base 45 ty 47 i _ 3 56 Try.underlying45 hi hz hsz hby rfl (by omega) v vs.length css.flatten (World.ownsRow.alloc ho _) ⟨w.heap.size, 0, none⟩ 1 1 cs (by omega)
    (fun j u hj => by
      rw [Addr.add_lit, Nat.zero_add]
      refine (World.cell?_alloc_mark w cs.toArray _ (0, 0) j).trans ?_
      simpa using hj)
    hx.one (by omega) (by unfold maxLen; omega) (by omega) (by simp; omega)
  have hgw : w.grownBy w' v.ownBlock := Lib.grownBy_trans (World.grownBy_alloc w _ _) hg
  have hown' : v'.ownBlock = v.ownBlock ∨ ∃ g, v'.ownBlock = some g ∧ w.heap.size ≤ g := by
    rcases hw with h | h
    · exact .inl h
    · exact .inr ⟨_, h, by simp⟩
  have hblk : ∀ b, b < w.heap.size → some b ≠ v.ownBlock → some b ≠ v'.ownBlock := fun b hb hn => by
    rcases hown' with h | ⟨g, h, hg⟩
    · rw [h]; exact hn
    · rw [h]; intro e; injection e with e; omega
  refine ⟨v', w', hrun, ⟨css ++ [cs], by simp [hcl], by simpa using ho', fun j h1 h2 => ?_⟩, hgw, hown'⟩
  by_cases hj : j < vs.length
  · have hj2 : j < css.length := by omega
    rw [List.getElem_append_left hj, List.getElem_append_left hj2]
    exact (hrs j hj hj2).grown hgw fun b hb h => ⟨⟨h.1, hblk b hb h.2⟩, h.2⟩
  · have e1 : j = vs.length := by simp at h1; omega
    have a1 : (vs ++ [x])[j] = x := by subst e1; simp
    have a2 : (css ++ [cs])[j] = cs := by
      have e2 : j = css.length := by omega
      subst e2; simp
    rw [a1, a2]
    exact hx.grown hgw fun b hb h => ⟨⟨h.1, hblk b hb h.2⟩, h.2⟩
/-- .. as a step of a region that draws its order. -/
theorem step_pushV {ops : Array Oper} {o : Oper} {A : Act} {K : Act → World → Prop} {Q : Exit → Act → World → Prop} {E : Prop} (hgd : o.guard = none) (s x : Operand)
    (ho : o.op = .call { callee := .builtin .append, args := #[s, x], argTypes := #[45, 45] })
    (n base : Nat) (v : Value) (vs : List ValueV) (y : ValueV) (cs : List Value) (w : World) (hsv : A.eval s = v) (hxv : A.eval x = .slice (some ⟨w.heap.size, 0, none⟩) 1 1)
    (hrow : RowV n base v vs w) (hy : OwnV (fun b => base ≤ b ∧ some b ≠ v.ownBlock) n y cs w) (hl : vs.length ≤ 16777216) (hbase : base ≤ w.heap.size)
    (h : ∀ v' w', RowV n base v' (vs ++ [y]) w' → w.grownBy w' v.ownBlock → K (A.put o.dst v') w') :
    if Region.wanted o (yielded ops A.tmps) = true then Oper.wp Try.prog o A (w.alloc (.cells cs.toArray 47)) K Q else E := by
  have hw : Region.wanted o (yielded ops A.tmps) = true := by simp [Region.wanted, hgd]
  rw [if_pos hw]
  obtain ⟨v', w', hrun, h2, h3, _⟩ := run_pushV o.type n base v vs y cs w hrow hy hl hbase
  unfold Oper.wp
  simp [execOp, ho, resolve, invoke, builtin, hsv, hxv, hrun, Result.andThen]
  exact h v' w' h2 h3
end Go.Proofs.Ytefkhknfjohnaaa
namespace Go.Proofs.Ytefkhknfjohnaaa
open Go Go.RowKit
/-- Only these blocks may have turned. -/
structure Only (bl : List Nat) (w w' : World) : Prop where
  os : w'.os = w.os
  tape : w'.tape = w.tape
  output : w'.output = w.output
  size : w.heap.size ≤ w'.heap.size
  block : ∀ k, k < w.heap.size → k ∉ bl → w'.heap[k]? = w.heap[k]?
theorem Only.refl (bl : List Nat) (w : World) : Only bl w w := ⟨rfl, rfl, rfl, Nat.le_refl _, fun _ _ _ => rfl⟩
theorem Only.trans {bl : List Nat} {w w' w'' : World} (h : Only bl w w') (g : Only bl w' w'') : Only bl w w'' :=
  ⟨g.os.trans h.os, g.tape.trans h.tape, g.output.trans h.output, Nat.le_trans h.size g.size, fun k hk hn => (g.block k (Nat.lt_of_lt_of_le hk h.size) hn).trans (h.block k hk hn)⟩
theorem Only.mono {bl bl' : List Nat} {w w' : World} (h : Only bl w w') (hs : ∀ b ∈ bl, b ∈ bl') : Only bl' w w' := ⟨h.os, h.tape, h.output, h.size, fun k hk hn => h.block k hk fun e => hn (hs k e)⟩
theorem Only.of_grown {bl : List Nat} {w w' : World} {b : Nat} (h : w.grownBy w' (some b)) (hb : b ∈ bl) : Only bl w w' := ⟨h.os, h.tape, h.output, h.size, fun k hk hn => h.block k hk (by intro e; injection e with e; exact hn (e ▸ hb))⟩
theorem Only.of_below (bl : List Nat) {w w' : World} (h : Below w.heap.size w w') : Only bl w w' := ⟨h.os, h.tape, h.output, h.size, fun k hk _ => h.block k hk⟩
theorem Only.below {bl : List Nat} {B : Nat} {w0 w w' : World} (h : Below B w0 w) (g : Only bl w w') (hB : B ≤ w.heap.size) (hb : ∀ b ∈ bl, B ≤ b) : Below B w0 w' :=
  ⟨g.os.trans h.os, g.tape.trans h.tape, g.output.trans h.output, Nat.le_trans h.size g.size, fun k hk => (g.block k (Nat.lt_of_lt_of_le hk hB) (fun e => by have := hb k e; omega)).trans (h.block k hk)⟩
theorem Only.set {bl : List Nat} {w : World} {b i : Nat} {v : Value} (hb : b ∈ bl) : Only bl w (w.setCell ⟨b, i, none⟩ v) := Only.of_grown (grown_set (grown_refl w b) i v) hb
theorem Only.cell {bl : List Nat} {w w' : World} {b i : Nat} {v : Value} (h : Only bl w w') (hb : b ∉ bl) (hc : w.cell? ⟨b, i, none⟩ = some v ∧ w.frozen? ⟨b, i, none⟩ = false) : w'.cell? ⟨b, i, none⟩ = some v ∧ w'.frozen? ⟨b, i, none⟩ = false := by
  have e := h.block b (cell_lt hc.1) hb
  exact ⟨(World.cell?_of_block (a := ⟨b, i, none⟩) e).trans hc.1, (World.frozen?_of_block (a := ⟨b, i, none⟩) e).trans hc.2⟩
/-- Bytes in a block of their own, that may be written. -/
def BytT (b1 : List Nat) (a : Option Addr) (bs : List UInt8) (w : World) : Prop :=
  (bs = [] ∧ b1 = []) ∨ (∃ b off, a = some ⟨b, off, none⟩ ∧ b1 = [b] ∧ ∀ j (h : j < bs.length), w.cell? ⟨b, off + j, none⟩ = some (.int .u8 (bs[j].toNat : Int)) ∧ w.frozen? ⟨b, off + j, none⟩ = false) ∧ bs ≠ []
theorem BytT.rd {b1 : List Nat} {a : Option Addr} {bs : List UInt8} {w : World} (h : BytT b1 a bs w) : Rd a bs w := fun j hj => by
  rcases h with ⟨rfl, _⟩ | ⟨⟨b, off, ha, _, hc⟩, _⟩
  · simp at hj
  · exact ⟨b, off, ha, (hc j hj).1⟩
theorem BytT.keep {b1 bl : List Nat} {a : Option Addr} {bs : List UInt8} {w w' : World} (h : BytT b1 a bs w) (g : Only bl w w') (hn : ∀ b ∈ b1, b ∉ bl) : BytT b1 a bs w' := by
  rcases h with h | ⟨⟨b, off, ha, rfl, hc⟩, h2⟩
  · exact .inl h
  · exact .inr ⟨⟨b, off, ha, rfl, fun j hj => g.cell (hn b (by simp)) (hc j hj)⟩, h2⟩
theorem BytT.lt {b1 : List Nat} {a : Option Addr} {bs : List UInt8} {w : World} (h : BytT b1 a bs w) : ∀ b ∈ b1, b < w.heap.size := fun b hb => by
  rcases h with ⟨_, rfl⟩ | ⟨⟨b', off, ha, rfl, hc⟩, h2⟩
  · cases hb
  · simp at hb
    subst hb
    exact cell_lt (hc 0 (by cases bs with | nil => exact absurd rfl h2 | cons x r => simp)).1
theorem Fresh.tree {B : Nat} {a : Option Addr} {bs : List UInt8} {w : World} (h : Fresh B a bs w) : ∃ b1, BytT b1 a bs w ∧ b1.Nodup ∧ ∀ b ∈ b1, B ≤ b := by
  by_cases hbs : bs = []
  · exact ⟨[], .inl ⟨hbs, rfl⟩, List.nodup_nil, fun b hb => by cases hb⟩
  · rcases h with h | ⟨b, off, ha, hB, hc⟩
    · exact absurd h hbs
    · exact ⟨[b], .inr ⟨⟨b, off, ha, rfl, hc⟩, hbs⟩, by simp, fun b' hb => by simp at hb; omega⟩
/-- Three cells hold this value, at most n levels deep; each of its slices lies in a block of its own, these blocks together are bl. -/
def OwnT : Nat → List Nat → ValueV → List Value → World → Prop
  | 0, _, _, _, _ => False
  | n + 1, bl, v, cs, w => ∃ (ab : Option Addr) (cb : Nat) (ai : Option Addr) (ci : Nat) (b1 b0 : List Nat) (bls : List (List Nat)), cs = [.int .i64 v.number, .slice ab v.bytes.length cb, .slice ai v.items.length ci] ∧ (v.bytes.length ≤ cb ∧ (ab = none → cb = 0)) ∧ BytT b1 ab v.bytes w ∧ bl = b1 ++ (b0 ++ bls.flatten) ∧ bl.Nodup ∧ (v.items = [] → b0 = []) ∧ bls.length = v.items.length ∧
      ∀ j (h : j < v.items.length) (h' : j < bls.length), ∃ b off cs', ai = some ⟨b, off, none⟩ ∧ b0 = [b] ∧ OwnT n bls[j] v.items[j] cs' w ∧ ∀ i u, cs'[i]? = some u → w.cell? ⟨b, off + j * 3 + i, none⟩ = some u ∧ w.frozen? ⟨b, off + j * 3 + i, none⟩ = false
/-- The items of such a value. -/
def OwnL (n : Nat) (b0 : List Nat) (bls : List (List Nat)) (ai : Option Addr) (vs : List ValueV) (w : World) : Prop :=
  (vs = [] → b0 = []) ∧ bls.length = vs.length ∧ ∀ j (h : j < vs.length) (h' : j < bls.length), ∃ b off cs', ai = some ⟨b, off, none⟩ ∧ b0 = [b] ∧ OwnT n bls[j] vs[j] cs' w ∧ ∀ i u, cs'[i]? = some u → w.cell? ⟨b, off + j * 3 + i, none⟩ = some u ∧ w.frozen? ⟨b, off + j * 3 + i, none⟩ = false
theorem OwnT.cells {n : Nat} {bl : List Nat} {v : ValueV} {cs : List Value} {w : World} (h : OwnT n bl v cs w) : ∃ ab cb ai ci, cs = [.int .i64 v.number, .slice ab v.bytes.length cb, .slice ai v.items.length ci] := by
  cases n with
  | zero => exact h.elim
  | succ n => obtain ⟨ab, cb, ai, ci, _, _, _, e, _⟩ := h; exact ⟨ab, cb, ai, ci, e⟩
theorem OwnT.length {n : Nat} {bl : List Nat} {v : ValueV} {cs : List Value} {w : World} (h : OwnT n bl v cs w) : cs.length = 3 := by
  obtain ⟨ab, cb, ai, ci, rfl⟩ := h.cells
  rfl
theorem OwnT.nodup {n : Nat} {bl : List Nat} {v : ValueV} {cs : List Value} {w : World} (h : OwnT n bl v cs w) : bl.Nodup := by
  cases n with
  | zero => exact h.elim
  | succ n => obtain ⟨ab, cb, ai, ci, _, _, _, _, _, _, _, hn, _⟩ := h; exact hn
theorem OwnT.lt : ∀ {n : Nat} {bl : List Nat} {v : ValueV} {cs : List Value} {w : World}, OwnT n bl v cs w → ∀ b ∈ bl, b < w.heap.size
  | 0, _, _, _, _, h, _, _ => h.elim
  | n + 1, bl, v, cs, w, h, b, hb => by
    obtain ⟨ab, cb, ai, ci, b1, b0, bls, e, _, h1, rfl, hn, h0, hl, hr⟩ := h
    simp only [List.mem_append] at hb
    rcases hb with hb | hb | hb
    · exact h1.lt b hb
    · cases hv : v.items with
      | nil => rw [h0 hv] at hb; cases hb
      | cons x r =>
        have hp : 0 < v.items.length := by rw [hv]; simp
        obtain ⟨b', off, cs', _, rfl, ho, hc⟩ := hr 0 hp (by omega)
        simp at hb
        subst hb
        have := ho.length
        exact cell_lt (hc 0 cs'[0] (by rw [List.getElem?_eq_getElem (by omega)])).1
    · obtain ⟨l, hl2, hb⟩ := List.mem_flatten.1 hb
      obtain ⟨j, hj, rfl⟩ := List.getElem_of_mem hl2
      obtain ⟨b', off, cs', _, _, ho, hc⟩ := hr j (by omega) hj
      exact ho.lt b hb
theorem OwnT.keep : ∀ {n : Nat} {bl bx : List Nat} {v : ValueV} {cs : List Value} {w w' : World}, OwnT n bl v cs w → Only bx w w' → (∀ b ∈ bl, b ∉ bx) → OwnT n bl v cs w'
  | 0, _, _, _, _, _, _, h, _, _ => h.elim
  | n + 1, bl, bx, v, cs, w, w', h, hg, hn => by
    obtain ⟨ab, cb, ai, ci, b1, b0, bls, e, hcap, h1, rfl, hnd, h0, hl, hr⟩ := h
    refine ⟨ab, cb, ai, ci, b1, b0, bls, e, hcap, h1.keep hg fun b hb => hn b (by simp [hb]), rfl, hnd, h0, hl, fun j hj hj' => ?_⟩
    obtain ⟨b, off, cs', ha, hb0, ho, hc⟩ := hr j hj hj'
    refine ⟨b, off, cs', ha, hb0, ho.keep hg fun q hq => hn q ?_, fun i u hu => hg.cell (hn b (by simp [hb0])) (hc i u hu)⟩
    exact List.mem_append_right _ (List.mem_append_right _ (List.mem_flatten.2 ⟨_, List.getElem_mem hj', hq⟩))
theorem OwnT.below {n : Nat} {bl : List Nat} {v : ValueV} {cs : List Value} {w w' : World} (h : OwnT n bl v cs w) (hb : Below w.heap.size w w') : OwnT n bl v cs w' := h.keep (Only.of_below [] hb) fun b _ e => by cases e
theorem OwnT.up : ∀ {n m : Nat} {bl : List Nat} {v : ValueV} {cs : List Value} {w : World}, OwnT n bl v cs w → n ≤ m → OwnT m bl v cs w
  | 0, _, _, _, _, _, h, _ => h.elim
  | n + 1, m, bl, v, cs, w, h, hm => by
    obtain ⟨m, rfl⟩ : ∃ m', m = m' + 1 := ⟨m - 1, by omega⟩
    obtain ⟨ab, cb, ai, ci, b1, b0, bls, e, hcap, h1, rfl, hnd, h0, hl, hr⟩ := h
    refine ⟨ab, cb, ai, ci, b1, b0, bls, e, hcap, h1, rfl, hnd, h0, hl, fun j hj hj' => ?_⟩
    obtain ⟨b, off, cs', ha, hb0, ho, hc⟩ := hr j hj hj'
    exact ⟨b, off, cs', ha, hb0, ho.up (by omega), hc⟩
/-- What such a value says of the blocks that it reaches. -/
theorem OwnT.own : ∀ {n : Nat} {bl : List Nat} {f : Nat → Prop} {v : ValueV} {cs : List Value} {w : World}, OwnT n bl v cs w → (∀ b ∈ bl, f b) → OwnV f n v cs w
  | 0, _, _, _, _, _, h, _ => h.elim
  | n + 1, bl, f, v, cs, w, h, hf => by
    obtain ⟨ab, cb, ai, ci, b1, b0, bls, e, hcap, h1, rfl, hnd, h0, hl, hr⟩ := h
    refine ⟨ab, cb, ai, ci, e, ⟨h1.rd, hcap.2⟩, fun b off ha hn => ?_, fun j hj => ?_⟩
    · rcases h1 with ⟨h1, _⟩ | ⟨⟨b', off', ha', rfl, _⟩, _⟩
      · rw [h1] at hn; exact absurd rfl hn
      · rw [ha] at ha'
        injection ha' with ha'
        injection ha' with e1
        subst e1
        exact hf b (by simp)
    · obtain ⟨b, off, cs', ha, hb0, ho, hc⟩ := hr j hj (by omega)
      exact ⟨b, off, cs', ha, hf b (by simp [hb0]), ho.own fun q hq => hf q (List.mem_append_right _ (List.mem_append_right _ (List.mem_flatten.2 ⟨_, List.getElem_mem (show j < bls.length by omega), hq⟩))), fun i u hu => (hc i u hu).1⟩
theorem OwnT.is {n : Nat} {bl : List Nat} {v : ValueV} {cs : List Value} {w : World} (h : OwnT n bl v cs w) : IsVal n v cs w := (h.own (f := fun _ => True) fun _ _ => trivial).is
theorem OwnV.keep {f : Nat → Prop} : ∀ {n : Nat} {bx : List Nat} {v : ValueV} {cs : List Value} {w w' : World}, OwnV f n v cs w → Only bx w w' → (∀ b, f b → b ∉ bx) → OwnV f n v cs w'
  | 0, _, _, _, _, _, h, _, _ => h.elim
  | n + 1, bx, v, cs, w, w', h, hg, hn => by
    obtain ⟨ab, cb, ai, ci, e, ⟨h1, h1n⟩, hb, h2⟩ := h
    refine ⟨ab, cb, ai, ci, e, ⟨fun j hj => ?_, h1n⟩, hb, fun j hj => ?_⟩
    · obtain ⟨b, off, ha, hc⟩ := h1 j hj
      exact ⟨b, off, ha, (World.cell?_of_block (a := ⟨b, off + j, none⟩) (hg.block b (cell_lt hc) (hn b (hb b off ha (by omega))))).trans hc⟩
    · obtain ⟨b, off, cs', e2, hfb, h3, h4⟩ := h2 j hj
      exact ⟨b, off, cs', e2, hfb, h3.keep hg hn, fun i u hi => (World.cell?_of_block (a := ⟨b, off + j * 3 + i, none⟩) (hg.block b (cell_lt (h4 i u hi)) (hn b hfb))).trans (h4 i u hi)⟩
/-! Marks. -/
mutual
/-- How many marks a value takes, its number left out. -/
def widV : ValueV → Nat
  | .mk _ b l => b.length + widL l
def widL : List ValueV → Nat
  | [] => 0
  | v :: vs => 1 + widV v + widL vs
end
mutual
/-- The value with the marks from k on, its number left as it is. -/
def markV (k : Nat) : ValueV → ValueV
  | .mk n b l => .mk n (marks k b.length) (markL (k + b.length) l)
def markL (k : Nat) : List ValueV → List ValueV
  | [] => []
  | v :: vs => .mk (k : Int) (markV (k + 1) v).bytes (markV (k + 1) v).items :: markL (k + (1 + widV v)) vs
end
/-- One item with its marks. -/
def markI (k : Nat) (v : ValueV) : ValueV := .mk (k : Int) (markV (k + 1) v).bytes (markV (k + 1) v).items
theorem markV_eq (k : Nat) (v : ValueV) : markV k v = .mk v.number (marks k v.bytes.length) (markL (k + v.bytes.length) v.items) := by
  cases v with
  | mk n b l => rw [markV]; rfl
theorem widV_eq (v : ValueV) : widV v = v.bytes.length + widL v.items := by
  cases v with
  | mk n b l => rw [widV]; rfl
theorem markL_length : ∀ (k : Nat) (vs : List ValueV), (markL k vs).length = vs.length
  | _, [] => by rw [markL]
  | k, v :: vs => by rw [markL, List.length_cons, List.length_cons, markL_length _ vs]
theorem widL_next (vs : List ValueV) (j : Nat) (h : j < vs.length) : widL (vs.take (j + 1)) = widL (vs.take j) + (1 + widV vs[j]) := by
  induction vs generalizing j with
  | nil => simp at h
  | cons v vs ih =>
    cases j with
    | zero => simp [widL]
    | succ j =>
      have := ih j (by simpa using h)
      simp only [List.take_succ_cons, widL, List.getElem_cons_succ] at this ⊢
      omega
theorem widL_take_le (vs : List ValueV) (j : Nat) : widL (vs.take j) ≤ widL vs := by
  induction vs generalizing j with
  | nil => simp
  | cons v vs ih =>
    cases j with
    | zero => simp [widL]
    | succ j =>
      have := ih j
      simp only [List.take_succ_cons, widL]
      omega
theorem markL_at : ∀ (k : Nat) (vs : List ValueV) (j : Nat) (h : j < vs.length) (h' : j < (markL k vs).length), (markL k vs)[j] = markI (k + widL (vs.take j)) vs[j]
  | k, [], j, h, _ => by simp at h
  | k, v :: vs, 0, _, _ => by simp only [markL, List.getElem_cons_zero, List.take_zero, widL, Nat.add_zero, markI]
  | k, v :: vs, j + 1, h, h' => by
    simp only [markL, List.getElem_cons_succ, List.take_succ_cons, widL]
    rw [markL_at (k + (1 + widV v)) vs j (by simpa using h) (by simpa [markL_length] using h)]
    congr 1; omega
/-- The first i items are marked. -/
def MixV (k : Nat) (vs : List ValueV) (i : Nat) (L : List ValueV) : Prop := L.length = vs.length ∧ ∀ j (h : j < vs.length) (h' : j < L.length), L[j] = if j < i then markI (k + widL (vs.take j)) vs[j] else vs[j]
theorem MixV.start (k : Nat) (vs : List ValueV) : MixV k vs 0 vs := ⟨rfl, fun j _ _ => by rw [if_neg (by omega)]⟩
theorem MixV.next {k i : Nat} {vs L : List ValueV} (h : MixV k vs i L) (_hi : i < vs.length) : MixV k vs (i + 1) (L.set i (markI (k + widL (vs.take i)) vs[i])) := by
  obtain ⟨h1, h2⟩ := h
  refine ⟨by simp [h1], fun j hj hj' => ?_⟩
  by_cases e : i = j
  · subst e
    rw [List.getElem_set_self, if_pos (by omega)]
  · rw [List.getElem_set_ne e, h2 j hj (by omega)]
    by_cases hlt : j < i
    · rw [if_pos hlt, if_pos (by omega)]
    · rw [if_neg hlt, if_neg (by omega)]
theorem MixV.at {k i : Nat} {vs L : List ValueV} (h : MixV k vs i L) (hi : i < vs.length) (hi' : i < L.length) : L[i] = vs[i] := by rw [h.2 i hi hi', if_neg (by omega)]
theorem MixV.end {k : Nat} {vs L : List ValueV} (h : MixV k vs vs.length L) : L = markL k vs := by
  refine List.ext_getElem (by rw [h.1, markL_length]) fun j h1 h2 => ?_
  have hj : j < vs.length := by have := h.1; omega
  rw [h.2 j hj h1, if_pos hj, markL_at k vs j hj h2]
mutual
/-- The size of a value, as the laws count it. -/
def sizV : ValueV → Nat
  | .mk _ b l => b.length + (l.length + sizL l)
def sizL : List ValueV → Nat
  | [] => 0
  | v :: vs => sizV v + sizL vs
end
theorem sizV_eq (v : ValueV) : sizV v = v.bytes.length + (v.items.length + sizL v.items) := by
  cases v with
  | mk n b l => rw [sizV]; rfl
theorem sizL_next (vs : List ValueV) (j : Nat) (h : j < vs.length) : sizL (vs.take (j + 1)) = sizL (vs.take j) + sizV vs[j] := by
  induction vs generalizing j with
  | nil => simp at h
  | cons v vs ih =>
    cases j with
    | zero => simp [sizL]
    | succ j =>
      have := ih j (by simpa using h)
      simp only [List.take_succ_cons, sizL, List.getElem_cons_succ] at this ⊢
      omega
theorem sizL_take_le (vs : List ValueV) (j : Nat) : sizL (vs.take j) ≤ sizL vs := by
  induction vs generalizing j with
  | nil => simp
  | cons v vs ih =>
    cases j with
    | zero => simp [sizL]
    | succ j =>
      have := ih j
      simp only [List.take_succ_cons, sizL]
      omega
theorem sizL_at {vs : List ValueV} {j : Nat} (h : j < vs.length) : sizV vs[j] ≤ sizL vs := by
  have h1 := sizL_next vs j h
  have h2 := sizL_take_le vs (j + 1)
  omega
mutual
theorem wid_siz : ∀ v : ValueV, widV v ≤ sizV v
  | .mk n b l => by
    have := wid_sizL l
    rw [widV, sizV]
    omega
theorem wid_sizL : ∀ l : List ValueV, widL l ≤ l.length + sizL l
  | [] => by simp [widL]
  | v :: vs => by
    have h1 := wid_siz v
    have h2 := wid_sizL vs
    simp only [widL, sizL, List.length_cons]
    omega
end
end Go.Proofs.Ytefkhknfjohnaaa
namespace Go.Proofs.Ytefkhknfjohnaaa
open Go Go.RowKit
mutual
/-- The lengths in a value are ints. -/
def fitV : ValueV → Prop
  | .mk _ b l => b.length ≤ 9223372036854775807 ∧ l.length ≤ 9223372036854775807 ∧ fitL l
def fitL : List ValueV → Prop
  | [] => True
  | v :: vs => fitV v ∧ fitL vs
end
theorem fitV_eq (v : ValueV) : fitV v = (v.bytes.length ≤ 9223372036854775807 ∧ v.items.length ≤ 9223372036854775807 ∧ fitL v.items) := by
  cases v with
  | mk n b l => rw [fitV]; rfl
theorem fitL_at : ∀ {vs : List ValueV}, fitL vs → ∀ j (h : j < vs.length), fitV vs[j]
  | [], _, j, h => by simp at h
  | v :: vs, hf, 0, _ => by rw [fitL] at hf; exact hf.1
  | v :: vs, hf, j + 1, h => by rw [fitL] at hf; exact fitL_at hf.2 j (by simpa using h)
theorem cell_keepV {w w' : World} {p : Addr} {v : Value} (hb : Below w.heap.size w w') (h : w.cell? p = some v) : w'.cell? p = some v := (hb.cell (cell_lt h)).trans h
/-- Items that can be read, at most n levels deep. -/
def ItemsAt (n : Nat) (ai : Option Addr) (vs : List ValueV) (w : World) : Prop :=
  ∀ j (h : j < vs.length), ∃ b off cs', ai = some ⟨b, off, none⟩ ∧ IsVal n vs[j] cs' w ∧ ∀ i u, cs'[i]? = some u → w.cell? ⟨b, off + j * 3 + i, none⟩ = some u
theorem ItemsAt.below {n : Nat} {ai : Option Addr} {vs : List ValueV} {w w' : World} (h : ItemsAt n ai vs w) (hb : Below w.heap.size w w') : ItemsAt n ai vs w' := fun j hj => by
  obtain ⟨b, off, cs', e, h3, h4⟩ := h j hj
  exact ⟨b, off, cs', e, h3.below hb, fun i u hi => (hb.cell (cell_lt (h4 i u hi))).trans (h4 i u hi)⟩
theorem IsVal.open {n : Nat} {v : ValueV} {cs : List Value} {w : World} (h : IsVal (n + 1) v cs w) : ∃ ab cb ai ci, cs = [.int .i64 v.number, .slice ab v.bytes.length cb, .slice ai v.items.length ci] ∧ RdN ab v.bytes cb w ∧ ItemsAt n ai v.items w := h
theorem IsVal.three {n : Nat} {v : ValueV} {cs : List Value} {w : World} (h : IsVal n v cs w) : ∃ ab cb ai ci, cs = [.int .i64 v.number, .slice ab v.bytes.length cb, .slice ai v.items.length ci] := by
  cases n with
  | zero => exact h.elim
  | succ n => obtain ⟨ab, cb, ai, ci, e, _⟩ := h; exact ⟨ab, cb, ai, ci, e⟩
end Go.Proofs.Ytefkhknfjohnaaa
