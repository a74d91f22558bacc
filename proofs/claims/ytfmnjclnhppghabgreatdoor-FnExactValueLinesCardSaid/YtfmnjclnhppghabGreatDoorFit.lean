/- What the program makes of the fields and the items of a value, beside what the model makes of them. No program is walked here. -/
import Derived.Test.YtfmnjclnhppghabGreatDoorVal
import Derived.Test.YtfmnjclnhppghabGreatDoorUsedP
namespace Go.Proofs.YtfmnjclnhppghabGreatDoor
open Go Go.RowKit
/-- The bounds of the fields of a value: of its number, of how many bytes and how many items it has. -/
structure BndV where
  num : Int
  b0 : Int
  b1 : Int
  i0 : Int
  i1 : Int
/-- The bounds of the values of a rule. -/
def bndV (rs : List RuleV) (r : RuleV) : BndV :=
  if r.kind = 1 then ⟨pow256 r.size - 1, 0, 0, 0, 0⟩
  else if r.kind = 3 then ⟨0, r.size, r.size, 0, 0⟩
  else if r.kind = 4 then ⟨0, 0, min 400 (limitAt rs (r.kids.getD 0 0)), 0, 0⟩
  else if r.kind = 10 then ⟨0, 0, 400, 0, 0⟩
  else if r.kind = 5 then ⟨0, 0, 0, 0, min 40 (limitAt rs (r.kids.getD 0 0))⟩
  else if r.kind = 6 then ⟨0, 0, 0, (r.kids.length : Int), (r.kids.length : Int)⟩
  else if r.kind = 7 then ⟨limitAt rs (r.kids.getD 0 0), 0, 0, 1, 1⟩
  else if r.kind = 8 then ⟨0, 0, 0, 0, 1⟩
  else if r.kind = 9 then ⟨0, 0, 0, 1, 1⟩
  else ⟨0, 0, 0, 0, 0⟩
/-- Whether the fields of a value keep the bounds. -/
def fitB (b : BndV) (v : ValueV) : Bool :=
  decide (0 ≤ v.number ∧ v.number ≤ b.num) && (decide (b.b0 ≤ (v.bytes.length : Int) ∧ (v.bytes.length : Int) ≤ b.b1) && decide (b.i0 ≤ (v.items.length : Int) ∧ (v.items.length : Int) ≤ b.i1))
/-- The rule of an item, as the program finds it. -/
def kidI (r : RuleV) (x : Int) (i : Nat) : Int :=
  if r.kind = 5 then r.kids.getD 1 0
  else if r.kind = 7 then (if i = 0 then tagKid r.tags (r.kids.drop 1) x else -1)
  else if r.kind = 6 ∨ r.kind = 8 ∨ r.kind = 9 then (if i < r.kids.length then r.kids.getD i 0 else -1)
  else -1
theorem fit_tagsOk {lim : Int} : ∀ {ts : List Int} {lo : Int}, tagsOk lim lo ts = true → 0 ≤ lo → ∀ t ∈ ts, 0 ≤ t ∧ t ≤ lim
  | [], _, _, _, t, ht => by cases ht
  | a :: ts, lo, h, h0, t, ht => by
    unfold tagsOk at h
    simp at h
    rcases List.mem_cons.1 ht with rfl | ht
    · omega
    · exact fit_tagsOk h.2 (by omega) t ht
theorem fit_tag {x : Int} : ∀ {ts ks : List Int}, 0 ≤ tagKid ts ks x → x ∈ ts
  | [], ks, h => by cases ks <;> (simp [tagKid] at h)
  | t :: ts, [], h => by simp [tagKid] at h
  | t :: ts, k :: ks, h => by
    unfold tagKid at h
    by_cases e : t = x
    · simp [e]
    · rw [if_neg e] at h
      exact List.mem_cons_of_mem _ (fit_tag h)
theorem tagKid_none {x : Int} : ∀ {ts ks : List Int}, (∀ t ∈ ts, t ≠ x) → tagKid ts ks x = -1
  | [], ks, _ => by cases ks <;> rfl
  | t :: ts, [], _ => rfl
  | t :: ts, k :: ks, h => by
    unfold tagKid
    rw [if_neg (h t (by simp))]
    exact tagKid_none fun u hu => h u (by simp [hu])
theorem tagKid_first {x : Int} : ∀ {ts ks : List Int} {j : Nat} (h : j < ts.length) (h2 : j < ks.length), ts[j] = x → (∀ i (hi : i < j), ts[i] ≠ x) → tagKid ts ks x = ks[j]
  | [], _, j, h, _, _, _ => by simp at h
  | t :: ts, [], j, _, h2, _, _ => by simp at h2
  | t :: ts, k :: ks, 0, _, _, e, _ => by
    unfold tagKid
    simp at e
    rw [if_pos e]
    rfl
  | t :: ts, k :: ks, j + 1, h, h2, e, hn => by
    unfold tagKid
    have h0 := hn 0 (by omega)
    simp at h0
    rw [if_neg h0]
    simp only [List.getElem_cons_succ]
    exact tagKid_first (by simpa using h) (by simpa using h2) (by simpa using e) fun i hi => by simpa using hn (i + 1) (by omega)
/-- Where the program's bounds are not kept the model's are not. -/
theorem fit_no {rs : List RuleV} {r : RuleV} {v : ValueV} (hk : kindI rs r = true) (h : fitB (bndV rs r) v = false) : ownB rs r v = false := by
  have hkn := kindI_known hk
  rw [Bool.eq_false_iff] at h ⊢
  intro ho
  apply h
  rcases (by omega : r.kind = 1 ∨ r.kind = 2 ∨ r.kind = 3 ∨ r.kind = 4 ∨ r.kind = 5 ∨ r.kind = 6 ∨ r.kind = 7 ∨ r.kind = 8 ∨ r.kind = 9 ∨ r.kind = 10) with e | e | e | e | e | e | e | e | e | e
  case inr.inr.inr.inr.inr.inr.inl =>
    have h7 : tagsOk (limitAt rs (r.kids.headD 0)) 0 r.tags = true := by
      simp [kindI, meetsB, e, tagsB] at hk
      simpa using hk.1.2
    have h8 : r.kids.headD 0 = r.kids.getD 0 0 := by cases r.kids <;> rfl
    simp only [ownB, e, Int.reduceEq, reduceIte, Bool.and_eq_true, decide_eq_true_eq] at ho
    have h1 := ho.2.2
    unfold itemR at h1
    rw [if_neg (by omega), if_neg (by omega), if_pos e] at h1
    have h2 := fit_tagsOk h7 (by omega) _ (fit_tag h1)
    rw [h8] at h2
    simp only [fitB, bndV, e, Int.reduceEq, reduceIte, Bool.and_eq_true, decide_eq_true_eq]
    have ho1 := ho.1
    have ho2 := ho.2.1
    exact ⟨h2, by omega, by omega⟩
  all_goals
    simp only [ownB, e, Int.reduceEq, reduceIte, Bool.and_eq_true, decide_eq_true_eq] at ho
    simp only [fitB, bndV, e, Int.reduceEq, reduceIte, Bool.and_eq_true, decide_eq_true_eq]
    omega
/-- Where the program's bounds are kept, the rule of an item that is there is the model's; if there is none, the model's bounds are not kept; else they are. -/
theorem fit_kid {rs : List RuleV} {r : RuleV} {v : ValueV} (hk : kindI rs r = true) (hks : ∀ x ∈ r.kids, 0 ≤ x) (h : fitB (bndV rs r) v = true) {q : Nat} (hq : q < v.items.length) :
    kidI r v.number q = itemR r v.number q ∧ (itemR r v.number q < 0 → ownB rs r v = false) ∧ (0 ≤ itemR r v.number q → ownB rs r v = true) := by
  have hkn := kindI_known hk
  rcases (by omega : r.kind = 1 ∨ r.kind = 2 ∨ r.kind = 3 ∨ r.kind = 4 ∨ r.kind = 5 ∨ r.kind = 6 ∨ r.kind = 7 ∨ r.kind = 8 ∨ r.kind = 9 ∨ r.kind = 10) with e | e | e | e | e | e | e | e | e | e
  · simp only [fitB, bndV, e, Int.reduceEq, reduceIte, Bool.and_eq_true, decide_eq_true_eq] at h; omega
  · simp only [fitB, bndV, e, Int.reduceEq, reduceIte, Bool.and_eq_true, decide_eq_true_eq] at h; omega
  · simp only [fitB, bndV, e, Int.reduceEq, reduceIte, Bool.and_eq_true, decide_eq_true_eq] at h; omega
  · simp only [fitB, bndV, e, Int.reduceEq, reduceIte, Bool.and_eq_true, decide_eq_true_eq] at h; omega
  · have h5 := kindI_5 hk e
    have h6 := hks _ (getD_mem (ks := r.kids) (j := 1) (by omega))
    simp only [fitB, bndV, e, Int.reduceEq, reduceIte, Bool.and_eq_true, decide_eq_true_eq] at h
    refine ⟨by simp [kidI, itemR, e], fun hn => ?_, fun _ => ?_⟩
    · simp only [itemR, e, Int.reduceEq, reduceIte] at hn; omega
    · simp only [ownB, e, Int.reduceEq, reduceIte, Bool.and_eq_true, decide_eq_true_eq]; omega
  · have h5 := kindI_6 hk e
    simp only [fitB, bndV, e, Int.reduceEq, reduceIte, Bool.and_eq_true, decide_eq_true_eq] at h
    have hql : q < r.kids.length := by omega
    have h6 := hks _ (getD_mem (ks := r.kids) (j := q) hql)
    have hi : itemR r v.number q = r.kids.getD q 0 := by unfold itemR; rw [if_neg (by omega), if_pos e, if_pos hql]
    refine ⟨?_, fun hn => by omega, fun _ => ?_⟩
    · rw [hi]; unfold kidI; rw [if_neg (by omega), if_neg (by omega), if_pos (by omega), if_pos hql]
    · simp only [ownB, e, Int.reduceEq, reduceIte, Bool.and_eq_true, decide_eq_true_eq]; omega
  · simp only [fitB, bndV, e, Int.reduceEq, reduceIte, Bool.and_eq_true, decide_eq_true_eq] at h
    have h0 : q = 0 := by omega
    subst h0
    refine ⟨by simp [kidI, itemR, e], fun hn => ?_, fun hp => ?_⟩
    · rw [Bool.eq_false_iff]; intro ho; simp only [ownB, e, Int.reduceEq, reduceIte, Bool.and_eq_true, decide_eq_true_eq] at ho; omega
    · simp only [ownB, e, Int.reduceEq, reduceIte, Bool.and_eq_true, decide_eq_true_eq]; exact ⟨by omega, by omega, hp⟩
  · have h5 := kindI_8 hk e
    simp only [fitB, bndV, e, Int.reduceEq, reduceIte, Bool.and_eq_true, decide_eq_true_eq] at h
    have h0 : q = 0 := by omega
    subst h0
    have h6 := hks _ (getD_mem (ks := r.kids) (j := 0) (by omega))
    have hi : itemR r v.number 0 = r.kids.getD 0 0 := by unfold itemR; rw [if_neg (by omega), if_neg (by omega), if_neg (by omega), if_pos (by omega)]
    refine ⟨?_, fun hn => by omega, fun _ => ?_⟩
    · rw [hi]; unfold kidI; rw [if_neg (by omega), if_neg (by omega), if_pos (by omega), if_pos (by omega)]
    · simp only [ownB, e, Int.reduceEq, reduceIte, Bool.and_eq_true, decide_eq_true_eq]; omega
  · have h5 := kindI_9 hk e
    simp only [fitB, bndV, e, Int.reduceEq, reduceIte, Bool.and_eq_true, decide_eq_true_eq] at h
    have h0 : q = 0 := by omega
    subst h0
    have h6 := hks _ (getD_mem (ks := r.kids) (j := 0) (by omega))
    have hi : itemR r v.number 0 = r.kids.getD 0 0 := by unfold itemR; rw [if_neg (by omega), if_neg (by omega), if_neg (by omega), if_pos (by omega)]
    refine ⟨?_, fun hn => by omega, fun _ => ?_⟩
    · rw [hi]; unfold kidI; rw [if_neg (by omega), if_neg (by omega), if_pos (by omega), if_pos (by omega)]
    · simp only [ownB, e, Int.reduceEq, reduceIte, Bool.and_eq_true, decide_eq_true_eq]; omega
  · simp only [fitB, bndV, e, Int.reduceEq, reduceIte, Bool.and_eq_true, decide_eq_true_eq] at h; omega
/-- A value without items whose fields keep the program's bounds keeps the model's. -/
theorem fit_end {rs : List RuleV} {r : RuleV} {v : ValueV} (hk : kindI rs r = true) (h : fitB (bndV rs r) v = true) (h0 : v.items.length = 0) : ownB rs r v = true := by
  have hkn := kindI_known hk
  rcases (by omega : r.kind = 1 ∨ r.kind = 2 ∨ r.kind = 3 ∨ r.kind = 4 ∨ r.kind = 5 ∨ r.kind = 6 ∨ r.kind = 7 ∨ r.kind = 8 ∨ r.kind = 9 ∨ r.kind = 10) with e | e | e | e | e | e | e | e | e | e
  all_goals
    simp only [fitB, bndV, e, Int.reduceEq, reduceIte, Bool.and_eq_true, decide_eq_true_eq] at h
    simp only [ownB, e, Int.reduceEq, reduceIte, Bool.and_eq_true, decide_eq_true_eq]
    omega
/-- No value whose fields keep the bounds has more items. -/
theorem fit_len {rs : List RuleV} {r : RuleV} {v : ValueV} (hk : kindI rs r = true) (h : fitB (bndV rs r) v = true) : v.items.length ≤ 40 := by
  have hkn := kindI_known hk
  rcases (by omega : r.kind = 1 ∨ r.kind = 2 ∨ r.kind = 3 ∨ r.kind = 4 ∨ r.kind = 5 ∨ r.kind = 6 ∨ r.kind = 7 ∨ r.kind = 8 ∨ r.kind = 9 ∨ r.kind = 10) with e | e | e | e | e | e | e | e | e | e
  all_goals
    simp only [fitB, bndV, e, Int.reduceEq, reduceIte, Bool.and_eq_true, decide_eq_true_eq] at h
    try have := kindI_6 hk e
    omega
end Go.Proofs.YtfmnjclnhppghabGreatDoor
