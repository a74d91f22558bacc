/- Default values as data; they are valid. No program is walked here. -/
import Derived.Test.YtefkhknfjohnaaaMadeV
namespace Go.Proofs.Ytefkhknfjohnaaa
open Go Go.RowKit
/-- The rules of the items of a default value. -/
def defKids (r : RuleV) : List Int := if r.kind = 6 ∨ r.kind = 9 then r.kids else if r.kind = 7 then [r.kids.getD 1 0] else []
def defNum (r : RuleV) : Int := if r.kind = 7 then r.tags.getD 0 0 else 0
def defBytes (r : RuleV) : List UInt8 := if r.kind = 3 then List.replicate r.size.toNat 0 else []
/-- The default value of a rule. -/
def defV (rs : List RuleV) : Nat → Int → ValueV
  | 0, _ => .mk 0 [] []
  | n + 1, k => .mk (defNum (ruleAt rs k)) (defBytes (ruleAt rs k)) ((defKids (ruleAt rs k)).map (defV rs n))
theorem defKids_mem {rs : List RuleV} {r : RuleV} (hk : kindI rs r = true) : ∀ k ∈ defKids r, k ∈ r.kids := fun k h => by
  unfold defKids at h
  split at h
  · exact h
  · split at h
    · rename_i h7
      have h2 := kindI_7 hk h7
      rw [List.mem_singleton] at h
      subst h
      exact getD_mem (by omega)
    · cases h
theorem defKids_len {rs : List RuleV} {r : RuleV} (hk : kindI rs r = true) : (defKids r).length ≤ 8 := by
  unfold defKids
  split
  · rename_i h
    rcases h with h | h
    · exact (kindI_6 hk h).2.2
    · have := kindI_9 hk h; omega
  · split
    · simp
    · simp
theorem def_item {rs : List RuleV} {r : RuleV} (hk : kindI rs r = true) (htg : r.kind = 7 → tagKid r.tags (r.kids.drop 1) (r.tags.getD 0 0) = r.kids.getD 1 0) {j : Nat} (h : j < (defKids r).length) : itemR r (defNum r) j = (defKids r)[j] := by
  unfold defKids at h ⊢
  unfold itemR defNum
  by_cases h6 : r.kind = 6
  · simp only [h6] at h ⊢
    simp only [Int.reduceEq, reduceIte, true_or] at h ⊢
    rw [if_pos h]
    simp [List.getD, List.getElem?_eq_getElem h]
  · by_cases h9 : r.kind = 9
    · have := kindI_9 hk h9
      simp only [h9] at h ⊢
      simp only [Int.reduceEq, reduceIte, or_true] at h ⊢
      have hj : j = 0 := by omega
      subst hj
      simp [List.getD, List.getElem?_eq_getElem h]
    · by_cases h7 : r.kind = 7
      · simp only [h7] at h ⊢
        simp only [Int.reduceEq, reduceIte, or_false] at h ⊢
        have hj : j = 0 := by simpa using h
        subst hj
        exact htg h7
      · rw [if_neg (by omega), if_neg h7] at h
        simp at h
theorem tagKid_head {ts ks : List Int} (h : 1 ≤ ts.length) (h2 : 1 ≤ ks.length) : tagKid ts ks (ts.getD 0 0) = ks.getD 0 0 := by
  cases ts with
  | nil => simp at h
  | cons t ts =>
    cases ks with
    | nil => simp at h2
    | cons k ks => simp [tagKid]
theorem kid_limit {rs : List RuleV} (hall : allV (kindI rs) rs) {k : Nat} (hk : k < rs.length) (h : rs[k].kind = 4 ∨ rs[k].kind = 5 ∨ rs[k].kind = 7) : 0 ≤ limitAt rs (rs[k].kids.getD 0 0) := by
  obtain ⟨h1, m, hm, hmk⟩ := kid_int hall hk h
  rw [hm] at h1 ⊢
  have hml : m < rs.length := by omega
  rw [ruleAt_at hml] at h1
  rw [limitAt_in hml]
  have h2 := kindI_size (allV_kind hall hml) h1
  rw [if_pos ⟨h1, h2⟩]
  have := pow256_bounds rs[m].size
  omega
theorem defV_valid {rs : List RuleV} (hall : allV (kindI rs) rs) : ∀ (n k : Nat), k < rs.length → k < n → validV rs (k : Int) (defV rs n (k : Int)) = true
  | 0, k, _, h => by omega
  | n + 1, k, hk, hn => by
    have hki := allV_kind hall hk
    have hkids := allV_kids hall hk
    have htg : rs[k].kind = 7 → tagKid rs[k].tags (rs[k].kids.drop 1) (rs[k].tags.getD 0 0) = rs[k].kids.getD 1 0 := fun h7 => by
      obtain ⟨h1, h2, h3⟩ := kindI_7 hki h7
      have h4 := tagKid_head (ts := rs[k].tags) (ks := rs[k].kids.drop 1) (by omega) (by rw [List.length_drop]; omega)
      rw [h4]
      simp [List.getD]
    rw [defV, validV_eq, ruleAt_at hk]
    rw [show (ValueV.mk (defNum rs[k]) (defBytes rs[k]) ((defKids rs[k]).map (defV rs n))).number = defNum rs[k] from rfl,
      show (ValueV.mk (defNum rs[k]) (defBytes rs[k]) ((defKids rs[k]).map (defV rs n))).items = (defKids rs[k]).map (defV rs n) from rfl]
    have hL : validL rs rs[k] (defNum rs[k]) 0 ((defKids rs[k]).map (defV rs n)) = true := by
      refine validL_of _ _ fun q hq => ?_
      have hq' : q < (defKids rs[k]).length := by simpa using hq
      rw [Nat.zero_add, def_item hki htg hq']
      have hk2 := hkids _ (defKids_mem hki _ (List.getElem_mem hq'))
      obtain ⟨m, hm⟩ : ∃ m : Nat, (defKids rs[k])[q] = (m : Int) := ⟨(defKids rs[k])[q].toNat, by omega⟩
      rw [List.getElem_map, hm]
      rw [hm] at hk2
      exact defV_valid hall n m (by omega) (by omega)
    rw [hL, Bool.and_true]
    have hkn := kindI_known hki
    have hnum : ∀ (x : Int) (b : List UInt8) (l : List ValueV), (ValueV.mk x b l).number = x ∧ (ValueV.mk x b l).bytes = b ∧ (ValueV.mk x b l).items = l := fun _ _ _ => ⟨rfl, rfl, rfl⟩
    rcases (by omega : rs[k].kind = 1 ∨ rs[k].kind = 2 ∨ rs[k].kind = 3 ∨ rs[k].kind = 4 ∨ rs[k].kind = 5 ∨ rs[k].kind = 6 ∨ rs[k].kind = 7 ∨ rs[k].kind = 8 ∨ rs[k].kind = 9 ∨ rs[k].kind = 10) with e | e | e | e | e | e | e | e | e | e
    · have h1 := kindI_size hki e
      have h2 := pow256_bounds rs[k].size
      simp only [ownB, defNum, defBytes, defKids, hnum, e, Int.reduceEq, reduceIte, or_false, List.map_nil, List.length_nil]
      simp
      omega
    · simp [ownB, defNum, defBytes, defKids, hnum, e]
    · have h1 := kindI_3 hki e
      simp [ownB, defNum, defBytes, defKids, hnum, e]
      omega
    · have h1 := kid_limit hall hk (by omega)
      simp only [List.getD_eq_getElem?_getD] at h1
      simp [ownB, defNum, defBytes, defKids, hnum, e]
      omega
    · have h1 := kid_limit hall hk (by omega)
      simp only [List.getD_eq_getElem?_getD] at h1
      simp [ownB, defNum, defBytes, defKids, hnum, e]
      omega
    · simp [ownB, defNum, defBytes, defKids, hnum, e]
    · have hlen : 0 < (defKids rs[k]).length := by unfold defKids; rw [if_neg (by omega), if_pos e]; simp
      have h2 : itemR rs[k] (defNum rs[k]) 0 = (defKids rs[k])[0] := def_item hki htg hlen
      have h3 : (0 : Int) ≤ itemR rs[k] (defNum rs[k]) 0 := by
        rw [h2]
        have h5 := hkids _ (defKids_mem hki _ (List.getElem_mem hlen))
        omega
      simp only [ownB, hnum, e, Int.reduceEq, reduceIte]
      simp [h3]
      simp [defBytes, defKids, e]
    · simp [ownB, defNum, defBytes, defKids, hnum, e]
    · have h1 := kindI_9 hki e
      simp [ownB, defNum, defBytes, defKids, hnum, e, h1]
    · simp [ownB, defNum, defBytes, defKids, hnum, e]
end Go.Proofs.Ytefkhknfjohnaaa
