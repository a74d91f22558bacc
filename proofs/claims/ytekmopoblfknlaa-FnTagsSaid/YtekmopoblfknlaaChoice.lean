/- What is known of the tags of a choice. No program is walked here. -/
import Derived.Test.YtekmopoblfknlaaStartP
namespace Go.Proofs.Ytekmopoblfknlaa
open Go Go.RowKit
theorem any_next {f : Int → Bool} {l : List Int} {j : Nat} (h : j < l.length) : (l.drop j).any f = (f l[j] || (l.drop (j + 1)).any f) := by
  rw [List.drop_eq_getElem_cons h, List.any_cons]
/-- What is known of the tags of a choice. -/
theorem choice_facts {rs : List RuleV} (hall : allV (kindI rs) rs) {k : Nat} (hk : k < rs.length) (hkd : rs[k].kind = 7) : ∃ m : Nat, rs[k].kids.getD 0 0 = (m : Int) ∧ ∃ (_ : m < k) (hm : m < rs.length), 0 < rs[k].kids.length ∧ rs[k].tags.length ≤ 8 ∧ ∀ t ∈ rs[k].tags, tagB rs rs[k] t = encI rs[m].little t rs[m].size ∧ 1 ≤ (encI rs[m].little t rs[m].size).length := by
  have hki := allV_kind hall hk
  have h7 := kindI_7 hki hkd
  obtain ⟨h1, m, hm, hmk⟩ := kid_int hall hk (.inr (.inr hkd))
  have hmr : m < rs.length := by omega
  rw [hm, ruleAt_at hmr] at h1
  have hs := kindI_size (allV_kind hall hmr) h1
  refine ⟨m, hm, hmk, hmr, by omega, by omega, fun t ht => ⟨by unfold tagB; rw [hm, ruleAt_at hmr], ?_⟩⟩
  have h8 : tagsB rs rs[k] = true := by simp [kindI, meetsB, hkd] at hki; exact hki.1
  unfold tagsB at h8
  rw [Bool.and_eq_true] at h8
  have h12 : rs[k].kids.headD 0 = rs[k].kids.getD 0 0 := by cases rs[k].kids <;> rfl
  rw [h12, hm] at h8
  have h9 := tagsOk_in h8.2 t ht
  rw [limitAt_in hmr, if_pos ⟨h1, hs⟩] at h9
  rw [enc_len hs.1 hs.2 h9.1 h9.2]
  omega
end Go.Proofs.Ytekmopoblfknlaa
