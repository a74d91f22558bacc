/- Drawn descriptions are valid; the contract of DrawDescription. -/
import Derived.Test.YtefkhknfjohnaaaDescrDraw
namespace Go.Proofs.Ytefkhknfjohnaaa
open Go Go.RowKit
theorem kindAt_more {rs : List RuleV} {i : Nat} {k : Int} (hi : i ≤ rs.length) (h0 : 0 ≤ k) (h1 : k < (i : Int)) : kindAtB (rs.take i) k = kindAtB rs k := by
  unfold kindAtB
  rw [dif_pos (by rw [List.length_take]; omega), dif_pos (by omega)]
  rw [List.getElem_take]
theorem limitAt_more {rs : List RuleV} {i : Nat} {k : Int} (hi : i ≤ rs.length) (h0 : 0 ≤ k) (h1 : k < (i : Int)) : limitAt (rs.take i) k = limitAt rs k := by
  unfold limitAt
  rw [dif_pos (by rw [List.length_take]; omega), dif_pos (by omega)]
  simp only [List.getElem_take]
theorem kindI_more {rs : List RuleV} {r : RuleV} {i : Nat} (hi : i ≤ rs.length) (hk : kidsB r.kids (i : Int) = true) (h : kindI (rs.take i) r = true) : kindI rs r = true := by
  obtain ⟨nm, kd, sz, lt, bs, ns, ts, ks⟩ := r
  dsimp only at hk
  cases ks with
  | nil =>
    unfold kindI at h ⊢
    rw [Bool.and_eq_true] at h ⊢
    refine ⟨?_, h.2⟩
    have h1 := h.1
    unfold meetsB tagsB at h1 ⊢
    simpa using h1
  | cons k ks =>
    unfold kidsB at hk
    rw [List.all_eq_true] at hk
    have hk1 := of_decide_eq_true (hk k (by simp))
    have e1 := kindAt_more hi hk1.1 (by omega : k < (i : Int))
    have e2 := limitAt_more hi hk1.1 (by omega : k < (i : Int))
    unfold kindI at h ⊢
    unfold meetsB tagsB at h ⊢
    simp only [List.headD_cons, e1, e2] at h ⊢
    exact h
theorem find_at {rs : List RuleV} {i : Nat} (hi : i < rs.length) (hne : ∀ j (hj : j < i), rs[j].name ≠ rs[i].name) : findFrom rs[i].name rs 0 = (i : Int) := by
  have hall : ∀ d k, k + d = i → findFrom rs[i].name (rs.drop k) k = (i : Int) := by
    intro d
    induction d with
    | zero =>
      intro k e
      obtain rfl : k = i := by omega
      exact findFrom_yes hi rfl
    | succ d ih =>
      intro k e
      rw [findFrom_no (by omega) (hne k (by omega))]
      exact ih (k + 1) (by omega)
  have := hall i 0 (by omega)
  simpa using this
theorem MadeAll.take {rs : List RuleV} (h : MadeAll rs) (n : Nat) : MadeAll (rs.take n) := fun j hj => by
  have hj2 : j < n ∧ j < rs.length := by rw [List.length_take] at hj; omega
  rw [List.getElem_take, List.take_take, Nat.min_eq_left (by omega)]
  exact h j hj2.2
theorem made_valid {rs : List RuleV} (h : MadeAll rs) (hl : rs.length ≤ 9) : allV (kindI rs) rs := fun i hi => by
  have hl2 : ∀ j, j < rs.length → (rs.take j).length = j := fun j hj => by rw [List.length_take]; omega
  obtain ⟨⟨s, hs, hn⟩, hk, hv⟩ := h i hi
  rw [hl2 i hi] at hn hk
  rw [validAt_in hi]
  simp only [Bool.and_eq_true]
  refine ⟨decide_eq_true (find_at hi fun j hj => ?_), hk, ?_, kindI_more (by omega) hk hv⟩
  · obtain ⟨⟨t, ht, hn2⟩, -, -⟩ := h j (by omega)
    rw [hl2 j (by omega)] at hn2
    rw [hn, hn2]
    exact made_ne (List.mem_append_left _ ht) (List.mem_append_left _ hs) (by omega) (by omega) (by omega)
  · rw [hn]
    exact name_made (List.mem_append_left _ hs) (by omega)
theorem made_descr {rs : List RuleV} (h : MadeAll rs) (h1 : 1 ≤ rs.length) (hl : rs.length ≤ 9) : descrB (kindI rs) rs = true := descrB_yes ⟨h1, by omega⟩ (made_valid h hl)
open Classical in
theorem kindI_lens64 {rs : List RuleV} {r : RuleV} (h : kindI rs r = true) : r.bytes.length ≤ 64 ∧ r.names.length ≤ 64 ∧ r.tags.length ≤ 64 ∧ r.kids.length ≤ 64 := by
  unfold kindI at h
  rw [Bool.and_eq_true] at h
  have hsame : r = onlyR r := (sameR_iff _ _).1 h.2
  have h1 := h.1
  rcases kind_cases r.kind with hk | hk | hk | hk | hk | hk | hk | hk | hk | hk | hk
  · have e : onlyR r = ⟨r.name, r.kind, r.size, r.little, [], [], [], []⟩ := by unfold onlyR; simp [hk]
    rw [e] at hsame
    rw [hsame]; simp
  · have e : onlyR r = ⟨r.name, r.kind, 0, false, r.bytes, [], [], []⟩ := by unfold onlyR; simp [hk]
    rw [e] at hsame
    have h2 : r.bytes.length ≤ 16 := by simp [meetsB, hk] at h1; omega
    rw [hsame]; simp; omega
  · have e : onlyR r = ⟨r.name, r.kind, r.size, false, [], [], [], []⟩ := by unfold onlyR; simp [hk]
    rw [e] at hsame
    rw [hsame]; simp
  · have e : onlyR r = ⟨r.name, r.kind, 0, false, [], [], [], r.kids⟩ := by unfold onlyR; simp [hk]
    rw [e] at hsame
    have h2 : r.kids.length ≤ 2 := by simp [meetsB, hk] at h1; omega
    rw [hsame]; simp; omega
  · have e : onlyR r = ⟨r.name, r.kind, 0, false, [], [], [], r.kids⟩ := by unfold onlyR; simp [hk]
    rw [e] at hsame
    have h2 : r.kids.length ≤ 2 := by simp [meetsB, hk] at h1; omega
    rw [hsame]; simp; omega
  · have e : onlyR r = ⟨r.name, r.kind, 0, false, [], r.names, [], r.kids⟩ := by unfold onlyR; simp [hk]
    rw [e] at hsame
    have h2 : r.names.length = r.kids.length ∧ namesB r.names = true := by simpa [meetsB, hk] using h1
    have h3 : r.names.length ≤ 8 := by
      have h4 := h2.2
      unfold namesB at h4
      exact (of_decide_eq_true h4).2.2
    rw [hsame]; simp; omega
  · have e : onlyR r = ⟨r.name, r.kind, 0, false, [], [], r.tags, r.kids⟩ := by unfold onlyR; simp [hk]
    rw [e] at hsame
    have h2 : tagsB rs r = true := by simpa [meetsB, hk] using h1
    unfold tagsB at h2
    rw [Bool.and_eq_true] at h2
    have h3 := of_decide_eq_true h2.1
    rw [hsame]; simp; omega
  · have e : onlyR r = ⟨r.name, r.kind, 0, false, [], [], [], r.kids⟩ := by unfold onlyR; simp [hk]
    rw [e] at hsame
    have h2 : r.kids.length = 1 := by simpa [meetsB, hk] using h1
    rw [hsame]; simp; omega
  · have e : onlyR r = ⟨r.name, r.kind, 0, false, [], [], [], r.kids⟩ := by unfold onlyR; simp [hk]
    rw [e] at hsame
    have h2 : r.kids.length = 1 := by simpa [meetsB, hk] using h1
    rw [hsame]; simp; omega
  · have e : onlyR r = ⟨r.name, r.kind, 0, false, r.bytes, [], [], []⟩ := by unfold onlyR; simp [hk]
    rw [e] at hsame
    have h2 : r.bytes.length = 1 := by simp [meetsB, hk, termB] at h1; exact h1.1
    rw [hsame]; simp; omega
  · obtain ⟨k1, k2, k3, k4, k5, k6, k7, k8, k9, k10⟩ := hk
    simp [meetsB, k1, k2, k3, k4, k5, k6, k7, k8, k9, k10] at h1
theorem kindI_lens {rs : List RuleV} {r : RuleV} (h : kindI rs r = true) : Short r := by
  have := kindI_lens64 h
  unfold Short
  omega
theorem made_short {rs : List RuleV} (h : MadeAll rs) : ∀ r ∈ rs, Short r := fun r hr => by
  obtain ⟨j, hj, rfl⟩ := List.getElem_of_mem hr
  exact kindI_lens (h j hj).2.2
theorem nameB_le {s : ByteArray} (h : nameB s = true) : s.size ≤ 12 := by
  by_cases hs : 1 ≤ s.size ∧ s.size ≤ 12
  · exact hs.2
  · rw [nameB_size hs] at h; cases h
open Classical in
theorem kindI_spelt {rs : List RuleV} {r : RuleV} (h : kindI rs r = true) : ∀ s ∈ r.names, s.size ≤ 12 := by
  unfold kindI at h
  rw [Bool.and_eq_true] at h
  have hsame : r = onlyR r := (sameR_iff _ _).1 h.2
  by_cases hk : r.kind = 6
  · have h2 : r.names.length = r.kids.length ∧ namesB r.names = true := by simpa [meetsB, hk] using h.1
    have h4 := h2.2
    unfold namesB at h4
    have h5 := of_decide_eq_true h4
    intro s hs
    obtain ⟨j, hj, rfl⟩ := List.getElem_of_mem hs
    exact nameB_le (h5.1 j hj hj).1
  · have e : r.names = [] := by
      rw [hsame]
      unfold onlyR
      split
      · rfl
      · split
        · rfl
        · split
          · rfl
          · split
            · rfl
            · split <;> rfl
    rw [e]
    intro s hs
    simp at hs
theorem made_spelt {rs : List RuleV} (h : MadeAll rs) (hl : rs.length ≤ 9) : ∀ r ∈ rs, Spelt r := fun r hr => by
  obtain ⟨j, hj, rfl⟩ := List.getElem_of_mem hr
  have h1 := made_valid h hl j hj
  rw [validAt_in hj] at h1
  simp only [Bool.and_eq_true] at h1
  exact ⟨by have := nameB_le h1.2.2.1; omega, fun s hs => by have := kindI_spelt (h j hj).2.2 s hs; omega⟩
/-- A drawn description comes back, in new memory. -/
def DrawnD (w : World) (e : Ending) (w' : World) : Prop :=
  ∃ (rs : List RuleV) (x : Option Addr) (cp : Nat), e = .returned (.agg #[.slice x rs.length cp]) ∧ MadeAll rs ∧ (1 ≤ rs.length ∧ rs.length ≤ 6) ∧ (∀ h : 0 < rs.length, rs[0].kind = 1) ∧ RowR w.heap.size (.slice x rs.length cp) rs w' ∧ Below w.heap.size w w'
end Go.Proofs.Ytefkhknfjohnaaa
