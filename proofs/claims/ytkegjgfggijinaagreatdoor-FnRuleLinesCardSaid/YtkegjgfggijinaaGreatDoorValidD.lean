/- Validity of whole descriptions, as plain functions; both readings agree on descriptions. No program is walked here. -/
import Derived.Test.YtkegjgfggijinaaGreatDoorValid
namespace Go.Proofs.YtkegjgfggijinaaGreatDoor
open Go Go.RowKit
/-- All kids are earlier rules. -/
def kidsB (ks : List Int) (k : Int) : Bool := ks.all fun x => decide (0 ≤ x ∧ x ≤ k - 1)
/-- Whether the rule at an index is valid; f: the conditions of its kind. -/
noncomputable def validAt (f : RuleV → Bool) (rs : List RuleV) (k : Int) : Bool :=
  if h : 0 ≤ k ∧ k < rs.length then (let r := rs[k.toNat]'(by omega); decide (findFrom r.name rs 0 = k) && (kidsB r.kids k && (nameB r.name && f r))) else false
theorem validAt_out {f : RuleV → Bool} {rs : List RuleV} {k : Int} (h : ¬ (0 ≤ k ∧ k < rs.length)) : validAt f rs k = false := by unfold validAt; rw [dif_neg h]
theorem validAt_in {f : RuleV → Bool} {rs : List RuleV} {k : Nat} (h : k < rs.length) : validAt f rs (k : Int) = (decide (findFrom rs[k].name rs 0 = (k : Int)) && (kidsB rs[k].kids (k : Int) && (nameB rs[k].name && f rs[k]))) := by
  unfold validAt
  rw [dif_pos (by omega)]
  simp only [Int.toNat_natCast]
/-- Whether all rules are valid. -/
def allV (f : RuleV → Bool) (rs : List RuleV) : Prop := ∀ i : Nat, i < rs.length → validAt f rs (i : Int) = true
open Classical in
/-- Whether a description is valid. -/
noncomputable def descrB (f : RuleV → Bool) (rs : List RuleV) : Bool := decide ((1 ≤ rs.length ∧ rs.length ≤ 24) ∧ allV f rs)
open Classical in
theorem descrB_yes {f : RuleV → Bool} {rs : List RuleV} (h : 1 ≤ rs.length ∧ rs.length ≤ 24) (ha : allV f rs) : descrB f rs = true := by
  unfold descrB
  exact decide_eq_true ⟨h, ha⟩
open Classical in
theorem descrB_len {f : RuleV → Bool} {rs : List RuleV} (h : ¬ (1 ≤ rs.length ∧ rs.length ≤ 24)) : descrB f rs = false := by
  unfold descrB
  exact decide_eq_false fun h' => h h'.1
open Classical in
theorem descrB_bad {f : RuleV → Bool} {rs : List RuleV} {k : Nat} (hk : k < rs.length) (h : validAt f rs (k : Int) = false) : descrB f rs = false := by
  unfold descrB
  exact decide_eq_false fun h' => by
    have := h'.2 k hk
    rw [h] at this
    cases this
open Classical in
theorem descrB_iff {f : RuleV → Bool} {rs : List RuleV} : descrB f rs = true ↔ (1 ≤ rs.length ∧ rs.length ≤ 24) ∧ allV f rs := by
  unfold descrB
  exact decide_eq_true_iff
theorem validAt_mono {f g : RuleV → Bool} {rs : List RuleV} {k : Nat} (hk : k < rs.length) (hfg : f rs[k] = true → g rs[k] = true) (h : validAt f rs (k : Int) = true) : validAt g rs (k : Int) = true := by
  rw [validAt_in hk] at h ⊢
  simp only [Bool.and_eq_true] at h ⊢
  exact ⟨h.1, h.2.1, h.2.2.1, hfg h.2.2.2⟩
theorem validAt_kind {f : RuleV → Bool} {rs : List RuleV} {k : Nat} (hk : k < rs.length) (h : validAt f rs (k : Int) = true) : f rs[k] = true := by
  rw [validAt_in hk] at h
  simp only [Bool.and_eq_true] at h
  exact h.2.2.2
theorem kindI_size {rs : List RuleV} {r : RuleV} (h : kindI rs r = true) (hk : r.kind = 1) : 1 ≤ r.size ∧ r.size ≤ 4 := by
  simp [kindI, meetsB, hk] at h
  exact h.1.1
/-- Where all rules are valid, an integer has a limit. -/
theorem limit_of_valid {rs : List RuleV} (h : allV (kindI rs) rs) (k : Int) : kindAtB rs k = decide (0 < limitAt rs k) := by
  by_cases hk : 0 ≤ k ∧ k < rs.length
  · obtain ⟨n, rfl⟩ : ∃ n : Nat, k = (n : Int) := ⟨k.toNat, by omega⟩
    have hn : n < rs.length := by omega
    have hv := validAt_kind hn (h n hn)
    unfold kindAtB
    rw [dif_pos hk, limitAt_in hn]
    simp only [Int.toNat_natCast]
    by_cases h1 : rs[n].kind = 1
    · have hs := kindI_size hv h1
      rw [if_pos ⟨h1, hs⟩, decide_eq_true h1, decide_eq_true]
      have := (pow256_bounds rs[n].size).1
      omega
    · rw [if_neg (fun h => h1 h.1), decide_eq_false h1]
      rfl
  · unfold kindAtB
    rw [dif_neg hk, limitAt_out hk]
    rfl
theorem descr_same (rs : List RuleV) : descrB (kindI rs) rs = descrB (kindS rs) rs := by
  rw [Bool.eq_iff_iff, descrB_iff, descrB_iff]
  constructor
  · rintro ⟨h1, h2⟩
    exact ⟨h1, fun i hi => validAt_mono hi (fun h => by rw [← kind_same (limit_of_valid h2 _)]; exact h) (h2 i hi)⟩
  · rintro ⟨h1, h2⟩
    exact ⟨h1, fun i hi => validAt_mono hi (fun h => kindS_I h) (h2 i hi)⟩
/-- A rule whose slice of names has room for them. -/
def Cap5 (cs : List Value) : Prop := ∀ a n c, cs[5]? = some (.slice a n c) → n ≤ c
/-- The slice at a reads as these rules, and their names' slices have room for them. -/
def RdC (a : Option Addr) (rs : List RuleV) (w : World) : Prop :=
  ∀ j (h : j < rs.length), ∃ b off cs, a = some ⟨b, off, none⟩ ∧ IsRule rs[j] cs w ∧ Cap5 cs ∧ ∀ i v, cs[i]? = some v → w.cell? ⟨b, off + j * 8 + i, none⟩ = some v
theorem RdC.rd {a : Option Addr} {rs : List RuleV} {w : World} (h : RdC a rs w) : RdR a rs w := fun j hj => by
  obtain ⟨b, off, cs, h1, h2, _, h3⟩ := h j hj
  exact ⟨b, off, cs, h1, h2, h3⟩
theorem RdC.below {a : Option Addr} {rs : List RuleV} {w w' : World} (h : RdC a rs w) (hb : Below w.heap.size w w') : RdC a rs w' := fun j hj => by
  obtain ⟨b, off, cs, ha, hr, hp, hc⟩ := h j hj
  exact ⟨b, off, cs, ha, hr.below hb, hp, fun i v hi => (hb.cell (cell_lt (hc i v hi))).trans (hc i v hi)⟩
theorem OwnRule.cap {lo hi : Nat} {r : RuleV} {cs : List Value} {w : World} (h : OwnRule lo hi r cs w) : Cap5 cs := fun a n c hc => by
  obtain ⟨a4, c4, a5, c5, a6, c6, a7, c7, rfl, _, h5, _⟩ := h
  simp at hc
  obtain ⟨_, rfl, rfl⟩ := hc
  exact h5.2.1
theorem OwnR.rdc {lo hi : Nat} {a : Option Addr} {rs : List RuleV} {cap : Nat} {w : World} (h : OwnR lo hi a rs cap w) : RdC a rs w := fun j hj => by
  obtain ⟨css, hl, ho, hr, _⟩ := h
  rcases hr with rfl | ⟨b, off, ha, _, _, hc, _⟩
  · simp at hj
  · exact ⟨b, off, css[j]'(by omega), ha, (ho j hj (by omega)).is, (ho j hj (by omega)).cap, fun i v hv => (hc j (by omega) i v hv).1⟩
/-- One rule of a slice, cell by cell. -/
theorem RdC.at {a : Option Addr} {rs : List RuleV} {w : World} (h : RdC a rs w) (j : Nat) (hj : j < rs.length) : ∃ b off a4 c4 a5 c5 a6 c6 a7 c7, a = some ⟨b, off, none⟩ ∧
    (w.cell? ⟨b, off + j * 8, none⟩ = some (.string rs[j].name) ∧ w.cell? ⟨b, off + j * 8 + 1, none⟩ = some (.int .i64 rs[j].kind) ∧ w.cell? ⟨b, off + j * 8 + 2, none⟩ = some (.int .i64 rs[j].size) ∧ w.cell? ⟨b, off + j * 8 + 3, none⟩ = some (.bool rs[j].little) ∧
    w.cell? ⟨b, off + j * 8 + 4, none⟩ = some (.slice a4 rs[j].bytes.length c4) ∧ w.cell? ⟨b, off + j * 8 + 5, none⟩ = some (.slice a5 rs[j].names.length c5) ∧ w.cell? ⟨b, off + j * 8 + 6, none⟩ = some (.slice a6 rs[j].tags.length c6) ∧ w.cell? ⟨b, off + j * 8 + 7, none⟩ = some (.slice a7 rs[j].kids.length c7)) ∧
    (Rd a4 rs[j].bytes w ∧ RdStr a5 rs[j].names w ∧ RdI a6 rs[j].tags w ∧ RdI a7 rs[j].kids w) ∧ rs[j].names.length ≤ c5 := by
  obtain ⟨b, off, cs, ha, ⟨a4, c4, a5, c5, a6, c6, a7, c7, rfl, h4, h5, h6, h7⟩, hp, hc⟩ := h j hj
  exact ⟨b, off, a4, c4, a5, c5, a6, c6, a7, c7, ha, ⟨hc 0 _ rfl, hc 1 _ rfl, hc 2 _ rfl, hc 3 _ rfl, hc 4 _ rfl, hc 5 _ rfl, hc 6 _ rfl, hc 7 _ rfl⟩, ⟨h4, h5, h6, h7⟩, hp a5 _ c5 rfl⟩
/-- The strings in a rule are not too long. -/
def Spelt (r : RuleV) : Prop := r.name.size ≤ 1048576 ∧ ∀ s ∈ r.names, s.size ≤ 1048576
end Go.Proofs.YtkegjgfggijinaaGreatDoor
