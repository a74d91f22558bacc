/- Validity of rules and descriptions, as plain functions: the model's reading (kindS) and the program's (kindI), and how they agree. No program is walked here. -/
import Derived.Test.YtkegjgfggijinaaGreatDoorNamesB
import Derived.Test.YtkegjgfggijinaaGreatDoorShape
import Derived.Test.YtkegjgfggijinaaGreatDoorEqRules
namespace Go.Proofs.YtkegjgfggijinaaGreatDoor
open Go Go.RowKit
/-- Whether the rule at an index is of the kind integer. -/
def kindAtB (rs : List RuleV) (k : Int) : Bool := if h : 0 ≤ k ∧ k < rs.length then decide ((rs[k.toNat]'(by omega)).kind = 1) else false
/-- Tags in ascending order from lo on, up to the limit. -/
def tagsOk (lim : Int) : Int → List Int → Bool
  | _, [] => true
  | lo, t :: ts => decide (lo ≤ t ∧ t ≤ lim) && tagsOk lim (t + 1) ts
/-- Whether the tags of a rule are the tags of a choice. -/
def tagsB (rs : List RuleV) (r : RuleV) : Bool := decide (r.kids.length = r.tags.length + 1 ∧ 1 ≤ r.tags.length ∧ r.tags.length ≤ 8) && tagsOk (limitAt rs (r.kids.headD 0)) 0 r.tags
/-- The one byte is no escape. -/
def termB (r : RuleV) : Bool := decide (r.bytes.length = 1) && decide (r.bytes.headD 0 ≠ 92)
/-- The model's conditions of a kind. -/
noncomputable def kindS (rs : List RuleV) (r : RuleV) : Bool :=
  if r.kind = 1 then shapeB r true false false false 0 && (decide (1 ≤ r.size ∧ r.size ≤ 4) && (!r.little || decide (1 < r.size)))
  else if r.kind = 2 then shapeB r false true false false 0 && decide (1 ≤ (r.bytes.length : Int) ∧ (r.bytes.length : Int) ≤ 16)
  else if r.kind = 3 then shapeB r true false false false 0 && decide (1 ≤ r.size ∧ r.size ≤ 64)
  else if r.kind = 4 then shapeB r false false false false 1 && decide (0 < limitAt rs (r.kids.headD 0))
  else if r.kind = 5 then shapeB r false false false false 2 && decide (0 < limitAt rs (r.kids.headD 0))
  else if r.kind = 6 then shapeB r false false true false (r.names.length : Int) && namesB r.names
  else if r.kind = 7 then shapeB r false false false true (-1) && tagsB rs r
  else if r.kind = 8 ∨ r.kind = 9 then shapeB r false false false false 1
  else if r.kind = 10 then shapeB r false true false false 0 && termB r
  else false
/-- The program's conditions of a kind, but for the fields that it does not mention. -/
noncomputable def meetsB (rs : List RuleV) (r : RuleV) : Bool :=
  if r.kind = 1 then decide (1 ≤ r.size ∧ r.size ≤ 4) && (!r.little || decide (1 < r.size))
  else if r.kind = 2 then decide (1 ≤ (r.bytes.length : Int) ∧ (r.bytes.length : Int) ≤ 16)
  else if r.kind = 3 then decide (1 ≤ r.size ∧ r.size ≤ 64)
  else if r.kind = 4 then decide (r.kids.length = 1) && kindAtB rs (r.kids.headD 0)
  else if r.kind = 5 then decide (r.kids.length = 2) && kindAtB rs (r.kids.headD 0)
  else if r.kind = 6 then decide (r.names.length = r.kids.length) && namesB r.names
  else if r.kind = 7 then tagsB rs r
  else if r.kind = 8 ∨ r.kind = 9 then decide (r.kids.length = 1)
  else if r.kind = 10 then termB r
  else false
/-- The rule with the fields alone that its kind mentions. -/
def onlyR (r : RuleV) : RuleV :=
  if r.kind = 1 then ⟨r.name, r.kind, r.size, r.little, [], [], [], []⟩
  else if r.kind = 3 then ⟨r.name, r.kind, r.size, false, [], [], [], []⟩
  else if r.kind = 2 ∨ r.kind = 10 then ⟨r.name, r.kind, 0, false, r.bytes, [], [], []⟩
  else if r.kind = 4 ∨ r.kind = 5 ∨ r.kind = 8 ∨ r.kind = 9 then ⟨r.name, r.kind, 0, false, [], [], [], r.kids⟩
  else if r.kind = 6 then ⟨r.name, r.kind, 0, false, [], r.names, [], r.kids⟩
  else if r.kind = 7 then ⟨r.name, r.kind, 0, false, [], [], r.tags, r.kids⟩
  else ⟨r.name, r.kind, 0, false, [], [], [], []⟩
noncomputable def kindI (rs : List RuleV) (r : RuleV) : Bool := meetsB rs r && sameR r (onlyR r)
theorem kind_cases (k : Int) : k = 1 ∨ k = 2 ∨ k = 3 ∨ k = 4 ∨ k = 5 ∨ k = 6 ∨ k = 7 ∨ k = 8 ∨ k = 9 ∨ k = 10 ∨ (k ≠ 1 ∧ k ≠ 2 ∧ k ≠ 3 ∧ k ≠ 4 ∧ k ≠ 5 ∧ k ≠ 6 ∧ k ≠ 7 ∧ k ≠ 8 ∧ k ≠ 9 ∧ k ≠ 10) := by omega
/-- Both agree where the first of the kids is an integer with a limit if it is an integer. -/
theorem kind_same {rs : List RuleV} {r : RuleV} (h : kindAtB rs (r.kids.headD 0) = decide (0 < limitAt rs (r.kids.headD 0))) : kindI rs r = kindS rs r := by
  obtain ⟨nm, kd, sz, lt, bs, ns, ts, ks⟩ := r
  dsimp only at h
  rw [Bool.eq_iff_iff]
  rcases kind_cases kd with rfl | rfl | rfl | rfl | rfl | rfl | rfl | rfl | rfl | rfl | hk
  · simp [kindI, kindS, meetsB, onlyR, sameR, shapeB]; constructor <;> (intro h; simp_all; try omega)
  · simp [kindI, kindS, meetsB, onlyR, sameR, shapeB]; constructor <;> (intro h; simp_all; try omega)
  · simp [kindI, kindS, meetsB, onlyR, sameR, shapeB]; constructor <;> (intro h; simp_all; try omega)
  · simp [kindI, kindS, meetsB, onlyR, sameR, shapeB]; constructor <;> (intro h; simp_all; try omega)
  · simp [kindI, kindS, meetsB, onlyR, sameR, shapeB]; constructor <;> (intro h; simp_all; try omega)
  · simp [kindI, kindS, meetsB, onlyR, sameR, shapeB]; constructor <;> (intro h; simp_all; try omega)
  · simp [kindI, kindS, meetsB, onlyR, sameR, shapeB, tagsB]; constructor <;> (intro h; simp_all; try omega)
  · simp [kindI, kindS, meetsB, onlyR, sameR, shapeB]; constructor <;> (intro h; simp_all; try omega)
  · simp [kindI, kindS, meetsB, onlyR, sameR, shapeB]; constructor <;> (intro h; simp_all; try omega)
  · simp [kindI, kindS, meetsB, onlyR, sameR, shapeB, termB]; constructor <;> (intro h; simp_all; try omega)
  · obtain ⟨k1, k2, k3, k4, k5, k6, k7, k8, k9, k10⟩ := hk
    simp [kindI, kindS, meetsB, k1, k2, k3, k4, k5, k6, k7, k8, k9, k10]
theorem limit_pos {rs : List RuleV} {k : Int} (h : 0 < limitAt rs k) : kindAtB rs k = true := by
  unfold limitAt at h
  unfold kindAtB
  by_cases hk : 0 ≤ k ∧ k < rs.length
  · rw [dif_pos hk] at h ⊢
    dsimp only at h
    split at h
    · rename_i hh
      exact decide_eq_true hh.1
    · omega
  · rw [dif_neg hk] at h
    omega
/-- What the model accepts, the program accepts. -/
theorem kindS_I {rs : List RuleV} {r : RuleV} (h : kindS rs r = true) : kindI rs r = true := by
  by_cases hp : 0 < limitAt rs (r.kids.headD 0)
  · rw [kind_same (by rw [limit_pos hp, decide_eq_true hp])]
    exact h
  · obtain ⟨nm, kd, sz, lt, bs, ns, ts, ks⟩ := r
    dsimp only at hp
    rcases kind_cases kd with rfl | rfl | rfl | rfl | rfl | rfl | rfl | rfl | rfl | rfl | hk
    all_goals first
      | (exfalso; simp [kindS] at h; exact hp h.2)
      | (obtain ⟨k1, k2, k3, k4, k5, k6, k7, k8, k9, k10⟩ := hk; simp [kindS, k1, k2, k3, k4, k5, k6, k7, k8, k9, k10] at h; done)
      | (simp [kindI, kindS, meetsB, onlyR, sameR, shapeB] at h ⊢; simp_all; done)
      | (simp [kindI, kindS, meetsB, onlyR, sameR, shapeB] at h ⊢; simp_all; omega)
      | (simp [kindI, kindS, meetsB, onlyR, sameR, shapeB, tagsB] at h ⊢; simp_all; done)
      | (simp [kindI, kindS, meetsB, onlyR, sameR, shapeB, termB] at h ⊢; simp_all; done)
end Go.Proofs.YtkegjgfggijinaaGreatDoor
