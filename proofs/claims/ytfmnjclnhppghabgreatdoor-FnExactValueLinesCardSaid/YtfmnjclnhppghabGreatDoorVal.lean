/- Values, as data and in memory; what a valid value is, how long its encoding is. No program is walked here. -/
import Derived.Test.YtfmnjclnhppghabGreatDoorSizeP
namespace Go.Proofs.YtfmnjclnhppghabGreatDoor
open Go Go.RowKit
/-- A value, as data. -/
inductive ValueV where
  | mk (number : Int) (bytes : List UInt8) (items : List ValueV)
def ValueV.number : ValueV → Int | .mk n _ _ => n
def ValueV.bytes : ValueV → List UInt8 | .mk _ b _ => b
def ValueV.items : ValueV → List ValueV | .mk _ _ l => l
/-- A slice reads as these bytes; nil has no room. -/
def RdN (a : Option Addr) (bs : List UInt8) (cap : Nat) (w : World) : Prop := Rd a bs w ∧ (a = none → cap = 0)
theorem RdN.below {a : Option Addr} {bs : List UInt8} {cap : Nat} {w w' : World} (h : RdN a bs cap w) (hb : Below w.heap.size w w') : RdN a bs cap w' := ⟨h.1.below hb, h.2⟩
/-- Three cells hold this value, at most n levels deep. -/
def IsVal : Nat → ValueV → List Value → World → Prop
  | 0, _, _, _ => False
  | n + 1, v, cs, w => ∃ ab cb ai ci, cs = [.int .i64 v.number, .slice ab v.bytes.length cb, .slice ai v.items.length ci] ∧ RdN ab v.bytes cb w ∧
      ∀ j (h : j < v.items.length), ∃ b off cs', ai = some ⟨b, off, none⟩ ∧ IsVal n v.items[j] cs' w ∧ ∀ i u, cs'[i]? = some u → w.cell? ⟨b, off + j * 3 + i, none⟩ = some u
theorem IsVal.below : ∀ {n : Nat} {v : ValueV} {cs : List Value} {w w' : World}, IsVal n v cs w → Below w.heap.size w w' → IsVal n v cs w'
  | 0, _, _, _, _, h, _ => h
  | n + 1, v, cs, w, w', h, hb => by
    obtain ⟨ab, cb, ai, ci, e, h1, h2⟩ := h
    refine ⟨ab, cb, ai, ci, e, h1.below hb, fun j hj => ?_⟩
    obtain ⟨b, off, cs', e2, h3, h4⟩ := h2 j hj
    exact ⟨b, off, cs', e2, h3.below hb, fun i u hi => (hb.cell (cell_lt (h4 i u hi))).trans (h4 i u hi)⟩
/-- The kid of the alternative with a tag; -1 if there is none. -/
def tagKid : List Int → List Int → Int → Int
  | t :: ts, k :: ks, x => if t = x then k else tagKid ts ks x
  | _, _, _ => -1
/-- The rule of an item. -/
def itemR (r : RuleV) (x : Int) (i : Nat) : Int :=
  if r.kind = 5 then r.kids.getD 1 0
  else if r.kind = 6 then (if i < r.kids.length then r.kids.getD i 0 else -1)
  else if r.kind = 7 then tagKid r.tags (r.kids.drop 1) x
  else if r.kind = 8 ∨ r.kind = 9 then r.kids.getD 0 0
  else -1
def noRule : RuleV := ⟨⟨#[]⟩, 0, 0, false, [], [], [], []⟩
/-- The rule at an index. -/
def ruleAt (rs : List RuleV) (k : Int) : RuleV := rs.getD k.toNat noRule
theorem ruleAt_at {rs : List RuleV} {n : Nat} (h : n < rs.length) : ruleAt rs (n : Int) = rs[n] := by
  unfold ruleAt
  rw [Int.toNat_natCast]
  simp [List.getD, List.getElem?_eq_getElem h]
/-- Whether the fields of a value itself fit. -/
def ownB (rs : List RuleV) (r : RuleV) (v : ValueV) : Bool :=
  if r.kind = 1 then decide (0 ≤ v.number ∧ v.number ≤ pow256 r.size - 1) && (decide (v.bytes.length = 0) && decide (v.items.length = 0))
  else if r.kind = 2 then decide (v.number = 0) && (decide (v.bytes.length = 0) && decide (v.items.length = 0))
  else if r.kind = 3 then decide (v.number = 0) && (decide ((v.bytes.length : Int) = r.size) && decide (v.items.length = 0))
  else if r.kind = 4 then decide (v.number = 0) && (decide ((v.bytes.length : Int) ≤ min 400 (limitAt rs (r.kids.getD 0 0))) && decide (v.items.length = 0))
  else if r.kind = 10 then decide (v.number = 0) && (decide (v.bytes.length ≤ 400) && decide (v.items.length = 0))
  else if r.kind = 5 then decide (v.number = 0) && (decide (v.bytes.length = 0) && decide ((v.items.length : Int) ≤ min 40 (limitAt rs (r.kids.getD 0 0))))
  else if r.kind = 6 then decide (v.number = 0) && (decide (v.bytes.length = 0) && decide (v.items.length = r.kids.length))
  else if r.kind = 7 then decide (v.bytes.length = 0) && (decide (v.items.length = 1) && decide (0 ≤ itemR r v.number 0))
  else if r.kind = 8 then decide (v.number = 0) && (decide (v.bytes.length = 0) && decide (v.items.length ≤ 1))
  else decide (v.number = 0) && (decide (v.bytes.length = 0) && decide (v.items.length = 1))
mutual
/-- Whether a value is one of a rule. -/
def validV (rs : List RuleV) (k : Int) : ValueV → Bool
  | .mk n b l => ownB rs (ruleAt rs k) (.mk n b l) && validL rs (ruleAt rs k) n 0 l
/-- Whether items are those of a rule, from the one numbered i on. -/
def validL (rs : List RuleV) (r : RuleV) (x : Int) (i : Nat) : List ValueV → Bool
  | [] => true
  | v :: vs => validV rs (itemR r x i) v && validL rs r x (i + 1) vs
end
theorem validV_eq (rs : List RuleV) (k : Int) (v : ValueV) : validV rs k v = (ownB rs (ruleAt rs k) v && validL rs (ruleAt rs k) v.number 0 v.items) := by
  cases v with
  | mk n b l => rw [validV]; rfl
theorem validL_next {rs : List RuleV} {r : RuleV} {x : Int} {q : Nat} {l : List ValueV} (h : q < l.length) : validL rs r x q (l.drop q) = (validV rs (itemR r x q) l[q] && validL rs r x (q + 1) (l.drop (q + 1))) := by
  rw [List.drop_eq_getElem_cons h, validL]
theorem validL_at {rs : List RuleV} {r : RuleV} {x : Int} : ∀ {l : List ValueV} {i : Nat}, validL rs r x i l = true → ∀ q (h : q < l.length), validV rs (itemR r x (i + q)) l[q] = true
  | [], _, _, q, h => by simp at h
  | v :: l, i, hv, q, h => by
    rw [validL, Bool.and_eq_true] at hv
    cases q with
    | zero => exact hv.1
    | succ q =>
      have := validL_at hv.2 q (by simpa using h)
      rw [show i + 1 + q = i + (q + 1) from by omega] at this
      simpa using this
/-- The length of bytes with their escapes. -/
def escLen (t : UInt8) : List UInt8 → Nat
  | [] => 0
  | b :: bs => (if b = t ∨ b = 92 then 2 else 1) + escLen t bs
/-- What an encoding has beside those of its items. -/
def headLen (rs : List RuleV) (r : RuleV) (b : List UInt8) : Nat :=
  if r.kind = 1 then r.size.toNat
  else if r.kind = 2 then r.bytes.length
  else if r.kind = 3 then b.length
  else if r.kind = 4 then (ruleAt rs (r.kids.getD 0 0)).size.toNat + b.length
  else if r.kind = 5 ∨ r.kind = 7 then (ruleAt rs (r.kids.getD 0 0)).size.toNat
  else if r.kind = 8 ∨ r.kind = 9 then 1
  else if r.kind = 10 then escLen (r.bytes.getD 0 0) b + 1
  else 0
mutual
/-- The length of the encoding of a value. -/
def plen (rs : List RuleV) (k : Int) : ValueV → Nat
  | .mk n b l => headLen rs (ruleAt rs k) b + plens rs (ruleAt rs k) n 0 l
def plens (rs : List RuleV) (r : RuleV) (x : Int) (i : Nat) : List ValueV → Nat
  | [] => 0
  | v :: vs => plen rs (itemR r x i) v + plens rs r x (i + 1) vs
end
theorem plen_eq (rs : List RuleV) (k : Int) (v : ValueV) : plen rs k v = headLen rs (ruleAt rs k) v.bytes + plens rs (ruleAt rs k) v.number 0 v.items := by
  cases v with
  | mk n b l => rw [plen]; rfl
theorem tagKid_mem : ∀ (ts ks : List Int) (x : Int), tagKid ts ks x = -1 ∨ tagKid ts ks x ∈ ks
  | [], _, _ => .inl (by cases ‹List Int› <;> rfl)
  | t :: ts, [], x => .inl rfl
  | t :: ts, k :: ks, x => by
    unfold tagKid
    split
    · exact .inr (by simp)
    · rcases tagKid_mem ts ks x with h | h
      · exact .inl h
      · exact .inr (List.mem_cons_of_mem _ h)
theorem getD_mem {ks : List Int} {j : Nat} (h : j < ks.length) : ks.getD j 0 ∈ ks := by
  simp [List.getD, List.getElem?_eq_getElem h]
/-- The rules of the items of a value that fits are kids of its rule. -/
theorem item_kid {rs : List RuleV} {r : RuleV} {v : ValueV} (hk : kindI rs r = true) (h : ownB rs r v = true) {q : Nat} (hq : q < v.items.length) : itemR r v.number q ∈ r.kids := by
  have hkn := kindI_known hk
  rcases (by omega : r.kind = 1 ∨ r.kind = 2 ∨ r.kind = 3 ∨ r.kind = 4 ∨ r.kind = 5 ∨ r.kind = 6 ∨ r.kind = 7 ∨ r.kind = 8 ∨ r.kind = 9 ∨ r.kind = 10) with e | e | e | e | e | e | e | e | e | e
  · simp [ownB, e] at h; rw [h.2.2] at hq; simp at hq
  · simp [ownB, e] at h; rw [h.2.2] at hq; simp at hq
  · simp [ownB, e] at h; rw [h.2.2] at hq; simp at hq
  · simp [ownB, e] at h; rw [h.2.2] at hq; simp at hq
  · have := kindI_5 hk e
    unfold itemR
    rw [if_pos e]
    exact getD_mem (by omega)
  · simp [ownB, e] at h
    unfold itemR
    rw [if_neg (by omega), if_pos e, if_pos (by omega)]
    exact getD_mem (by omega)
  · simp [ownB, e] at h
    have h0 : q = 0 := by omega
    subst h0
    have h1 := h.2.2
    have h2 : itemR r v.number 0 = tagKid r.tags (r.kids.drop 1) v.number := by unfold itemR; rw [if_neg (by omega), if_neg (by omega), if_pos e]
    rw [h2] at h1 ⊢
    rcases tagKid_mem r.tags (r.kids.drop 1) v.number with h3 | h3
    · omega
    · exact List.mem_of_mem_drop h3
  · have := kindI_8 hk e
    unfold itemR
    rw [if_neg (by omega), if_neg (by omega), if_neg (by omega), if_pos (by omega)]
    exact getD_mem (by omega)
  · have := kindI_9 hk e
    unfold itemR
    rw [if_neg (by omega), if_neg (by omega), if_neg (by omega), if_pos (by omega)]
    exact getD_mem (by omega)
  · simp [ownB, e] at h; rw [h.2.2] at hq; simp at hq
end Go.Proofs.YtfmnjclnhppghabGreatDoor
