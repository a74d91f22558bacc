/- The text of a value, as data. No program is walked here. -/
import Derived.Test.YtfmnjclnhppghabGreatDoorVal
import Derived.Test.YtfmnjclnhppghabGreatDoorGNam
import Derived.Test.YtfmnjclnhppghabGreatDoorHex
import Derived.Test.YtfmnjclnhppghabGreatDoorNumParse
import Derived.Test.YtfmnjclnhppghabGreatDoorTree
namespace Go.Proofs.YtfmnjclnhppghabGreatDoor
open Go Go.RowKit
/-- The name of a part of a sequence with a sign behind it. -/
def labelT (r : RuleV) (i : Nat) (c : UInt8) : List UInt8 := if r.kind = 6 then lst (r.names.getD i ⟨#[]⟩) ++ [c] else []
/-- What stands around the texts of the items. -/
def wrapT (r : RuleV) (x : Int) (b : List UInt8) (m : Nat) (t : List UInt8) : List UInt8 :=
  if r.kind = 1 then Lib.itoa x else if r.kind = 2 then [33] else if r.kind = 5 then 91 :: (t ++ [93]) else if r.kind = 6 then 123 :: (t ++ [125])
  else if r.kind = 7 then Lib.itoa x ++ 60 :: (t ++ [62]) else if r.kind = 8 then (if m = 0 then [45] else 63 :: t) else if r.kind = 9 then 40 :: (t ++ [41]) else 120 :: hexL b
mutual
/-- The text of a value. -/
def textV (rs : List RuleV) (k : Int) : ValueV → List UInt8
  | .mk n b l => wrapT (ruleAt rs k) n b l.length (textL rs (ruleAt rs k) n 0 l)
/-- The texts of items, from the one numbered i on, with commas between them. -/
def textL (rs : List RuleV) (r : RuleV) (x : Int) (i : Nat) : List ValueV → List UInt8
  | [] => []
  | v :: vs => (if 0 < i then [44] else []) ++ (labelT r i 58 ++ (textV rs (itemR r x i) v ++ textL rs r x (i + 1) vs))
end
theorem textV_eq (rs : List RuleV) (k : Int) (v : ValueV) : textV rs k v = wrapT (ruleAt rs k) v.number v.bytes v.items.length (textL rs (ruleAt rs k) v.number 0 v.items) := by
  cases v with
  | mk n b l => rw [textV]; rfl
/-- The text of one item, with what stands ahead of it. -/
def itemT (rs : List RuleV) (r : RuleV) (x : Int) (i : Nat) (v : ValueV) : List UInt8 := (if 0 < i then [44] else []) ++ (labelT r i 58 ++ textV rs (itemR r x i) v)
theorem textL_cons (rs : List RuleV) (r : RuleV) (x : Int) (i : Nat) (v : ValueV) (vs : List ValueV) : textL rs r x i (v :: vs) = itemT rs r x i v ++ textL rs r x (i + 1) vs := by
  rw [textL]; simp [itemT]
theorem textL_snoc (rs : List RuleV) (r : RuleV) (x : Int) (v : ValueV) : ∀ (l : List ValueV) (i : Nat), textL rs r x i (l ++ [v]) = textL rs r x i l ++ itemT rs r x (i + l.length) v
  | [], i => by rw [List.nil_append, textL_cons, textL, textL]; simp
  | y :: l, i => by
    rw [List.cons_append, textL_cons, textL_snoc rs r x v l (i + 1), textL_cons, List.append_assoc, List.length_cons, show i + 1 + l.length = i + (l.length + 1) from by omega]
theorem textL_next {rs : List RuleV} {r : RuleV} {x : Int} {l : List ValueV} {q : Nat} (h : q < l.length) : textL rs r x 0 (l.take (q + 1)) = textL rs r x 0 (l.take q) ++ itemT rs r x q l[q] := by
  rw [List.take_succ_eq_append_getElem h, textL_snoc]
  rw [List.length_take, Nat.min_eq_left (Nat.le_of_lt h), Nat.zero_add]
/-- The text of one item with its label alone. -/
def partT (rs : List RuleV) (r : RuleV) (x : Int) (c : UInt8) (i : Nat) (v : ValueV) : List UInt8 := labelT r i c ++ textV rs (itemR r x i) v
/-- The texts of items one by one. -/
def partsT (rs : List RuleV) (r : RuleV) (x : Int) (c : UInt8) : Nat → List ValueV → List (List UInt8)
  | _, [] => []
  | i, v :: vs => partT rs r x c i v :: partsT rs r x c (i + 1) vs
theorem partsT_length (rs : List RuleV) (r : RuleV) (x : Int) (c : UInt8) : ∀ (l : List ValueV) (i : Nat), (partsT rs r x c i l).length = l.length
  | [], _ => rfl
  | v :: vs, i => by rw [partsT, List.length_cons, partsT_length rs r x c vs (i + 1), List.length_cons]
theorem partsT_at {rs : List RuleV} {r : RuleV} {x : Int} {c : UInt8} : ∀ (l : List ValueV) (i q : Nat) (h : q < l.length), (partsT rs r x c i l)[q]? = some (partT rs r x c (i + q) l[q])
  | [], _, q, h => by simp at h
  | v :: vs, i, 0, _ => by rw [partsT]; simp
  | v :: vs, i, q + 1, h => by
    rw [partsT, List.getElem?_cons_succ, partsT_at vs (i + 1) q (by simpa using h), show i + 1 + q = i + (q + 1) from by omega]
    rfl
theorem joinL_parts (rs : List RuleV) (r : RuleV) (x : Int) : ∀ (l : List ValueV) (i : Nat), 0 < i → l ≠ [] → textL rs r x i l = [44] ++ joinL [44] (partsT rs r x 58 i l)
  | [], _, _, h => absurd rfl h
  | [v], i, hi, _ => by rw [textL_cons, textL, partsT, partsT, itemT, if_pos hi]; simp [joinL, partT]
  | v :: u :: vs, i, hi, _ => by
    have hne : partsT rs r x 58 (i + 1) (u :: vs) ≠ [] := by rw [partsT]; exact List.cons_ne_nil _ _
    have e : partsT rs r x 58 i (v :: u :: vs) = partT rs r x 58 i v :: partsT rs r x 58 (i + 1) (u :: vs) := by rw [partsT]
    rw [textL_cons, joinL_parts rs r x (u :: vs) (i + 1) (by omega) (by simp), e, itemT, if_pos hi, joinL_cons _ _ hne]
    simp [partT]
/-- The texts joined by commas are the text of the list. -/
theorem joinL_text (rs : List RuleV) (r : RuleV) (x : Int) (l : List ValueV) : joinL [44] (partsT rs r x 58 0 l) = textL rs r x 0 l := by
  match l with
  | [] => rw [partsT, textL]; rfl
  | [v] => rw [textL_cons, textL, partsT, partsT, itemT, if_neg (by omega)]; simp [joinL, partT]
  | v :: u :: vs =>
    have hne : partsT rs r x 58 (0 + 1) (u :: vs) ≠ [] := by rw [partsT]; exact List.cons_ne_nil _ _
    have e : partsT rs r x 58 0 (v :: u :: vs) = partT rs r x 58 0 v :: partsT rs r x 58 (0 + 1) (u :: vs) := by rw [partsT]
    rw [textL_cons, joinL_parts rs r x (u :: vs) (0 + 1) (by omega) (by simp), e, itemT, if_neg (by omega), joinL_cons _ _ hne]
    simp [partT]
theorem digits_ten {n : Nat} (h : n ≤ 4294967295) : (Lib.decDigits n).length ≤ 10 := by
  by_cases h0 : n < 10
  · rw [Lib.decDigits_one h0]; simp
  · have e : ∀ (k v : Nat), v < 10 ^ k → (digs v).length ≤ k := by
      intro k
      induction k with
      | zero => intro v hv; have : v = 0 := by simpa using hv
                subst this; simp [digs_zero]
      | succ k ih =>
        intro v hv
        by_cases hz : v = 0
        · subst hz; simp [digs_zero]
        · rw [digs_step hz, List.length_append]
          have := ih (v / 10) (by rw [Nat.pow_succ] at hv; omega)
          simp; omega
    have := e 10 n (by omega)
    rwa [digs_pos (by omega)] at this
theorem itoa_ten {n : Int} (h0 : 0 ≤ n) (h1 : n ≤ 4294967295) : (Lib.itoa n).length ≤ 10 := by
  obtain ⟨m, rfl⟩ : ∃ m : Nat, n = (m : Int) := ⟨n.toNat, by omega⟩
  rw [itoa_nat]
  exact digits_ten (by omega)
open Classical in
theorem seq_spelt {rs : List RuleV} {r : RuleV} (h : kindI rs r = true) (hk : r.kind = 6) : ∀ s ∈ r.names, s.size ≤ 12 := by
  simp [kindI, meetsB, hk] at h
  obtain ⟨⟨h1, h2⟩, -⟩ := h
  unfold namesB at h2
  have h3 := of_decide_eq_true h2
  intro s hs
  obtain ⟨j, hj, rfl⟩ := List.getElem_of_mem hs
  have h4 := (h3.1 j hj hj).1
  by_cases h5 : 1 ≤ r.names[j].size ∧ r.names[j].size ≤ 12
  · exact h5.2
  · rw [nameB_size h5] at h4
    cases h4
theorem pow256_top (n : Int) : pow256 n - 1 ≤ 4294967295 := by have := pow256_bounds n; omega
end Go.Proofs.YtfmnjclnhppghabGreatDoor
