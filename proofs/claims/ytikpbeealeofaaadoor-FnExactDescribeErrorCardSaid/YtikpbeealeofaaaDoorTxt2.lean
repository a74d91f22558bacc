/- Texts: cutting, lines, words, names, joining. No program. -/
import Derived.Test.YtikpbeealeofaaaDoorTxt
namespace Go.Proofs.YtikpbeealeofaaaDoor
open Go
def cutA (c : UInt8) (s : ByteArray) : ByteArray := txt (cutL c (lst s)).1
def cutB (c : UInt8) (s : ByteArray) : ByteArray := txt (cutL c (lst s)).2.1
def cutK (c : UInt8) (s : ByteArray) : Bool := (cutL c (lst s)).2.2
theorem cut_found {c : UInt8} {s : ByteArray} {k : Nat} (h : NoC c (lst s) 0 k) (hk : k < s.size) (he : s[k] = c) : cutA c s = s.extract 0 k ∧ cutB c s = s.extract (k + 1) s.size ∧ cutK c s = true := by
  have e := cut_drop s 0 k (Nat.zero_le _) hk
  rw [List.drop_zero, he] at e
  unfold NoC at h
  rw [List.drop_zero] at h
  have hc : cutL c (lst s) = ((lst s).take (k - 0), (lst s).drop (k + 1), true) := by
    have := cutL_cut (c := c) (r := (lst s).drop (k + 1)) h
    rw [← e] at this
    exact this
  unfold cutA cutB cutK
  rw [hc]
  refine ⟨?_, ?_, rfl⟩
  · rw [extract_txt, List.drop_zero]
  · rw [extract_txt]
    show txt ((lst s).drop (k + 1)) = txt (((lst s).drop (k + 1)).take (s.size - (k + 1)))
    rw [List.take_of_length_le (l := (lst s).drop (k + 1)) (by rw [List.length_drop, lst_length]; omega)]
theorem cut_missing {c : UInt8} {s : ByteArray} (h : NoC c (lst s) 0 s.size) : cutA c s = s ∧ cutB c s = ⟨#[]⟩ ∧ cutK c s = false := by
  unfold NoC at h
  rw [List.drop_zero, List.take_of_length_le (by rw [lst_length]; omega)] at h
  unfold cutA cutB cutK
  rw [cutL_none h]
  exact ⟨txt_lst s, rfl, rfl⟩
theorem cutL_what (c : UInt8) : ∀ l : List UInt8, (∀ x ∈ (cutL c l).1, x ≠ c) ∧ ((cutL c l).2.2 = true → l = (cutL c l).1 ++ c :: (cutL c l).2.1) ∧ ((cutL c l).2.2 = false → (cutL c l).1 = l)
  | [] => by simp [cutL]
  | x :: r => by
    obtain ⟨h1, h2, h3⟩ := cutL_what c r
    unfold cutL
    by_cases hx : x = c
    · rw [if_pos hx]
      subst hx
      simp
    · rw [if_neg hx]
      refine ⟨fun y hy => ?_, fun h => ?_, fun h => ?_⟩
      · simp only [List.mem_cons] at hy
        rcases hy with rfl | hy
        · exact hx
        · exact h1 y hy
      · simp only [List.cons_append]
        rw [← h2 h]
      · rw [h3 h]
theorem parts_more {c : UInt8} {s : ByteArray} (h : cutK c s = true) : parts c s = cutA c s :: parts c (cutB c s) := by
  obtain ⟨h1, h2, h3⟩ := cutL_what c (lst s)
  have e := h2 h
  unfold parts cutA cutB
  rw [lst_txt]
  conv => lhs; rw [e, splitL_cut h1]
  rfl
theorem cut_less {c : UInt8} {s : ByteArray} (h : cutK c s = true) : (cutB c s).size < s.size := by
  obtain ⟨h1, h2, h3⟩ := cutL_what c (lst s)
  have e := congrArg List.length (h2 h)
  rw [lst_length, List.length_append, List.length_cons] at e
  unfold cutB
  rw [txt_size]
  omega
theorem parts_last {c : UInt8} {s : ByteArray} (h : cutK c s = false) : parts c s = [cutA c s] := by
  obtain ⟨h1, h2, h3⟩ := cutL_what c (lst s)
  unfold parts cutA
  have e := h3 h
  rw [e] at h1
  rw [splitL_none h1, e]
  rfl
theorem cut_self {c : UInt8} {s : ByteArray} (h : cutK c s = false) : cutA c s = s := by
  obtain ⟨h1, h2, h3⟩ := cutL_what c (lst s)
  unfold cutA
  rw [h3 h, txt_lst]
theorem cut_sum {c : UInt8} {s : ByteArray} (h : cutK c s = true) : lst s = lst (cutA c s) ++ c :: lst (cutB c s) := by
  obtain ⟨h1, h2, h3⟩ := cutL_what c (lst s)
  unfold cutA cutB
  rw [lst_txt, lst_txt]
  exact h2 h
theorem parts_part {c : UInt8} {s : ByteArray} : ∀ p ∈ parts c s, ∀ x ∈ lst p, x ≠ c := fun p hp => by
  simp only [parts, txts, List.mem_map] at hp
  obtain ⟨q, hq, rfl⟩ := hp
  rw [lst_txt]
  exact splitL_part q hq
/-- A text without c has one part. -/
theorem parts_one {c : UInt8} {s : ByteArray} (h : ∀ x ∈ lst s, x ≠ c) : parts c s = [s] := by
  unfold parts
  rw [splitL_none h]
  simp [txts, txt_lst]
/-- Strings joined by a separator. -/
def joinS (sep : ByteArray) (ss : List ByteArray) : ByteArray := txt (joinL (lst sep) (ss.map lst))
theorem joinS_nil (sep : ByteArray) : joinS sep [] = ⟨#[]⟩ := rfl
theorem joinS_size (sep : ByteArray) (ss : List ByteArray) : (joinS sep ss).size = (joinL (lst sep) (ss.map lst)).length := txt_size _
theorem joinL_take_le (sep : List UInt8) : ∀ (l : List (List UInt8)) (k : Nat), (joinL sep (l.take k)).length ≤ (joinL sep l).length
  | [], k => by simp
  | [x], 0 => by simp [joinL]
  | [x], k + 1 => by simp
  | x :: y :: r, 0 => by simp [joinL]
  | x :: y :: r, 1 => by simp [joinL]
  | x :: y :: r, k + 2 => by
    have ih := joinL_take_le sep (y :: r) (k + 1)
    simp only [List.take_succ_cons] at ih ⊢
    simp only [joinL, List.length_append]
    omega
theorem joinS_take_le (sep : ByteArray) (ss : List ByteArray) (k : Nat) : (joinS sep (ss.take k)).size ≤ (joinS sep ss).size := by
  rw [joinS_size, joinS_size, List.map_take]
  exact joinL_take_le _ _ _
theorem joinS_first (sep x : ByteArray) : joinS sep [x] = x := by simp [joinS, joinL, txt_lst]
theorem joinS_next (sep : ByteArray) (ss : List ByteArray) (k : Nat) (h0 : 0 < k) (h : k < ss.length) : joinS sep (ss.take (k + 1)) = joinS sep (ss.take k) ++ sep ++ ss[k] := by
  unfold joinS
  rw [List.take_succ_eq_append_getElem h, List.map_append, List.map_cons, List.map_nil, joinL_snoc]
  · rw [append_txt, append_txt, lst_txt, lst_txt]
  · intro e
    have e2 : ((ss.take k).map lst).length = k := by simp; omega
    rw [e] at e2
    simp at e2
    omega
/-- What is divided is joined to itself. -/
theorem join_parts (c : UInt8) (s : ByteArray) : joinS (txt [c]) (parts c s) = s := by
  unfold joinS parts txts
  rw [List.map_map, lst_txt]
  have e : (lst ∘ txt) = id := funext fun l => lst_txt l
  rw [e, List.map_id, join_split, txt_lst]
/-- The last of some strings. -/
def lastS (ss : List ByteArray) : ByteArray := ss.getD (ss.length - 1) ⟨#[]⟩
theorem lastS_at {ss : List ByteArray} (h : 0 < ss.length) : ss[ss.length - 1] = lastS ss := by
  unfold lastS
  rw [List.getD_eq_getElem?_getD, List.getElem?_eq_getElem (by omega)]
  rfl
theorem lastS_split {ss : List ByteArray} (h : 0 < ss.length) : ss.take (ss.length - 1) ++ [lastS ss] = ss := by
  rw [← lastS_at h, ← List.take_succ_eq_append_getElem (by omega), List.take_of_length_le (by omega)]
/-- The lines of a text. -/
def linesS (s : ByteArray) : List ByteArray := if lastS (parts 10 s) = ⟨#[]⟩ then (parts 10 s).take ((parts 10 s).length - 1) else parts 10 s
theorem join_lines (s : ByteArray) : joinS (txt [10]) (linesS s) = s ∨ joinS (txt [10]) (linesS s) ++ txt [10] = s := by
  have hj := join_parts 10 s
  have e := lastS_split (parts_ne 10 s)
  unfold linesS
  split
  · rename_i hl
    rw [hl] at e
    generalize (parts 10 s).take ((parts 10 s).length - 1) = q at e ⊢
    rw [← e] at hj
    by_cases hd : q = []
    · left
      rw [← hj, hd]
      rfl
    · right
      unfold joinS at hj ⊢
      rw [List.map_append, List.map_cons, List.map_nil, joinL_snoc _ _ (fun h => hd (List.map_eq_nil_iff.1 h))] at hj
      rw [append_txt, lst_txt, lst_txt]
      have e3 : lst ⟨#[]⟩ = [] := rfl
      rw [e3, List.append_nil, lst_txt] at hj
      exact hj
  · exact .inl hj
theorem str_none {x : ByteArray} (h : x = ⟨#[]⟩) : x.toList.isEmpty = true := by
  subst h
  rw [ByteArray.toList_eq]; rfl
theorem str_some {x : ByteArray} (h : x ≠ ⟨#[]⟩) : x.toList.isEmpty = false := by
  rw [ByteArray.toList_eq, Bool.eq_false_iff]
  intro e
  rw [List.isEmpty_iff] at e
  exact h (lst_inj e)
/-- Those of some strings that are not empty. -/
def fullS (ss : List ByteArray) : List ByteArray := ss.filter (fun p => decide (p ≠ ⟨#[]⟩))
theorem fullS_next {ss : List ByteArray} {k : Nat} (h : k < ss.length) (hx : ss[k] ≠ ⟨#[]⟩) : fullS (ss.take (k + 1)) = fullS (ss.take k) ++ [ss[k]] := by
  unfold fullS
  rw [List.take_succ_eq_append_getElem h, List.filter_append]
  simp [hx]
theorem fullS_skip {ss : List ByteArray} {k : Nat} (h : k < ss.length) (hx : ss[k] = ⟨#[]⟩) : fullS (ss.take (k + 1)) = fullS (ss.take k) := by
  unfold fullS
  rw [List.take_succ_eq_append_getElem h, List.filter_append]
  simp [hx]
theorem fullS_length (ss : List ByteArray) (k : Nat) : (fullS (ss.take k)).length ≤ k := by
  have h1 := List.length_filter_le (fun p => decide (p ≠ (⟨#[]⟩ : ByteArray))) (ss.take k)
  have h2 := List.length_take_le k ss
  exact Nat.le_trans h1 h2
/-- The words of a text. -/
def wordsS (s : ByteArray) : List ByteArray := fullS (parts 32 s)
theorem words_at (s : ByteArray) : ∀ p ∈ wordsS s, p ≠ ⟨#[]⟩ ∧ parts 32 p = [p] := fun p hp => by
  simp only [wordsS, fullS, List.mem_filter, decide_eq_true_eq] at hp
  exact ⟨hp.2, parts_one (parts_part p hp.1)⟩
/-- The bytes that a name may have at a place. -/
def nameAt (x : UInt8) (i : Nat) : Prop := (97 ≤ x.toNat ∧ x.toNat ≤ 122) ∨ ((48 ≤ x.toNat ∧ x.toNat ≤ 57) ∧ i ≠ 0)
instance (x : UInt8) (i : Nat) : Decidable (nameAt x i) := by unfold nameAt; infer_instance
/-- The first k bytes are such as a name may have. -/
def nameTo (s : ByteArray) (k : Nat) : Prop := ∀ i (h : i < s.size), i < k → nameAt s[i] i
open Classical in
/-- Whether the text is a name. -/
noncomputable def nameB (s : ByteArray) : Bool := decide (nameTo s s.size ∧ 1 ≤ s.size ∧ s.size ≤ 12)
theorem nameTo.next {s : ByteArray} {k : Nat} (h : nameTo s k) (hk : k < s.size) (hn : nameAt s[k] k) : nameTo s (k + 1) := fun i hi hik => by
  by_cases e : i = k
  · subst e; exact hn
  · exact h i hi (by omega)
open Classical in
theorem nameB_bad {s : ByteArray} {k : Nat} (hk : k < s.size) (hn : ¬ nameAt s[k] k) : nameB s = false := by
  unfold nameB
  exact decide_eq_false fun h => hn (h.1 k hk hk)
open Classical in
theorem nameB_end {s : ByteArray} (h : nameTo s s.size) : nameB s = decide (1 ≤ s.size ∧ s.size ≤ 12) := by
  unfold nameB
  simp [h]
open Classical in
theorem nameB_size {s : ByteArray} (h : ¬ (1 ≤ s.size ∧ s.size ≤ 12)) : nameB s = false := by
  unfold nameB
  exact decide_eq_false fun h' => h h'.2
end Go.Proofs.YtikpbeealeofaaaDoor
