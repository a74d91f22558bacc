/- Texts as lists of bytes: dividing, joining, cutting. No program. Texts: cutting, lines, words, names, joining. No program. Plain facts on decimal digits (no program in this text). Plain facts on the values of decimal digits (no program in this text). -/
import Derived.Lib.Hide
import Derived.Lib.Strings
import Derived.Laws.Strings2
import Derived.Lib.ItoaNum
import Derived.Lib.Atoi
import Derived.Lib.AtoiTie
namespace Go.Proofs.YtndjefednfcmmaaGreatDoor
open Go
def txt (l : List UInt8) : ByteArray := ⟨l.toArray⟩
def lst (s : ByteArray) : List UInt8 := s.data.toList
theorem txt_lst (s : ByteArray) : txt (lst s) = s := by cases s; simp [txt, lst]
theorem lst_txt (l : List UInt8) : lst (txt l) = l := by simp [txt, lst]
theorem lst_length (s : ByteArray) : (lst s).length = s.size := by cases s; rfl
theorem txt_size (l : List UInt8) : (txt l).size = l.length := by rw [← lst_length, lst_txt]
theorem lst_at (s : ByteArray) (k : Nat) (h : k < s.size) : (lst s)[k]'(by rw [lst_length]; exact h) = s[k] := by cases s; simp [lst]; rfl
theorem lst_inj {a b : ByteArray} (h : lst a = lst b) : a = b := by rw [← txt_lst a, h, txt_lst]
theorem extract_txt (s : ByteArray) (a b : Nat) : s.extract a b = txt (((lst s).drop a).take (b - a)) := by
 have h := ByteArray.extract_mk (lst s) a b
 rw [show ByteArray.mk (lst s).toArray = s from txt_lst s] at h
 exact h
theorem append_txt (a b : ByteArray) : a ++ b = txt (lst a ++ lst b) := by
 apply ByteArray.ext
 simp [txt, lst]
theorem drop_at (s : ByteArray) (k : Nat) (h : k < s.size) : (lst s).drop k = s[k] :: (lst s).drop (k + 1) := by
 rw [List.drop_eq_getElem_cons (by rw [lst_length]; exact h), lst_at s k h]
theorem str_ne {x y : ByteArray} (h : x ≠ y) : (x.toList == y.toList) = false := by
 rw [beq_eq_false_iff_ne, ByteArray.toList_eq, ByteArray.toList_eq]
 exact fun e => h (lst_inj e)
theorem str_eq {x y : ByteArray} (h : x = y) : (x.toList == y.toList) = true := by rw [h, beq_self_eq_true]
def splitL (c : UInt8) : List UInt8 → List (List UInt8)
 | [] => [[]]
 | x :: r => if x = c then [] :: splitL c r else
  match splitL c r with
  | [] => [[x]]
  | h :: t => (x :: h) :: t
theorem splitL_ne (c : UInt8) : ∀ l, splitL c l ≠ []
 | [] => by simp [splitL]
 | x :: r => by
  unfold splitL
  split
  ·simp
  ·split <;> simp
theorem splitL_none {c : UInt8} : ∀ {l : List UInt8}, (∀ x ∈ l, x ≠ c) → splitL c l = [l]
 | [], _ => rfl
 | x :: r, h => by
  unfold splitL
  rw [if_neg (h x (by simp)), splitL_none (l := r) (fun y hy => h y (by simp [hy]))]
theorem splitL_cut {c : UInt8} {r : List UInt8} : ∀ {l : List UInt8}, (∀ x ∈ l, x ≠ c) → splitL c (l ++ c :: r) = l :: splitL c r
 | [], _ => by simp [splitL]
 | x :: l, h => by
  rw [List.cons_append, splitL.eq_2, if_neg (h x (by simp)), splitL_cut (l := l) (fun y hy => h y (by simp [hy]))]
theorem splitL_part {c : UInt8} : ∀ {l : List UInt8}, ∀ p ∈ splitL c l, ∀ x ∈ p, x ≠ c
 | [], p, hp, x, hx => by simp [splitL] at hp; subst hp; simp at hx
 | y :: r, p, hp, x, hx => by
  unfold splitL at hp
  split at hp
  ·simp only [List.mem_cons] at hp
   rcases hp with rfl | hp
   ·simp at hx
   ·exact splitL_part p hp x hx
  ·rename_i hy
   have ih := @splitL_part c r
   cases hr : splitL c r with
   | nil => exact absurd hr (splitL_ne c r)
   | cons h t =>
    rw [hr] at hp ih
    simp only [List.mem_cons] at hp
    rcases hp with rfl | hp
    ·simp only [List.mem_cons] at hx
     rcases hx with rfl | hx
     ·exact hy
     ·exact ih h (by simp) x hx
    ·exact ih p (by simp [hp]) x hx
theorem splitL_lens {c : UInt8} : ∀ (l : List UInt8), (splitL c l).length ≤ l.length + 1
 | [] => by simp [splitL]
 | y :: r => by
  unfold splitL
  have ih := splitL_lens (c := c) r
  split
  ·simp; omega
  ·cases hr : splitL c r with
   | nil => simp
   | cons h t => rw [hr] at ih; simp at ih ⊢; omega
def joinL (sep : List UInt8) : List (List UInt8) → List UInt8
 | [] => []
 | [x] => x
 | x :: y :: r => x ++ sep ++ joinL sep (y :: r)
theorem joinL_cons (sep x : List UInt8) {r : List (List UInt8)} (h : r ≠ []) : joinL sep (x :: r) = x ++ sep ++ joinL sep r := by
 cases r with
 | nil => exact absurd rfl h
 | cons y t => rfl
theorem joinL_head (sep : List UInt8) (x : UInt8) (h : List UInt8) (t : List (List UInt8)) : joinL sep ((x :: h) :: t) = x :: joinL sep (h :: t) := by
 cases t with
 | nil => rfl
 | cons y t => simp [joinL]
theorem join_split (c : UInt8) : ∀ l, joinL [c] (splitL c l) = l
 | [] => rfl
 | x :: r => by
  have ih := join_split c r
  unfold splitL
  split
  ·rename_i h
   rw [joinL_cons _ _ (splitL_ne c r), ih, h]; rfl
  ·cases hr : splitL c r with
   | nil => exact absurd hr (splitL_ne c r)
   | cons h t => rw [hr] at ih; simp only; rw [joinL_head, ih]
theorem joinL_snoc (sep x : List UInt8) : ∀ {l : List (List UInt8)}, l ≠ [] → joinL sep (l ++ [x]) = joinL sep l ++ sep ++ x
 | [], h => absurd rfl h
 | [y], _ => by simp [joinL]
 | y :: z :: r, _ => by
  have ih := joinL_snoc sep x (l := z :: r) (by simp)
  simp only [List.cons_append] at ih ⊢
  simp only [joinL]
  rw [ih]
  simp
def cutL (c : UInt8) : List UInt8 → List UInt8 × List UInt8 × Bool
 | [] => ([], [], false)
 | x :: r => if x = c then ([], r, true) else (x :: (cutL c r).1, (cutL c r).2.1, (cutL c r).2.2)
theorem cutL_none {c : UInt8} : ∀ {l : List UInt8}, (∀ x ∈ l, x ≠ c) → cutL c l = (l, [], false)
 | [], _ => rfl
 | x :: r, h => by
  unfold cutL
  rw [if_neg (h x (by simp)), cutL_none (l := r) (fun y hy => h y (by simp [hy]))]
theorem cutL_cut {c : UInt8} {r : List UInt8} : ∀ {l : List UInt8}, (∀ x ∈ l, x ≠ c) → cutL c (l ++ c :: r) = (l, r, true)
 | [], _ => by simp [cutL]
 | x :: l, h => by
  rw [List.cons_append]
  unfold cutL
  rw [if_neg (h x (by simp)), cutL_cut (l := l) (fun y hy => h y (by simp [hy]))]
def NoC (c : UInt8) (l : List UInt8) (a b : Nat) : Prop := ∀ x ∈ (l.drop a).take (b - a), x ≠ c
theorem NoC.start (c : UInt8) (l : List UInt8) (a : Nat) : NoC c l a a := fun x hx => by simp at hx
theorem NoC.next {c : UInt8} {s : ByteArray} {a b : Nat} (h : NoC c (lst s) a b) (hab : a ≤ b) (hb : b < s.size) (hne : s[b] ≠ c) : NoC c (lst s) a (b + 1) := fun x hx => by
 have e : ((lst s).drop a).take (b + 1 - a) = ((lst s).drop a).take (b - a) ++ [s[b]] := by
  rw [show b + 1 - a = (b - a) + 1 by omega, List.take_succ_eq_append_getElem (by rw [List.length_drop, lst_length]; omega)]
  congr 1
  simp only [List.getElem_drop, show a + (b - a) = b by omega]
  rw [lst_at s b hb]
 rw [e] at hx
 simp only [List.mem_append, List.mem_singleton] at hx
 rcases hx with hx | rfl
 ·exact h x hx
 ·exact hne
theorem cut_drop (s : ByteArray) (a b : Nat) (hab : a ≤ b) (hb : b < s.size) : (lst s).drop a = ((lst s).drop a).take (b - a) ++ s[b] :: (lst s).drop (b + 1) := by
 have h := (List.take_append_drop (b - a) ((lst s).drop a)).symm
 rw [List.drop_drop, show a + (b - a) = b by omega, drop_at s b hb] at h
 exact h
theorem split_at {c : UInt8} {s : ByteArray} {a b : Nat} (h : NoC c (lst s) a b) (hab : a ≤ b) (hb : b < s.size) (he : s[b] = c) : splitL c ((lst s).drop a) = lst (s.extract a b) :: splitL c ((lst s).drop (b + 1)) := by
 have e := cut_drop s a b hab hb
 rw [e, he, splitL_cut h, extract_txt, lst_txt]
theorem split_end {c : UInt8} {s : ByteArray} {a : Nat} (h : NoC c (lst s) a s.size) : splitL c ((lst s).drop a) = [lst (s.extract a s.size)] := by
 have e : ((lst s).drop a).take (s.size - a) = (lst s).drop a := List.take_of_length_le (by rw [List.length_drop, lst_length]; omega)
 have h' : ∀ x ∈ (lst s).drop a, x ≠ c := by
  unfold NoC at h
  rw [e] at h
  exact h
 rw [splitL_none h', extract_txt, lst_txt, e]
def txts (l : List (List UInt8)) : List ByteArray := l.map txt
def parts (c : UInt8) (s : ByteArray) : List ByteArray := txts (splitL c (lst s))
theorem parts_lens (c : UInt8) (s : ByteArray) : (parts c s).length ≤ s.size + 1 := by
 have := splitL_lens (c := c) (lst s)
 rw [lst_length] at this
 simpa [parts, txts] using this
theorem parts_ne (c : UInt8) (s : ByteArray) : 0 < (parts c s).length := by
 have := splitL_ne c (lst s)
 simp only [parts, txts, List.length_map]
 exact List.length_pos_iff.2 this
def Divd (c : UInt8) (s : ByteArray) (acc : List ByteArray) (a : Nat) : Prop := parts c s = acc ++ txts (splitL c ((lst s).drop a))
theorem Divd.start (c : UInt8) (s : ByteArray) : Divd c s [] 0 := by simp [Divd, parts]
theorem Divd.next {c : UInt8} {s : ByteArray} {acc : List ByteArray} {a b : Nat} (hd : Divd c s acc a) (h : NoC c (lst s) a b) (hab : a ≤ b) (hb : b < s.size) (he : s[b] = c) : Divd c s (acc ++ [s.extract a b]) (b + 1) := by
 unfold Divd at hd ⊢
 rw [hd, split_at h hab hb he]
 simp [txts, txt_lst]
theorem Divd.end {c : UInt8} {s : ByteArray} {acc : List ByteArray} {a : Nat} (hd : Divd c s acc a) (h : NoC c (lst s) a s.size) : parts c s = acc ++ [s.extract a s.size] := by
 unfold Divd at hd
 rw [hd, split_end h]
 simp [txts, txt_lst]
theorem Divd.lens {c : UInt8} {s : ByteArray} {acc : List ByteArray} {a : Nat} (hd : Divd c s acc a) : acc.length < s.size + 1 := by
 have h1 := parts_lens c s
 unfold Divd at hd
 rw [hd] at h1
 have h2 := splitL_ne c ((lst s).drop a)
 have h3 : 0 < (txts (splitL c ((lst s).drop a))).length := by simp only [txts, List.length_map]; exact List.length_pos_iff.2 h2
 simp at h1
 omega
def cutA (c : UInt8) (s : ByteArray) : ByteArray := txt (cutL c (lst s)).1
def cutB (c : UInt8) (s : ByteArray) : ByteArray := txt (cutL c (lst s)).2.1
def cutK (c : UInt8) (s : ByteArray) : Bool := (cutL c (lst s)).2.2
theorem cut_found {c : UInt8} {s : ByteArray} {k : Nat} (h : NoC c (lst s) 0 k) (hk : k < s.size) (he : s[k] = c) : cutA c s = s.extract 0 k ∧ cutB c s = s.extract (k + 1) s.size ∧ cutK c s = true := by
 have e := cut_drop s 0 k (Nat.zero_le _) hk
 rw [List.drop_zero, he] at e
 unfold NoC at h
 rw [List.drop_zero] at h
 have hc : cutL c (lst s) = ((lst s).take (k - 0), (lst s).drop (k + 1), true) := by
  have := cutL_cut (c := c) (r := (lst s).drop (k + 1)) h
  rw [← e] at this
  exact this
 unfold cutA cutB cutK
 rw [hc]
 refine ⟨?_, ?_, rfl⟩
 ·rw [extract_txt, List.drop_zero]
 ·rw [extract_txt]
  show txt ((lst s).drop (k + 1)) = txt (((lst s).drop (k + 1)).take (s.size - (k + 1)))
  rw [List.take_of_length_le (l := (lst s).drop (k + 1)) (by rw [List.length_drop, lst_length]; omega)]
theorem cut_missing {c : UInt8} {s : ByteArray} (h : NoC c (lst s) 0 s.size) : cutA c s = s ∧ cutB c s = ⟨#[]⟩ ∧ cutK c s = false := by
 unfold NoC at h
 rw [List.drop_zero, List.take_of_length_le (by rw [lst_length]; omega)] at h
 unfold cutA cutB cutK
 rw [cutL_none h]
 exact ⟨txt_lst s, rfl, rfl⟩
theorem cutL_what (c : UInt8) : ∀ l : List UInt8, (∀ x ∈ (cutL c l).1, x ≠ c) ∧ ((cutL c l).2.2 = true → l = (cutL c l).1 ++ c :: (cutL c l).2.1) ∧ ((cutL c l).2.2 = false → (cutL c l).1 = l)
 | [] => by simp [cutL]
 | x :: r => by
  obtain ⟨h1, h2, h3⟩ := cutL_what c r
  unfold cutL
  by_cases hx : x = c
  ·rw [if_pos hx]
   subst hx
   simp
  ·rw [if_neg hx]
   refine ⟨fun y hy => ?_, fun h => ?_, fun h => ?_⟩
   ·simp only [List.mem_cons] at hy
    rcases hy with rfl | hy
    ·exact hx
    ·exact h1 y hy
   ·simp only [List.cons_append]
    rw [← h2 h]
   ·rw [h3 h]
theorem parts_more {c : UInt8} {s : ByteArray} (h : cutK c s = true) : parts c s = cutA c s :: parts c (cutB c s) := by
 obtain ⟨h1, h2, h3⟩ := cutL_what c (lst s)
 have e := h2 h
 unfold parts cutA cutB
 rw [lst_txt]
 conv => lhs; rw [e, splitL_cut h1]
 rfl
theorem cut_less {c : UInt8} {s : ByteArray} (h : cutK c s = true) : (cutB c s).size < s.size := by
 obtain ⟨h1, h2, h3⟩ := cutL_what c (lst s)
 have e := congrArg List.length (h2 h)
 rw [lst_length, List.length_append, List.length_cons] at e
 unfold cutB
 rw [txt_size]
 omega
theorem parts_last {c : UInt8} {s : ByteArray} (h : cutK c s = false) : parts c s = [cutA c s] := by
 obtain ⟨h1, h2, h3⟩ := cutL_what c (lst s)
 unfold parts cutA
 have e := h3 h
 rw [e] at h1
 rw [splitL_none h1, e]
 rfl
theorem cut_self {c : UInt8} {s : ByteArray} (h : cutK c s = false) : cutA c s = s := by
 obtain ⟨h1, h2, h3⟩ := cutL_what c (lst s)
 unfold cutA
 rw [h3 h, txt_lst]
theorem cut_sum {c : UInt8} {s : ByteArray} (h : cutK c s = true) : lst s = lst (cutA c s) ++ c :: lst (cutB c s) := by
 obtain ⟨h1, h2, h3⟩ := cutL_what c (lst s)
 unfold cutA cutB
 rw [lst_txt, lst_txt]
 exact h2 h
theorem parts_part {c : UInt8} {s : ByteArray} : ∀ p ∈ parts c s, ∀ x ∈ lst p, x ≠ c := fun p hp => by
 simp only [parts, txts, List.mem_map] at hp
 obtain ⟨q, hq, rfl⟩ := hp
 rw [lst_txt]
 exact splitL_part q hq
theorem parts_one {c : UInt8} {s : ByteArray} (h : ∀ x ∈ lst s, x ≠ c) : parts c s = [s] := by
 unfold parts
 rw [splitL_none h]
 simp [txts, txt_lst]
def joinS (sep : ByteArray) (ss : List ByteArray) : ByteArray := txt (joinL (lst sep) (ss.map lst))
theorem joinS_size (sep : ByteArray) (ss : List ByteArray) : (joinS sep ss).size = (joinL (lst sep) (ss.map lst)).length := txt_size _
theorem joinL_take_le (sep : List UInt8) : ∀ (l : List (List UInt8)) (k : Nat), (joinL sep (l.take k)).length ≤ (joinL sep l).length
 | [], k => by simp
 | [x], 0 => by simp [joinL]
 | [x], k + 1 => by simp
 | x :: y :: r, 0 => by simp [joinL]
 | x :: y :: r, 1 => by simp [joinL]
 | x :: y :: r, k + 2 => by
  have ih := joinL_take_le sep (y :: r) (k + 1)
  simp only [List.take_succ_cons] at ih ⊢
  simp only [joinL, List.length_append]
  omega
theorem joinS_take_le (sep : ByteArray) (ss : List ByteArray) (k : Nat) : (joinS sep (ss.take k)).size ≤ (joinS sep ss).size := by
 rw [joinS_size, joinS_size, List.map_take]
 exact joinL_take_le _ _ _
theorem joinS_first (sep x : ByteArray) : joinS sep [x] = x := by simp [joinS, joinL, txt_lst]
theorem joinS_next (sep : ByteArray) (ss : List ByteArray) (k : Nat) (h0 : 0 < k) (h : k < ss.length) : joinS sep (ss.take (k + 1)) = joinS sep (ss.take k) ++ sep ++ ss[k] := by
 unfold joinS
 rw [List.take_succ_eq_append_getElem h, List.map_append, List.map_cons, List.map_nil, joinL_snoc]
 ·rw [append_txt, append_txt, lst_txt, lst_txt]
 ·intro e
  have e2 : ((ss.take k).map lst).length = k := by simp; omega
  rw [e] at e2
  simp at e2
  omega
def lastS (ss : List ByteArray) : ByteArray := ss.getD (ss.length - 1) ⟨#[]⟩
theorem lastS_at {ss : List ByteArray} (h : 0 < ss.length) : ss[ss.length - 1] = lastS ss := by
 unfold lastS
 rw [List.getD_eq_getElem?_getD, List.getElem?_eq_getElem (by omega)]
 rfl
def linesS (s : ByteArray) : List ByteArray := if lastS (parts 10 s) = ⟨#[]⟩ then (parts 10 s).take ((parts 10 s).length - 1) else parts 10 s
theorem str_none {x : ByteArray} (h : x = ⟨#[]⟩) : x.toList.isEmpty = true := by
 subst h
 rw [ByteArray.toList_eq]; rfl
theorem str_some {x : ByteArray} (h : x ≠ ⟨#[]⟩) : x.toList.isEmpty = false := by
 rw [ByteArray.toList_eq, Bool.eq_false_iff]
 intro e
 rw [List.isEmpty_iff] at e
 exact h (lst_inj e)
def fullS (ss : List ByteArray) : List ByteArray := ss.filter (fun p => decide (p ≠ ⟨#[]⟩))
theorem fullS_next {ss : List ByteArray} {k : Nat} (h : k < ss.length) (hx : ss[k] ≠ ⟨#[]⟩) : fullS (ss.take (k + 1)) = fullS (ss.take k) ++ [ss[k]] := by
 unfold fullS
 rw [List.take_succ_eq_append_getElem h, List.filter_append]
 simp [hx]
theorem fullS_skip {ss : List ByteArray} {k : Nat} (h : k < ss.length) (hx : ss[k] = ⟨#[]⟩) : fullS (ss.take (k + 1)) = fullS (ss.take k) := by
 unfold fullS
 rw [List.take_succ_eq_append_getElem h, List.filter_append]
 simp [hx]
theorem fullS_length (ss : List ByteArray) (k : Nat) : (fullS (ss.take k)).length ≤ k := by
 have h1 := List.length_filter_le (fun p => decide (p ≠ (⟨#[]⟩ : ByteArray))) (ss.take k)
 have h2 := List.length_take_le k ss
 exact Nat.le_trans h1 h2
def wordsS (s : ByteArray) : List ByteArray := fullS (parts 32 s)
theorem words_at (s : ByteArray) : ∀ p ∈ wordsS s, p ≠ ⟨#[]⟩ ∧ parts 32 p = [p] := fun p hp => by
 simp only [wordsS, fullS, List.mem_filter, decide_eq_true_eq] at hp
 exact ⟨hp.2, parts_one (parts_part p hp.1)⟩
def nameAt (x : UInt8) (i : Nat) : Prop := (97 ≤ x.toNat ∧ x.toNat ≤ 122) ∨ ((48 ≤ x.toNat ∧ x.toNat ≤ 57) ∧ i ≠ 0)
instance (x : UInt8) (i : Nat) : Decidable (nameAt x i) := by unfold nameAt; infer_instance
def nameTo (s : ByteArray) (k : Nat) : Prop := ∀ i (h : i < s.size), i < k → nameAt s[i] i
open Classical in
noncomputable def nameB (s : ByteArray) : Bool := decide (nameTo s s.size ∧ 1 ≤ s.size ∧ s.size ≤ 12)
theorem nameTo.next {s : ByteArray} {k : Nat} (h : nameTo s k) (hk : k < s.size) (hn : nameAt s[k] k) : nameTo s (k + 1) := fun i hi hik => by
 by_cases e : i = k
 ·subst e; exact hn
 ·exact h i hi (by omega)
open Classical in
theorem nameB_bad {s : ByteArray} {k : Nat} (hk : k < s.size) (hn : ¬ nameAt s[k] k) : nameB s = false := by
 unfold nameB
 exact decide_eq_false fun h => hn (h.1 k hk hk)
open Classical in
theorem nameB_end {s : ByteArray} (h : nameTo s s.size) : nameB s = decide (1 ≤ s.size ∧ s.size ≤ 12) := by
 unfold nameB
 simp [h]
open Classical in
theorem nameB_size {s : ByteArray} (h : ¬ (1 ≤ s.size ∧ s.size ≤ 12)) : nameB s = false := by
 unfold nameB
 exact decide_eq_false fun h' => h h'.2
def digs (v : Nat) : List UInt8 := if v = 0 then [] else Lib.decDigits v
theorem digs_zero : digs 0 = [] := rfl
theorem digs_pos {v : Nat} (h : v ≠ 0) : digs v = Lib.decDigits v := if_neg h
theorem digs_step {v : Nat} (h : v ≠ 0) : digs v = digs (v / 10) ++ [UInt8.ofNat (48 + v % 10)] := by
 rw [digs_pos h]
 by_cases h10 : v < 10
 ·have e : v / 10 = 0 := by omega
  rw [e, digs_zero, Lib.decDigits_one h10, Nat.mod_eq_of_lt h10]; rfl
 ·rw [Lib.decDigits, dif_neg h10, digs_pos (by omega)]
theorem nDigits_le : ∀ (k v : Nat), v < 10 ^ k → 1 ≤ k → Lib.nDigits v ≤ k
 | 0, _, _, h => by omega
 | k + 1, v, hv, _ => by
  by_cases h10 : v < 10
  ·rw [Lib.nDigits_small h10]; omega
  ·rw [Lib.nDigits_big h10]
   rw [Nat.pow_succ] at hv
   have h1 : 1 ≤ k := by
    rcases k with _ | k
    ·simp at hv; omega
    ·omega
   have := nDigits_le k (v / 10) (by omega) h1
   omega
theorem digs_length (v : Nat) (h : v < 10 ^ 20) : (digs v).length ≤ 20 := by
 by_cases h0 : v = 0
 ·subst h0; simp [digs_zero]
 ·rw [digs_pos h0, Lib.decDigits_length]; exact nDigits_le 20 v h (by omega)
theorem rest_length {v u : Nat} {l : List UInt8} (h : digs v ++ l = digs u) (hu : u < 10 ^ 20) : l.length ≤ 20 := by
 have h1 := congrArg List.length h
 have h2 := digs_length u hu
 rw [List.length_append] at h1
 omega
theorem itoa_zero : Lib.itoa 0 = [48] := by unfold Lib.itoa; rw [if_neg (by omega)]; exact Lib.decDigits_one (i := 0) (by omega)
theorem itoa_pos {n : Int} (h : 0 < n) : Lib.itoa n = digs n.natAbs := by
 unfold Lib.itoa; rw [if_neg (by omega), digs_pos (by omega), show n.toNat = n.natAbs by omega]
theorem itoa_neg {n : Int} (h : n < 0) : Lib.itoa n = 45 :: digs n.natAbs := by
 unfold Lib.itoa; rw [if_pos h, digs_pos (by omega)]
def Spells (s : ByteArray) (n : Nat) : Prop := n ≤ 1000000000000 ∧ s.data.toList = Lib.decDigits n
theorem digitVal_of (d : Nat) (h : d < 10) : Lib.digitVal (UInt8.ofNat (48 + d)) = some d := by
 have e : (UInt8.ofNat (48 + d)).toNat = 48 + d := by simp; omega
 unfold Lib.digitVal
 rw [e, if_pos (by omega)]
 congr 1; omega
theorem decFrom_snoc : ∀ (l : List UInt8) (acc m : Nat) (c : UInt8) (d : Nat), Lib.decFrom acc l = some m → Lib.digitVal c = some d → Lib.decFrom acc (l ++ [c]) = some (m * 10 + d)
 | [], acc, m, c, d, h, hc => by
  simp only [Lib.decFrom, Option.some.injEq] at h
  subst h
  simp [Lib.decFrom, hc]
 | b :: r, acc, m, c, d, h, hc => by
  simp only [List.cons_append, Lib.decFrom] at h ⊢
  cases hb : Lib.digitVal b with
  | none => simp [hb] at h
  | some e =>
   simp only [hb] at h ⊢
   exact decFrom_snoc r _ m c d h hc
theorem decFrom_digits (n : Nat) : Lib.decFrom 0 (Lib.decDigits n) = some n := by
 induction n using Nat.strongRecOn with
 | _ n ih =>
  by_cases h : n < 10
  ·rw [Lib.decDigits_one h, ← List.nil_append [_], decFrom_snoc [] 0 0 _ n rfl (digitVal_of n h)]
   congr 1; omega
  ·rw [Lib.decDigits, dif_neg h, decFrom_snoc _ _ _ _ _ (ih (n / 10) (by omega)) (digitVal_of (n % 10) (by omega))]
   congr 1; omega
theorem digits_ne (n : Nat) : Lib.decDigits n ≠ [] := by
 intro h
 have := Lib.decDigits_length n
 rw [h] at this
 have h1 := Lib.nDigits_pos n
 simp at this
 omega
theorem digits_length {n : Nat} (h : n ≤ 1000000000000) : 1 ≤ (Lib.decDigits n).length ∧ (Lib.decDigits n).length ≤ 13 := by
 rw [Lib.decDigits_length]
 exact ⟨Lib.nDigits_pos n, nDigits_le 13 n (by omega) (by omega)⟩
theorem atoiAll_digits {n : Nat} (h : n ≤ 1000000000000) : Lib.atoiAll (Lib.decDigits n) = .ok (n : Int) := by
 rw [Lib.atoiAll_short _ (by have := digits_length h; omega)]
 have hd := decFrom_digits n
 cases hl : Lib.decDigits n with
 | nil => exact absurd hl (digits_ne n)
 | cons b r =>
  rw [hl] at hd
  obtain ⟨d, hb⟩ := Lib.digit_of_decFrom _ _ _ hd 0 b rfl
  obtain ⟨b1, b2, _⟩ := Lib.digitVal_eq hb
  have n1 : (b == 45) = false := by
   simp only [beq_eq_false_iff_ne]; rintro rfl; simp at b1
  have n2 : (b == 43) = false := by
   simp only [beq_eq_false_iff_ne]; rintro rfl; simp at b1
  simp [Lib.atoi, n1, n2, Lib.decNat, hd, Lib.NumEnd.ofOption]
theorem itoa_nat (v : Nat) : Lib.itoa (v : Int) = Lib.decDigits v := by unfold Lib.itoa; rw [if_neg (by omega)]; simp
theorem spells_unique {s : ByteArray} {n m : Nat} (h : Spells s n) (k : Spells s m) : n = m := by
 have h1 := decFrom_digits n
 have h2 := decFrom_digits m
 rw [← h.2, k.2, h2] at h1
 injection h1 with h1
 exact h1.symm
end Go.Proofs.YtndjefednfcmmaaGreatDoor
