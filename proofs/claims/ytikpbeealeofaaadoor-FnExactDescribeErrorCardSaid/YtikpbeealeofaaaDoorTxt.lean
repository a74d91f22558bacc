/- Texts as lists of bytes: dividing, joining, cutting. No program. -/
import Derived.Lib.Hide
import Derived.Lib.Strings
import Derived.Laws.Strings2
namespace Go.Proofs.YtikpbeealeofaaaDoor
open Go
/-- A list of bytes as a string. -/
def txt (l : List UInt8) : ByteArray := ⟨l.toArray⟩
/-- A string's bytes. -/
def lst (s : ByteArray) : List UInt8 := s.data.toList
theorem txt_lst (s : ByteArray) : txt (lst s) = s := by cases s; simp [txt, lst]
theorem lst_txt (l : List UInt8) : lst (txt l) = l := by simp [txt, lst]
theorem lst_length (s : ByteArray) : (lst s).length = s.size := by cases s; rfl
theorem txt_size (l : List UInt8) : (txt l).size = l.length := by rw [← lst_length, lst_txt]
theorem lst_at (s : ByteArray) (k : Nat) (h : k < s.size) : (lst s)[k]'(by rw [lst_length]; exact h) = s[k] := by cases s; simp [lst]; rfl
theorem txt_inj {a b : List UInt8} (h : txt a = txt b) : a = b := by rw [← lst_txt a, h, lst_txt]
theorem lst_inj {a b : ByteArray} (h : lst a = lst b) : a = b := by rw [← txt_lst a, h, txt_lst]
theorem extract_txt (s : ByteArray) (a b : Nat) : s.extract a b = txt (((lst s).drop a).take (b - a)) := by
  have h := ByteArray.extract_mk (lst s) a b
  rw [show ByteArray.mk (lst s).toArray = s from txt_lst s] at h
  exact h
theorem append_txt (a b : ByteArray) : a ++ b = txt (lst a ++ lst b) := by
  apply ByteArray.ext
  simp [txt, lst]
theorem drop_at (s : ByteArray) (k : Nat) (h : k < s.size) : (lst s).drop k = s[k] :: (lst s).drop (k + 1) := by
  rw [List.drop_eq_getElem_cons (by rw [lst_length]; exact h), lst_at s k h]
theorem drop_end (s : ByteArray) : (lst s).drop s.size = [] := by rw [← lst_length]; simp
theorem str_ne {x y : ByteArray} (h : x ≠ y) : (x.toList == y.toList) = false := by
  rw [beq_eq_false_iff_ne, ByteArray.toList_eq, ByteArray.toList_eq]
  exact fun e => h (lst_inj e)
theorem str_eq {x y : ByteArray} (h : x = y) : (x.toList == y.toList) = true := by rw [h, beq_self_eq_true]
/-- A text divided at every c. -/
def splitL (c : UInt8) : List UInt8 → List (List UInt8)
  | [] => [[]]
  | x :: r => if x = c then [] :: splitL c r else
    match splitL c r with
    | [] => [[x]]
    | h :: t => (x :: h) :: t
theorem splitL_ne (c : UInt8) : ∀ l, splitL c l ≠ []
  | [] => by simp [splitL]
  | x :: r => by
    unfold splitL
    split
    · simp
    · split <;> simp
/-- A text without c is one part. -/
theorem splitL_none {c : UInt8} : ∀ {l : List UInt8}, (∀ x ∈ l, x ≠ c) → splitL c l = [l]
  | [], _ => rfl
  | x :: r, h => by
    unfold splitL
    rw [if_neg (h x (by simp)), splitL_none (l := r) (fun y hy => h y (by simp [hy]))]
/-- A text up to its first c. -/
theorem splitL_cut {c : UInt8} {r : List UInt8} : ∀ {l : List UInt8}, (∀ x ∈ l, x ≠ c) → splitL c (l ++ c :: r) = l :: splitL c r
  | [], _ => by simp [splitL]
  | x :: l, h => by
    rw [List.cons_append, splitL.eq_2, if_neg (h x (by simp)), splitL_cut (l := l) (fun y hy => h y (by simp [hy]))]
theorem splitL_part {c : UInt8} : ∀ {l : List UInt8}, ∀ p ∈ splitL c l, ∀ x ∈ p, x ≠ c
  | [], p, hp, x, hx => by simp [splitL] at hp; subst hp; simp at hx
  | y :: r, p, hp, x, hx => by
    unfold splitL at hp
    split at hp
    · simp only [List.mem_cons] at hp
      rcases hp with rfl | hp
      · simp at hx
      · exact splitL_part p hp x hx
    · rename_i hy
      have ih := @splitL_part c r
      cases hr : splitL c r with
      | nil => exact absurd hr (splitL_ne c r)
      | cons h t =>
        rw [hr] at hp ih
        simp only [List.mem_cons] at hp
        rcases hp with rfl | hp
        · simp only [List.mem_cons] at hx
          rcases hx with rfl | hx
          · exact hy
          · exact ih h (by simp) x hx
        · exact ih p (by simp [hp]) x hx
theorem splitL_lens {c : UInt8} : ∀ (l : List UInt8), (splitL c l).length ≤ l.length + 1
  | [] => by simp [splitL]
  | y :: r => by
    unfold splitL
    have ih := splitL_lens (c := c) r
    split
    · simp; omega
    · cases hr : splitL c r with
      | nil => simp
      | cons h t => rw [hr] at ih; simp at ih ⊢; omega
/-- Parts joined by a separator. -/
def joinL (sep : List UInt8) : List (List UInt8) → List UInt8
  | [] => []
  | [x] => x
  | x :: y :: r => x ++ sep ++ joinL sep (y :: r)
theorem joinL_cons (sep x : List UInt8) {r : List (List UInt8)} (h : r ≠ []) : joinL sep (x :: r) = x ++ sep ++ joinL sep r := by
  cases r with
  | nil => exact absurd rfl h
  | cons y t => rfl
theorem joinL_head (sep : List UInt8) (x : UInt8) (h : List UInt8) (t : List (List UInt8)) : joinL sep ((x :: h) :: t) = x :: joinL sep (h :: t) := by
  cases t with
  | nil => rfl
  | cons y t => simp [joinL]
/-- What is divided is joined to itself. -/
theorem join_split (c : UInt8) : ∀ l, joinL [c] (splitL c l) = l
  | [] => rfl
  | x :: r => by
    have ih := join_split c r
    unfold splitL
    split
    · rename_i h
      rw [joinL_cons _ _ (splitL_ne c r), ih, h]; rfl
    · cases hr : splitL c r with
      | nil => exact absurd hr (splitL_ne c r)
      | cons h t => rw [hr] at ih; simp only; rw [joinL_head, ih]
theorem joinL_snoc (sep x : List UInt8) : ∀ {l : List (List UInt8)}, l ≠ [] → joinL sep (l ++ [x]) = joinL sep l ++ sep ++ x
  | [], h => absurd rfl h
  | [y], _ => by simp [joinL]
  | y :: z :: r, _ => by
    have ih := joinL_snoc sep x (l := z :: r) (by simp)
    simp only [List.cons_append] at ih ⊢
    simp only [joinL]
    rw [ih]
    simp
/-- The lines of a text: divided at the line feed, without an empty last one. -/
def linesL (l : List UInt8) : List (List UInt8) := let p := splitL 10 l; if p.getLastD [] = [] then p.dropLast else p
/-- The words of a text. -/
def wordsL (l : List UInt8) : List (List UInt8) := (splitL 32 l).filter (fun p => decide (p ≠ []))
/-- The text ahead of the first c, what follows it, and whether there is one. -/
def cutL (c : UInt8) : List UInt8 → List UInt8 × List UInt8 × Bool
  | [] => ([], [], false)
  | x :: r => if x = c then ([], r, true) else (x :: (cutL c r).1, (cutL c r).2.1, (cutL c r).2.2)
theorem cutL_none {c : UInt8} : ∀ {l : List UInt8}, (∀ x ∈ l, x ≠ c) → cutL c l = (l, [], false)
  | [], _ => rfl
  | x :: r, h => by
    unfold cutL
    rw [if_neg (h x (by simp)), cutL_none (l := r) (fun y hy => h y (by simp [hy]))]
theorem cutL_cut {c : UInt8} {r : List UInt8} : ∀ {l : List UInt8}, (∀ x ∈ l, x ≠ c) → cutL c (l ++ c :: r) = (l, r, true)
  | [], _ => by simp [cutL]
  | x :: l, h => by
    rw [List.cons_append]
    unfold cutL
    rw [if_neg (h x (by simp)), cutL_cut (l := l) (fun y hy => h y (by simp [hy]))]
/-- No c among the bytes from a to b. -/
def NoC (c : UInt8) (l : List UInt8) (a b : Nat) : Prop := ∀ x ∈ (l.drop a).take (b - a), x ≠ c
theorem NoC.start (c : UInt8) (l : List UInt8) (a : Nat) : NoC c l a a := fun x hx => by simp at hx
theorem NoC.next {c : UInt8} {s : ByteArray} {a b : Nat} (h : NoC c (lst s) a b) (hab : a ≤ b) (hb : b < s.size) (hne : s[b] ≠ c) : NoC c (lst s) a (b + 1) := fun x hx => by
  have e : ((lst s).drop a).take (b + 1 - a) = ((lst s).drop a).take (b - a) ++ [s[b]] := by
    rw [show b + 1 - a = (b - a) + 1 by omega, List.take_succ_eq_append_getElem (by rw [List.length_drop, lst_length]; omega)]
    congr 1
    simp only [List.getElem_drop, show a + (b - a) = b by omega]
    rw [lst_at s b hb]
  rw [e] at hx
  simp only [List.mem_append, List.mem_singleton] at hx
  rcases hx with hx | rfl
  · exact h x hx
  · exact hne
theorem cut_drop (s : ByteArray) (a b : Nat) (hab : a ≤ b) (hb : b < s.size) : (lst s).drop a = ((lst s).drop a).take (b - a) ++ s[b] :: (lst s).drop (b + 1) := by
  have h := (List.take_append_drop (b - a) ((lst s).drop a)).symm
  rw [List.drop_drop, show a + (b - a) = b by omega, drop_at s b hb] at h
  exact h
theorem split_at {c : UInt8} {s : ByteArray} {a b : Nat} (h : NoC c (lst s) a b) (hab : a ≤ b) (hb : b < s.size) (he : s[b] = c) : splitL c ((lst s).drop a) = lst (s.extract a b) :: splitL c ((lst s).drop (b + 1)) := by
  have e := cut_drop s a b hab hb
  rw [e, he, splitL_cut h, extract_txt, lst_txt]
theorem split_end {c : UInt8} {s : ByteArray} {a : Nat} (h : NoC c (lst s) a s.size) : splitL c ((lst s).drop a) = [lst (s.extract a s.size)] := by
  have e : ((lst s).drop a).take (s.size - a) = (lst s).drop a := List.take_of_length_le (by rw [List.length_drop, lst_length]; omega)
  have h' : ∀ x ∈ (lst s).drop a, x ≠ c := by
    unfold NoC at h
    rw [e] at h
    exact h
  rw [splitL_none h', extract_txt, lst_txt, e]
/-- Texts as strings. -/
def txts (l : List (List UInt8)) : List ByteArray := l.map txt
/-- The parts of a string. -/
def parts (c : UInt8) (s : ByteArray) : List ByteArray := txts (splitL c (lst s))
theorem parts_lens (c : UInt8) (s : ByteArray) : (parts c s).length ≤ s.size + 1 := by
  have := splitL_lens (c := c) (lst s)
  rw [lst_length] at this
  simpa [parts, txts] using this
theorem parts_ne (c : UInt8) (s : ByteArray) : 0 < (parts c s).length := by
  have := splitL_ne c (lst s)
  simp only [parts, txts, List.length_map]
  exact List.length_pos_iff.2 this
/-- The text that is left to divide stands behind what has been divided. -/
def Divd (c : UInt8) (s : ByteArray) (acc : List ByteArray) (a : Nat) : Prop := parts c s = acc ++ txts (splitL c ((lst s).drop a))
theorem Divd.start (c : UInt8) (s : ByteArray) : Divd c s [] 0 := by simp [Divd, parts]
theorem Divd.next {c : UInt8} {s : ByteArray} {acc : List ByteArray} {a b : Nat} (hd : Divd c s acc a) (h : NoC c (lst s) a b) (hab : a ≤ b) (hb : b < s.size) (he : s[b] = c) : Divd c s (acc ++ [s.extract a b]) (b + 1) := by
  unfold Divd at hd ⊢
  rw [hd, split_at h hab hb he]
  simp [txts, txt_lst]
theorem Divd.end {c : UInt8} {s : ByteArray} {acc : List ByteArray} {a : Nat} (hd : Divd c s acc a) (h : NoC c (lst s) a s.size) : parts c s = acc ++ [s.extract a s.size] := by
  unfold Divd at hd
  rw [hd, split_end h]
  simp [txts, txt_lst]
theorem Divd.lens {c : UInt8} {s : ByteArray} {acc : List ByteArray} {a : Nat} (hd : Divd c s acc a) : acc.length < s.size + 1 := by
  have h1 := parts_lens c s
  unfold Divd at hd
  rw [hd] at h1
  have h2 := splitL_ne c ((lst s).drop a)
  have h3 : 0 < (txts (splitL c ((lst s).drop a))).length := by simp only [txts, List.length_map]; exact List.length_pos_iff.2 h2
  simp at h1
  omega
end Go.Proofs.YtikpbeealeofaaaDoor
