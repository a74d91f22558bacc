/- Texts: cutting, lines, words, names, joining. No program. The contract of the model's ContainsText. Contracts of IsName, the model's and the program's. Contracts of the model's RootOf, IntegerLimit, KindName. The contract of the model's l4Names. -/
import Derived.Test.YtefkhknfjohnaaaGBase
import Derived.Laws.RangeAny
namespace Go.Proofs.Ytefkhknfjohnaaa
open Go
def cutA (c : UInt8) (s : ByteArray) : ByteArray := txt (cutL c (lst s)).1
def cutB (c : UInt8) (s : ByteArray) : ByteArray := txt (cutL c (lst s)).2.1
def cutK (c : UInt8) (s : ByteArray) : Bool := (cutL c (lst s)).2.2
theorem cut_found {c : UInt8} {s : ByteArray} {k : Nat} (h : NoC c (lst s) 0 k) (hk : k < s.size) (he : s[k] = c) : cutA c s = s.extract 0 k ∧ cutB c s = s.extract (k + 1) s.size ∧ cutK c s = true := by
  have e := cut_drop s 0 k (Nat.zero_le _) hk
  rw [List.drop_zero, he] at e
  unfold NoC at h
  rw [List.drop_zero] at h
  have hc : cutL c (lst s) = ((lst s).take (k - 0), (lst s).drop (k + 1), true) := by
    have := cutL_cut (c := c) (r := (lst s).drop (k + 1)) h
    rw [← e] at this
    exact this
  unfold cutA cutB cutK
  rw [hc]
  refine ⟨?_, ?_, rfl⟩
  · rw [extract_txt, List.drop_zero]
  · rw [extract_txt]
    show txt ((lst s).drop (k + 1)) = txt (((lst s).drop (k + 1)).take (s.size - (k + 1)))
    rw [List.take_of_length_le (l := (lst s).drop (k + 1)) (by rw [List.length_drop, lst_length]; omega)]
theorem cut_missing {c : UInt8} {s : ByteArray} (h : NoC c (lst s) 0 s.size) : cutA c s = s ∧ cutB c s = ⟨#[]⟩ ∧ cutK c s = false := by
  unfold NoC at h
  rw [List.drop_zero, List.take_of_length_le (by rw [lst_length]; omega)] at h
  unfold cutA cutB cutK
  rw [cutL_none h]
  exact ⟨txt_lst s, rfl, rfl⟩
theorem cutL_what (c : UInt8) : ∀ l : List UInt8, (∀ x ∈ (cutL c l).1, x ≠ c) ∧ ((cutL c l).2.2 = true → l = (cutL c l).1 ++ c :: (cutL c l).2.1) ∧ ((cutL c l).2.2 = false → (cutL c l).1 = l)
  | [] => by simp [cutL]
  | x :: r => by
    obtain ⟨h1, h2, h3⟩ := cutL_what c r
    unfold cutL
    by_cases hx : x = c
    · rw [if_pos hx]
      subst hx
      simp
    · rw [if_neg hx]
      refine ⟨fun y hy => ?_, fun h => ?_, fun h => ?_⟩
      · simp only [List.mem_cons] at hy
        rcases hy with rfl | hy
        · exact hx
        · exact h1 y hy
      · simp only [List.cons_append]
        rw [← h2 h]
      · rw [h3 h]
theorem parts_more {c : UInt8} {s : ByteArray} (h : cutK c s = true) : parts c s = cutA c s :: parts c (cutB c s) := by
  obtain ⟨h1, h2, h3⟩ := cutL_what c (lst s)
  have e := h2 h
  unfold parts cutA cutB
  rw [lst_txt]
  conv => lhs; rw [e, splitL_cut h1]
  rfl
theorem cut_less {c : UInt8} {s : ByteArray} (h : cutK c s = true) : (cutB c s).size < s.size := by
  obtain ⟨h1, h2, h3⟩ := cutL_what c (lst s)
  have e := congrArg List.length (h2 h)
  rw [lst_length, List.length_append, List.length_cons] at e
  unfold cutB
  rw [txt_size]
  omega
theorem parts_last {c : UInt8} {s : ByteArray} (h : cutK c s = false) : parts c s = [cutA c s] := by
  obtain ⟨h1, h2, h3⟩ := cutL_what c (lst s)
  unfold parts cutA
  have e := h3 h
  rw [e] at h1
  rw [splitL_none h1, e]
  rfl
theorem cut_self {c : UInt8} {s : ByteArray} (h : cutK c s = false) : cutA c s = s := by
  obtain ⟨h1, h2, h3⟩ := cutL_what c (lst s)
  unfold cutA
  rw [h3 h, txt_lst]
theorem cut_sum {c : UInt8} {s : ByteArray} (h : cutK c s = true) : lst s = lst (cutA c s) ++ c :: lst (cutB c s) := by
  obtain ⟨h1, h2, h3⟩ := cutL_what c (lst s)
  unfold cutA cutB
  rw [lst_txt, lst_txt]
  exact h2 h
theorem parts_part {c : UInt8} {s : ByteArray} : ∀ p ∈ parts c s, ∀ x ∈ lst p, x ≠ c := fun p hp => by
  simp only [parts, txts, List.mem_map] at hp
  obtain ⟨q, hq, rfl⟩ := hp
  rw [lst_txt]
  exact splitL_part q hq
/-- A text without c has one part. -/
theorem parts_one {c : UInt8} {s : ByteArray} (h : ∀ x ∈ lst s, x ≠ c) : parts c s = [s] := by
  unfold parts
  rw [splitL_none h]
  simp [txts, txt_lst]
/-- Strings joined by a separator. -/
def joinS (sep : ByteArray) (ss : List ByteArray) : ByteArray := txt (joinL (lst sep) (ss.map lst))
theorem joinS_nil (sep : ByteArray) : joinS sep [] = ⟨#[]⟩ := rfl
theorem joinS_size (sep : ByteArray) (ss : List ByteArray) : (joinS sep ss).size = (joinL (lst sep) (ss.map lst)).length := txt_size _
theorem joinL_take_le (sep : List UInt8) : ∀ (l : List (List UInt8)) (k : Nat), (joinL sep (l.take k)).length ≤ (joinL sep l).length
  | [], k => by simp
  | [x], 0 => by simp [joinL]
  | [x], k + 1 => by simp
  | x :: y :: r, 0 => by simp [joinL]
  | x :: y :: r, 1 => by simp [joinL]
  | x :: y :: r, k + 2 => by
    have ih := joinL_take_le sep (y :: r) (k + 1)
    simp only [List.take_succ_cons] at ih ⊢
    simp only [joinL, List.length_append]
    omega
theorem joinS_take_le (sep : ByteArray) (ss : List ByteArray) (k : Nat) : (joinS sep (ss.take k)).size ≤ (joinS sep ss).size := by
  rw [joinS_size, joinS_size, List.map_take]
  exact joinL_take_le _ _ _
theorem joinS_first (sep x : ByteArray) : joinS sep [x] = x := by simp [joinS, joinL, txt_lst]
theorem joinS_next (sep : ByteArray) (ss : List ByteArray) (k : Nat) (h0 : 0 < k) (h : k < ss.length) : joinS sep (ss.take (k + 1)) = joinS sep (ss.take k) ++ sep ++ ss[k] := by
  unfold joinS
  rw [List.take_succ_eq_append_getElem h, List.map_append, List.map_cons, List.map_nil, joinL_snoc]
  · rw [append_txt, append_txt, lst_txt, lst_txt]
  · intro e
    have e2 : ((ss.take k).map lst).length = k := by simp; omega
    rw [e] at e2
    simp at e2
    omega
/-- What is divided is joined to itself. -/
theorem join_parts (c : UInt8) (s : ByteArray) : joinS (txt [c]) (parts c s) = s := by
  unfold joinS parts txts
  rw [List.map_map, lst_txt]
  have e : (lst ∘ txt) = id := funext fun l => lst_txt l
  rw [e, List.map_id, join_split, txt_lst]
/-- The last of some strings. -/
def lastS (ss : List ByteArray) : ByteArray := ss.getD (ss.length - 1) ⟨#[]⟩
theorem lastS_at {ss : List ByteArray} (h : 0 < ss.length) : ss[ss.length - 1] = lastS ss := by
  unfold lastS
  rw [List.getD_eq_getElem?_getD, List.getElem?_eq_getElem (by omega)]
  rfl
theorem lastS_split {ss : List ByteArray} (h : 0 < ss.length) : ss.take (ss.length - 1) ++ [lastS ss] = ss := by
  rw [← lastS_at h, ← List.take_succ_eq_append_getElem (by omega), List.take_of_length_le (by omega)]
/-- The lines of a text. -/
def linesS (s : ByteArray) : List ByteArray := if lastS (parts 10 s) = ⟨#[]⟩ then (parts 10 s).take ((parts 10 s).length - 1) else parts 10 s
theorem join_lines (s : ByteArray) : joinS (txt [10]) (linesS s) = s ∨ joinS (txt [10]) (linesS s) ++ txt [10] = s := by
  have hj := join_parts 10 s
  have e := lastS_split (parts_ne 10 s)
  unfold linesS
  split
  · rename_i hl
    rw [hl] at e
    generalize (parts 10 s).take ((parts 10 s).length - 1) = q at e ⊢
    rw [← e] at hj
    by_cases hd : q = []
    · left
      rw [← hj, hd]
      rfl
    · right
      unfold joinS at hj ⊢
      rw [List.map_append, List.map_cons, List.map_nil, joinL_snoc _ _ (fun h => hd (List.map_eq_nil_iff.1 h))] at hj
      rw [append_txt, lst_txt, lst_txt]
      have e3 : lst ⟨#[]⟩ = [] := rfl
      rw [e3, List.append_nil, lst_txt] at hj
      exact hj
  · exact .inl hj
theorem str_none {x : ByteArray} (h : x = ⟨#[]⟩) : x.toList.isEmpty = true := by
  subst h
  rw [ByteArray.toList_eq]; rfl
theorem str_some {x : ByteArray} (h : x ≠ ⟨#[]⟩) : x.toList.isEmpty = false := by
  rw [ByteArray.toList_eq, Bool.eq_false_iff]
  intro e
  rw [List.isEmpty_iff] at e
  exact h (lst_inj e)
/-- Those of some strings that are not empty. -/
def fullS (ss : List ByteArray) : List ByteArray := ss.filter (fun p => decide (p ≠ ⟨#[]⟩))
theorem fullS_next {ss : List ByteArray} {k : Nat} (h : k < ss.length) (hx : ss[k] ≠ ⟨#[]⟩) : fullS (ss.take (k + 1)) = fullS (ss.take k) ++ [ss[k]] := by
  unfold fullS
  rw [List.take_succ_eq_append_getElem h, List.filter_append]
  simp [hx]
theorem fullS_skip {ss : List ByteArray} {k : Nat} (h : k < ss.length) (hx : ss[k] = ⟨#[]⟩) : fullS (ss.take (k + 1)) = fullS (ss.take k) := by
  unfold fullS
  rw [List.take_succ_eq_append_getElem h, List.filter_append]
  simp [hx]
theorem fullS_length (ss : List ByteArray) (k : Nat) : (fullS (ss.take k)).length ≤ k := by
  have h1 := List.length_filter_le (fun p => decide (p ≠ (⟨#[]⟩ : ByteArray))) (ss.take k)
  have h2 := List.length_take_le k ss
  exact Nat.le_trans h1 h2
/-- The words of a text. -/
def wordsS (s : ByteArray) : List ByteArray := fullS (parts 32 s)
theorem words_at (s : ByteArray) : ∀ p ∈ wordsS s, p ≠ ⟨#[]⟩ ∧ parts 32 p = [p] := fun p hp => by
  simp only [wordsS, fullS, List.mem_filter, decide_eq_true_eq] at hp
  exact ⟨hp.2, parts_one (parts_part p hp.1)⟩
/-- The bytes that a name may have at a place. -/
def nameAt (x : UInt8) (i : Nat) : Prop := (97 ≤ x.toNat ∧ x.toNat ≤ 122) ∨ ((48 ≤ x.toNat ∧ x.toNat ≤ 57) ∧ i ≠ 0)
instance (x : UInt8) (i : Nat) : Decidable (nameAt x i) := by unfold nameAt; infer_instance
/-- The first k bytes are such as a name may have. -/
def nameTo (s : ByteArray) (k : Nat) : Prop := ∀ i (h : i < s.size), i < k → nameAt s[i] i
open Classical in
/-- Whether the text is a name. -/
noncomputable def nameB (s : ByteArray) : Bool := decide (nameTo s s.size ∧ 1 ≤ s.size ∧ s.size ≤ 12)
theorem nameTo.next {s : ByteArray} {k : Nat} (h : nameTo s k) (hk : k < s.size) (hn : nameAt s[k] k) : nameTo s (k + 1) := fun i hi hik => by
  by_cases e : i = k
  · subst e; exact hn
  · exact h i hi (by omega)
open Classical in
theorem nameB_bad {s : ByteArray} {k : Nat} (hk : k < s.size) (hn : ¬ nameAt s[k] k) : nameB s = false := by
  unfold nameB
  exact decide_eq_false fun h => hn (h.1 k hk hk)
open Classical in
theorem nameB_end {s : ByteArray} (h : nameTo s s.size) : nameB s = decide (1 ≤ s.size ∧ s.size ≤ 12) := by
  unfold nameB
  simp [h]
open Classical in
theorem nameB_size {s : ByteArray} (h : ¬ (1 ≤ s.size ∧ s.size ≤ 12)) : nameB s = false := by
  unfold nameB
  exact decide_eq_false fun h' => h h'.2
end Go.Proofs.Ytefkhknfjohnaaa
namespace Go.Proofs.Ytefkhknfjohnaaa
open Go Go.RowKit
/-- Whether the string is in the list. -/
def hasS (ss : List ByteArray) (x : ByteArray) : Bool := ss.any fun y => decide (y = x)
theorem hasS_true {ss : List ByteArray} {x : ByteArray} (h : x ∈ ss) : hasS ss x = true := by
  unfold hasS
  rw [List.any_eq_true]
  exact ⟨x, h, by simp⟩
theorem hasS_false {ss : List ByteArray} {x : ByteArray} (h : ¬ x ∈ ss) : hasS ss x = false := by
  unfold hasS
  rw [List.any_eq_false]
  intro y hy e
  exact h ((of_decide_eq_true e) ▸ hy)
set_option maxRecDepth 100000 in
theorem has_spec (a : Option Addr) (ss : List ByteArray) (cap : Nat) (x : ByteArray) (w : World) (hl : ss.length ≤ 1073741824) (h : RdS a ss w) :
    Calls Try.prog 118 #[.slice a ss.length cap, .string x] w fun e w' => e = .returned (.bool (hasS ss x)) ∧ w = w' := by
  have H := Lib.hid h
  clear h
  go_enter Try.func118, Try.ntmps118
  go_wp2
  go_loop [5] (fun i => ∃ k : Nat, k ≤ ss.length ∧ i = .int .i64 k ∧ Hid (∀ j (h : j < ss.length), j < k → ss[j] ≠ x)) (fun i => ss.length - (intOf i).toNat)
  case atStart => exact ⟨0, Nat.zero_le _, rfl, fun j _ hj => by omega⟩
  case round =>
    obtain ⟨k, hk, rfl, hn⟩ := hrel
    have k0 : (0 : Int) ≤ (k : Int) := by omega
    by_cases hlt : k < ss.length
    · have k1 : (k : Int) < (ss.length : Int) := by omega
      obtain ⟨b, off, rfl, hc⟩ := H.out k hlt
      by_cases he : ss[k] = x
      · have hr : Hid (x ∈ ss) := he ▸ List.getElem_mem hlt
        have g1 := str_eq he
        generalize ss[k] = y at hc g1
        clear he
        go_wp2
        go_ret
        exact ⟨ret_bool (hasS_true hr.out).symm, rfl⟩
      · have g1 := str_ne he
        have hn2 : Hid (∀ j (h : j < ss.length), j < k + 1 → ss[j] ≠ x) := fun j hj hjk => by
          by_cases e : j = k
          · subst e; exact he
          · exact hn.out j hj (by omega)
        generalize ss[k] = y at hc g1
        clear he
        go_wp2
        go_round
        case rel => exact ⟨k + 1, by omega, by go_num, hn2⟩
        case measure => simp [intOf]; omega
    · have k1 : ¬ (k : Int) < (ss.length : Int) := by omega
      have hr : Hid (¬ x ∈ ss) := fun hm => by
        obtain ⟨j, hj, e⟩ := List.getElem_of_mem hm
        exact hn.out j hj (by omega) e
      go_wp2
      go_ret
      exact ⟨ret_bool (hasS_false hr.out).symm, rfl⟩
end Go.Proofs.Ytefkhknfjohnaaa
namespace Go.Proofs.Ytefkhknfjohnaaa
open Go Go.RowKit
theorem in_spec (x : Int) (b : Bool) (w : World) (hb : decide (1 ≤ x ∧ x ≤ 12) = b) :
    Calls Try.prog 85 #[.int .i64 x, .int .i64 1, .int .i64 12] w fun e w' => e = .returned (.bool b) ∧ w = w' := by
  subst hb
  by_cases ha : 1 ≤ x
  · by_cases hc : x ≤ 12
    · go_enter Try.func85, Try.ntmps85
      go_wp2
      go_ret
      exact ⟨ret_bool (decide_eq_true ⟨ha, hc⟩).symm, rfl⟩
    · have hd : decide (x ≤ 12) = false := by simp [hc]
      go_enter Try.func85, Try.ntmps85
      go_wp2
      go_ret
      exact ⟨rfl, rfl⟩
  · have hd : decide (1 ≤ x) = false := by simp [ha]
    go_enter Try.func85, Try.ntmps85
    go_wp2
    go_ret
    exact ⟨rfl, rfl⟩
theorem in_impl (x : Int) (b : Bool) (w : World) (hb : decide (1 ≤ x ∧ x ≤ 12) = b) :
    Calls Try.prog 34 #[.int .i64 x, .int .i64 1, .int .i64 12] w fun e w' => e = .returned (.bool b) ∧ w = w' := by
  subst hb
  by_cases ha : 1 ≤ x
  · by_cases hc : x ≤ 12
    · go_enter Try.func34, Try.ntmps34
      go_wp2
      go_ret
      exact ⟨ret_bool (decide_eq_true ⟨ha, hc⟩).symm, rfl⟩
    · have hd : decide (x ≤ 12) = false := by simp [hc]
      go_enter Try.func34, Try.ntmps34
      go_wp2
      go_ret
      exact ⟨rfl, rfl⟩
  · have hd : decide (1 ≤ x) = false := by simp [ha]
    go_enter Try.func34, Try.ntmps34
    go_wp2
    go_ret
    exact ⟨rfl, rfl⟩
theorem let_impl (x : Int) (b : Bool) (w : World) (hb : decide (97 ≤ x ∧ x ≤ 122) = b) :
    Calls Try.prog 111 #[.int .i32 x] w fun e w' => e = .returned (.bool b) ∧ w = w' := by
  subst hb
  by_cases ha : 97 ≤ x
  · by_cases hc : x ≤ 122
    · go_enter Try.func111, Try.ntmps111
      go_wp2
      go_ret
      exact ⟨ret_bool (decide_eq_true ⟨ha, hc⟩).symm, rfl⟩
    · have hd : decide (x ≤ 122) = false := by simp [hc]
      go_enter Try.func111, Try.ntmps111
      go_wp2
      go_ret
      exact ⟨rfl, rfl⟩
  · have hd : decide (97 ≤ x) = false := by simp [ha]
    go_enter Try.func111, Try.ntmps111
    go_wp2
    go_ret
    exact ⟨rfl, rfl⟩
theorem dig_impl (x : Int) (b : Bool) (w : World) (hb : decide (48 ≤ x ∧ x ≤ 57) = b) :
    Calls Try.prog 112 #[.int .i32 x] w fun e w' => e = .returned (.bool b) ∧ w = w' := by
  subst hb
  by_cases ha : 48 ≤ x
  · by_cases hc : x ≤ 57
    · go_enter Try.func112, Try.ntmps112
      go_wp2
      go_ret
      exact ⟨ret_bool (decide_eq_true ⟨ha, hc⟩).symm, rfl⟩
    · have hd : decide (x ≤ 57) = false := by simp [hc]
      go_enter Try.func112, Try.ntmps112
      go_wp2
      go_ret
      exact ⟨rfl, rfl⟩
  · have hd : decide (48 ≤ x) = false := by simp [ha]
    go_enter Try.func112, Try.ntmps112
    go_wp2
    go_ret
    exact ⟨rfl, rfl⟩
theorem not_name {x k : Nat} {c : UInt8} (hc : c.toNat = x) (h1 : ¬ (97 ≤ x ∧ x ≤ 122)) (h2 : ¬ (48 ≤ x ∧ x ≤ 57) ∨ k = 0) : ¬ nameAt c k := fun h => by
  unfold nameAt at h
  omega
theorem is_name {x k : Nat} {c : UInt8} (hc : c.toNat = x) (h : (97 ≤ x ∧ x ≤ 122) ∨ ((48 ≤ x ∧ x ≤ 57) ∧ k ≠ 0)) : nameAt c k := by
  unfold nameAt
  omega
set_option maxRecDepth 100000 in
set_option maxHeartbeats 1000000 in
theorem name_spec (s : ByteArray) (w : World) (hs : s.size ≤ 1073741824) :
    Calls Try.prog 98 #[.string s] w fun e w' => e = .returned (.bool (nameB s)) ∧ w = w' := by
  go_enter Try.func98, Try.ntmps98
  go_wp2
  go_loop [3, 4, 5] (fun i _ _ => ∃ k : Nat, k ≤ s.size ∧ i = .int .i64 k ∧ Hid (nameTo s k)) (fun i _ _ => s.size - (intOf i).toNat)
  case atStart => exact ⟨0, Nat.zero_le _, rfl, fun i _ h => by omega⟩
  case round =>
    obtain ⟨k, hk, rfl, hn⟩ := hrel
    have k0 : (0 : Int) ≤ (k : Int) := by omega
    by_cases hlt : k < s.size
    · have k1 : (k : Int) < (s.size : Int) := by omega
      have hgood := fun h => Lib.hid (hn.out.next hlt (is_name (k := k) rfl h))
      have hbad := fun h1 h2 => Lib.hid (nameB_bad hlt (not_name (k := k) rfl h1 h2))
      generalize hx : s[k].toNat = x at hgood hbad
      have hcase : x < 48 ∨ (48 ≤ x ∧ x ≤ 57 ∧ k = 0) ∨ (48 ≤ x ∧ x ≤ 57 ∧ k ≠ 0) ∨ (58 ≤ x ∧ x < 97) ∨ (97 ≤ x ∧ x ≤ 122) ∨ 122 < x := by omega
      rcases hcase with h | ⟨h, h', h0⟩ | ⟨h, h', h0⟩ | ⟨h, h'⟩ | ⟨h, h'⟩ | h
      · have hr := hbad (by omega) (.inl (by omega))
        clear hgood hbad
        have p1 : decide ((97 : Int) ≤ (x : Int)) = false := by simp; omega
        have p2 : decide ((48 : Int) ≤ (x : Int)) = false := by simp; omega
        go_wp2
        go_ret
        exact ⟨ret_bool hr.out.symm, rfl⟩
      · have hr := hbad (by omega) (.inr h0)
        clear hgood hbad
        subst h0
        have p1 : decide ((97 : Int) ≤ (x : Int)) = false := by simp; omega
        have p2 : (48 : Int) ≤ (x : Int) := by omega
        have p3 : (x : Int) ≤ 57 := by omega
        go_wp2
        go_ret
        exact ⟨ret_bool hr.out.symm, rfl⟩
      · have hr := hgood (.inr ⟨⟨h, h'⟩, h0⟩)
        clear hgood hbad
        have p1 : decide ((97 : Int) ≤ (x : Int)) = false := by simp; omega
        have p2 : (48 : Int) ≤ (x : Int) := by omega
        have p3 : (x : Int) ≤ 57 := by omega
        have p4 : ((k : Int) == 0) = false := by rw [beq_eq_false_iff_ne]; omega
        go_wp2
        go_round
        case rel => exact ⟨k + 1, by omega, by go_num, hr⟩
        case measure => simp [intOf]; omega
      · have hr := hbad (by omega) (.inl (by omega))
        clear hgood hbad
        have p1 : decide ((97 : Int) ≤ (x : Int)) = false := by simp; omega
        have p2 : (48 : Int) ≤ (x : Int) := by omega
        have p3 : decide ((x : Int) ≤ 57) = false := by simp; omega
        go_wp2
        go_ret
        exact ⟨ret_bool hr.out.symm, rfl⟩
      · have hr := hgood (.inl ⟨h, h'⟩)
        clear hgood hbad
        have p1 : (97 : Int) ≤ (x : Int) := by omega
        have p2 : (48 : Int) ≤ (x : Int) := by omega
        have p3 : decide ((x : Int) ≤ 57) = false := by simp; omega
        have p4 : (x : Int) ≤ 122 := by omega
        go_wp2
        go_round
        case rel => exact ⟨k + 1, by omega, by go_num, hr⟩
        case measure => simp [intOf]; omega
      · have hr := hbad (by omega) (.inl (by omega))
        clear hgood hbad
        have p1 : (97 : Int) ≤ (x : Int) := by omega
        have p2 : (48 : Int) ≤ (x : Int) := by omega
        have p3 : decide ((x : Int) ≤ 57) = false := by simp; omega
        have p4 : decide ((x : Int) ≤ 122) = false := by simp; omega
        go_wp2
        go_ret
        exact ⟨ret_bool hr.out.symm, rfl⟩
    · have k1 : ¬ (k : Int) < (s.size : Int) := by omega
      obtain rfl : k = s.size := by omega
      have hr := Lib.hid (nameB_end hn.out)
      go_wp2_with fail
      refine (in_spec (s.size : Int) (nameB s) _ (by rw [hr.out]; simp only [decide_eq_decide]; omega)).mono ?_
      rintro e w1 ⟨rfl, rfl⟩
      go_wp2
      go_ret
      exact ⟨rfl, rfl⟩
/-- The state between two characters of a name. -/
def NameRel (s : ByteArray) (w W : World) : Prop := ∃ pos : Nat, pos ≤ s.size ∧ W = w.iter s pos ∧ nameTo s pos
theorem below_iter (w : World) (s : ByteArray) (pos : Nat) : Below w.heap.size w (w.iter s pos) := (Below.refl _ _).alloc (Nat.le_refl _) _
theorem iter_at (w : World) (s : ByteArray) (pos : Nat) : (w.iter s pos).iterPos w.heap.size = pos := by simp [World.iterPos, World.iter_heap]
set_option maxRecDepth 100000 in
set_option maxHeartbeats 1000000 in
theorem name_impl (s : ByteArray) (w : World) (hs : s.size ≤ 1073741824) :
    Calls Try.prog 100 #[.string s] w fun e w' => e = .returned (.bool (nameB s)) ∧ Below w.heap.size w w' := by
  by_cases hsz : 1 ≤ s.size ∧ s.size ≤ 12
  · go_enter Try.func100, Try.ntmps100
    go_wp2_with fail
    refine (in_impl (s.size : Int) true _ (by simp; omega)).mono ?_
    rintro e w1 ⟨rfl, rfl⟩
    go_wp2
    go_loopw [3, 4] (fun _ _ W => NameRel s w W) (fun _ _ W => s.size - W.iterPos w.heap.size)
    case atStart => exact ⟨0, Nat.zero_le _, rfl, fun i _ h => by omega⟩
    case round =>
      obtain ⟨pos, hp, rfl, hn⟩ := hrel
      have HN := Lib.hid hn
      clear hn
      by_cases hlt : pos < s.size
      · have hgood := fun h => Lib.hid (HN.out.next hlt (is_name (k := pos) rfl h))
        have hbad := fun h1 h2 => Lib.hid (nameB_bad hlt (not_name (k := pos) rfl h1 h2))
        by_cases ha : s[pos].toNat < 128
        · have hnx := fun ty => run_next_ascii (P := Try.prog) w s pos ty hlt ha
          generalize hx : s[pos].toNat = x at hgood hbad hnx ha
          by_cases hl : 97 ≤ x ∧ x ≤ 122
          · have hr := hgood (.inl hl)
            clear hgood hbad
            go_wp2_with (go_at_call 111; refine (let_impl (x : Int) true _ (by simp; omega)).mono ?_; rintro e w1 ⟨rfl, rfl⟩)
            go_wp2
            go_roundw
            case rel => exact ⟨pos + 1, by omega, rfl, hr.out⟩
            case measure => rw [iter_at, iter_at]; omega
          · by_cases h0 : pos = 0
            · have hr := hbad hl (.inr h0)
              clear hgood hbad
              subst h0
              go_wp2_with (go_at_call 111; refine (let_impl (x : Int) false _ (by simp; omega)).mono ?_; rintro e w1 ⟨rfl, rfl⟩)
              go_wp2
              go_ret
              exact ⟨ret_bool hr.out.symm, below_iter _ _ _⟩
            · have g0 : ((pos : Int) == 0) = false := by rw [beq_eq_false_iff_ne]; omega
              by_cases hd : 48 ≤ x ∧ x ≤ 57
              · have hr := hgood (.inr ⟨hd, h0⟩)
                clear hgood hbad
                go_wp2_with (first | (go_at_call 111; refine (let_impl (x : Int) false _ (by simp; omega)).mono ?_; rintro e w1 ⟨rfl, rfl⟩) | (go_at_call 112; refine (dig_impl (x : Int) true _ (by simp; omega)).mono ?_; rintro e w1 ⟨rfl, rfl⟩))
                go_wp2
                go_roundw
                case rel => exact ⟨pos + 1, by omega, rfl, hr.out⟩
                case measure => rw [iter_at, iter_at]; omega
              · have hr := hbad hl (.inl hd)
                clear hgood hbad
                go_wp2_with (first | (go_at_call 111; refine (let_impl (x : Int) false _ (by simp; omega)).mono ?_; rintro e w1 ⟨rfl, rfl⟩) | (go_at_call 112; refine (dig_impl (x : Int) false _ (by simp; omega)).mono ?_; rintro e w1 ⟨rfl, rfl⟩))
                go_wp2
                go_ret
                exact ⟨ret_bool hr.out.symm, below_iter _ _ _⟩
        · have hr := hbad (by omega) (.inl (by omega))
          have hnx := fun ty => run_next_any (P := Try.prog) w s pos ty hlt
          have hhi := (decode_high s pos hlt (by omega)).1
          clear hgood hbad
          generalize (Utf8.decode s pos).1 = x at hnx hhi
          generalize (Utf8.decode s pos).2 = y at hnx
          by_cases h0 : pos = 0
          · subst h0
            go_wp2_with (go_at_call 111; refine (let_impl (x : Int) false _ (by simp; omega)).mono ?_; rintro e w1 ⟨rfl, rfl⟩)
            go_wp2
            go_ret
            exact ⟨ret_bool hr.out.symm, below_iter _ _ _⟩
          · have g0 : ((pos : Int) == 0) = false := by rw [beq_eq_false_iff_ne]; omega
            go_wp2_with (first | (go_at_call 111; refine (let_impl (x : Int) false _ (by simp; omega)).mono ?_; rintro e w1 ⟨rfl, rfl⟩) | (go_at_call 112; refine (dig_impl (x : Int) false _ (by simp; omega)).mono ?_; rintro e w1 ⟨rfl, rfl⟩))
            go_wp2
            go_ret
            exact ⟨ret_bool hr.out.symm, below_iter _ _ _⟩
      · have hnx := fun ty => run_next_end (P := Try.prog) w s pos ty hlt
        obtain rfl : pos = s.size := by omega
        have hr : Hid (nameB s = true) := by
          show _ = _
          rw [nameB_end HN.out]
          exact decide_eq_true hsz
        go_wp2
        go_ret
        exact ⟨ret_bool hr.out.symm, below_iter _ _ _⟩
  · have hr := Lib.hid (nameB_size hsz)
    go_enter Try.func100, Try.ntmps100
    go_wp2_with fail
    refine (in_impl (s.size : Int) false _ (by simp; omega)).mono ?_
    rintro e w1 ⟨rfl, rfl⟩
    go_wp2
    go_ret
    exact ⟨ret_bool hr.out.symm, Below.refl _ _⟩
end Go.Proofs.Ytefkhknfjohnaaa
namespace Go.Proofs.Ytefkhknfjohnaaa
open Go Go.RowKit
theorem root_spec (a : Option Addr) (rs : List RuleV) (cap : Nat) (w : World) (hl : rs.length ≤ 1073741824) (_h : RdR a rs w) :
    Calls Try.prog 59 #[.agg #[.slice a rs.length cap]] w fun e w' => e = .returned (.int .i64 ((rs.length : Int) - 1)) ∧ Below w.heap.size w w' := by
  go_enter Try.func59, Try.ntmps59
  go_wp2
  go_ret
  exact ⟨rfl, (Below.refl _ _).alloc (Nat.le_refl _) _⟩
theorem in_any (x lo hi : Int) (b : Bool) (w : World) (hb : decide (lo ≤ x ∧ x ≤ hi) = b) :
    Calls Try.prog 85 #[.int .i64 x, .int .i64 lo, .int .i64 hi] w fun e w' => e = .returned (.bool b) ∧ w = w' := by
  subst hb
  by_cases ha : lo ≤ x
  · by_cases hc : x ≤ hi
    · go_enter Try.func85, Try.ntmps85
      go_wp2
      go_ret
      exact ⟨ret_bool (decide_eq_true ⟨ha, hc⟩).symm, rfl⟩
    · have hd : decide (x ≤ hi) = false := by simp [hc]
      go_enter Try.func85, Try.ntmps85
      go_wp2
      go_ret
      first | exact ⟨rfl, rfl⟩ | exact ⟨ret_bool (decide_eq_false (by omega)).symm, rfl⟩ | exact ⟨ret_bool (by simp; omega), rfl⟩
  · have hd : decide (lo ≤ x) = false := by simp [ha]
    go_enter Try.func85, Try.ntmps85
    go_wp2
    go_ret
    first | exact ⟨rfl, rfl⟩ | exact ⟨ret_bool (decide_eq_false (by omega)).symm, rfl⟩ | exact ⟨ret_bool (by simp; omega), rfl⟩
/-- 256 to a small power. -/
def pow256 (n : Int) : Int := if n = 1 then 256 else if n = 2 then 65536 else if n = 3 then 16777216 else 4294967296
theorem pow256_bounds (n : Int) : 256 ≤ pow256 n ∧ pow256 n ≤ 4294967296 := by
  unfold pow256
  by_cases h1 : n = 1
  · rw [if_pos h1]; omega
  · rw [if_neg h1]
    by_cases h2 : n = 2
    · rw [if_pos h2]; omega
    · rw [if_neg h2]
      by_cases h3 : n = 3
      · rw [if_pos h3]; omega
      · rw [if_neg h3]; omega
theorem power_spec (n : Int) (w : World) (h1 : 1 ≤ n) (h2 : n ≤ 4) :
    Calls Try.prog 68 #[.int .i64 n] w fun e w' => e = .returned (.int .i64 (pow256 n)) ∧ w = w' := by
  rcases (by omega : n = 1 ∨ n = 2 ∨ n = 3 ∨ n = 4) with rfl | rfl | rfl | rfl <;>
  · go_enter Try.func68, Try.ntmps68
    go_wp2
    go_ret
    exact ⟨rfl, rfl⟩
/-- The largest number of the integer rule at an index, or -1. -/
def limitAt (rs : List RuleV) (k : Int) : Int :=
  if h : 0 ≤ k ∧ k < rs.length then (let r := rs[k.toNat]'(by omega); if r.kind = 1 ∧ 1 ≤ r.size ∧ r.size ≤ 4 then pow256 r.size - 1 else -1) else -1
theorem limitAt_out {rs : List RuleV} {k : Int} (h : ¬ (0 ≤ k ∧ k < rs.length)) : limitAt rs k = -1 := by unfold limitAt; rw [dif_neg h]
theorem limitAt_in {rs : List RuleV} {k : Nat} (h : k < rs.length) : limitAt rs (k : Int) = if rs[k].kind = 1 ∧ 1 ≤ rs[k].size ∧ rs[k].size ≤ 4 then pow256 rs[k].size - 1 else -1 := by
  unfold limitAt
  rw [dif_pos (by omega)]
  simp only [Int.toNat_natCast]
set_option maxRecDepth 100000 in
set_option maxHeartbeats 1000000 in
theorem limit_spec (a : Option Addr) (rs : List RuleV) (cap : Nat) (k : Int) (w : World) (hl : rs.length ≤ 1073741824) (h : RdR a rs w) :
    Calls Try.prog 108 #[.agg #[.slice a rs.length cap], .int .i64 k] w fun e w' => e = .returned (.int .i64 (limitAt rs k)) ∧ Below w.heap.size w w' := by
  have hB : Below w.heap.size w (w.alloc (.cells #[.slice a rs.length cap] 38)) := (Below.refl _ _).alloc (Nat.le_refl _) _
  have H := Lib.hid (h.below hB)
  have HB := Lib.hid hB
  clear h hB
  by_cases hk : 0 ≤ k ∧ k < rs.length
  · obtain ⟨n, rfl⟩ : ∃ n : Nat, k = (n : Int) := ⟨k.toNat, by omega⟩
    have hlt : n < rs.length := by omega
    have k0 : (0 : Int) ≤ (n : Int) := by omega
    have k1 : (n : Int) < (rs.length : Int) := by omega
    have hr := Lib.hid (limitAt_in hlt)
    obtain ⟨b, off, a4, c4, a5, c5, a6, c6, a7, c7, rfl, ⟨-, d1, d2, -⟩, -⟩ := H.out.at n hlt
    generalize rs[n].kind = kd at d1 hr
    generalize rs[n].size = sz at d2 hr
    by_cases hkd : kd = 1
    · subst hkd
      by_cases hsz : 1 ≤ sz ∧ sz ≤ 4
      · have hp := pow256_bounds sz
        have hres : Hid (limitAt rs (n : Int) = pow256 sz - 1) := by
          show _ = _
          rw [hr.out, if_pos ⟨rfl, hsz⟩]
        clear hr
        go_enter Try.func108, Try.ntmps108
        go_wp2_with (first | (go_at_call 85; refine (in_any _ _ _ true _ (by simp; omega)).mono ?_; rintro e w1 ⟨rfl, rfl⟩) | (go_at_call 68; refine (power_spec _ _ (by omega) (by omega)).mono ?_; rintro e w1 ⟨rfl, rfl⟩))
        go_ret
        exact ⟨ret_int hres.out.symm, HB.out⟩
      · go_enter Try.func108, Try.ntmps108
        go_wp2_with fail
        refine (in_any _ _ _ true _ (by simp; omega)).mono ?_
        rintro e w1 ⟨rfl, rfl⟩
        go_wp2_with fail
        refine (in_any _ _ _ false _ (by simp; omega)).mono ?_
        rintro e w1 ⟨rfl, rfl⟩
        go_wp2
        go_ret
        exact ⟨ret_int (by rw [hr.out, if_neg (fun h => hsz h.2)]), HB.out⟩
    · have g1 : (kd != 1) = true := by simpa using hkd
      go_enter Try.func108, Try.ntmps108
      go_wp2_with fail
      refine (in_any _ _ _ true _ (by simp; omega)).mono ?_
      rintro e w1 ⟨rfl, rfl⟩
      go_wp2
      go_ret
      exact ⟨ret_int (by rw [hr.out, if_neg (fun h => hkd h.1)]), HB.out⟩
  · have hr := Lib.hid (limitAt_out hk)
    go_enter Try.func108, Try.ntmps108
    go_wp2_with fail
    refine (in_any _ _ _ false _ (by simp; omega)).mono ?_
    rintro e w1 ⟨rfl, rfl⟩
    go_wp2
    go_ret
    exact ⟨ret_int hr.out.symm, HB.out⟩
/-- The names of the kinds, from 0 on. -/
def kindNames : List ByteArray := [⟨#[]⟩, ⟨#[105, 110, 116, 101, 103, 101, 114]⟩, ⟨#[99, 111, 110, 115, 116]⟩, ⟨#[102, 105, 120, 101, 100]⟩, ⟨#[115, 105, 122, 101, 100]⟩, ⟨#[97, 114, 114, 97, 121]⟩, ⟨#[115, 101, 113, 117, 101, 110, 99, 101]⟩, ⟨#[99, 104, 111, 105, 99, 101]⟩, ⟨#[111, 112, 116, 105, 111, 110]⟩, ⟨#[99, 104, 101, 99, 107, 101, 100]⟩, ⟨#[116, 101, 114, 109, 105, 110, 97, 116, 101, 100]⟩]
/-- The name of a kind. -/
def kindName (k : Int) : ByteArray := if 1 ≤ k ∧ k ≤ 10 then kindNames.getD k.toNat ⟨#[]⟩ else ⟨#[]⟩
end Go.Proofs.Ytefkhknfjohnaaa
namespace Go.Proofs.Ytefkhknfjohnaaa
open Go Go.RowKit
/-- The first k strings are names, each not among those ahead of it. -/
def namesTo (ss : List ByteArray) (k : Nat) : Prop := ∀ i (h : i < ss.length), i < k → nameB ss[i] = true ∧ hasS (ss.take i) ss[i] = false
open Classical in
/-- Whether the strings are names of parts. -/
noncomputable def namesB (ss : List ByteArray) : Bool := decide (namesTo ss ss.length ∧ 1 ≤ ss.length ∧ ss.length ≤ 8)
theorem namesTo.next {ss : List ByteArray} {k : Nat} (h : namesTo ss k) (hk : k < ss.length) (h1 : nameB ss[k] = true) (h2 : hasS (ss.take k) ss[k] = false) : namesTo ss (k + 1) := fun i hi hik => by
  by_cases e : i = k
  · subst e; exact ⟨h1, h2⟩
  · exact h i hi (by omega)
open Classical in
theorem namesB_bad {ss : List ByteArray} {k : Nat} (hk : k < ss.length) (h : ¬ (nameB ss[k] = true ∧ hasS (ss.take k) ss[k] = false)) : namesB ss = false := by
  unfold namesB
  exact decide_eq_false fun h' => h (h'.1 k hk hk)
open Classical in
theorem namesB_end {ss : List ByteArray} (h : namesTo ss ss.length) : namesB ss = decide (1 ≤ ss.length ∧ ss.length ≤ 8) := by
  unfold namesB
  simp [h]
theorem RdF.take {α : Type} {f : α → Value} {a : Option Addr} {xs : List α} {w : World} (h : RdF f a xs w) (n : Nat) : RdF f a (xs.take n) w := fun j hj => by
  have hj2 : j < xs.length := by simp at hj; omega
  obtain ⟨b, off, ha, hc⟩ := h j hj2
  exact ⟨b, off, ha, by rw [List.getElem_take]; exact hc⟩
theorem has_take (a : Option Addr) (ss : List ByteArray) (k cap : Nat) (x : ByteArray) (w : World) (hl : ss.length ≤ 1073741824) (hk : k ≤ ss.length) (h : RdS a ss w) :
    Calls Try.prog 118 #[.slice a k cap, .string x] w fun e w' => e = .returned (.bool (hasS (ss.take k) x)) ∧ w' = w := by
  have e : (ss.take k).length = k := by simp; omega
  have h2 := has_spec a (ss.take k) cap x w (by omega) (h.take k)
  rw [e] at h2
  exact h2.mono fun _ _ ⟨h3, h4⟩ => ⟨h3, h4.symm⟩
set_option maxRecDepth 100000 in
set_option maxHeartbeats 1000000 in
theorem names_spec (a : Option Addr) (ss : List ByteArray) (cap : Nat) (w : World) (hl : ss.length ≤ 1048576) (hcap : ss.length ≤ cap) (hs : ∀ s ∈ ss, s.size ≤ 1048576) (h : RdS a ss w) :
    Calls Try.prog 109 #[.slice a ss.length cap] w fun e w' => e = .returned (.bool (namesB ss)) ∧ ∃ n, w' = w.drewN n := by
  have H := Lib.hid h
  have HS := Lib.hid hs
  clear h hs
  go_enter Try.func109, Try.ntmps109
  go_wp2
  go_loopw [3] (fun i W => ∃ k n : Nat, k ≤ ss.length ∧ i = .int .i64 k ∧ Hid (W = w.drewN n) ∧ Hid (namesTo ss k)) (fun i _ => ss.length - (intOf i).toNat)
  case atStart => exact ⟨0, 0, Nat.zero_le _, rfl, rfl, fun i _ h => by omega⟩
  case round =>
    obtain ⟨k, n, hk, rfl, hw, hn⟩ := hrel
    have Hr : Hid (RdS a ss wr) := by
      show RdF _ _ _ _
      rw [hw.out]; exact H.out
    have HE : ∀ m, Hid (wr.drewN m = w.drewN (n + m)) := fun m => by
      show _ = _
      rw [hw.out, World.drewN_drewN]
    have k0 : (0 : Int) ≤ (k : Int) := by omega
    by_cases hlt : k < ss.length
    · have k1 : (k : Int) < (ss.length : Int) := by omega
      have k2 : (k : Int) ≤ (cap : Int) := by omega
      have hsz := HS.out _ (List.getElem_mem hlt)
      have HQ1 : Hid (∀ m, Calls Try.prog 98 #[.string ss[k]] (wr.drewN m) fun e w' => e = .returned (.bool (nameB ss[k])) ∧ w' = wr.drewN m) := fun m => (name_spec ss[k] (wr.drewN m) (by omega)).mono fun _ _ ⟨h3, h4⟩ => ⟨h3, h4.symm⟩
      have HQ2 : Hid (∀ m, Calls Try.prog 118 #[.slice a k cap, .string ss[k]] (wr.drewN m) fun e w' => e = .returned (.bool (hasS (ss.take k) ss[k])) ∧ w' = wr.drewN m) := fun m => has_take a ss k cap ss[k] (wr.drewN m) (by omega) hk Hr.out
      have hbad := fun h => Lib.hid (namesB_bad hlt h)
      have hgood := fun h1 h2 => Lib.hid (hn.out.next hlt h1 h2)
      obtain ⟨b, off, rfl, hc⟩ := Hr.out k hlt
      generalize nameB ss[k] = b1 at HQ1 hbad hgood
      generalize hasS (ss.take k) ss[k] = b2 at HQ2 hbad hgood
      generalize ss[k] = x at HQ1 HQ2 hc hsz
      cases b1 with
      | false =>
        have hr := hbad (by simp)
        clear hbad hgood
        go_wp2
        go_quiet ((go_at_call 98; with_reducible exact Calls.quiet_of_same (HQ1.out _)))
        go_wp2
        go_ret
        exact ⟨ret_bool hr.out.symm, _, (HE _).out⟩
      | true =>
        cases b2 with
        | true =>
          have hr := hbad (by simp)
          clear hbad hgood
          go_wp2
          go_quiet (first | (go_at_call 98; with_reducible exact Calls.quiet_of_same (HQ1.out _)) | (go_at_call 118; with_reducible exact Calls.quiet_of_same (HQ2.out _)))
          go_wp2
          go_ret
          exact ⟨ret_bool hr.out.symm, _, (HE _).out⟩
        | false =>
          have hr := hgood rfl rfl
          clear hbad hgood
          go_wp2
          go_quiet (first | (go_at_call 98; with_reducible exact Calls.quiet_of_same (HQ1.out _)) | (go_at_call 118; with_reducible exact Calls.quiet_of_same (HQ2.out _)))
          go_wp2
          go_roundw
          case rel => exact ⟨k + 1, _, by omega, by go_num, HE _, hr⟩
          case measure => simp [intOf]; omega
    · have k1 : ¬ (k : Int) < (ss.length : Int) := by omega
      obtain rfl : k = ss.length := by omega
      have hr := Lib.hid (namesB_end hn.out)
      go_wp2_with fail
      refine (in_any (ss.length : Int) 1 8 (namesB ss) _ (by rw [hr.out]; simp only [decide_eq_decide]; omega)).mono ?_
      rintro e w1 ⟨rfl, rfl⟩
      go_wp2
      go_ret
      exact ⟨rfl, _, hw.out⟩
end Go.Proofs.Ytefkhknfjohnaaa
