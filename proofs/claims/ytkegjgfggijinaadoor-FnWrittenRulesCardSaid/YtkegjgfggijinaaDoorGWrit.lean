/- The words of a line, the lines of a text: what is written is divided again. No program is walked here. What the lines of a valid description hold. No program is walked here. Drawn descriptions are valid; the contract of DrawDescription. Contracts of the model's SplitLines and Words. Contracts of DescriptionNames, of the model and of the program. Contracts of the program's Max and LongestLine (at a valid description). -/
import Derived.Test.YtkegjgfggijinaaDoorGTxt
import Derived.Test.YtkegjgfggijinaaDoorGNum
import Derived.Test.YtkegjgfggijinaaDoorValidD
import Derived.Test.YtkegjgfggijinaaDoorDescrDraw
import Derived.Test.YtkegjgfggijinaaDoorSplitSpec
import Derived.Test.YtkegjgfggijinaaDoorPushF
import Derived.Test.YtkegjgfggijinaaDoorDescrImpl
import Derived.Test.YtkegjgfggijinaaDoorStrs
import Derived.Test.YtkegjgfggijinaaDoorGFields
namespace Go.Proofs.YtkegjgfggijinaaDoor
open Go Go.RowKit
/-- A word: not empty, no byte of it is a blank or below. -/
def WordOk (x : ByteArray) : Prop := x ≠ ⟨#[]⟩ ∧ ∀ c ∈ lst x, 33 ≤ c.toNat
/-- .. and no byte of it is a colon. -/
def PlainW (x : ByteArray) : Prop := x ≠ ⟨#[]⟩ ∧ ∀ c ∈ lst x, 33 ≤ c.toNat ∧ c.toNat ≠ 58
theorem PlainW.ok {x : ByteArray} (h : PlainW x) : WordOk x := ⟨h.1, fun c hc => (h.2 c hc).1⟩
theorem lst_nil {x : ByteArray} (h : lst x = []) : x = ⟨#[]⟩ := lst_inj h
theorem nameB_plain {s : ByteArray} (h : nameB s = true) : PlainW s := by
  by_cases hs : 1 ≤ s.size ∧ s.size ≤ 12
  · refine ⟨fun e => by rw [e] at hs; exact absurd hs.1 (by decide), fun c hc => ?_⟩
    obtain ⟨j, hj, rfl⟩ := List.getElem_of_mem hc
    have hj2 : j < s.size := by rw [lst_length] at hj; exact hj
    rw [lst_at s j hj2]
    by_cases hn : nameAt s[j] j
    · rcases hn with h1 | ⟨h1, _⟩ <;> omega
    · rw [nameB_bad hj2 hn] at h; cases h
  · rw [nameB_size hs] at h; cases h
theorem nameB_short {s : ByteArray} (h : nameB s = true) : s.size ≤ 12 := by
  by_cases hs : 1 ≤ s.size ∧ s.size ≤ 12
  · exact hs.2
  · rw [nameB_size hs] at h; cases h
theorem digs_in : ∀ (v : Nat), ∀ c ∈ digs v, 48 ≤ c.toNat ∧ c.toNat ≤ 57 := fun v => by
  induction v using Nat.strongRecOn with
  | ind v ih =>
    intro c hc
    by_cases h0 : v = 0
    · rw [h0, digs_zero] at hc; simp at hc
    · rw [digs_step h0] at hc
      rcases List.mem_append.1 hc with hc | hc
      · exact ih (v / 10) (by omega) c hc
      · rw [List.mem_singleton] at hc
        rw [hc, UInt8.toNat_ofNat', Nat.mod_eq_of_lt (by omega)]
        omega
theorem digs_some {v : Nat} (h : v ≠ 0) : digs v ≠ [] := by
  rw [digs_step h]
  simp
theorem itoa_plain {n : Int} (h : 0 ≤ n) : PlainW (itoaS n) := by
  have e : lst (itoaS n) = Lib.itoa n := by show (Lib.itoa n).toArray.toList = _; simp
  rcases Int.lt_or_eq_of_le h with h1 | h1
  · have e2 := itoa_pos h1
    refine ⟨fun e3 => ?_, fun c hc => ?_⟩
    · have : lst (itoaS n) = [] := by rw [e3]; rfl
      rw [e, e2] at this
      exact digs_some (by omega) this
    · rw [e, e2] at hc
      have := digs_in _ c hc
      omega
  · subst h1
    refine ⟨fun e3 => ?_, fun c hc => ?_⟩
    · have : lst (itoaS 0) = [] := by rw [e3]; rfl
      rw [e, itoa_zero] at this
      cases this
    · rw [e, itoa_zero, List.mem_singleton] at hc
      subst hc
      decide
theorem hexD_in {n : Nat} (h : n < 16) : 48 ≤ (hexD n).toNat ∧ (hexD n).toNat ≤ 102 ∧ (hexD n).toNat ≠ 58 := by
  have hall : ∀ m : Fin 16, 48 ≤ (hexD m.val).toNat ∧ (hexD m.val).toNat ≤ 102 ∧ (hexD m.val).toNat ≠ 58 := by decide +kernel
  exact hall ⟨n, h⟩
theorem hexL_in : ∀ (bs : List UInt8), ∀ c ∈ hexL bs, 48 ≤ c.toNat ∧ c.toNat ≠ 58
  | [], c, hc => by simp [hexL] at hc
  | b :: bs, c, hc => by
    have hb := b.toNat_lt
    unfold hexL at hc
    rcases List.mem_cons.1 hc with rfl | hc
    · have := hexD_in (n := b.toNat / 16) (by omega); omega
    · rcases List.mem_cons.1 hc with rfl | hc
      · have := hexD_in (n := b.toNat % 16) (by omega); omega
      · exact hexL_in bs c hc
theorem hex_plain {bs : List UInt8} (h : bs ≠ []) : PlainW (hexS bs) := by
  have e : lst (hexS bs) = hexL bs := by show (hexL bs).toArray.toList = _; simp
  refine ⟨fun e3 => ?_, fun c hc => ?_⟩
  · have h2 : lst (hexS bs) = [] := by rw [e3]; rfl
    rw [e] at h2
    have h3 := hexL_length bs
    rw [h2] at h3
    exact h (List.eq_nil_of_length_eq_zero (by simp at h3; omega))
  · rw [e] at hc
    have := hexL_in bs c hc
    omega
theorem kind_plain {k : Int} (h : 1 ≤ k ∧ k ≤ 10) : PlainW (kindName k) := by
  have hd : ∀ m : Fin 10, kindName ((m.val : Int) + 1) ≠ (⟨#[]⟩ : ByteArray) ∧ ∀ c ∈ lst (kindName ((m.val : Int) + 1)), 33 ≤ c.toNat ∧ c.toNat ≠ 58 := by decide +kernel
  have h1 := hd ⟨(k - 1).toNat, by omega⟩
  rw [show (((⟨(k - 1).toNat, by omega⟩ : Fin 10).val : Nat) : Int) + 1 = k from by show (((k - 1).toNat : Nat) : Int) + 1 = k; omega] at h1
  exact h1
theorem little_plain : PlainW littleS := by
  have h : littleS ≠ (⟨#[]⟩ : ByteArray) ∧ ∀ c ∈ lst littleS, 33 ≤ c.toNat ∧ c.toNat ≠ 58 := by decide +kernel
  exact h
/-- A name, a colon, a name. -/
theorem three_ok {x y : ByteArray} (hx : WordOk x) (hy : WordOk y) : WordOk (x ++ ⟨#[58]⟩ ++ y) := by
  have e : lst (x ++ ⟨#[58]⟩ ++ y) = lst x ++ [58] ++ lst y := by rw [lst_append, lst_append]; rfl
  refine ⟨fun e2 => ?_, fun c hc => ?_⟩
  · have : lst (x ++ ⟨#[58]⟩ ++ y) = [] := by rw [e2]; rfl
    rw [e] at this
    simp at this
  · rw [e] at hc
    rcases List.mem_append.1 hc with hc | hc
    · rcases List.mem_append.1 hc with hc | hc
      · exact hx.2 c hc
      · rw [List.mem_singleton] at hc; subst hc; decide
    · exact hy.2 c hc
theorem three_cut {x y : ByteArray} (hx : PlainW x) : cutK 58 (x ++ ⟨#[58]⟩ ++ y) = true ∧ cutB 58 (x ++ ⟨#[58]⟩ ++ y) = y := by
  have e : lst (x ++ ⟨#[58]⟩ ++ y) = lst x ++ 58 :: lst y := by
    rw [lst_append, lst_append, List.append_assoc]; rfl
  have hc := cutL_cut (c := 58) (r := lst y) (l := lst x) (fun c hc e => (hx.2 c hc).2 (by rw [e]; rfl))
  unfold cutK cutB
  rw [e, hc]
  exact ⟨rfl, txt_lst y⟩
/-- Parts without the separator, joined, are divided again. -/
theorem split_join {c : UInt8} : ∀ {l : List (List UInt8)}, l ≠ [] → (∀ p ∈ l, ∀ x ∈ p, x ≠ c) → splitL c (joinL [c] l) = l
  | [], h, _ => absurd rfl h
  | [x], _, h => by simp only [joinL]; exact splitL_none (h x (by simp))
  | x :: y :: r, _, h => by
    simp only [joinL]
    rw [List.append_assoc, List.singleton_append, splitL_cut (h x (by simp)), split_join (by simp) (fun p hp => h p (by simp [hp]))]
/-- The words of a line are the words that were written. -/
theorem words_addWs {x : ByteArray} {ws : List ByteArray} (hx : WordOk x) (hw : ∀ y ∈ ws, WordOk y) : wordsS (addWs x ws) = x :: ws := by
  have hall : ∀ y ∈ x :: ws, WordOk y := fun y hy => by
    rcases List.mem_cons.1 hy with rfl | hy
    · exact hx
    · exact hw y hy
  rw [← join_addWs]
  generalize x :: ws = l at hall
  have hne : l.map lst ≠ [] ∨ l = [] := by cases l <;> simp
  have hp : parts 32 (joinS ⟨#[32]⟩ l) = l ∨ l = [] := by
    rcases hne with hne | hne
    · left
      unfold parts joinS
      rw [lst_txt, show lst (⟨#[32]⟩ : ByteArray) = [32] from rfl, split_join hne (fun p hp c hc e => by
        obtain ⟨y, hy, rfl⟩ := List.mem_map.1 hp
        have := (hall y hy).2 c hc
        rw [e] at this
        exact absurd this (by decide))]
      unfold txts
      rw [List.map_map]
      conv => rhs; rw [← List.map_id l]
      apply List.map_congr_left
      intro y _
      exact txt_lst y
    · exact .inr hne
  rcases hp with hp | rfl
  · unfold wordsS
    rw [hp]
    unfold fullS
    rw [List.filter_eq_self]
    intro y hy
    exact decide_eq_true (hall y hy).1
  · decide +kernel
theorem splitL_count (c : UInt8) : ∀ l : List UInt8, (splitL c l).length = l.count c + 1
  | [] => rfl
  | x :: r => by
    have ih := splitL_count c r
    unfold splitL
    by_cases hx : x = c
    · rw [if_pos hx, List.length_cons, ih, hx, List.count_cons_self]
    · rw [if_neg hx]
      have e : (x :: r).count c = r.count c := by rw [List.count_cons]; simp [hx]
      rw [e]
      cases hr : splitL c r with
      | nil => exact absurd hr (splitL_ne c r)
      | cons h t => rw [hr] at ih; simpa using ih
theorem splitL_snoc (c : UInt8) : ∀ l : List UInt8, splitL c (l ++ [c]) = splitL c l ++ [[]]
  | [] => by simp [splitL]
  | x :: r => by
    have ih := splitL_snoc c r
    rw [List.cons_append]
    show splitL c (x :: (r ++ [c])) = splitL c (x :: r) ++ [[]]
    by_cases hx : x = c
    · rw [splitL.eq_2, splitL.eq_2, if_pos hx, if_pos hx, ih]; rfl
    · rw [splitL.eq_2, splitL.eq_2, if_neg hx, if_neg hx, ih]
      cases hr : splitL c r with
      | nil => exact absurd hr (splitL_ne c r)
      | cons h t => rfl
/-- A text of k lines has k lines. -/
theorem lines_text {rs : List RuleV} (hl : ∀ k, k < rs.length → ∀ c ∈ lst (lineAt rs k), c ≠ 10) : ∀ k, 0 < k → k ≤ rs.length → (linesS (textS rs k)).length = k := fun k h0 hk => by
  have hc : ∀ k, k ≤ rs.length → (textL rs k).count 10 = k := by
    intro k
    induction k with
    | zero => intro _; rfl
    | succ k ih =>
      intro hk
      have h1 : (lineAt rs k).data.toList.count 10 = 0 := List.count_eq_zero.2 (fun hm => hl k (by omega) 10 hm rfl)
      show (textL rs k ++ (lineAt rs k).data.toList ++ [10]).count 10 = k + 1
      rw [List.count_append, List.count_append, ih (by omega), h1]
      rfl
  obtain ⟨j, rfl⟩ : ∃ j, k = j + 1 := ⟨k - 1, by omega⟩
  have e : lst (textS rs (j + 1)) = textL rs (j + 1) := by show (textL rs (j + 1)).toArray.toList = _; simp
  have hp : parts 10 (textS rs (j + 1)) = txts (splitL 10 (textL rs j ++ (lineAt rs j).data.toList) ++ [[]]) := by
    unfold parts
    rw [e, ← splitL_snoc]
    rfl
  have hlen : (parts 10 (textS rs (j + 1))).length = j + 2 := by
    unfold parts txts
    rw [List.length_map, e, splitL_count, hc (j + 1) hk]
  have hlast : lastS (parts 10 (textS rs (j + 1))) = ⟨#[]⟩ := by
    unfold lastS
    rw [hp]
    unfold txts
    rw [List.map_append]
    simp [List.getD]
    rfl
  unfold linesS
  rw [if_pos hlast, List.length_take, hlen]
  omega
end Go.Proofs.YtkegjgfggijinaaDoor
namespace Go.Proofs.YtkegjgfggijinaaDoor
open Go Go.RowKit
theorem good_all {rs : List RuleV} {i : Nat} (h : allV (kindI rs) rs) (hi : i < rs.length) : findFrom rs[i].name rs 0 = (i : Int) ∧ kidsB rs[i].kids (i : Int) = true ∧ nameB rs[i].name = true ∧ kindI rs rs[i] = true := by
  have h1 := h i hi
  rw [validAt_in hi] at h1
  simp only [Bool.and_eq_true] at h1
  exact ⟨of_decide_eq_true h1.1, h1.2.1, h1.2.2.1, h1.2.2.2⟩
theorem good_kid {rs : List RuleV} {i k : Nat} (h : allV (kindI rs) rs) (hi : i < rs.length) (hk : k < rs[i].kids.length) : ∃ q, ∃ hq : q < rs.length, rs[i].kids[k] = (q : Int) ∧ q < i ∧ kidName rs (i : Int) (k : Int) = rs[q].name := by
  obtain ⟨-, h2, -, -⟩ := good_all h hi
  unfold kidsB at h2
  rw [List.all_eq_true] at h2
  have h3 := of_decide_eq_true (h2 _ (List.getElem_mem hk))
  have hq : rs[i].kids[k] = ((rs[i].kids[k].toNat : Nat) : Int) := by omega
  exact ⟨rs[i].kids[k].toNat, by omega, hq, by omega, kidName_yes hi hk hq (by omega)⟩
theorem good_kidName {rs : List RuleV} {i k : Nat} (h : allV (kindI rs) rs) (hi : i < rs.length) (hk : k < rs[i].kids.length) : nameB (kidName rs (i : Int) (k : Int)) = true := by
  obtain ⟨q, hq, -, -, e⟩ := good_kid h hi hk
  rw [e]
  exact (good_all h hq).2.2.1
theorem kindI_bytes0 {rs : List RuleV} {r : RuleV} (h : kindI rs r = true) (hk : r.kind = 2 ∨ r.kind = 10) : r.bytes ≠ [] := by
  intro e
  rcases hk with hk | hk
  · simp [kindI, meetsB, hk, e] at h
  · simp [kindI, meetsB, hk, termB, e] at h
open Classical in
theorem kindI_names {rs : List RuleV} {r : RuleV} (h : kindI rs r = true) (hk : r.kind = 6) : 1 ≤ r.names.length ∧ ∀ s ∈ r.names, nameB s = true := by
  simp [kindI, meetsB, hk] at h
  obtain ⟨⟨h1, h2⟩, -⟩ := h
  unfold namesB at h2
  have h3 := of_decide_eq_true h2
  refine ⟨h3.2.1, fun s hs => ?_⟩
  obtain ⟨j, hj, rfl⟩ := List.getElem_of_mem hs
  exact (h3.1 j hj hj).1
theorem kindI_tags1 {rs : List RuleV} {r : RuleV} (h : kindI rs r = true) (hk : r.kind = 7) : 1 ≤ r.tags.length := by
  simp [kindI, meetsB, hk] at h
  have h1 := h.1
  unfold tagsB at h1
  rw [Bool.and_eq_true] at h1
  exact (of_decide_eq_true h1.1).2.1
/-- What a rule that is valid writes behind its name: words, at least one. -/
theorem fields_ok {rs : List RuleV} {i : Nat} (h : allV (kindI rs) rs) (hi : i < rs.length) : fieldsOf rs i rs[i] ≠ [] ∧ ∀ x ∈ fieldsOf rs i rs[i], WordOk x := by
  obtain ⟨-, -, -, hv⟩ := good_all h hi
  have hkn := fun (k : Nat) (hk : k < rs[i].kids.length) => (nameB_plain (good_kidName h hi hk)).ok
  generalize rs[i] = r at *
  rcases fields_cases hv with hk | hk | hk | hk | hk | hk | hk | hk | hk | hk
  · have hz := kindI_size hv hk
    have hp := (itoa_plain (n := r.size) (by omega)).ok
    unfold fieldsOf
    rw [if_pos hk]
    split
    · refine ⟨by simp, fun x hx => ?_⟩
      simp only [List.mem_cons, List.not_mem_nil, or_false] at hx
      rcases hx with rfl | rfl
      · exact hp
      · exact little_plain.ok
    · refine ⟨by simp, fun x hx => ?_⟩
      rw [List.mem_singleton] at hx
      rw [hx]; exact hp
  · have e : fieldsOf rs i r = [hexS r.bytes] := by unfold fieldsOf; simp [hk]
    rw [e]
    refine ⟨by simp, fun x hx => ?_⟩
    rw [List.mem_singleton] at hx
    rw [hx]; exact (hex_plain (kindI_bytes0 hv (.inl hk))).ok
  · have hz := kindI_size3 hv hk
    have e : fieldsOf rs i r = [itoaS r.size] := by unfold fieldsOf; simp [hk]
    rw [e]
    refine ⟨by simp, fun x hx => ?_⟩
    rw [List.mem_singleton] at hx
    rw [hx]; exact (itoa_plain (by omega)).ok
  · have hl := kindI_kids1 hv (.inl hk)
    have e : fieldsOf rs i r = [kidName rs (i : Int) 0] := by unfold fieldsOf; simp [hk]
    rw [e]
    refine ⟨by simp, fun x hx => ?_⟩
    rw [List.mem_singleton] at hx
    rw [hx]; exact hkn 0 (by omega)
  · have hl := kindI_kids2 hv hk
    have e : fieldsOf rs i r = [kidName rs (i : Int) 0, kidName rs (i : Int) 1] := by unfold fieldsOf; simp [hk]
    rw [e]
    refine ⟨by simp, fun x hx => ?_⟩
    simp only [List.mem_cons, List.not_mem_nil, or_false] at hx
    rcases hx with rfl | rfl
    · exact hkn 0 (by omega)
    · exact hkn 1 (by omega)
  · obtain ⟨h1, -, -⟩ := kindI_seq hv hk
    obtain ⟨h2, h3⟩ := kindI_names hv hk
    have e : fieldsOf rs i r = seqTo rs i r.names r.names.length := by unfold fieldsOf; simp [hk]
    rw [e]
    refine ⟨fun e2 => by have := seqTo_length rs i r.names r.names.length; rw [e2] at this; simp at this; omega, fun x hx => ?_⟩
    obtain ⟨j, hj, rfl⟩ := seqTo_mem hx
    exact three_ok (nameB_plain (h3 _ (getD_in hj))).ok (hkn j (by omega))
  · obtain ⟨h1, -, h3⟩ := kindI_tags hv hk
    have e : fieldsOf rs i r = kidName rs (i : Int) 0 :: chTo rs i r.tags r.tags.length := by unfold fieldsOf; simp [hk]
    rw [e]
    refine ⟨by simp, fun x hx => ?_⟩
    rcases List.mem_cons.1 hx with rfl | hx
    · exact hkn 0 (by omega)
    · obtain ⟨j, hj, rfl⟩ := chTo_mem hx
      have h4 := h3 _ (getD_in (d := 0) hj)
      exact three_ok (itoa_plain (by omega)).ok (by have := hkn (j + 1) (by omega); rw [show ((j + 1 : Nat) : Int) = (j : Int) + 1 from by omega] at this; exact this)
  · have hl := kindI_kids1 hv (.inr (.inl hk))
    have e : fieldsOf rs i r = [kidName rs (i : Int) 0] := by unfold fieldsOf; simp [hk]
    rw [e]
    refine ⟨by simp, fun x hx => ?_⟩
    rw [List.mem_singleton] at hx
    rw [hx]; exact hkn 0 (by omega)
  · have hl := kindI_kids1 hv (.inr (.inr hk))
    have e : fieldsOf rs i r = [kidName rs (i : Int) 0] := by unfold fieldsOf; simp [hk]
    rw [e]
    refine ⟨by simp, fun x hx => ?_⟩
    rw [List.mem_singleton] at hx
    rw [hx]; exact hkn 0 (by omega)
  · have e : fieldsOf rs i r = [hexS r.bytes] := by unfold fieldsOf; simp [hk]
    rw [e]
    refine ⟨by simp, fun x hx => ?_⟩
    rw [List.mem_singleton] at hx
    rw [hx]; exact (hex_plain (kindI_bytes0 hv (.inr hk))).ok
theorem good_kind {rs : List RuleV} {r : RuleV} (hv : kindI rs r = true) : 1 ≤ r.kind ∧ r.kind ≤ 10 := by
  rcases fields_cases hv with hk | hk | hk | hk | hk | hk | hk | hk | hk | hk <;> omega
theorem words_line {rs : List RuleV} {i : Nat} (h : allV (kindI rs) rs) (hi : i < rs.length) : wordsS (lineS rs i rs[i]) = rs[i].name :: kindName rs[i].kind :: fieldsOf rs i rs[i] := by
  obtain ⟨-, -, hn, hv⟩ := good_all h hi
  refine words_addWs (nameB_plain hn).ok fun y hy => ?_
  rcases List.mem_cons.1 hy with rfl | hy
  · exact (kind_plain (good_kind hv)).ok
  · exact (fields_ok h hi).2 y hy
theorem addWs_bytes {P : UInt8 → Prop} (hb : P 32) : ∀ (ws : List ByteArray) (s : ByteArray), (∀ c ∈ lst s, P c) → (∀ x ∈ ws, ∀ c ∈ lst x, P c) → ∀ c ∈ lst (addWs s ws), P c
  | [], _, hs, _ => hs
  | x :: ws, s, hs, hw => addWs_bytes hb ws (addW s x) (fun c hc => by
      unfold addW at hc
      rw [lst_append, lst_append] at hc
      rcases List.mem_append.1 hc with hc | hc
      · exact hs c hc
      · rcases List.mem_append.1 hc with hc | hc
        · have : c = 32 := by simpa [lst] using hc
          rw [this]; exact hb
        · exact hw x (by simp) c hc) (fun y hy => hw y (by simp [hy]))
theorem line_nl {rs : List RuleV} {i : Nat} (h : allV (kindI rs) rs) (hi : i < rs.length) : ∀ c ∈ lst (lineAt rs i), c ≠ 10 := by
  obtain ⟨-, -, hn, hv⟩ := good_all h hi
  rw [lineAt_in hi]
  have hall := addWs_bytes (P := fun c => 32 ≤ c.toNat) (by decide) (kindName rs[i].kind :: fieldsOf rs i rs[i]) rs[i].name (fun c hc => by have := (nameB_plain hn).2 c hc; omega) (fun x hx c hc => by
    rcases List.mem_cons.1 hx with rfl | hx
    · have := (kind_plain (good_kind hv)).2 c hc; omega
    · have := ((fields_ok h hi).2 x hx).2 c hc; omega)
  intro c hc e
  have h1 := hall c hc
  rw [e] at h1
  exact absurd h1 (by decide)
/-- Whether a word names a rule. -/
def hitB (name x : ByteArray) : Bool := decide (x = name) || (cutK 58 x && decide (cutB 58 x = name))
theorem hit_self (x : ByteArray) : hitB x x = true := by simp [hitB]
theorem hit_three {x y : ByteArray} (hx : PlainW x) : hitB y (x ++ ⟨#[58]⟩ ++ y) = true := by
  obtain ⟨h1, h2⟩ := three_cut (y := y) hx
  unfold hitB
  rw [h1, h2]
  simp
theorem seqTo_in {rs : List RuleV} {n : Nat} {ns : List ByteArray} {j : Nat} : ∀ {k}, j < k → ns.getD j ⟨#[]⟩ ++ ⟨#[58]⟩ ++ kidName rs (n : Int) (j : Int) ∈ seqTo rs n ns k
  | 0, h => by omega
  | k + 1, h => by
    by_cases e : j = k
    · subst e; exact List.mem_append_right _ (by simp)
    · exact List.mem_append_left _ (seqTo_in (by omega))
theorem chTo_in {rs : List RuleV} {n : Nat} {ts : List Int} {j : Nat} : ∀ {k}, j < k → itoaS (ts.getD j 0) ++ ⟨#[58]⟩ ++ kidName rs (n : Int) ((j : Int) + 1) ∈ chTo rs n ts k
  | 0, h => by omega
  | k + 1, h => by
    by_cases e : j = k
    · subst e; exact List.mem_append_right _ (by simp)
    · exact List.mem_append_left _ (chTo_in (by omega))
/-- Every rule that a rule uses is named by a word of its line. -/
theorem kid_hit {rs : List RuleV} {i k : Nat} (h : allV (kindI rs) rs) (hi : i < rs.length) (hk : k < rs[i].kids.length) : ∃ x ∈ fieldsOf rs i rs[i], hitB (kidName rs (i : Int) (k : Int)) x = true := by
  obtain ⟨-, -, -, hv⟩ := good_all h hi
  generalize rs[i] = r at *
  have hno : ∀ {s : RuleV}, s = onlyR s → (s.kind = 1 ∨ s.kind = 2 ∨ s.kind = 3 ∨ s.kind = 10) → s.kids = [] := fun {s} e hs => by
    rw [e]
    unfold onlyR
    rcases hs with hs | hs | hs | hs <;> simp [hs]
  have hsame : r = onlyR r := by
    unfold kindI at hv
    rw [Bool.and_eq_true] at hv
    exact (sameR_iff _ _).1 hv.2
  rcases fields_cases hv with hc | hc | hc | hc | hc | hc | hc | hc | hc | hc
  · rw [hno hsame (.inl hc)] at hk; simp at hk
  · rw [hno hsame (.inr (.inl hc))] at hk; simp at hk
  · rw [hno hsame (.inr (.inr (.inl hc)))] at hk; simp at hk
  · have hl := kindI_kids1 hv (.inl hc)
    obtain rfl : k = 0 := by omega
    have e : fieldsOf rs i r = [kidName rs (i : Int) 0] := by unfold fieldsOf; simp [hc]
    exact ⟨_, by rw [e]; exact List.mem_singleton.2 rfl, hit_self _⟩
  · have hl := kindI_kids2 hv hc
    have e : fieldsOf rs i r = [kidName rs (i : Int) 0, kidName rs (i : Int) 1] := by unfold fieldsOf; simp [hc]
    rcases (by omega : k = 0 ∨ k = 1) with rfl | rfl
    · exact ⟨kidName rs (i : Int) 0, by rw [e]; simp, hit_self _⟩
    · exact ⟨kidName rs (i : Int) 1, by rw [e]; simp, hit_self _⟩
  · obtain ⟨h1, -, -⟩ := kindI_seq hv hc
    obtain ⟨-, h3⟩ := kindI_names hv hc
    have e : fieldsOf rs i r = seqTo rs i r.names r.names.length := by unfold fieldsOf; simp [hc]
    have hkn : k < r.names.length := by omega
    exact ⟨_, by rw [e]; exact seqTo_in hkn, hit_three (nameB_plain (h3 _ (getD_in hkn)))⟩
  · obtain ⟨h1, -, h3⟩ := kindI_tags hv hc
    have e : fieldsOf rs i r = kidName rs (i : Int) 0 :: chTo rs i r.tags r.tags.length := by unfold fieldsOf; simp [hc]
    cases k with
    | zero => exact ⟨kidName rs (i : Int) 0, by rw [e]; simp, hit_self _⟩
    | succ k =>
      have hkt : k < r.tags.length := by omega
      have h4 := h3 _ (getD_in (d := 0) hkt)
      refine ⟨_, by rw [e]; exact List.mem_cons_of_mem _ (chTo_in hkt), ?_⟩
      rw [show ((k + 1 : Nat) : Int) = (k : Int) + 1 from by omega]
      exact hit_three (itoa_plain (by omega))
  · have hl := kindI_kids1 hv (.inr (.inl hc))
    obtain rfl : k = 0 := by omega
    have e : fieldsOf rs i r = [kidName rs (i : Int) 0] := by unfold fieldsOf; simp [hc]
    exact ⟨_, by rw [e]; exact List.mem_singleton.2 rfl, hit_self _⟩
  · have hl := kindI_kids1 hv (.inr (.inr hc))
    obtain rfl : k = 0 := by omega
    have e : fieldsOf rs i r = [kidName rs (i : Int) 0] := by unfold fieldsOf; simp [hc]
    exact ⟨_, by rw [e]; exact List.mem_singleton.2 rfl, hit_self _⟩
  · rw [hno hsame (.inr (.inr (.inr hc)))] at hk; simp at hk
/-- Whether a word behind the first two, up to the j-th, names a rule. -/
def foundTo (name : ByteArray) (ws : List ByteArray) (j : Nat) : Bool := ((ws.take j).drop 2).any (hitB name)
theorem foundTo_next {name : ByteArray} {ws : List ByteArray} {j : Nat} (h2 : 2 ≤ j) (hj : j < ws.length) : foundTo name ws (j + 1) = (foundTo name ws j || hitB name ws[j]) := by
  unfold foundTo
  rw [List.take_succ_eq_append_getElem hj, List.drop_append_of_le_length (by simp; omega), List.any_append]
  simp
theorem foundTo_all {name : ByteArray} {a b : ByteArray} {fs : List ByteArray} (h : ∃ x ∈ fs, hitB name x = true) : foundTo name (a :: b :: fs) (a :: b :: fs).length = true := by
  unfold foundTo
  rw [List.take_length]
  show fs.any (hitB name) = true
  rw [List.any_eq_true]
  exact h
end Go.Proofs.YtkegjgfggijinaaDoor
namespace Go.Proofs.YtkegjgfggijinaaDoor
open Go Go.RowKit
theorem kindAt_more {rs : List RuleV} {i : Nat} {k : Int} (hi : i ≤ rs.length) (h0 : 0 ≤ k) (h1 : k < (i : Int)) : kindAtB (rs.take i) k = kindAtB rs k := by
  unfold kindAtB
  rw [dif_pos (by rw [List.length_take]; omega), dif_pos (by omega)]
  rw [List.getElem_take]
theorem limitAt_more {rs : List RuleV} {i : Nat} {k : Int} (hi : i ≤ rs.length) (h0 : 0 ≤ k) (h1 : k < (i : Int)) : limitAt (rs.take i) k = limitAt rs k := by
  unfold limitAt
  rw [dif_pos (by rw [List.length_take]; omega), dif_pos (by omega)]
  simp only [List.getElem_take]
theorem kindI_more {rs : List RuleV} {r : RuleV} {i : Nat} (hi : i ≤ rs.length) (hk : kidsB r.kids (i : Int) = true) (h : kindI (rs.take i) r = true) : kindI rs r = true := by
  obtain ⟨nm, kd, sz, lt, bs, ns, ts, ks⟩ := r
  dsimp only at hk
  cases ks with
  | nil =>
    unfold kindI at h ⊢
    rw [Bool.and_eq_true] at h ⊢
    refine ⟨?_, h.2⟩
    have h1 := h.1
    unfold meetsB tagsB at h1 ⊢
    simpa using h1
  | cons k ks =>
    unfold kidsB at hk
    rw [List.all_eq_true] at hk
    have hk1 := of_decide_eq_true (hk k (by simp))
    have e1 := kindAt_more hi hk1.1 (by omega : k < (i : Int))
    have e2 := limitAt_more hi hk1.1 (by omega : k < (i : Int))
    unfold kindI at h ⊢
    unfold meetsB tagsB at h ⊢
    simp only [List.headD_cons, e1, e2] at h ⊢
    exact h
theorem find_at {rs : List RuleV} {i : Nat} (hi : i < rs.length) (hne : ∀ j (hj : j < i), rs[j].name ≠ rs[i].name) : findFrom rs[i].name rs 0 = (i : Int) := by
  have hall : ∀ d k, k + d = i → findFrom rs[i].name (rs.drop k) k = (i : Int) := by
    intro d
    induction d with
    | zero =>
      intro k e
      obtain rfl : k = i := by omega
      exact findFrom_yes hi rfl
    | succ d ih =>
      intro k e
      rw [findFrom_no (by omega) (hne k (by omega))]
      exact ih (k + 1) (by omega)
  have := hall i 0 (by omega)
  simpa using this
theorem MadeAll.take {rs : List RuleV} (h : MadeAll rs) (n : Nat) : MadeAll (rs.take n) := fun j hj => by
  have hj2 : j < n ∧ j < rs.length := by rw [List.length_take] at hj; omega
  rw [List.getElem_take, List.take_take, Nat.min_eq_left (by omega)]
  exact h j hj2.2
theorem made_valid {rs : List RuleV} (h : MadeAll rs) (hl : rs.length ≤ 9) : allV (kindI rs) rs := fun i hi => by
  have hl2 : ∀ j, j < rs.length → (rs.take j).length = j := fun j hj => by rw [List.length_take]; omega
  obtain ⟨⟨s, hs, hn⟩, hk, hv⟩ := h i hi
  rw [hl2 i hi] at hn hk
  rw [validAt_in hi]
  simp only [Bool.and_eq_true]
  refine ⟨decide_eq_true (find_at hi fun j hj => ?_), hk, ?_, kindI_more (by omega) hk hv⟩
  · obtain ⟨⟨t, ht, hn2⟩, -, -⟩ := h j (by omega)
    rw [hl2 j (by omega)] at hn2
    rw [hn, hn2]
    exact made_ne (List.mem_append_left _ ht) (List.mem_append_left _ hs) (by omega) (by omega) (by omega)
  · rw [hn]
    exact name_made (List.mem_append_left _ hs) (by omega)
theorem made_descr {rs : List RuleV} (h : MadeAll rs) (h1 : 1 ≤ rs.length) (hl : rs.length ≤ 9) : descrB (kindI rs) rs = true := descrB_yes ⟨h1, by omega⟩ (made_valid h hl)
open Classical in
theorem kindI_lens {rs : List RuleV} {r : RuleV} (h : kindI rs r = true) : Short r := by
  unfold kindI at h
  rw [Bool.and_eq_true] at h
  have hsame : r = onlyR r := (sameR_iff _ _).1 h.2
  have h1 := h.1
  unfold Short
  rcases kind_cases r.kind with hk | hk | hk | hk | hk | hk | hk | hk | hk | hk | hk
  · have e : onlyR r = ⟨r.name, r.kind, r.size, r.little, [], [], [], []⟩ := by unfold onlyR; simp [hk]
    rw [e] at hsame
    rw [hsame]; simp
  · have e : onlyR r = ⟨r.name, r.kind, 0, false, r.bytes, [], [], []⟩ := by unfold onlyR; simp [hk]
    rw [e] at hsame
    have h2 : r.bytes.length ≤ 16 := by simp [meetsB, hk] at h1; omega
    rw [hsame]; simp; omega
  · have e : onlyR r = ⟨r.name, r.kind, r.size, false, [], [], [], []⟩ := by unfold onlyR; simp [hk]
    rw [e] at hsame
    rw [hsame]; simp
  · have e : onlyR r = ⟨r.name, r.kind, 0, false, [], [], [], r.kids⟩ := by unfold onlyR; simp [hk]
    rw [e] at hsame
    have h2 : r.kids.length ≤ 2 := by simp [meetsB, hk] at h1; omega
    rw [hsame]; simp; omega
  · have e : onlyR r = ⟨r.name, r.kind, 0, false, [], [], [], r.kids⟩ := by unfold onlyR; simp [hk]
    rw [e] at hsame
    have h2 : r.kids.length ≤ 2 := by simp [meetsB, hk] at h1; omega
    rw [hsame]; simp; omega
  · have e : onlyR r = ⟨r.name, r.kind, 0, false, [], r.names, [], r.kids⟩ := by unfold onlyR; simp [hk]
    rw [e] at hsame
    have h2 : r.names.length = r.kids.length ∧ namesB r.names = true := by simpa [meetsB, hk] using h1
    have h3 : r.names.length ≤ 8 := by
      have h4 := h2.2
      unfold namesB at h4
      exact (of_decide_eq_true h4).2.2
    rw [hsame]; simp; omega
  · have e : onlyR r = ⟨r.name, r.kind, 0, false, [], [], r.tags, r.kids⟩ := by unfold onlyR; simp [hk]
    rw [e] at hsame
    have h2 : tagsB rs r = true := by simpa [meetsB, hk] using h1
    unfold tagsB at h2
    rw [Bool.and_eq_true] at h2
    have h3 := of_decide_eq_true h2.1
    rw [hsame]; simp; omega
  · have e : onlyR r = ⟨r.name, r.kind, 0, false, [], [], [], r.kids⟩ := by unfold onlyR; simp [hk]
    rw [e] at hsame
    have h2 : r.kids.length = 1 := by simpa [meetsB, hk] using h1
    rw [hsame]; simp; omega
  · have e : onlyR r = ⟨r.name, r.kind, 0, false, [], [], [], r.kids⟩ := by unfold onlyR; simp [hk]
    rw [e] at hsame
    have h2 : r.kids.length = 1 := by simpa [meetsB, hk] using h1
    rw [hsame]; simp; omega
  · have e : onlyR r = ⟨r.name, r.kind, 0, false, r.bytes, [], [], []⟩ := by unfold onlyR; simp [hk]
    rw [e] at hsame
    have h2 : r.bytes.length = 1 := by simp [meetsB, hk, termB] at h1; exact h1.1
    rw [hsame]; simp; omega
  · obtain ⟨k1, k2, k3, k4, k5, k6, k7, k8, k9, k10⟩ := hk
    simp [meetsB, k1, k2, k3, k4, k5, k6, k7, k8, k9, k10] at h1
theorem made_short {rs : List RuleV} (h : MadeAll rs) : ∀ r ∈ rs, Short r := fun r hr => by
  obtain ⟨j, hj, rfl⟩ := List.getElem_of_mem hr
  exact kindI_lens (h j hj).2.2
theorem nameB_le {s : ByteArray} (h : nameB s = true) : s.size ≤ 12 := by
  by_cases hs : 1 ≤ s.size ∧ s.size ≤ 12
  · exact hs.2
  · rw [nameB_size hs] at h; cases h
open Classical in
theorem kindI_spelt {rs : List RuleV} {r : RuleV} (h : kindI rs r = true) : ∀ s ∈ r.names, s.size ≤ 12 := by
  unfold kindI at h
  rw [Bool.and_eq_true] at h
  have hsame : r = onlyR r := (sameR_iff _ _).1 h.2
  by_cases hk : r.kind = 6
  · have h2 : r.names.length = r.kids.length ∧ namesB r.names = true := by simpa [meetsB, hk] using h.1
    have h4 := h2.2
    unfold namesB at h4
    have h5 := of_decide_eq_true h4
    intro s hs
    obtain ⟨j, hj, rfl⟩ := List.getElem_of_mem hs
    exact nameB_le (h5.1 j hj hj).1
  · have e : r.names = [] := by
      rw [hsame]
      unfold onlyR
      split
      · rfl
      · split
        · rfl
        · split
          · rfl
          · split
            · rfl
            · split <;> rfl
    rw [e]
    intro s hs
    simp at hs
theorem made_spelt {rs : List RuleV} (h : MadeAll rs) (hl : rs.length ≤ 9) : ∀ r ∈ rs, Spelt r := fun r hr => by
  obtain ⟨j, hj, rfl⟩ := List.getElem_of_mem hr
  have h1 := made_valid h hl j hj
  rw [validAt_in hj] at h1
  simp only [Bool.and_eq_true] at h1
  exact ⟨by have := nameB_le h1.2.2.1; omega, fun s hs => by have := kindI_spelt (h j hj).2.2 s hs; omega⟩
/-- A drawn description comes back, in new memory. -/
def DrawnD (w : World) (e : Ending) (w' : World) : Prop :=
  ∃ (rs : List RuleV) (x : Option Addr) (cp : Nat), e = .returned (.agg #[.slice x rs.length cp]) ∧ MadeAll rs ∧ (1 ≤ rs.length ∧ rs.length ≤ 6) ∧ (∀ h : 0 < rs.length, rs[0].kind = 1) ∧ RowR w.heap.size (.slice x rs.length cp) rs w' ∧ Below w.heap.size w w'
set_option maxRecDepth 100000 in
theorem drawd (a : Option Addr) (len cap : Nat) (w : World) (hl : len ≤ 140737488355328) (hs : Code a len w) :
    Calls Tryd.prog 5 #[.slice a len cap] w (DrawnD w) := by
  obtain ⟨w0, hw0⟩ : ∃ w0, w0 = w.alloc (.cells #[.slice none 0 0] 26) := ⟨_, rfl⟩
  have hB : Below w.heap.size w w0 := by subst hw0; exact (Below.refl _ _).alloc (Nat.le_refl _) _
  have hX : CellsAt w.heap.size [.slice none 0 0] w0 := by subst hw0; exact CellsAt.new w _ _
  have hz : Hid (w0.heap.size = w.heap.size + 1) := by subst hw0; exact World.size_alloc _ _
  have HS := Lib.hid (hs.below hB)
  have HB := Lib.hid hB
  have HX := Lib.hid hX
  have hW := Lib.hid hw0
  clear hs hB hX hw0
  go_enter Tryd.func5, Tryd.ntmps5
  go_wp2_with fail
  rw [← hW.out]
  clear hW
  refine (new_draw a len cap _ hl HS.out).mono ?_
  rintro e w1 ⟨rfl, hc1, hb1, hz1⟩
  have HC1 := Lib.hid hc1
  have HB1 := Lib.hid (HB.out.trans (hb1.mono HB.out.size))
  have HX1 := Lib.hid (HX.out.below hb1)
  have hz2 : Hid (w1.heap.size = w.heap.size + 2) := by show _ = _; rw [hz1, hz.out]
  clear hc1 hb1 hz1 HX HB HS
  go_wp2_with fail
  refine (descr_draw a len cap w0.heap.size _ hl HC1.out).mono ?_
  rintro e w2 ⟨rs, x, cp, rfl, hm, hln, hk, hrow, hc2, hg2⟩
  have hcne : w.heap.size ≠ w0.heap.size := by have := hz.out; omega
  have HX2 := Lib.hid (HX1.out.grown hg2 (by intro e; injection e with e; omega))
  have HB2 := Lib.hid (HB1.out.grown hg2 HB1.out.size (fun k e => by injection e with e; have := hz.out; omega))
  obtain ⟨z0, t0⟩ := HX2.out 0 _ rfl
  have HM := Lib.hid hm
  have HK := Lib.hid hk
  have HR := Lib.hid ((hrow.grown (grown_set (grown_refl w2 w.heap.size) 0 (.slice x rs.length cp)) (by have := hz2.out; omega)).more (base' := w.heap.size) (by have := hz2.out; omega))
  have HL := Lib.hid hln
  have HBF := Lib.hid (HB2.out.setCell (p := ⟨w.heap.size, 0, none⟩) (Nat.le_refl _) (.slice x rs.length cp))
  clear hm hk hrow hc2 hg2 hln HX1 HB1 HX2 HB2 HC1 hcne
  go_wp2
  (try simp only [Exit.inBlock, Exit.then])
  refine bodyPost_ret (v := .agg #[.slice x rs.length cp]) ?_ rfl ?_
  · simp [results, Tryd.results5, go_sem, z0]
  · exact ⟨rs, x, cp, rfl, HM.out, HL.out, HK.out, HR.out, HBF.out⟩
end Go.Proofs.YtkegjgfggijinaaDoor
namespace Go.Proofs.YtkegjgfggijinaaDoor
open Go Go.RowKit
theorem RowF.take {α : Type} {f : α → Value} {B cap : Nat} {a : Option Addr} {xs : List α} {w : World} (h : RowF f B a xs cap w) (n : Nat) : RowF f B a (xs.take n) cap w :=
  ⟨h.1.take n, by have := h.2.1; rw [List.length_take]; omega, h.2.2⟩
/-- The lines, as they come back. -/
theorem lines_cut {s : ByteArray} {w W : World} {a : Option Addr} {cap : Nat} (hl : lastS (parts 10 s) = ⟨#[]⟩) (hr : RowS w.heap.size a (parts 10 s) cap W) (hb : Below w.heap.size w W) : StrsOut (linesS s) w (.returned (.slice a ((parts 10 s).length - 1) cap)) W := by
  unfold linesS
  rw [if_pos hl]
  refine ⟨a, cap, ?_, hr.take _, hb⟩
  congr 2
  rw [List.length_take]
  omega
theorem lines_all {s : ByteArray} {w W : World} {a : Option Addr} {cap : Nat} (hl : lastS (parts 10 s) ≠ ⟨#[]⟩) (hr : RowS w.heap.size a (parts 10 s) cap W) (hb : Below w.heap.size w W) : StrsOut (linesS s) w (.returned (.slice a (parts 10 s).length cap)) W := by
  unfold linesS
  rw [if_neg hl]
  exact ⟨a, cap, rfl, hr, hb⟩
set_option maxRecDepth 100000 in
theorem lines_spec (s : ByteArray) (w : World) (hs : s.size ≤ 1073741824) :
    Calls Tryd.prog 13 #[.string s] w (StrsOut (linesS s) w) := by
  go_enter Tryd.func13, Tryd.ntmps13
  go_wp2_with fail
  refine (split_spec s 10 _ hs).mono ?_
  rintro e w1 ⟨a, cap, rfl, hr, hb⟩
  have hp := parts_ne 10 s
  have hm := parts_lens 10 s
  obtain ⟨b, off, ha, hc⟩ := hr.rd ((parts 10 s).length - 1) (by omega)
  subst ha
  rw [lastS_at hp] at hc
  have hcap := hr.2.1
  have hcut := Lib.hid (fun h => lines_cut (w := w) h hr hb)
  have hall := Lib.hid (fun h => lines_all (w := w) h hr hb)
  clear hr hb
  obtain ⟨m, hm1⟩ : ∃ m, (parts 10 s).length = m + 1 := ⟨(parts 10 s).length - 1, by omega⟩
  generalize lastS (parts 10 s) = x at *
  generalize hn : (parts 10 s).length = n at *
  subst hm1
  simp only [Nat.add_sub_cancel] at hc hcut
  have m0 : (0 : Int) ≤ (m : Int) := by omega
  have m1 : (m : Int) < ((m + 1 : Nat) : Int) := by omega
  have m2 : (((m + 1 : Nat) : Int) - 1) = (m : Int) := by omega
  have m3 : (m : Int) ≤ (cap : Int) := by omega
  by_cases hx : x = ⟨#[]⟩
  · have g1 := str_none hx
    have hcut' := Lib.hid (hcut.out hx)
    clear hcut hall hx
    go_wp2
    go_ret
    exact hcut'.out
  · have g1 := str_some hx
    have hall' := Lib.hid (hall.out hx)
    clear hcut hall hx
    go_wp2
    go_ret
    exact hall'.out
/-- The state between two parts: the words so far; the parts lie apart from them. -/
def WordsRel (ss : List ByteArray) (b off : Nat) (w : World) (v i : Value) (W : World) : Prop :=
  ∃ (k : Nat) (acc : List ByteArray) (v0 : Value), v0 = v ∧ k ≤ ss.length ∧ i = .int .i64 k ∧ acc.length ≤ k ∧ Hid (acc = fullS (ss.take k)) ∧ Hid (OwnS w.heap.size v0 acc W) ∧ Hid (Below w.heap.size w W) ∧ Hid (RdS (some ⟨b, off, none⟩) ss W) ∧ Hid (v0.ownBlock ≠ some b)
theorem RdF.grownAt {α : Type} {f : α → Value} {b off : Nat} {xs : List α} {w w' : World} {row : Option Nat} (h : RdF f (some ⟨b, off, none⟩) xs w) (hg : w.grownBy w' row) (hne : some b ≠ row) : RdF f (some ⟨b, off, none⟩) xs w' := fun j hj => by
  obtain ⟨b', off', ha, hc⟩ := h j hj
  injection ha with ha
  injection ha with h1 h2
  subst h1 h2
  exact ⟨_, _, rfl, hg.cell hc hne⟩
theorem words_push {ss acc : List ByteArray} {b off k : Nat} {w W W' : World} {v v' : Value} (hk : k < ss.length) (hx : ss[k] ≠ ⟨#[]⟩) (hal : acc.length ≤ k) (ha : acc = fullS (ss.take k)) (hown : OwnS w.heap.size v acc W) (hb : Below w.heap.size w W) (hrd : RdS (some ⟨b, off, none⟩) ss W) (hne : v.ownBlock ≠ some b)
    (ho : W'.ownsRow w.heap.size 9 1 v' (acc ++ [ss[k]]).length ((acc ++ [ss[k]]).map Value.string)) (hg : W.grownBy W' v.ownBlock) (hw : v'.ownBlock = v.ownBlock ∨ ∃ g, v'.ownBlock = some g ∧ W.heap.size ≤ g) (z : Value) (hz : z = .int .i64 ((k + 1 : Nat) : Int)) : WordsRel ss b off w v' z W' := by
  refine ⟨k + 1, acc ++ [ss[k]], v', rfl, hk, hz, by simp; omega, ?_, ho, hb.grown hg hb.size (fun j hj => (World.ownsRow.lt (w := W) hown j hj).1), hrd.grownAt hg (fun e => hne e.symm), ?_⟩
  · show _ = _
    rw [fullS_next hk hx, ha]
  · show _ ≠ _
    obtain ⟨b', off', e, hc⟩ := hrd k hk
    injection e with e
    injection e with e1 e2
    subst e1 e2
    have hlt : b < W.heap.size := cell_lt hc
    rcases hw with h | ⟨g, h, hle⟩
    · rw [h]; exact hne
    · rw [h]
      intro e
      injection e with e
      omega
theorem words_start {s : ByteArray} {b off : Nat} {w W : World} (hW : Below (w.heap.size + 1) (w.alloc (.cells #[] 9)) W) (hrd : RdS (some ⟨b, off, none⟩) (parts 32 s) W) (hB : w.heap.size + 1 ≤ b) : WordsRel (parts 32 s) b off w (.slice (some ⟨w.heap.size, 0, none⟩) 0 0) (.int .i64 0) W := by
  refine ⟨0, [], _, rfl, Nat.zero_le _, rfl, Nat.le_refl _, rfl, ?_, ?_, hrd, ?_⟩
  · have h := OwnS.start w
    refine World.ownsRow.kept (w := w.alloc (.cells #[] 9)) h (row := none) ⟨hW.os, hW.tape, hW.output, hW.size, fun k hk _ => hW.block k (by simpa using hk)⟩ (.inr (by simp [Value.ownBlock]))
  · exact ((Below.refl _ w).alloc (Nat.le_refl _) _).trans (hW.mono (by omega))
  · show _ ≠ _
    simp [Value.ownBlock]
    omega
set_option maxRecDepth 100000 in
set_option maxHeartbeats 1000000 in
theorem words_spec (s : ByteArray) (w : World) (hs : s.size ≤ 1073741824) :
    Calls Tryd.prog 7 #[.string s] w (StrsOut (wordsS s) w) := by
  have hres : Hid (wordsS s = fullS ((parts 32 s).take (parts 32 s).length)) := by
    show _ = _
    rw [List.take_length]; rfl
  generalize wordsS s = ws at hres ⊢
  go_enter Tryd.func7, Tryd.ntmps7
  go_wp2_with fail
  refine (split_spec s 32 _ hs).mono ?_
  rintro e w1 ⟨a, cap, rfl, hr, hb⟩
  have hp := parts_ne 32 s
  have hm := parts_lens 32 s
  rcases hr.1 with h0 | ⟨b, off, rfl, hB, -⟩
  · rw [h0] at hp
    simp at hp
  have hst := Lib.hid (words_start (s := s) (by simpa using hb) hr.rd (by simpa using hB))
  clear hr hb hB
  generalize parts 32 s = ss at *
  go_wp2
  go_loopw [3, 5] (fun v i W => WordsRel ss b off w v i W) (fun _ i _ => ss.length - (intOf i).toNat)
  case atStart => exact hst.out
  case round =>
    obtain ⟨k, acc, v0, rfl, hk, rfl, hal, ha, hown, hb, hrd, hne⟩ := hrel
    have k0 : (0 : Int) ≤ (k : Int) := by omega
    by_cases hlt : k < ss.length
    · have k1 : (k : Int) < (ss.length : Int) := by omega
      obtain ⟨b', off', e, hc⟩ := hrd.out k hlt
      injection e with e
      injection e with e1 e2
      subst e1 e2
      by_cases hx : ss[k] = ⟨#[]⟩
      · have g1 := str_none hx
        have ha2 : Hid (acc = fullS (ss.take (k + 1))) := by
          show _ = _
          rw [fullS_skip hlt hx]; exact ha.out
        generalize ss[k] = x at hc g1
        clear hx
        go_wp2
        go_roundw
        case rel => exact ⟨k + 1, acc, v0, rfl, by omega, by go_num, by omega, ha2, hown, hb, hrd, hne⟩
        case measure => simp [intOf]; omega
      · have g1 := str_some hx
        have HP := fun v' W' => Lib.hid (words_push (v' := v') (W' := W') hlt hx hal ha.out hown.out hb.out hrd.out hne.out)
        generalize hy : ss[k] = x at hc g1 HP
        clear hx
        go_wp2_with (at_builtin; refine wp_pushF (f := Value.string) 29 9 (.string ⟨#[]⟩) 16 Tryd.underlying29 infoStr rfl rfl _ _ rfl w.heap.size v0 acc x rfl wr rfl rfl hown.out (by unfold maxLen; omega) (by omega) hb.out.size ?_)
        intro v' w2 hown' hgrow hblk
        have R := Lib.hid ((HP v' w2).out (by simpa using hown') hgrow hblk)
        clear hown' hgrow hblk HP
        go_wp2
        go_roundw
        case rel => exact R.out _ (by go_num)
        case measure => simp [intOf]; omega
    · have k1 : ¬ (k : Int) < (ss.length : Int) := by omega
      obtain rfl : k = ss.length := by omega
      obtain rfl : acc = ws := ha.out.trans hres.out.symm
      go_wp2
      go_ret
      exact OwnS.out hown.out hb.out
end Go.Proofs.YtkegjgfggijinaaDoor
namespace Go.Proofs.YtkegjgfggijinaaDoor
open Go Go.RowKit
/-- The names of rules. -/
def namesOf (rs : List RuleV) : List ByteArray := rs.map RuleV.name
theorem namesOf_length (rs : List RuleV) : (namesOf rs).length = rs.length := by simp [namesOf]
theorem namesOf_at {rs : List RuleV} {k : Nat} (h : k < rs.length) (h' : k < (namesOf rs).length) : (namesOf rs)[k] = rs[k].name := by simp [namesOf]
theorem namesOf_next {rs : List RuleV} {k : Nat} (h : k < rs.length) : (namesOf rs).take k ++ [rs[k].name] = (namesOf rs).take (k + 1) := by
  rw [List.take_succ_eq_append_getElem (by rw [namesOf_length]; exact h), namesOf_at h]
theorem HalfF.later {α : Type} {f : α → Value} {z : Value} {xs : List α} {k N : Nat} {w W W' : World} (h : HalfF f z xs k N w W) (hb : Below W.heap.size W W') : HalfF f z xs k N w W' :=
  ⟨h.1.trans (hb.mono h.1.size), fun j hj => ⟨(hb.cell (cell_lt (h.2 j hj).1)).trans (h.2 j hj).1, (hb.frozen (p := ⟨N, j, none⟩) (cell_lt (h.2 j hj).1)).trans (h.2 j hj).2⟩⟩
set_option maxRecDepth 100000 in
set_option maxHeartbeats 1000000 in
theorem dn_impl (a : Option Addr) (rs : List RuleV) (cap : Nat) (ns : List ByteArray) (w : World) (hl : rs.length ≤ 1073741824) (hns : ns = namesOf rs) (h : RdR a rs w) :
    Calls Tryd.prog 15 #[.agg #[.slice a rs.length cap]] w (StrsOut ns w) := by
  obtain ⟨w0, hw0⟩ : ∃ w0, w0 = w.alloc (.cells #[.slice a rs.length cap] 26) := ⟨_, rfl⟩
  have hB0 : Below w.heap.size w w0 := by subst hw0; exact (Below.refl _ _).alloc (Nat.le_refl _) _
  have HB0 := Lib.hid hB0
  have HR := Lib.hid (h.below hB0)
  have hs0 : Hid (w0.heap.size = w.heap.size + 1) := by subst hw0; exact World.size_alloc _ _
  have hW := Lib.hid hw0
  have HNS := Lib.hid hns
  have hmk := make_strs rs.length (by omega)
  clear h hB0 hw0 hns
  go_enter Tryd.func15, Tryd.ntmps15
  go_wp2
  rw [← hW.out]
  clear hmk
  have hz : w0.heap.size = w.heap.size + 1 := hs0.out
  rw [← hz]
  clear hz
  obtain ⟨M, hM0⟩ : ∃ M, M = w0.heap.size := ⟨_, rfl⟩
  rw [← hM0]
  have hM := Lib.hid hM0
  clear hM0
  go_loopw [13] (fun i W => ∃ k : Nat, k ≤ rs.length ∧ i = .int .i64 k ∧ Hid (HalfF Value.string (.string ⟨#[]⟩) (namesOf rs) k M w0 W)) (fun i _ => rs.length - (intOf i).toNat)
  case atStart =>
    refine ⟨0, Nat.zero_le _, rfl, ?_⟩
    have h1 := HalfF.start (f := Value.string) (.string ⟨#[]⟩) (namesOf rs) 9 w0
    rw [namesOf_length, ← hM.out] at h1
    exact h1
  case round =>
    obtain ⟨k, hk, rfl, hh⟩ := hrel
    have k0 : (0 : Int) ≤ (k : Int) := by omega
    by_cases hlt : k < rs.length
    · have k1 : (k : Int) < (rs.length : Int) := by omega
      obtain ⟨b, off, a4, c4, a5, c5, a6, c6, a7, c7, rfl, ⟨d0, d1, d2, d3, d4, d5, d6, d7⟩, -⟩ := (HR.out.below hh.out.1).at k hlt
      have hlt2 : k < (namesOf rs).length := by rw [namesOf_length]; exact hlt
      have hb1 : ∀ o, Below wr.heap.size wr (wr.alloc o) := fun o => (Below.refl _ _).alloc (Nat.le_refl _) _
      have hn := fun o => Lib.hid ((hh.out.next (Nat.le_of_eq hM.out.symm) hlt2).later ((Below.refl _ _).alloc (Nat.le_refl _) o))
      have hcf := fun o => Lib.hid ((hh.out.later (hb1 o)).2 k hlt2)
      have hMlt : M < wr.heap.size := cell_lt (hh.out.2 k hlt2).1
      simp only [namesOf_at hlt] at hn
      generalize rs[k] = r at *
      obtain ⟨hd, hf⟩ := (hcf (.cells #[.string r.name, .int .i64 r.kind, .int .i64 r.size, .bool r.little, .slice a4 r.bytes.length c4, .slice a5 r.names.length c5, .slice a6 r.tags.length c6, .slice a7 r.kids.length c7] 33)).out
      rw [if_neg (by omega)] at hd
      have hnn := hn (.cells #[.string r.name, .int .i64 r.kind, .int .i64 r.size, .bool r.little, .slice a4 r.bytes.length c4, .slice a5 r.names.length c5, .slice a6 r.tags.length c6, .slice a7 r.kids.length c7] 33)
      clear hn hcf hb1
      go_wp2
      go_roundw
      case rel => exact ⟨k + 1, by omega, by go_num, hnn⟩
      case measure => simp [intOf]; omega
    · have k1 : ¬ (k : Int) < (rs.length : Int) := by omega
      obtain rfl : k = rs.length := by omega
      have hh2 := hh.out
      rw [← namesOf_length rs, hM.out, ← HNS.out] at hh2
      have HE := Lib.hid hh2.end
      have HBW := Lib.hid (HB0.out.trans (hh2.1.mono HB0.out.size))
      have hnl : Hid (rs.length = ns.length) := by show _ = _; rw [HNS.out, namesOf_length]
      clear hh2
      go_wp2
      go_ret
      simp only [hnl.out, hM.out]
      exact ⟨_, _, rfl, ⟨HE.out.more (by have := hs0.out; omega), Nat.le_refl _, (fun e => by cases e)⟩, HBW.out⟩
end Go.Proofs.YtkegjgfggijinaaDoor
namespace Go.Proofs.YtkegjgfggijinaaDoor
open Go Go.RowKit
theorem outer_max (a b : Int) (w : World) (c : Nat) (hc : w.cell? ⟨c, 0, none⟩ = some (.int .i64 b)) :
    Calls Tryd.prog 41 #[.bool true, .int .i64 a, .slice (some ⟨c, 0, none⟩) 1 1] w fun e w' => e = .returned (.int .i64 (if a < b then b else a)) ∧ w = w' := by
  by_cases h : a < b
  all_goals
    go_enter Tryd.func41, Tryd.ntmps41
    go_wp2
    go_loop [7, 9, 13] (fun t _ i => ∃ k : Nat, k ≤ 1 ∧ i = .int .i64 k ∧ t = .int .i64 (if k = 1 then (if a < b then b else a) else a)) (fun _ _ i => 1 - (intOf i).toNat)
    case atStart => exact ⟨0, Nat.zero_le _, rfl, rfl⟩
    case round =>
      obtain ⟨k, hk, rfl, rfl⟩ := hrel
      obtain rfl | rfl : k = 0 ∨ k = 1 := by omega
      · go_wp2
        go_round
        case rel => exact ⟨1, by omega, rfl, by first | rw [if_pos rfl, if_pos h] | rw [if_pos rfl, if_neg (by omega)]⟩
        case measure => simp [intOf]
      · go_wp2
        go_ret
        exact ⟨rfl, rfl⟩
theorem max_impl (a b : Int) (w : World) :
    Calls Tryd.prog 24 #[.int .i64 a, .int .i64 b] w fun e w' => e = .returned (.int .i64 (if a < b then b else a)) ∧ Below w.heap.size w w' := by
  have hB : Below w.heap.size w (w.alloc (Obj.cells #[.int .i64 b] 3)) := (Below.refl _ _).alloc (Nat.le_refl _) _
  obtain ⟨m, hm⟩ : ∃ m, m = if a < b then b else a := ⟨_, rfl⟩
  rw [← hm]
  have HM := Lib.hid hm
  clear hm
  go_enter Tryd.func24, Tryd.ntmps24
  go_wp2_with fail
  refine (outer_max a b (w.alloc (Obj.cells #[.int .i64 b] 3)) w.heap.size (by simp)).mono ?_
  rintro e w1 ⟨rfl, rfl⟩
  rw [← HM.out]
  go_wp2
  go_ret
  exact ⟨rfl, hB⟩
set_option maxRecDepth 100000 in
set_option maxHeartbeats 1000000 in
theorem longest_impl (a : Option Addr) (rs : List RuleV) (cap : Nat) (w : World) (hl : rs.length ≤ 1048576) (hsh : ∀ r ∈ rs, Short r) (hsp : ∀ r ∈ rs, Spelt r) (hv : allV (kindI rs) rs) (htab : PowTab w) (hrd : RdC a rs w) :
    Calls Tryd.prog 9 #[.agg #[.slice a rs.length cap]] w fun e w' => ∃ m : Nat, e = .returned (.int .i64 (m : Int)) ∧ (∀ k, k < rs.length → (lineAt rs k).size ≤ m) ∧ m ≤ 16777216 ∧ Below w.heap.size w w' := by
  obtain ⟨w0, hw0⟩ : ∃ w0, w0 = w.alloc (.cells #[.slice a rs.length cap] 26) := ⟨_, rfl⟩
  have hB : Below w.heap.size w w0 := by subst hw0; exact (Below.refl _ _).alloc (Nat.le_refl _) _
  have hX : CellsAt w.heap.size [.slice a rs.length cap] w0 := by subst hw0; exact CellsAt.new w _ _
  have HX := Lib.hid hX
  have HB := Lib.hid hB
  have HRD := Lib.hid (hrd.below hB)
  have HT := Lib.hid (htab.below hB)
  have HSH := Lib.hid hsh
  have HSP := Lib.hid hsp
  have HV := Lib.hid hv
  have HNM : Hid (∀ r ∈ rs, r.name.size ≤ 1048576) := fun r hr => (hsp r hr).1
  clear hB hX hrd htab hsh hsp hv
  go_enter Tryd.func9, Tryd.ntmps9
  go_wp2
  rw [← hw0]
  clear hw0
  go_loopw [3, 4, 8] (fun q _ i W => ∃ k m : Nat, k ≤ rs.length ∧ i = .int .i64 k ∧ q = .int .i64 (m : Int) ∧ m ≤ 16777216 ∧ Hid (∀ j, j < k → (lineAt rs j).size ≤ m) ∧ Hid (Below w0.heap.size w0 W)) (fun _ _ i _ => rs.length - (intOf i).toNat)
  case atStart => exact ⟨0, 0, Nat.zero_le _, rfl, rfl, Nat.zero_le _, fun j hj => by omega, Below.refl _ _⟩
  case round =>
    obtain ⟨k, m, hk, rfl, rfl, hm, hall, hb⟩ := hrel
    have k0 : (0 : Int) ≤ (k : Int) := by omega
    by_cases hlt : k < rs.length
    · have k1 : (k : Int) < (rs.length : Int) := by omega
      have hv := Lib.hid (HV.out k hlt)
      have hls := line_size (n := k) (validAt_kind hlt hv.out) HNM.out (HNM.out _ (List.getElem_mem hlt))
      have hla := Lib.hid (lineAt_in hlt)
      have hx := (HX.out.below hb.out 0 _ rfl).1
      go_wp2_with fail
      refine (frule_impl a rs cap k _ hl hlt HSH.out HSP.out hv.out (HT.out.below hb.out) (HRD.out.below hb.out)).mono ?_
      rintro e w1 ⟨rfl, hb1⟩
      have Hb1 := Lib.hid (hb.out.trans (hb1.mono hb.out.size))
      clear hb1 hb hx
      rw [← hla.out] at hls ⊢
      have hnx : Hid (∀ M : Nat, m ≤ M → (lineAt rs k).size ≤ M → ∀ j, j < k + 1 → (lineAt rs j).size ≤ M) := fun M h1 h2 j hj => by
        by_cases e : j = k
        · rw [e]; exact h2
        · exact Nat.le_trans (hall.out j (by omega)) h1
      generalize lineAt rs k = ln at hls hnx ⊢
      go_wp2_with fail
      refine (max_impl (m : Int) (ln.size : Int) _).mono ?_
      rintro e w2 ⟨rfl, hb2⟩
      have Hb2 := Lib.hid (Hb1.out.trans (hb2.mono Hb1.out.size))
      clear hb2 Hb1
      obtain ⟨M, hM, h1, h2, h3⟩ : ∃ M : Nat, (if (m : Int) < (ln.size : Int) then (ln.size : Int) else (m : Int)) = (M : Int) ∧ m ≤ M ∧ ln.size ≤ M ∧ M ≤ 16777216 := by
        by_cases h : (m : Int) < (ln.size : Int)
        · exact ⟨ln.size, by rw [if_pos h], by omega, Nat.le_refl _, hls⟩
        · exact ⟨m, by rw [if_neg h], Nat.le_refl _, by omega, hm⟩
      rw [hM]
      have hal := Lib.hid (hnx.out M h1 h2)
      clear hM h1 h2 hls
      go_wp2
      go_roundw
      case rel => exact ⟨k + 1, M, by omega, by go_num, rfl, h3, hal, Hb2⟩
      case measure => simp [intOf]; omega
    · have k1 : ¬ (k : Int) < (rs.length : Int) := by omega
      obtain rfl : k = rs.length := by omega
      have HB1 := Lib.hid (HB.out.trans (hb.out.mono HB.out.size))
      go_wp2
      go_ret
      exact ⟨m, rfl, hall.out, hm, HB1.out⟩
end Go.Proofs.YtkegjgfggijinaaDoor
