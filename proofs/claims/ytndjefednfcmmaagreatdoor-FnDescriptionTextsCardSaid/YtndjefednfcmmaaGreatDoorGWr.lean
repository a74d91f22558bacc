/- The words of a line, the lines of a text: what is written is divided again. No program is walked here. What the lines of a valid description hold. No program is walked here. From which line a rule is read, behind a valid description: plain facts. No program is walked here. -/
import Derived.Test.YtndjefednfcmmaaGreatDoorGTxt
import Derived.Test.YtndjefednfcmmaaGreatDoorGNum
import Derived.Test.YtndjefednfcmmaaGreatDoorGVal
import Derived.Test.YtndjefednfcmmaaGreatDoorGHx
namespace Go.Proofs.YtndjefednfcmmaaGreatDoor
open Go Go.RowKit
def WordOk (x : ByteArray) : Prop := x ≠ ⟨#[]⟩ ∧ ∀ c ∈ lst x, 33 ≤ c.toNat
def PlainW (x : ByteArray) : Prop := x ≠ ⟨#[]⟩ ∧ ∀ c ∈ lst x, 33 ≤ c.toNat ∧ c.toNat ≠ 58
theorem PlainW.ok {x : ByteArray} (h : PlainW x) : WordOk x := ⟨h.1, fun c hc => (h.2 c hc).1⟩
theorem nameB_plain {s : ByteArray} (h : nameB s = true) : PlainW s := by
 by_cases hs : 1 ≤ s.size ∧ s.size ≤ 12
 ·refine ⟨fun e => by rw [e] at hs; exact absurd hs.1 (by decide), fun c hc => ?_⟩
  obtain ⟨j, hj, rfl⟩ := List.getElem_of_mem hc
  have hj2 : j < s.size := by rw [lst_length] at hj; exact hj
  rw [lst_at s j hj2]
  by_cases hn : nameAt s[j] j
  ·rcases hn with h1 | ⟨h1, _⟩ <;> omega
  ·rw [nameB_bad hj2 hn] at h; cases h
 ·rw [nameB_size hs] at h; cases h
theorem nameB_short {s : ByteArray} (h : nameB s = true) : s.size ≤ 12 := by
 by_cases hs : 1 ≤ s.size ∧ s.size ≤ 12
 ·exact hs.2
 ·rw [nameB_size hs] at h; cases h
theorem digs_in : ∀ (v : Nat), ∀ c ∈ digs v, 48 ≤ c.toNat ∧ c.toNat ≤ 57 := fun v => by
 induction v using Nat.strongRecOn with
 | ind v ih =>
  intro c hc
  by_cases h0 : v = 0
  ·rw [h0, digs_zero] at hc; simp at hc
  ·rw [digs_step h0] at hc
   rcases List.mem_append.1 hc with hc | hc
   ·exact ih (v / 10) (by omega) c hc
   ·rw [List.mem_singleton] at hc
    rw [hc, UInt8.toNat_ofNat', Nat.mod_eq_of_lt (by omega)]
    omega
theorem digs_some {v : Nat} (h : v ≠ 0) : digs v ≠ [] := by
 rw [digs_step h]
 simp
theorem itoa_plain {n : Int} (h : 0 ≤ n) : PlainW (itoaS n) := by
 have e : lst (itoaS n) = Lib.itoa n := by show (Lib.itoa n).toArray.toList = _; simp
 rcases Int.lt_or_eq_of_le h with h1 | h1
 ·have e2 := itoa_pos h1
  refine ⟨fun e3 => ?_, fun c hc => ?_⟩
  ·have : lst (itoaS n) = [] := by rw [e3]; rfl
   rw [e, e2] at this
   exact digs_some (by omega) this
  ·rw [e, e2] at hc
   have := digs_in _ c hc
   omega
 ·subst h1
  refine ⟨fun e3 => ?_, fun c hc => ?_⟩
  ·have : lst (itoaS 0) = [] := by rw [e3]; rfl
   rw [e, itoa_zero] at this
   cases this
  ·rw [e, itoa_zero, List.mem_singleton] at hc
   subst hc
   decide
theorem hexD_in {n : Nat} (h : n < 16) : 48 ≤ (hexD n).toNat ∧ (hexD n).toNat ≤ 102 ∧ (hexD n).toNat ≠ 58 := by
 have hall : ∀ m : Fin 16, 48 ≤ (hexD m.val).toNat ∧ (hexD m.val).toNat ≤ 102 ∧ (hexD m.val).toNat ≠ 58 := by decide +kernel
 exact hall ⟨n, h⟩
theorem hexL_in : ∀ (bs : List UInt8), ∀ c ∈ hexL bs, 48 ≤ c.toNat ∧ c.toNat ≠ 58
 | [], c, hc => by simp [hexL] at hc
 | b :: bs, c, hc => by
  have hb := b.toNat_lt
  unfold hexL at hc
  rcases List.mem_cons.1 hc with rfl | hc
  ·have := hexD_in (n := b.toNat / 16) (by omega); omega
  ·rcases List.mem_cons.1 hc with rfl | hc
   ·have := hexD_in (n := b.toNat % 16) (by omega); omega
   ·exact hexL_in bs c hc
theorem hex_plain {bs : List UInt8} (h : bs ≠ []) : PlainW (hexS bs) := by
 have e : lst (hexS bs) = hexL bs := by show (hexL bs).toArray.toList = _; simp
 refine ⟨fun e3 => ?_, fun c hc => ?_⟩
 ·have h2 : lst (hexS bs) = [] := by rw [e3]; rfl
  rw [e] at h2
  have h3 := hexL_length bs
  rw [h2] at h3
  exact h (List.eq_nil_of_length_eq_zero (by simp at h3; omega))
 ·rw [e] at hc
  have := hexL_in bs c hc
  omega
theorem kind_plain {k : Int} (h : 1 ≤ k ∧ k ≤ 10) : PlainW (kindName k) := by
 have hd : ∀ m : Fin 10, kindName ((m.val : Int) + 1) ≠ (⟨#[]⟩ : ByteArray) ∧ ∀ c ∈ lst (kindName ((m.val : Int) + 1)), 33 ≤ c.toNat ∧ c.toNat ≠ 58 := by decide +kernel
 have h1 := hd ⟨(k - 1).toNat, by omega⟩
 rw [show (((⟨(k - 1).toNat, by omega⟩ : Fin 10).val : Nat) : Int) + 1 = k from by show (((k - 1).toNat : Nat) : Int) + 1 = k; omega] at h1
 exact h1
theorem little_plain : PlainW littleS := by
 have h : littleS ≠ (⟨#[]⟩ : ByteArray) ∧ ∀ c ∈ lst littleS, 33 ≤ c.toNat ∧ c.toNat ≠ 58 := by decide +kernel
 exact h
theorem three_ok {x y : ByteArray} (hx : WordOk x) (hy : WordOk y) : WordOk (x ++ ⟨#[58]⟩ ++ y) := by
 have e : lst (x ++ ⟨#[58]⟩ ++ y) = lst x ++ [58] ++ lst y := by rw [lst_append, lst_append]; rfl
 refine ⟨fun e2 => ?_, fun c hc => ?_⟩
 ·have : lst (x ++ ⟨#[58]⟩ ++ y) = [] := by rw [e2]; rfl
  rw [e] at this
  simp at this
 ·rw [e] at hc
  rcases List.mem_append.1 hc with hc | hc
  ·rcases List.mem_append.1 hc with hc | hc
   ·exact hx.2 c hc
   ·rw [List.mem_singleton] at hc; subst hc; decide
  ·exact hy.2 c hc
theorem three_cut {x y : ByteArray} (hx : PlainW x) : cutK 58 (x ++ ⟨#[58]⟩ ++ y) = true ∧ cutB 58 (x ++ ⟨#[58]⟩ ++ y) = y := by
 have e : lst (x ++ ⟨#[58]⟩ ++ y) = lst x ++ 58 :: lst y := by
  rw [lst_append, lst_append, List.append_assoc]; rfl
 have hc := cutL_cut (c := 58) (r := lst y) (l := lst x) (fun c hc e => (hx.2 c hc).2 (by rw [e]; rfl))
 unfold cutK cutB
 rw [e, hc]
 exact ⟨rfl, txt_lst y⟩
theorem split_join {c : UInt8} : ∀ {l : List (List UInt8)}, l ≠ [] → (∀ p ∈ l, ∀ x ∈ p, x ≠ c) → splitL c (joinL [c] l) = l
 | [], h, _ => absurd rfl h
 | [x], _, h => by simp only [joinL]; exact splitL_none (h x (by simp))
 | x :: y :: r, _, h => by
  simp only [joinL]
  rw [List.append_assoc, List.singleton_append, splitL_cut (h x (by simp)), split_join (by simp) (fun p hp => h p (by simp [hp]))]
theorem words_addWs {x : ByteArray} {ws : List ByteArray} (hx : WordOk x) (hw : ∀ y ∈ ws, WordOk y) : wordsS (addWs x ws) = x :: ws := by
 have hall : ∀ y ∈ x :: ws, WordOk y := fun y hy => by
  rcases List.mem_cons.1 hy with rfl | hy
  ·exact hx
  ·exact hw y hy
 rw [← join_addWs]
 generalize x :: ws = l at hall
 have hne : l.map lst ≠ [] ∨ l = [] := by cases l <;> simp
 have hp : parts 32 (joinS ⟨#[32]⟩ l) = l ∨ l = [] := by
  rcases hne with hne | hne
  ·left
   unfold parts joinS
   rw [lst_txt, show lst (⟨#[32]⟩ : ByteArray) = [32] from rfl, split_join hne (fun p hp c hc e => by
    obtain ⟨y, hy, rfl⟩ := List.mem_map.1 hp
    have := (hall y hy).2 c hc
    rw [e] at this
    exact absurd this (by decide))]
   unfold txts
   rw [List.map_map]
   conv => rhs; rw [← List.map_id l]
   apply List.map_congr_left
   intro y _
   exact txt_lst y
  ·exact .inr hne
 rcases hp with hp | rfl
 ·unfold wordsS
  rw [hp]
  unfold fullS
  rw [List.filter_eq_self]
  intro y hy
  exact decide_eq_true (hall y hy).1
 ·decide +kernel
theorem good_all {rs : List RuleV} {i : Nat} (h : allV (kindI rs) rs) (hi : i < rs.length) : findFrom rs[i].name rs 0 = (i : Int) ∧ kidsB rs[i].kids (i : Int) = true ∧ nameB rs[i].name = true ∧ kindI rs rs[i] = true := by
 have h1 := h i hi
 rw [validAt_in hi] at h1
 simp only [Bool.and_eq_true] at h1
 exact ⟨of_decide_eq_true h1.1, h1.2.1, h1.2.2.1, h1.2.2.2⟩
theorem good_kid {rs : List RuleV} {i k : Nat} (h : allV (kindI rs) rs) (hi : i < rs.length) (hk : k < rs[i].kids.length) : ∃ q, ∃ hq : q < rs.length, rs[i].kids[k] = (q : Int) ∧ q < i ∧ kidName rs (i : Int) (k : Int) = rs[q].name := by
 obtain ⟨-, h2, -, -⟩ := good_all h hi
 unfold kidsB at h2
 rw [List.all_eq_true] at h2
 have h3 := of_decide_eq_true (h2 _ (List.getElem_mem hk))
 have hq : rs[i].kids[k] = ((rs[i].kids[k].toNat : Nat) : Int) := by omega
 exact ⟨rs[i].kids[k].toNat, by omega, hq, by omega, kidName_yes hi hk hq (by omega)⟩
theorem good_kidName {rs : List RuleV} {i k : Nat} (h : allV (kindI rs) rs) (hi : i < rs.length) (hk : k < rs[i].kids.length) : nameB (kidName rs (i : Int) (k : Int)) = true := by
 obtain ⟨q, hq, -, -, e⟩ := good_kid h hi hk
 rw [e]
 exact (good_all h hq).2.2.1
theorem kindI_bytes0 {rs : List RuleV} {r : RuleV} (h : kindI rs r = true) (hk : r.kind = 2 ∨ r.kind = 10) : r.bytes ≠ [] := by
 intro e
 rcases hk with hk | hk
 ·simp [kindI, meetsB, hk, e] at h
 ·simp [kindI, meetsB, hk, termB, e] at h
open Classical in
theorem kindI_names {rs : List RuleV} {r : RuleV} (h : kindI rs r = true) (hk : r.kind = 6) : 1 ≤ r.names.length ∧ ∀ s ∈ r.names, nameB s = true := by
 simp [kindI, meetsB, hk] at h
 obtain ⟨⟨h1, h2⟩, -⟩ := h
 unfold namesB at h2
 have h3 := of_decide_eq_true h2
 refine ⟨h3.2.1, fun s hs => ?_⟩
 obtain ⟨j, hj, rfl⟩ := List.getElem_of_mem hs
 exact (h3.1 j hj hj).1
theorem fields_ok {rs : List RuleV} {i : Nat} (h : allV (kindI rs) rs) (hi : i < rs.length) : fieldsOf rs i rs[i] ≠ [] ∧ ∀ x ∈ fieldsOf rs i rs[i], WordOk x := by
 obtain ⟨-, -, -, hv⟩ := good_all h hi
 have hkn := fun (k : Nat) (hk : k < rs[i].kids.length) => (nameB_plain (good_kidName h hi hk)).ok
 generalize rs[i] = r at *
 rcases fields_cases hv with hk | hk | hk | hk | hk | hk | hk | hk | hk | hk
 ·have hz := kindI_size hv hk
  have hp := (itoa_plain (n := r.size) (by omega)).ok
  unfold fieldsOf
  rw [if_pos hk]
  split
  ·refine ⟨by simp, fun x hx => ?_⟩
   simp only [List.mem_cons, List.not_mem_nil, or_false] at hx
   rcases hx with rfl | rfl
   ·exact hp
   ·exact little_plain.ok
  ·refine ⟨by simp, fun x hx => ?_⟩
   rw [List.mem_singleton] at hx
   rw [hx]; exact hp
 ·have e : fieldsOf rs i r = [hexS r.bytes] := by unfold fieldsOf; simp [hk]
  rw [e]
  refine ⟨by simp, fun x hx => ?_⟩
  rw [List.mem_singleton] at hx
  rw [hx]; exact (hex_plain (kindI_bytes0 hv (.inl hk))).ok
 ·have hz := kindI_size3 hv hk
  have e : fieldsOf rs i r = [itoaS r.size] := by unfold fieldsOf; simp [hk]
  rw [e]
  refine ⟨by simp, fun x hx => ?_⟩
  rw [List.mem_singleton] at hx
  rw [hx]; exact (itoa_plain (by omega)).ok
 ·have hl := kindI_kids1 hv (.inl hk)
  have e : fieldsOf rs i r = [kidName rs (i : Int) 0] := by unfold fieldsOf; simp [hk]
  rw [e]
  refine ⟨by simp, fun x hx => ?_⟩
  rw [List.mem_singleton] at hx
  rw [hx]; exact hkn 0 (by omega)
 ·have hl := kindI_kids2 hv hk
  have e : fieldsOf rs i r = [kidName rs (i : Int) 0, kidName rs (i : Int) 1] := by unfold fieldsOf; simp [hk]
  rw [e]
  refine ⟨by simp, fun x hx => ?_⟩
  simp only [List.mem_cons, List.not_mem_nil, or_false] at hx
  rcases hx with rfl | rfl
  ·exact hkn 0 (by omega)
  ·exact hkn 1 (by omega)
 ·obtain ⟨h1, -, -⟩ := kindI_seq hv hk
  obtain ⟨h2, h3⟩ := kindI_names hv hk
  have e : fieldsOf rs i r = seqTo rs i r.names r.names.length := by unfold fieldsOf; simp [hk]
  rw [e]
  refine ⟨fun e2 => by have := seqTo_length rs i r.names r.names.length; rw [e2] at this; simp at this; omega, fun x hx => ?_⟩
  obtain ⟨j, hj, rfl⟩ := seqTo_mem hx
  exact three_ok (nameB_plain (h3 _ (getD_in hj))).ok (hkn j (by omega))
 ·obtain ⟨h1, -, h3⟩ := kindI_tags hv hk
  have e : fieldsOf rs i r = kidName rs (i : Int) 0 :: chTo rs i r.tags r.tags.length := by unfold fieldsOf; simp [hk]
  rw [e]
  refine ⟨by simp, fun x hx => ?_⟩
  rcases List.mem_cons.1 hx with rfl | hx
  ·exact hkn 0 (by omega)
  ·obtain ⟨j, hj, rfl⟩ := chTo_mem hx
   have h4 := h3 _ (getD_in (d := 0) hj)
   exact three_ok (itoa_plain (by omega)).ok (by have := hkn (j + 1) (by omega); rw [show ((j + 1 : Nat) : Int) = (j : Int) + 1 from by omega] at this; exact this)
 ·have hl := kindI_kids1 hv (.inr (.inl hk))
  have e : fieldsOf rs i r = [kidName rs (i : Int) 0] := by unfold fieldsOf; simp [hk]
  rw [e]
  refine ⟨by simp, fun x hx => ?_⟩
  rw [List.mem_singleton] at hx
  rw [hx]; exact hkn 0 (by omega)
 ·have hl := kindI_kids1 hv (.inr (.inr hk))
  have e : fieldsOf rs i r = [kidName rs (i : Int) 0] := by unfold fieldsOf; simp [hk]
  rw [e]
  refine ⟨by simp, fun x hx => ?_⟩
  rw [List.mem_singleton] at hx
  rw [hx]; exact hkn 0 (by omega)
 ·have e : fieldsOf rs i r = [hexS r.bytes] := by unfold fieldsOf; simp [hk]
  rw [e]
  refine ⟨by simp, fun x hx => ?_⟩
  rw [List.mem_singleton] at hx
  rw [hx]; exact (hex_plain (kindI_bytes0 hv (.inr hk))).ok
theorem good_kind {rs : List RuleV} {r : RuleV} (hv : kindI rs r = true) : 1 ≤ r.kind ∧ r.kind ≤ 10 := by
 rcases fields_cases hv with hk | hk | hk | hk | hk | hk | hk | hk | hk | hk <;> omega
theorem words_line {rs : List RuleV} {i : Nat} (h : allV (kindI rs) rs) (hi : i < rs.length) : wordsS (lineS rs i rs[i]) = rs[i].name :: kindName rs[i].kind :: fieldsOf rs i rs[i] := by
 obtain ⟨-, -, hn, hv⟩ := good_all h hi
 refine words_addWs (nameB_plain hn).ok fun y hy => ?_
 rcases List.mem_cons.1 hy with rfl | hy
 ·exact (kind_plain (good_kind hv)).ok
 ·exact (fields_ok h hi).2 y hy
theorem addWs_bytes {P : UInt8 → Prop} (hb : P 32) : ∀ (ws : List ByteArray) (s : ByteArray), (∀ c ∈ lst s, P c) → (∀ x ∈ ws, ∀ c ∈ lst x, P c) → ∀ c ∈ lst (addWs s ws), P c
 | [], _, hs, _ => hs
 | x :: ws, s, hs, hw => addWs_bytes hb ws (addW s x) (fun c hc => by
   unfold addW at hc
   rw [lst_append, lst_append] at hc
   rcases List.mem_append.1 hc with hc | hc
   ·exact hs c hc
   ·rcases List.mem_append.1 hc with hc | hc
    ·have : c = 32 := by simpa [lst] using hc
     rw [this]; exact hb
    ·exact hw x (by simp) c hc) (fun y hy => hw y (by simp [hy]))
theorem line_nl {rs : List RuleV} {i : Nat} (h : allV (kindI rs) rs) (hi : i < rs.length) : ∀ c ∈ lst (lineAt rs i), c ≠ 10 := by
 obtain ⟨-, -, hn, hv⟩ := good_all h hi
 rw [lineAt_in hi]
 have hall := addWs_bytes (P := fun c => 32 ≤ c.toNat) (by decide) (kindName rs[i].kind :: fieldsOf rs i rs[i]) rs[i].name (fun c hc => by have := (nameB_plain hn).2 c hc; omega) (fun x hx c hc => by
  rcases List.mem_cons.1 hx with rfl | hx
  ·have := (kind_plain (good_kind hv)).2 c hc; omega
  ·have := ((fields_ok h hi).2 x hx).2 c hc; omega)
 intro c hc e
 have h1 := hall c hc
 rw [e] at h1
 exact absurd h1 (by decide)
theorem kindAt_app {rs : List RuleV} {y : RuleV} {k : Int} (h0 : 0 ≤ k) (h1 : k < (rs.length : Int)) : kindAtB (rs ++ [y]) k = kindAtB rs k := by
 unfold kindAtB
 rw [dif_pos (by rw [List.length_append]; simp; omega), dif_pos ⟨h0, h1⟩, List.getElem_append_left (by omega)]
theorem limitAt_app {rs : List RuleV} {y : RuleV} {k : Int} (h0 : 0 ≤ k) (h1 : k < (rs.length : Int)) : limitAt (rs ++ [y]) k = limitAt rs k := by
 unfold limitAt
 rw [dif_pos (by rw [List.length_append]; simp; omega), dif_pos ⟨h0, h1⟩]
 simp only [List.getElem_append_left (show k.toNat < rs.length by omega)]
theorem kindI_app {rs : List RuleV} {y r : RuleV} {i : Nat} (hi : i ≤ rs.length) (hk : kidsB r.kids (i : Int) = true) : kindI (rs ++ [y]) r = kindI rs r := by
 obtain ⟨nm, kd, sz, lt, bs, ns, ts, ks⟩ := r
 dsimp only at hk
 cases ks with
 | nil => simp [kindI, meetsB, tagsB]
 | cons k ks =>
  unfold kidsB at hk
  rw [List.all_eq_true] at hk
  have hk1 := of_decide_eq_true (hk k (by simp))
  have e1 := kindAt_app (rs := rs) (y := y) hk1.1 (by omega)
  have e2 := limitAt_app (rs := rs) (y := y) hk1.1 (by omega)
  unfold kindI meetsB tagsB
  simp only [List.headD_cons, e1, e2]
theorem findFrom_app {x : ByteArray} {t : List RuleV} : ∀ {rs : List RuleV} {k : Nat}, 0 ≤ findFrom x rs k → findFrom x (rs ++ t) k = findFrom x rs k
 | [], k, h => by simp [findFrom] at h
 | r :: rs, k, h => by
  simp only [List.cons_append, findFrom] at h ⊢
  by_cases hx : r.name = x
  ·rw [if_pos hx, if_pos hx]
  ·rw [if_neg hx, if_neg hx]
   rw [if_neg hx] at h
   exact findFrom_app h
theorem allV_snoc {rs : List RuleV} {y : RuleV} (h : allV (kindI rs) rs) (hy : validAt (kindI (rs ++ [y])) (rs ++ [y]) (rs.length : Int) = true) : allV (kindI (rs ++ [y])) (rs ++ [y]) := fun i hi => by
 by_cases hlt : i < rs.length
 ·obtain ⟨h1, h2, h3, h4⟩ := good_all h hlt
  rw [validAt_in hi]
  have e : (rs ++ [y])[i] = rs[i] := List.getElem_append_left hlt
  rw [e]
  simp only [Bool.and_eq_true]
  exact ⟨decide_eq_true (by rw [findFrom_app (by rw [h1]; omega)]; exact h1), h2, h3, by rw [kindI_app (Nat.le_of_lt hlt) h2]; exact h4⟩
 ·have e : i = rs.length := by simp at hi; omega
  subst e
  exact hy
def Acc (rs : List RuleV) (J : ByteArray) (y : RuleV) : Prop := validAt (kindI (rs ++ [y])) (rs ++ [y]) (rs.length : Int) = true ∧ lineS (rs ++ [y]) rs.length y = J
theorem app_last {rs : List RuleV} {y : RuleV} : rs.length < (rs ++ [y]).length := by simp
theorem app_at {rs : List RuleV} {y : RuleV} : (rs ++ [y])[rs.length]'app_last = y := by simp
theorem Acc.all {rs : List RuleV} {J : ByteArray} {y : RuleV} (hr : allV (kindI rs) rs) (h : Acc rs J y) : allV (kindI (rs ++ [y])) (rs ++ [y]) := allV_snoc hr h.1
theorem Acc.good {rs : List RuleV} {J : ByteArray} {y : RuleV} (hr : allV (kindI rs) rs) (h : Acc rs J y) : findFrom y.name (rs ++ [y]) 0 = (rs.length : Int) ∧ kidsB y.kids (rs.length : Int) = true ∧ nameB y.name = true ∧ kindI (rs ++ [y]) y = true := by
 have := good_all (h.all hr) app_last
 rw [app_at] at this
 exact this
theorem Acc.words {rs : List RuleV} {J : ByteArray} {y : RuleV} (hr : allV (kindI rs) rs) (h : Acc rs J y) : wordsS J = y.name :: kindName y.kind :: fieldsOf (rs ++ [y]) rs.length y := by
 have h1 := words_line (h.all hr) app_last
 rw [app_at, h.2] at h1
 exact h1
theorem Acc.fields {rs : List RuleV} {J : ByteArray} {y : RuleV} (hr : allV (kindI rs) rs) (h : Acc rs J y) : fieldsOf (rs ++ [y]) rs.length y ≠ [] ∧ ∀ x ∈ fieldsOf (rs ++ [y]) rs.length y, WordOk x := by
 have h1 := fields_ok (h.all hr) app_last
 rw [app_at] at h1
 exact h1
theorem Acc.line {rs : List RuleV} {J : ByteArray} {y : RuleV} (h : Acc rs J y) : J = joinS ⟨#[32]⟩ (y.name :: kindName y.kind :: fieldsOf (rs ++ [y]) rs.length y) := by
 rw [join_addWs]; exact h.2.symm
theorem Acc.kid {rs : List RuleV} {J : ByteArray} {y : RuleV} (hr : allV (kindI rs) rs) (h : Acc rs J y) {k : Nat} (hk : k < y.kids.length) : ∃ q, ∃ hq : q < rs.length, y.kids[k] = (q : Int) ∧ kidName (rs ++ [y]) (rs.length : Int) (k : Int) = rs[q].name := by
 have hk2 : k < ((rs ++ [y])[rs.length]'app_last).kids.length := by rw [app_at]; exact hk
 obtain ⟨q, hq, h1, h2, h3⟩ := good_kid (h.all hr) app_last hk2
 have e : (rs ++ [y])[q] = rs[q] := List.getElem_append_left h2
 refine ⟨q, h2, ?_, ?_⟩
 ·simp only [app_at] at h1; exact h1
 ·rw [h3, e]
theorem name_index {rs : List RuleV} (hr : allV (kindI rs) rs) {p q : Nat} (hp : p < rs.length) (hq : q < rs.length) (e : rs[p].name = rs[q].name) : p = q := by
 have h1 := (good_all hr hp).1
 have h2 := (good_all hr hq).1
 rw [e, h2] at h1
 omega
theorem kinds_apart : ∀ j k : Fin 11, 1 ≤ j.val → 1 ≤ k.val → kindNames.getD j.val ⟨#[]⟩ = kindNames.getD k.val ⟨#[]⟩ → j = k := by decide +kernel
theorem kindName_inj {j k : Int} (hj : 1 ≤ j ∧ j ≤ 10) (hk : 1 ≤ k ∧ k ≤ 10) (e : kindName j = kindName k) : j = k := by
 unfold kindName at e
 rw [if_pos hj, if_pos hk] at e
 have := kinds_apart ⟨j.toNat, by omega⟩ ⟨k.toNat, by omega⟩ (by show 1 ≤ j.toNat; omega) (by show 1 ≤ k.toNat; omega) e
 have := congrArg Fin.val this
 simp at this
 omega
theorem itoaS_spells {n : Nat} (h : n ≤ 1000000000000) : Spells (itoaS (n : Int)) n := ⟨h, by show (Lib.itoa (n : Int)).toArray.toList = _; rw [itoa_nat]⟩
theorem itoaS_inj {a b : Int} (ha : 0 ≤ a ∧ a ≤ 1000000000000) (hb : 0 ≤ b ∧ b ≤ 1000000000000) (e : itoaS a = itoaS b) : a = b := by
 obtain ⟨n, rfl⟩ : ∃ n : Nat, a = (n : Int) := ⟨a.toNat, by omega⟩
 obtain ⟨m, rfl⟩ : ∃ m : Nat, b = (m : Int) := ⟨b.toNat, by omega⟩
 have h1 := itoaS_spells (n := n) (by omega)
 have h2 := itoaS_spells (n := m) (by omega)
 rw [e] at h1
 rw [spells_unique h1 h2]
theorem hexV_digit : ∀ n : Fin 16, hexV (hexD n.val) = (n.val : Int) := by decide +kernel
theorem unhex_hex : ∀ bs : List UInt8, unhex (hexL bs) = some bs
 | [] => rfl
 | b :: r => by
  have hb := b.toNat_lt
  have h1 := hexV_digit ⟨b.toNat / 16, by omega⟩
  have h2 := hexV_digit ⟨b.toNat % 16, by omega⟩
  simp only at h1 h2
  rw [hexL, unhex, if_pos (by rw [h1, h2]; omega), unhex_hex r, h1, h2]
  simp only [Option.map_some]
  congr 2
  rw [show ((b.toNat / 16 : Nat) : Int) * 16 + ((b.toNat % 16 : Nat) : Int) = (b.toNat : Int) by omega]
  simp
theorem hex_back (bs : List UInt8) : parseHexOf (lst (hexS bs)) = (bs, true) := by
 show parseHexOf (hexL bs).toArray.toList = _
 unfold parseHexOf; rw [show (hexL bs).toArray.toList = hexL bs from by simp, unhex_hex]
theorem hexS_inj {a b : List UInt8} (e : hexS a = hexS b) : a = b := by
 have h1 := hex_back a
 rw [e, hex_back] at h1
 exact (Prod.mk.inj h1).1.symm
theorem three_cutA {x y : ByteArray} (hx : PlainW x) : cutA 58 (x ++ ⟨#[58]⟩ ++ y) = x := by
 have e : lst (x ++ ⟨#[58]⟩ ++ y) = lst x ++ 58 :: lst y := by
  rw [lst_append, lst_append, List.append_assoc]; rfl
 have hc := cutL_cut (c := 58) (r := lst y) (l := lst x) (fun c hc e => (hx.2 c hc).2 (by rw [e]; rfl))
 unfold cutA
 rw [e, hc]
 exact txt_lst x
def kidLabel (y : RuleV) (m : Nat) : ByteArray :=
 if y.kind = 6 then y.names.getD m ⟨#[]⟩ ++ ⟨#[58]⟩ else if y.kind = 7 ∧ m ≠ 0 then itoaS (y.tags.getD (m - 1) 0) ++ ⟨#[58]⟩ else ⟨#[]⟩
theorem nil_app (x : ByteArray) : (⟨#[]⟩ : ByteArray) ++ x = x := lst_inj (by rw [lst_append]; rfl)
theorem app_nil (x : ByteArray) : x ++ (⟨#[]⟩ : ByteArray) = x := lst_inj (by rw [lst_append]; exact List.append_nil _)
theorem app_assoc (x y z : ByteArray) : x ++ y ++ z = x ++ (y ++ z) := lst_inj (by simp only [lst_append, List.append_assoc])
theorem seqTo_map (rs : List RuleV) (n : Nat) (ns : List ByteArray) : ∀ k, seqTo rs n ns k = (List.range k).map fun (m : Nat) => ns.getD m ⟨#[]⟩ ++ ⟨#[58]⟩ ++ kidName rs (n : Int) (m : Int)
 | 0 => rfl
 | k + 1 => by rw [seqTo, seqTo_map rs n ns k, List.range_succ, List.map_append]; rfl
theorem chTo_map (rs : List RuleV) (n : Nat) (ts : List Int) : ∀ k, chTo rs n ts k = (List.range k).map fun (m : Nat) => itoaS (ts.getD m 0) ++ ⟨#[58]⟩ ++ kidName rs (n : Int) ((m : Int) + 1)
 | 0 => rfl
 | k + 1 => by rw [chTo, chTo_map rs n ts k, List.range_succ, List.map_append]; rfl
theorem kindI_kids {rs : List RuleV} {r : RuleV} (h : kindI rs r = true) : (r.kind = 4 ∨ r.kind = 8 ∨ r.kind = 9 → r.kids.length = 1) ∧ (r.kind = 5 → r.kids.length = 2) ∧ (r.kind = 6 → r.names.length = r.kids.length) ∧ (r.kind = 7 → r.kids.length = r.tags.length + 1) := by
 unfold kindI at h
 rw [Bool.and_eq_true] at h
 have h1 := h.1
 refine ⟨fun hk => ?_, fun hk => ?_, fun hk => ?_, fun hk => ?_⟩
 ·rcases hk with hk | hk | hk <;> simp [meetsB, hk] at h1
  ·exact h1.1
  ·exact h1
  ·exact h1
 ·simp [meetsB, hk] at h1; exact h1.1
 ·simp [meetsB, hk] at h1; exact h1.1
 ·simp [meetsB, hk] at h1
  unfold tagsB at h1
  rw [Bool.and_eq_true] at h1
  exact (of_decide_eq_true h1.1).1
theorem fields_kid {rs : List RuleV} {n : Nat} {y : RuleV} (h : kindI rs y = true) (hk : 4 ≤ y.kind ∧ y.kind ≤ 9) : fieldsOf rs n y = (List.range y.kids.length).map fun (m : Nat) => kidLabel y m ++ kidName rs (n : Int) (m : Int) := by
 obtain ⟨k1, k2, k3, k4⟩ := kindI_kids h
 rcases (by omega : y.kind = 4 ∨ y.kind = 5 ∨ y.kind = 6 ∨ y.kind = 7 ∨ y.kind = 8 ∨ y.kind = 9) with e | e | e | e | e | e
 ·have hl := k1 (.inl e)
  have hf : fieldsOf rs n y = [kidName rs (n : Int) 0] := by unfold fieldsOf; simp [e]
  rw [hf, hl]
  simp [List.range_succ, kidLabel, e, nil_app]
 ·have hl := k2 e
  have hf : fieldsOf rs n y = [kidName rs (n : Int) 0, kidName rs (n : Int) 1] := by unfold fieldsOf; simp [e]
  rw [hf, hl]
  simp [List.range_succ, kidLabel, e, nil_app]
 ·have hl := k3 e
  have hf : fieldsOf rs n y = seqTo rs n y.names y.names.length := by unfold fieldsOf; simp [e]
  rw [hf, seqTo_map, hl]
  apply List.map_congr_left
  intro m _
  simp [kidLabel, e]
 ·have hl := k4 e
  have hf : fieldsOf rs n y = kidName rs (n : Int) 0 :: chTo rs n y.tags y.tags.length := by unfold fieldsOf; simp [e]
  rw [hf, chTo_map, hl, List.range_succ_eq_map, List.map_cons, List.map_map]
  congr 1
  ·simp [kidLabel, e, nil_app]
  ·apply List.map_congr_left
   intro m _
   simp [kidLabel, e]
 ·have hl := k1 (.inr (.inl e))
  have hf : fieldsOf rs n y = [kidName rs (n : Int) 0] := by unfold fieldsOf; simp [e]
  rw [hf, hl]
  simp [List.range_succ, kidLabel, e, nil_app]
 ·have hl := k1 (.inr (.inr e))
  have hf : fieldsOf rs n y = [kidName rs (n : Int) 0] := by unfold fieldsOf; simp [e]
  rw [hf, hl]
  simp [List.range_succ, kidLabel, e, nil_app]
theorem tags_small {lim : Int} : ∀ {ts : List Int} {lo : Int}, tagsOk lim lo ts = true → ∀ t ∈ ts, lo ≤ t ∧ t ≤ lim
 | [], _, _, t, ht => by simp at ht
 | u :: us, lo, h, t, ht => by
  unfold tagsOk at h
  rw [Bool.and_eq_true] at h
  have h1 := of_decide_eq_true h.1
  rcases List.mem_cons.1 ht with rfl | ht
  ·exact h1
  ·have := tags_small h.2 t ht
   omega
theorem kindI_tagsP {rs : List RuleV} {r : RuleV} (h : kindI rs r = true) (hk : r.kind = 7) : ∀ t ∈ r.tags, 0 ≤ t ∧ t ≤ 1000000000000 := by
 simp [kindI, meetsB, hk] at h
 have h1 := h.1
 unfold tagsB at h1
 rw [Bool.and_eq_true] at h1
 intro t ht
 have := tags_small h1.2 t ht
 have := limitAt_le rs (r.kids.headD 0)
 omega
theorem kindI_fixed {rs : List RuleV} {r : RuleV} (h : kindI rs r = true) (hk : r.kind = 3) : 0 ≤ r.size ∧ r.size ≤ 1000000000000 := by
 simp [kindI, meetsB, hk] at h
 omega
theorem label_cut {rs : List RuleV} {y : RuleV} (h : kindI rs y = true) {m : Nat} (hm : m < y.kids.length) (z : ByteArray) :
  (y.kind = 6 → ∃ hn : m < y.names.length, cutA 58 (kidLabel y m ++ z) = y.names[m] ∧ cutB 58 (kidLabel y m ++ z) = z) ∧
  (y.kind = 7 → m ≠ 0 → ∃ hn : m - 1 < y.tags.length, cutA 58 (kidLabel y m ++ z) = itoaS (y.tags[m - 1]) ∧ cutB 58 (kidLabel y m ++ z) = z) := by
 obtain ⟨-, -, k3, k4⟩ := kindI_kids h
 refine ⟨fun e => ?_, fun e hm0 => ?_⟩
 ·have hn : m < y.names.length := by rw [k3 e]; exact hm
  have hp := nameB_plain ((kindI_names h e).2 _ (List.getElem_mem hn))
  have el : kidLabel y m = y.names[m] ++ ⟨#[58]⟩ := by unfold kidLabel; rw [if_pos e, List.getD_eq_getElem?_getD, List.getElem?_eq_getElem hn]; rfl
  rw [el]
  exact ⟨hn, three_cutA hp, (three_cut hp).2⟩
 ·have hn : m - 1 < y.tags.length := by have := k4 e; omega
  have hp := itoa_plain (n := y.tags[m - 1]) (kindI_tagsP h e _ (List.getElem_mem hn)).1
  have el : kidLabel y m = itoaS y.tags[m - 1] ++ ⟨#[58]⟩ := by unfold kidLabel; rw [if_neg (by omega), if_pos ⟨e, hm0⟩, List.getD_eq_getElem?_getD, List.getElem?_eq_getElem hn]; rfl
  rw [el]
  exact ⟨hn, three_cutA hp, (three_cut hp).2⟩
theorem Acc.only {rs : List RuleV} {J : ByteArray} {y : RuleV} (hr : allV (kindI rs) rs) (h : Acc rs J y) : y = onlyR y := by
 have h1 := (h.good hr).2.2.2
 unfold kindI at h1
 rw [Bool.and_eq_true] at h1
 exact (sameR_iff _ _).1 h1.2
theorem acc_unique {rs : List RuleV} {J : ByteArray} {x y : RuleV} (hr : allV (kindI rs) rs) (hx : Acc rs J x) (hy : Acc rs J y) : x = y := by
 have hw := hx.words hr
 rw [hy.words hr] at hw
 obtain ⟨en, ek, ef⟩ : y.name = x.name ∧ kindName y.kind = kindName x.kind ∧ fieldsOf (rs ++ [y]) rs.length y = fieldsOf (rs ++ [x]) rs.length x := by simpa using hw
 obtain ⟨-, -, -, vx⟩ := hx.good hr
 obtain ⟨-, -, -, vy⟩ := hy.good hr
 have e := kindName_inj (good_kind vy) (good_kind vx) ek
 have ox := hx.only hr
 have oy := hy.only hr
 have hg := good_kind vx
 by_cases hk : 4 ≤ x.kind ∧ x.kind ≤ 9
 ·rw [fields_kid vx hk, fields_kid vy (by omega)] at ef
  have hl : y.kids.length = x.kids.length := by have := congrArg List.length ef; simpa using this
  have hw : ∀ m, m < x.kids.length → kidLabel y m ++ kidName (rs ++ [y]) (rs.length : Int) (m : Int) = kidLabel x m ++ kidName (rs ++ [x]) (rs.length : Int) (m : Int) := fun m hm => by
   have h1 := congrArg (fun l => l[m]?) ef
   simp only [List.getElem?_map, List.getElem?_range (by omega : m < y.kids.length), List.getElem?_range hm, Option.map_some, Option.some.injEq] at h1
   exact h1
  have hkn : (∀ m, m < x.kids.length → kidName (rs ++ [y]) (rs.length : Int) (m : Int) = kidName (rs ++ [x]) (rs.length : Int) (m : Int)) → y.kids = x.kids := fun hn => by
   apply List.ext_getElem hl
   intro m h1 h2
   obtain ⟨p, hp, e1, e2⟩ := hy.kid hr h1
   obtain ⟨q, hq, e3, e4⟩ := hx.kid hr h2
   have := name_index hr hp hq (by rw [← e2, ← e4]; exact hn m h2)
   rw [e1, e3, this]
  rcases (by omega : x.kind = 6 ∨ x.kind = 7 ∨ (x.kind ≠ 6 ∧ x.kind ≠ 7)) with k6 | k7 | kn
  ·have c := fun m hm => And.intro ((label_cut vy (m := m) (by omega) (kidName (rs ++ [y]) (rs.length : Int) (m : Int))).1 (by omega)) ((label_cut vx (m := m) hm (kidName (rs ++ [x]) (rs.length : Int) (m : Int))).1 k6)
   have hkids := hkn fun m hm => by
    obtain ⟨⟨_, _, c1⟩, ⟨_, _, c2⟩⟩ := c m hm
    rw [← c1, ← c2, hw m hm]
   have hnames : y.names = x.names := by
    have l1 := (kindI_kids vy).2.2.1 (by omega)
    have l2 := (kindI_kids vx).2.2.1 k6
    apply List.ext_getElem (by omega)
    intro m h1 h2
    obtain ⟨⟨_, c1, _⟩, ⟨_, c2, _⟩⟩ := c m (by omega)
    rw [← c1, ← c2, hw m (by omega)]
   have q : onlyR x = onlyR y := by unfold onlyR; simp [k6, e, en, hkids, hnames]
   rw [ox, oy, q]
  ·have c := fun m hm hm0 => And.intro ((label_cut vy (m := m) (by omega) (kidName (rs ++ [y]) (rs.length : Int) (m : Int))).2 (by omega) hm0) ((label_cut vx (m := m) hm (kidName (rs ++ [x]) (rs.length : Int) (m : Int))).2 k7 hm0)
   have l1 := (kindI_kids vy).2.2.2 (by omega)
   have l2 := (kindI_kids vx).2.2.2 k7
   have hkids := hkn fun m hm => by
    by_cases hm0 : m = 0
    ·subst hm0
     have h1 := hw 0 hm
     have z1 : kidLabel y 0 = ⟨#[]⟩ := by unfold kidLabel; simp [e, k7]
     have z2 : kidLabel x 0 = ⟨#[]⟩ := by unfold kidLabel; simp [k7]
     rw [z1, z2, nil_app, nil_app] at h1
     exact h1
    ·obtain ⟨⟨_, _, c1⟩, ⟨_, _, c2⟩⟩ := c m hm hm0
     rw [← c1, ← c2, hw m hm]
   have htags : y.tags = x.tags := by
    apply List.ext_getElem (by omega)
    intro m h1 h2
    obtain ⟨⟨_, c1, _⟩, ⟨_, c2, _⟩⟩ := c (m + 1) (by omega) (by omega)
    simp only [Nat.add_sub_cancel] at c1 c2
    refine itoaS_inj (kindI_tagsP vy (by omega) _ (List.getElem_mem h1)) (kindI_tagsP vx k7 _ (List.getElem_mem h2)) ?_
    rw [← c1, ← c2, hw (m + 1) (by omega)]
   have q : onlyR x = onlyR y := by unfold onlyR; simp [k7, e, en, hkids, htags]
   rw [ox, oy, q]
  ·have hkids := hkn fun m hm => by
    have h1 := hw m hm
    have z1 : kidLabel y m = ⟨#[]⟩ := by unfold kidLabel; rw [if_neg (by omega), if_neg (by omega)]
    have z2 : kidLabel x m = ⟨#[]⟩ := by unfold kidLabel; rw [if_neg (by omega), if_neg (by omega)]
    rw [z1, z2, nil_app, nil_app] at h1
    exact h1
   have q : onlyR x = onlyR y := by
    rcases (by omega : x.kind = 4 ∨ x.kind = 5 ∨ x.kind = 8 ∨ x.kind = 9) with k | k | k | k <;> (unfold onlyR; simp [k, e, en, hkids])
   rw [ox, oy, q]
 ·rcases (by omega : x.kind = 1 ∨ x.kind = 2 ∨ x.kind = 3 ∨ x.kind = 10) with k | k | k | k
  ·have ky : y.kind = 1 := by omega
   have fx : fieldsOf (rs ++ [x]) rs.length x = if x.little then [itoaS x.size, littleS] else [itoaS x.size] := by unfold fieldsOf; rw [if_pos k]
   have fy : fieldsOf (rs ++ [y]) rs.length y = if y.little then [itoaS y.size, littleS] else [itoaS y.size] := by unfold fieldsOf; rw [if_pos ky]
   rw [fx, fy] at ef
   have sx := kindI_size vx k
   have sy := kindI_size vy ky
   have hb : y.little = x.little ∧ itoaS y.size = itoaS x.size := by
    cases hly : y.little <;> cases hlx : x.little <;> simp [hly, hlx] at ef ⊢ <;> first | exact ef | exact ef.1
   have hs := itoaS_inj (by omega) (by omega) hb.2
   have q : onlyR x = onlyR y := by unfold onlyR; simp [k, e, en, hs, hb.1]
   rw [ox, oy, q]
  ·have fx : fieldsOf (rs ++ [x]) rs.length x = [hexS x.bytes] := by unfold fieldsOf; simp [k]
   have fy : fieldsOf (rs ++ [y]) rs.length y = [hexS y.bytes] := by unfold fieldsOf; simp [e, k]
   rw [fx, fy] at ef
   have hs := hexS_inj (by simpa using ef)
   have q : onlyR x = onlyR y := by unfold onlyR; simp [k, e, en, hs]
   rw [ox, oy, q]
  ·have fx : fieldsOf (rs ++ [x]) rs.length x = [itoaS x.size] := by unfold fieldsOf; simp [k]
   have fy : fieldsOf (rs ++ [y]) rs.length y = [itoaS y.size] := by unfold fieldsOf; simp [e, k]
   rw [fx, fy] at ef
   have hs := itoaS_inj (kindI_fixed vy (by omega)) (kindI_fixed vx k) (by simpa using ef)
   have q : onlyR x = onlyR y := by unfold onlyR; simp [k, e, en, hs]
   rw [ox, oy, q]
  ·have fx : fieldsOf (rs ++ [x]) rs.length x = [hexS x.bytes] := by unfold fieldsOf; simp [k]
   have fy : fieldsOf (rs ++ [y]) rs.length y = [hexS y.bytes] := by unfold fieldsOf; simp [e, k]
   rw [fx, fy] at ef
   have hs := hexS_inj (by simpa using ef)
   have q : onlyR x = onlyR y := by unfold onlyR; simp [k, e, en, hs]
   rw [ox, oy, q]
theorem joinS_cons {sep x : ByteArray} {r : List ByteArray} (h : r ≠ []) : joinS sep (x :: r) = x ++ (sep ++ joinS sep r) := by
 refine lst_inj ?_
 rw [lst_append, lst_append]
 unfold joinS
 rw [lst_txt, lst_txt, List.map_cons, joinL_cons _ _ (by simpa using h), List.append_assoc]
def restText (rs : List RuleV) (y : RuleV) (m : Nat) : ByteArray := joinS ⟨#[32]⟩ ((fieldsOf (rs ++ [y]) rs.length y).drop m)
def tailText (rs : List RuleV) (y : RuleV) (m : Nat) : ByteArray := if m + 1 < y.kids.length then ⟨#[32]⟩ ++ restText rs y (m + 1) else ⟨#[]⟩
theorem rest_at {rs : List RuleV} {y : RuleV} (h : kindI (rs ++ [y]) y = true) (hk : 4 ≤ y.kind ∧ y.kind ≤ 9) {m : Nat} (hm : m < y.kids.length) : restText rs y m = kidLabel y m ++ (kidName (rs ++ [y]) (rs.length : Int) (m : Int) ++ tailText rs y m) := by
 have hf := fields_kid (n := rs.length) h hk
 have hl : (fieldsOf (rs ++ [y]) rs.length y).length = y.kids.length := by rw [hf]; simp
 have hat : (fieldsOf (rs ++ [y]) rs.length y)[m]'(by omega) = kidLabel y m ++ kidName (rs ++ [y]) (rs.length : Int) (m : Int) := by simp only [hf, List.getElem_map, List.getElem_range]
 unfold restText
 rw [List.drop_eq_getElem_cons (by omega : m < (fieldsOf (rs ++ [y]) rs.length y).length), hat]
 unfold tailText
 by_cases h1 : m + 1 < y.kids.length
 ·rw [if_pos h1, joinS_cons (fun e => by have := congrArg List.length e; simp at this; omega), app_assoc]
  rfl
 ·rw [if_neg h1, show (fieldsOf (rs ++ [y]) rs.length y).drop (m + 1) = [] from List.drop_eq_nil_of_le (by omega), joinS_first, app_nil]
theorem cut32 {x z : ByteArray} (hx : WordOk x) : cutA 32 (x ++ (⟨#[32]⟩ ++ z)) = x ∧ cutB 32 (x ++ (⟨#[32]⟩ ++ z)) = z ∧ cutK 32 (x ++ (⟨#[32]⟩ ++ z)) = true := by
 have e : lst (x ++ (⟨#[32]⟩ ++ z)) = lst x ++ 32 :: lst z := by
  rw [lst_append, lst_append]; rfl
 have hc := cutL_cut (c := 32) (r := lst z) (l := lst x) (fun c hc e => by have := hx.2 c hc; rw [e] at this; exact absurd this (by decide))
 unfold cutA cutB cutK
 rw [e, hc]
 exact ⟨txt_lst x, txt_lst z, rfl⟩
theorem cut32_none {x : ByteArray} (hx : WordOk x) : cutA 32 x = x ∧ cutB 32 x = ⟨#[]⟩ ∧ cutK 32 x = false := by
 have hc := cutL_none (c := 32) (l := lst x) (fun c hc e => by have := hx.2 c hc; rw [e] at this; exact absurd this (by decide))
 unfold cutA cutB cutK
 rw [hc]
 exact ⟨txt_lst x, rfl, rfl⟩
theorem Acc.cut {rs : List RuleV} {J : ByteArray} {y : RuleV} (hr : allV (kindI rs) rs) (h : Acc rs J y) : cutA 32 J = y.name ∧ cutA 32 (cutB 32 J) = kindName y.kind ∧ cutB 32 (cutB 32 J) = restText rs y 0 := by
 obtain ⟨-, -, hn, hv⟩ := h.good hr
 have e1 : J = y.name ++ (⟨#[32]⟩ ++ joinS ⟨#[32]⟩ (kindName y.kind :: fieldsOf (rs ++ [y]) rs.length y)) := by rw [h.line]; exact joinS_cons (by simp)
 have c1 := cut32 (z := joinS ⟨#[32]⟩ (kindName y.kind :: fieldsOf (rs ++ [y]) rs.length y)) (nameB_plain hn).ok
 rw [← e1] at c1
 have e2 : joinS ⟨#[32]⟩ (kindName y.kind :: fieldsOf (rs ++ [y]) rs.length y) = kindName y.kind ++ (⟨#[32]⟩ ++ joinS ⟨#[32]⟩ (fieldsOf (rs ++ [y]) rs.length y)) := joinS_cons (h.fields hr).1
 have c2 := cut32 (z := joinS ⟨#[32]⟩ (fieldsOf (rs ++ [y]) rs.length y)) (kind_plain (good_kind hv)).ok
 rw [← e2] at c2
 refine ⟨c1.1, ?_, ?_⟩
 ·rw [c1.2.1]; exact c2.1
 ·rw [c1.2.1, c2.2.1]; rfl
def partR (y : RuleV) (m : Nat) : RuleV := { y with names := y.names.take m, tags := y.tags.take (m - 1), kids := y.kids.take m }
def partL (y : RuleV) (m : Nat) : RuleV := { y with names := y.names.take (m + 1), tags := y.tags.take m, kids := y.kids.take m }
def OnPath (rs : List RuleV) (y : RuleV) (m : Nat) (r : RuleV) (T : ByteArray) : Prop := (4 ≤ y.kind ∧ y.kind ≤ 9) ∧ m < y.kids.length ∧ r = partR y m ∧ T = restText rs y m
def AtKid (rs : List RuleV) (y : RuleV) (m : Nat) (r : RuleV) (T : ByteArray) : Prop := (4 ≤ y.kind ∧ y.kind ≤ 9) ∧ m < y.kids.length ∧ r = partL y m ∧ T = kidName (rs ++ [y]) (rs.length : Int) (m : Int) ++ tailText rs y m
theorem Acc.nameless {rs : List RuleV} {J : ByteArray} {y : RuleV} (hr : allV (kindI rs) rs) (h : Acc rs J y) (hk : 4 ≤ y.kind ∧ y.kind ≤ 9) : (y.kind ≠ 6 → y.names = []) ∧ (y.kind ≠ 7 → y.tags = []) ∧ y.size = 0 ∧ y.little = false ∧ y.bytes = [] := by
 have ho := h.only hr
 rcases (by omega : y.kind = 4 ∨ y.kind = 5 ∨ y.kind = 6 ∨ y.kind = 7 ∨ y.kind = 8 ∨ y.kind = 9) with e | e | e | e | e | e <;>
  (unfold onlyR at ho; simp [e] at ho; rw [ho]; simp)
theorem part_all {rs : List RuleV} {J : ByteArray} {y : RuleV} (hr : allV (kindI rs) rs) (h : Acc rs J y) (hk : 4 ≤ y.kind ∧ y.kind ≤ 9) : partR y y.kids.length = y := by
 obtain ⟨n6, n7, -⟩ := h.nameless hr hk
 obtain ⟨-, -, k3, k4⟩ := kindI_kids (h.good hr).2.2.2
 unfold partR
 have e1 : y.names.take y.kids.length = y.names := by
  by_cases e : y.kind = 6
  ·rw [← k3 e, List.take_length]
  ·rw [n6 e]; simp
 have e2 : y.tags.take (y.kids.length - 1) = y.tags := by
  by_cases e : y.kind = 7
  ·rw [k4 e, Nat.add_sub_cancel, List.take_length]
  ·rw [n7 e]; simp
 rw [e1, e2, List.take_length]
theorem path_start {rs : List RuleV} {J : ByteArray} {y : RuleV} (hr : allV (kindI rs) rs) (h : Acc rs J y) (hk : 4 ≤ y.kind ∧ y.kind ≤ 9) : OnPath rs y 0 ⟨y.name, y.kind, 0, false, [], [], [], []⟩ (restText rs y 0) := by
 obtain ⟨-, -, h1, h2, h3⟩ := h.nameless hr hk
 refine ⟨hk, ?_, ?_, rfl⟩
 ·have hf := fields_kid (n := rs.length) (h.good hr).2.2.2 hk
  rcases Nat.eq_zero_or_pos y.kids.length with h0 | h0
  ·rw [h0] at hf
   exact absurd (by simpa using hf) (h.fields hr).1
  ·exact h0
 ·unfold partR
  rw [h1, h2, h3]
  simp
theorem path_label {rs : List RuleV} {J : ByteArray} {y r : RuleV} {T : ByteArray} {m : Nat} (hr : allV (kindI rs) rs) (h : Acc rs J y) (hp : OnPath rs y m r T) :
  (y.kind = 6 → AtKid rs y m { r with names := r.names ++ [cutA 58 T] } (cutB 58 T)) ∧
  (y.kind = 7 → m ≠ 0 → ∃ t : Nat, Spells (cutA 58 T) t ∧ AtKid rs y m { r with tags := r.tags ++ [(t : Int)] } (cutB 58 T)) ∧
  (y.kind ≠ 6 → ¬ (y.kind = 7 ∧ m ≠ 0) → AtKid rs y m r T) := by
 obtain ⟨hk, hm, rfl, rfl⟩ := hp
 obtain ⟨n6, n7, -⟩ := h.nameless hr hk
 have hv := (h.good hr).2.2.2
 obtain ⟨-, -, k3, k4⟩ := kindI_kids hv
 have hc := label_cut hv hm (kidName (rs ++ [y]) (rs.length : Int) (m : Int) ++ tailText rs y m)
 rw [← rest_at hv hk hm] at hc
 refine ⟨fun e => ?_, fun e hm0 => ?_, fun e1 e2 => ?_⟩
 ·obtain ⟨hn, c1, c2⟩ := hc.1 e
  refine ⟨hk, hm, ?_, c2⟩
  rw [c1]
  unfold partR partL
  rw [n7 (by omega)]
  simp only [List.take_nil]
  rw [List.take_succ_eq_append_getElem hn]
 ·obtain ⟨hn, c1, c2⟩ := hc.2 e hm0
  have ht := kindI_tagsP hv e _ (List.getElem_mem hn)
  refine ⟨y.tags[m - 1].toNat, ?_, hk, hm, ?_, c2⟩
  ·rw [c1]
   have := itoaS_spells (n := y.tags[m - 1].toNat) (by omega)
   rwa [show ((y.tags[m - 1].toNat : Nat) : Int) = y.tags[m - 1] from by omega] at this
  ·rw [show ((y.tags[m - 1].toNat : Nat) : Int) = y.tags[m - 1] from by omega]
   unfold partR partL
   rw [n6 (by omega)]
   simp only [List.take_nil]
   have := List.take_succ_eq_append_getElem hn
   rw [show m - 1 + 1 = m from by omega] at this
   rw [this]
 ·refine ⟨hk, hm, ?_, ?_⟩
  ·unfold partR partL
   rw [n6 e1]
   by_cases e : y.kind = 7
   ·obtain rfl : m = 0 := by omega
    simp
   ·rw [n7 e]; simp
  ·rw [rest_at hv hk hm]
   have : kidLabel y m = ⟨#[]⟩ := by unfold kidLabel; rw [if_neg e1, if_neg e2]
   rw [this, nil_app]
theorem path_kid {rs : List RuleV} {J : ByteArray} {y r : RuleV} {T : ByteArray} {m : Nat} (hr : allV (kindI rs) rs) (h : Acc rs J y) (hp : AtKid rs y m r T) :
  ∃ q, ∃ hq : q < rs.length, y.kids[m]'hp.2.1 = (q : Int) ∧ T = rs[q].name ++ tailText rs y m ∧ { r with kids := r.kids ++ [(q : Int)] } = partR y (m + 1) ∧
   (tailText rs y m = ⟨#[]⟩ → { r with kids := r.kids ++ [(q : Int)] } = y) ∧
   (tailText rs y m ≠ ⟨#[]⟩ → tailText rs y m = ⟨#[32]⟩ ++ restText rs y (m + 1) ∧ m + 1 < y.kids.length ∧ OnPath rs y (m + 1) { r with kids := r.kids ++ [(q : Int)] } (restText rs y (m + 1))) := by
 obtain ⟨hk, hm, rfl, rfl⟩ := hp
 obtain ⟨q, hq, e1, e2⟩ := h.kid hr hm
 have ep : { partL y m with kids := (partL y m).kids ++ [(q : Int)] } = partR y (m + 1) := by
  unfold partR partL
  simp only [Nat.add_sub_cancel]
  rw [List.take_succ_eq_append_getElem hm, e1]
 refine ⟨q, hq, e1, by rw [e2], ep, fun ht => ?_, fun ht => ?_⟩
 ·have hl : ¬ m + 1 < y.kids.length := fun hl => by
   unfold tailText at ht
   rw [if_pos hl] at ht
   have := congrArg ByteArray.size ht
   rw [ByteArray.size_append] at this
   have h1 : (⟨#[32]⟩ : ByteArray).size = 1 := rfl
   have h2 : (⟨#[]⟩ : ByteArray).size = 0 := rfl
   omega
  rw [ep, show m + 1 = y.kids.length from by omega]
  exact part_all hr h hk
 ·by_cases hl : m + 1 < y.kids.length
  ·refine ⟨by unfold tailText; rw [if_pos hl], hl, hk, hl, ep, rfl⟩
  ·exact absurd (by unfold tailText; rw [if_neg hl]) ht
end Go.Proofs.YtndjefednfcmmaaGreatDoor
