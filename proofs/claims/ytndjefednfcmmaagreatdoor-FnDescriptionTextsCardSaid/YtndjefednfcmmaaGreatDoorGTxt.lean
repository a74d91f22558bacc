/- Lines of rules, as plain functions. No program is walked here. How long lines are; the text of a description. No program is walked here. One value is appended, as a step of a region that draws its order. Rows that a call owns: a literal slice; new memory elsewhere. Contract of strings.Builder's WriteString as this program holds it. -/
import Derived.Test.YtndjefednfcmmaaGreatDoorGFnd
import Derived.Test.YtndjefednfcmmaaGreatDoorGVal
import Derived.Test.YtndjefednfcmmaaGreatDoorGHx
import Derived.Test.YtndjefednfcmmaaGreatDoorGNum
import Derived.Lib.ItoaLen
import Derived.Test.YtndjefednfcmmaaGreatDoorPushF
import Derived.Deep.RegionLaw
import Derived.Lib.AppendStr
namespace Go.Proofs.YtndjefednfcmmaaGreatDoor
open Go Go.RowKit
def addW (s x : ByteArray) : ByteArray := s ++ (⟨#[32]⟩ ++ x)
def addWs (s : ByteArray) (ws : List ByteArray) : ByteArray := ws.foldl addW s
theorem addWs_snoc (s : ByteArray) (ws : List ByteArray) (x : ByteArray) : addWs s (ws ++ [x]) = addW (addWs s ws) x := by simp [addWs, List.foldl_append]
theorem addW_size (s x : ByteArray) : (addW s x).size = s.size + 1 + x.size := by
 unfold addW
 rw [ByteArray.size_append, ByteArray.size_append]
 show s.size + (1 + x.size) = _
 omega
def itoaS (n : Int) : ByteArray := ⟨(Lib.itoa n).toArray⟩
def hexS (bs : List UInt8) : ByteArray := ⟨(hexL bs).toArray⟩
theorem itoaS_size {n : Int} (h0 : -9223372036854775808 ≤ n) (h1 : n ≤ 9223372036854775807) : (itoaS n).size ≤ 21 := by
 have := Lib.itoa_length_le n h0 h1
 show (Lib.itoa n).toArray.size ≤ 21
 simpa using this
theorem hexS_size (bs : List UInt8) : (hexS bs).size = 2 * bs.length := by
 show (hexL bs).toArray.size = _
 rw [List.size_toArray, hexL_length]
def littleS : ByteArray := ⟨#[108, 105, 116, 116, 108, 101]⟩
def seqTo (rs : List RuleV) (n : Nat) (ns : List ByteArray) : Nat → List ByteArray
 | 0 => []
 | k + 1 => seqTo rs n ns k ++ [ns.getD k ⟨#[]⟩ ++ ⟨#[58]⟩ ++ kidName rs (n : Int) (k : Int)]
def chTo (rs : List RuleV) (n : Nat) (ts : List Int) : Nat → List ByteArray
 | 0 => []
 | k + 1 => chTo rs n ts k ++ [itoaS (ts.getD k 0) ++ ⟨#[58]⟩ ++ kidName rs (n : Int) ((k : Int) + 1)]
def fieldsOf (rs : List RuleV) (n : Nat) (r : RuleV) : List ByteArray :=
 if r.kind = 1 then (if r.little then [itoaS r.size, littleS] else [itoaS r.size])
 else if r.kind = 2 ∨ r.kind = 10 then [hexS r.bytes]
 else if r.kind = 3 then [itoaS r.size]
 else if r.kind = 4 ∨ r.kind = 8 ∨ r.kind = 9 then [kidName rs (n : Int) 0]
 else if r.kind = 5 then [kidName rs (n : Int) 0, kidName rs (n : Int) 1]
 else if r.kind = 6 then seqTo rs n r.names r.names.length
 else if r.kind = 7 then kidName rs (n : Int) 0 :: chTo rs n r.tags r.tags.length
 else []
def lineS (rs : List RuleV) (n : Nat) (r : RuleV) : ByteArray := addWs r.name (kindName r.kind :: fieldsOf rs n r)
theorem kidName_size {rs : List RuleV} (h : ∀ r ∈ rs, r.name.size ≤ 1048576) (i k : Int) : (kidName rs i k).size ≤ 1048576 := by
 unfold kidName
 split
 ·split
  ·split
   ·exact h _ (List.getElem_mem _)
   ·exact Nat.zero_le _
  ·exact Nat.zero_le _
 ·exact Nat.zero_le _
theorem joinL_two (sep x y : List UInt8) (r : List (List UInt8)) : joinL sep (x :: y :: r) = joinL sep ((x ++ (sep ++ y)) :: r) := by
 cases r with
 | nil => simp [joinL]
 | cons z r => simp [joinL, List.append_assoc]
theorem lst_append (a b : ByteArray) : lst (a ++ b) = lst a ++ lst b := by
 show (a ++ b).data.toList = a.data.toList ++ b.data.toList
 simp [ByteArray.data_append]
theorem join_addWs (ws : List ByteArray) : ∀ x, joinS ⟨#[32]⟩ (x :: ws) = addWs x ws := by
 induction ws with
 | nil => intro x; rw [joinS_first]; rfl
 | cons y ws ih =>
  intro x
  show _ = addWs (addW x y) ws
  rw [← ih (addW x y)]
  unfold joinS
  rw [List.map_cons, List.map_cons, List.map_cons, joinL_two]
  unfold addW
  rw [lst_append, lst_append]
theorem fields_cases {rs : List RuleV} {r : RuleV} (h : kindI rs r = true) : r.kind = 1 ∨ r.kind = 2 ∨ r.kind = 3 ∨ r.kind = 4 ∨ r.kind = 5 ∨ r.kind = 6 ∨ r.kind = 7 ∨ r.kind = 8 ∨ r.kind = 9 ∨ r.kind = 10 := by
 rcases kind_cases r.kind with h1 | h1 | h1 | h1 | h1 | h1 | h1 | h1 | h1 | h1 | hk
 ·exact .inl h1
 ·exact .inr (.inl h1)
 ·exact .inr (.inr (.inl h1))
 ·exact .inr (.inr (.inr (.inl h1)))
 ·exact .inr (.inr (.inr (.inr (.inl h1))))
 ·exact .inr (.inr (.inr (.inr (.inr (.inl h1)))))
 ·exact .inr (.inr (.inr (.inr (.inr (.inr (.inl h1))))))
 ·exact .inr (.inr (.inr (.inr (.inr (.inr (.inr (.inl h1)))))))
 ·exact .inr (.inr (.inr (.inr (.inr (.inr (.inr (.inr (.inl h1))))))))
 ·exact .inr (.inr (.inr (.inr (.inr (.inr (.inr (.inr (.inr h1))))))))
 ·obtain ⟨k1, k2, k3, k4, k5, k6, k7, k8, k9, k10⟩ := hk
  simp [kindI, meetsB, k1, k2, k3, k4, k5, k6, k7, k8, k9, k10] at h
theorem kindI_size3 {rs : List RuleV} {r : RuleV} (h : kindI rs r = true) (hk : r.kind = 3) : 1 ≤ r.size ∧ r.size ≤ 64 := by
 simp [kindI, meetsB, hk] at h
 exact h.1
theorem kindI_bytes {rs : List RuleV} {r : RuleV} (h : kindI rs r = true) (hk : r.kind = 2 ∨ r.kind = 10) : r.bytes.length ≤ 16 := by
 rcases hk with hk | hk
 ·simp [kindI, meetsB, hk] at h
  omega
 ·simp [kindI, meetsB, hk, termB] at h
  omega
theorem kindI_kids1 {rs : List RuleV} {r : RuleV} (h : kindI rs r = true) (hk : r.kind = 4 ∨ r.kind = 8 ∨ r.kind = 9) : r.kids.length = 1 := by
 rcases hk with hk | hk | hk
 ·simp [kindI, meetsB, hk] at h; exact h.1.1
 ·simp [kindI, meetsB, hk] at h; exact h.1
 ·simp [kindI, meetsB, hk] at h; exact h.1
theorem kindI_kids2 {rs : List RuleV} {r : RuleV} (h : kindI rs r = true) (hk : r.kind = 5) : r.kids.length = 2 := by
 simp [kindI, meetsB, hk] at h
 exact h.1.1
open Classical in
theorem kindI_seq {rs : List RuleV} {r : RuleV} (h : kindI rs r = true) (hk : r.kind = 6) : r.names.length = r.kids.length ∧ r.names.length ≤ 8 ∧ ∀ s ∈ r.names, s.size ≤ 12 := by
 simp [kindI, meetsB, hk] at h
 obtain ⟨⟨h1, h2⟩, -⟩ := h
 unfold namesB at h2
 have h3 := of_decide_eq_true h2
 refine ⟨h1, h3.2.2, fun s hs => ?_⟩
 obtain ⟨j, hj, rfl⟩ := List.getElem_of_mem hs
 have h4 := (h3.1 j hj hj).1
 by_cases h5 : 1 ≤ r.names[j].size ∧ r.names[j].size ≤ 12
 ·exact h5.2
 ·rw [nameB_size h5] at h4
  cases h4
theorem tagsOk_in {lim : Int} : ∀ {ts : List Int} {lo : Int}, tagsOk lim lo ts = true → 0 ≤ lo → ∀ t ∈ ts, 0 ≤ t ∧ t ≤ lim
 | [], _, _, _, t, ht => by simp at ht
 | x :: xs, lo, h, h0, t, ht => by
  unfold tagsOk at h
  rw [Bool.and_eq_true] at h
  have h1 := of_decide_eq_true h.1
  rcases List.mem_cons.1 ht with rfl | ht
  ·omega
  ·exact tagsOk_in h.2 (by omega) t ht
theorem limitAt_le (rs : List RuleV) (k : Int) : limitAt rs k ≤ 4294967295 := by
 unfold limitAt
 split
 ·dsimp only
  split
  ·have := (pow256_bounds (rs[k.toNat]'(by omega)).size).2; omega
  ·omega
 ·omega
theorem kindI_tags {rs : List RuleV} {r : RuleV} (h : kindI rs r = true) (hk : r.kind = 7) : r.kids.length = r.tags.length + 1 ∧ r.tags.length ≤ 8 ∧ ∀ t ∈ r.tags, 0 ≤ t ∧ t ≤ 4294967295 := by
 simp [kindI, meetsB, hk] at h
 have h1 := h.1
 unfold tagsB at h1
 rw [Bool.and_eq_true] at h1
 have h2 := of_decide_eq_true h1.1
 refine ⟨h2.1, h2.2.2, fun t ht => ?_⟩
 have h3 := tagsOk_in h1.2 (Int.le_refl _) t ht
 have h4 := limitAt_le rs (r.kids.headD 0)
 omega
theorem addWs_size {c : Nat} : ∀ (ws : List ByteArray) (s : ByteArray), (∀ x ∈ ws, x.size ≤ c) → (addWs s ws).size ≤ s.size + ws.length * (c + 1)
 | [], s, _ => by simp [addWs]
 | x :: ws, s, h => by
  have h1 := addWs_size ws (addW s x) (fun y hy => h y (by simp [hy]))
  have h2 := h x (by simp)
  have h3 := addW_size s x
  have h4 : (x :: ws).length * (c + 1) = ws.length * (c + 1) + (c + 1) := by rw [List.length_cons, Nat.add_mul, Nat.one_mul]
  show (addWs (addW s x) ws).size ≤ _
  omega
theorem seqTo_length (rs : List RuleV) (n : Nat) (ns : List ByteArray) : ∀ k, (seqTo rs n ns k).length = k
 | 0 => rfl
 | k + 1 => by simp [seqTo, seqTo_length rs n ns k]
theorem chTo_length (rs : List RuleV) (n : Nat) (ts : List Int) : ∀ k, (chTo rs n ts k).length = k
 | 0 => rfl
 | k + 1 => by simp [chTo, chTo_length rs n ts k]
theorem seqTo_mem {rs : List RuleV} {n : Nat} {ns : List ByteArray} {x : ByteArray} : ∀ {k}, x ∈ seqTo rs n ns k → ∃ j, j < k ∧ x = ns.getD j ⟨#[]⟩ ++ ⟨#[58]⟩ ++ kidName rs (n : Int) (j : Int)
 | 0, h => by simp [seqTo] at h
 | k + 1, h => by
  rcases List.mem_append.1 h with h | h
  ·obtain ⟨j, hj, e⟩ := seqTo_mem h
   exact ⟨j, by omega, e⟩
  ·rw [List.mem_singleton] at h
   exact ⟨k, by omega, h⟩
theorem chTo_mem {rs : List RuleV} {n : Nat} {ts : List Int} {x : ByteArray} : ∀ {k}, x ∈ chTo rs n ts k → ∃ j, j < k ∧ x = itoaS (ts.getD j 0) ++ ⟨#[58]⟩ ++ kidName rs (n : Int) ((j : Int) + 1)
 | 0, h => by simp [chTo] at h
 | k + 1, h => by
  rcases List.mem_append.1 h with h | h
  ·obtain ⟨j, hj, e⟩ := chTo_mem h
   exact ⟨j, by omega, e⟩
  ·rw [List.mem_singleton] at h
   exact ⟨k, by omega, h⟩
theorem three_size (x y : ByteArray) : (x ++ ⟨#[58]⟩ ++ y).size = x.size + 1 + y.size := by
 rw [ByteArray.size_append, ByteArray.size_append]
 rfl
theorem getD_in {α : Type} {l : List α} {k : Nat} {d : α} (h : k < l.length) : l.getD k d ∈ l := by
 have : l.getD k d = l[k] := by simp [List.getD, h]
 rw [this]
 exact List.getElem_mem h
theorem fields_le {rs : List RuleV} {n : Nat} {r : RuleV} (hv : kindI rs r = true) (hnm : ∀ r ∈ rs, r.name.size ≤ 1048576) : (fieldsOf rs n r).length ≤ 9 ∧ ∀ x ∈ fieldsOf rs n r, x.size ≤ 1048700 := by
 have hk := kidName_size hnm
 rcases fields_cases hv with h | h | h | h | h | h | h | h | h | h
 ·have hz := kindI_size hv h
  have hi : (itoaS r.size).size ≤ 21 := itoaS_size (by omega) (by omega)
  unfold fieldsOf
  rw [if_pos h]
  split
  ·refine ⟨by simp, fun x hx => ?_⟩
   simp only [List.mem_cons, List.not_mem_nil, or_false] at hx
   rcases hx with rfl | rfl
   ·omega
   ·decide
  ·refine ⟨by simp, fun x hx => ?_⟩
   rw [List.mem_singleton] at hx
   rw [hx]; omega
 ·have hz := kindI_bytes hv (.inl h)
  have e : fieldsOf rs n r = [hexS r.bytes] := by unfold fieldsOf; simp [h]
  rw [e]
  refine ⟨by simp, fun x hx => ?_⟩
  rw [List.mem_singleton] at hx
  rw [hx, hexS_size]; omega
 ·have hz := kindI_size3 hv h
  have hi : (itoaS r.size).size ≤ 21 := itoaS_size (by omega) (by omega)
  have e : fieldsOf rs n r = [itoaS r.size] := by unfold fieldsOf; simp [h]
  rw [e]
  refine ⟨by simp, fun x hx => ?_⟩
  rw [List.mem_singleton] at hx
  rw [hx]; omega
 ·have e : fieldsOf rs n r = [kidName rs (n : Int) 0] := by unfold fieldsOf; simp [h]
  rw [e]
  refine ⟨by simp, fun x hx => ?_⟩
  rw [List.mem_singleton] at hx
  rw [hx]; have := hk (n : Int) 0; omega
 ·have e : fieldsOf rs n r = [kidName rs (n : Int) 0, kidName rs (n : Int) 1] := by unfold fieldsOf; simp [h]
  rw [e]
  refine ⟨by simp, fun x hx => ?_⟩
  simp only [List.mem_cons, List.not_mem_nil, or_false] at hx
  rcases hx with rfl | rfl
  ·have := hk (n : Int) 0; omega
  ·have := hk (n : Int) 1; omega
 ·obtain ⟨-, h2, h3⟩ := kindI_seq hv h
  have e : fieldsOf rs n r = seqTo rs n r.names r.names.length := by unfold fieldsOf; simp [h]
  rw [e, seqTo_length]
  refine ⟨by omega, fun x hx => ?_⟩
  obtain ⟨j, hj, rfl⟩ := seqTo_mem hx
  rw [three_size]
  have h4 := h3 _ (getD_in (d := ⟨#[]⟩) hj)
  have h5 := hk (n : Int) (j : Int)
  omega
 ·obtain ⟨-, h2, h3⟩ := kindI_tags hv h
  have e : fieldsOf rs n r = kidName rs (n : Int) 0 :: chTo rs n r.tags r.tags.length := by unfold fieldsOf; simp [h]
  rw [e, List.length_cons, chTo_length]
  refine ⟨by omega, fun x hx => ?_⟩
  rcases List.mem_cons.1 hx with rfl | hx
  ·have := hk (n : Int) 0; omega
  ·obtain ⟨j, hj, rfl⟩ := chTo_mem hx
   rw [three_size]
   have h4 := h3 _ (getD_in (d := 0) hj)
   have h6 : (itoaS (r.tags.getD j 0)).size ≤ 21 := itoaS_size (by omega) (by omega)
   have h5 := hk (n : Int) ((j : Int) + 1)
   omega
 ·have e : fieldsOf rs n r = [kidName rs (n : Int) 0] := by unfold fieldsOf; simp [h]
  rw [e]
  refine ⟨by simp, fun x hx => ?_⟩
  rw [List.mem_singleton] at hx
  rw [hx]; have := hk (n : Int) 0; omega
 ·have e : fieldsOf rs n r = [kidName rs (n : Int) 0] := by unfold fieldsOf; simp [h]
  rw [e]
  refine ⟨by simp, fun x hx => ?_⟩
  rw [List.mem_singleton] at hx
  rw [hx]; have := hk (n : Int) 0; omega
 ·have hz := kindI_bytes hv (.inr h)
  have e : fieldsOf rs n r = [hexS r.bytes] := by unfold fieldsOf; simp [h]
  rw [e]
  refine ⟨by simp, fun x hx => ?_⟩
  rw [List.mem_singleton] at hx
  rw [hx, hexS_size]; omega
theorem kindName_len (k : Int) : (kindName k).size ≤ 10 := by
 unfold kindName
 split
 ·rename_i h
  rcases (by omega : k = 1 ∨ k = 2 ∨ k = 3 ∨ k = 4 ∨ k = 5 ∨ k = 6 ∨ k = 7 ∨ k = 8 ∨ k = 9 ∨ k = 10) with rfl | rfl | rfl | rfl | rfl | rfl | rfl | rfl | rfl | rfl <;> decide
 ·exact Nat.zero_le _
theorem line_size {rs : List RuleV} {n : Nat} {r : RuleV} (hv : kindI rs r = true) (hnm : ∀ r ∈ rs, r.name.size ≤ 1048576) (hr : r.name.size ≤ 1048576) : (lineS rs n r).size ≤ 16777216 := by
 obtain ⟨h1, h2⟩ := fields_le (n := n) hv hnm
 have h3 := kindName_len r.kind
 have h4 := addWs_size (c := 1048700) (kindName r.kind :: fieldsOf rs n r) r.name (fun x hx => by
  rcases List.mem_cons.1 hx with rfl | hx
  ·omega
  ·exact h2 x hx)
 rw [List.length_cons] at h4
 have h5 : ((fieldsOf rs n r).length + 1) * (1048700 + 1) ≤ 10 * 1048701 := Nat.mul_le_mul_right _ (by omega)
 show (addWs r.name (kindName r.kind :: fieldsOf rs n r)).size ≤ _
 omega
def lineAt (rs : List RuleV) (k : Nat) : ByteArray := if h : k < rs.length then lineS rs k rs[k] else ⟨#[]⟩
theorem lineAt_in {rs : List RuleV} {k : Nat} (h : k < rs.length) : lineAt rs k = lineS rs k rs[k] := by unfold lineAt; rw [dif_pos h]
def textL (rs : List RuleV) : Nat → List UInt8
 | 0 => []
 | k + 1 => textL rs k ++ (lineAt rs k).data.toList ++ [10]
def textS (rs : List RuleV) (k : Nat) : ByteArray := ⟨(textL rs k).toArray⟩
theorem textS_next (rs : List RuleV) (k : Nat) : textS rs (k + 1) = textS rs k ++ lineAt rs k ++ ⟨#[10]⟩ := by
 have h : lst (textS rs (k + 1)) = lst (textS rs k ++ lineAt rs k ++ ⟨#[10]⟩) := by
  rw [lst_append, lst_append]
  show (textL rs (k + 1)).toArray.toList = (textL rs k).toArray.toList ++ (lineAt rs k).data.toList ++ [10]
  simp [textL]
 rw [← txt_lst (textS rs (k + 1)), h, txt_lst]
theorem textL_next (rs : List RuleV) (k : Nat) : (textL rs (k + 1)).length = (textL rs k).length + (lineAt rs k).size + 1 := by
 show (textL rs k ++ (lineAt rs k).data.toList ++ [10]).length = _
 simp
 rfl
noncomputable def textD (rs : List RuleV) : ByteArray := if descrB (kindI rs) rs = true then textS rs rs.length else ⟨#[]⟩
theorem step_pushF {P : Program} {α : Type} {f : α → Value} (t e : TypeId) (z : Value) (bytes : Nat) (ht : P.underlying t = some (.slice e)) (hinfo : (P.info? e).map (fun i => (i.zero, i.size, i.bytes)) = some (some z, 1, bytes)) (hz1 : z.cells.size = 1)
  {ops : Array Oper} {o : Oper} {A : Act} {K : Act → World → Prop} {Q : Exit → Act → World → Prop} {E : Prop} (hgd : o.guard = none) (s x : Operand)
  (ho : o.op = .call { callee := .builtin .append, args := #[s, x], argTypes := #[t, t] })
  (base : Nat) (v : Value) (acc : List α) (y : α) (hone : (f y).oneCell' = true) (w : World) (hsv : A.eval s = v) (hxv : A.eval x = .slice (some ⟨w.heap.size, 0, none⟩) 1 1)
  (hown : w.ownsRow base e 1 v acc.length (acc.map f)) (hm : acc.length + 1 ≤ maxLen) (hl : (acc.length + 1) * bytes ≤ 140737488355328) (hbase : base ≤ w.heap.size)
  (h : ∀ v' w', w'.ownsRow base e 1 v' (acc ++ [y]).length ((acc ++ [y]).map f) → w.grownBy w' v.ownBlock → (v'.ownBlock = v.ownBlock ∨ ∃ g, v'.ownBlock = some g ∧ w.heap.size ≤ g) → K (A.put o.dst v') w') :
  if Region.wanted o (yielded ops A.tmps) = true then Oper.wp P o A (w.alloc (.cells #[f y] e)) K Q else E := by
 have hw : Region.wanted o (yielded ops A.tmps) = true := by simp [Region.wanted, hgd]
 rw [if_pos hw]
 obtain ⟨v', w', hr, h2, h3, h4⟩ := run_pushF (P := P) t o.type e z bytes ht hinfo hz1 base v acc y hone w hown hm hl hbase
 unfold Oper.wp
 simp [execOp, ho, resolve, invoke, builtin, hsv, hxv, hr, Result.andThen]
 exact h v' w' h2 h3 h4
theorem own_keep {base : Nat} {t : TypeId} {v : Value} {n : Nat} {vs : List Value} {w w' : World} {row : Option Nat} (h : w.ownsRow base t 1 v n vs) (hg : w.grownBy w' row) (hne : ∀ g, v.ownBlock = some g → row ≠ some g) : w'.ownsRow base t 1 v n vs := by
 refine World.ownsRow.kept (w := w) h hg ?_
 cases hv : v.ownBlock with
 | none => exact .inl rfl
 | some g => exact .inr (fun e => hne g hv e.symm)
theorem own_lits {α : Type} {f : α → Value} (w : World) (base : Nat) (e : TypeId) (xs : List α) (hb : base ≤ w.heap.size) (hm : xs.length ≤ maxLen) : (w.alloc (.cells (xs.map f).toArray e)).ownsRow base e 1 (.slice (some ⟨w.heap.size, 0, none⟩) xs.length xs.length) xs.length (xs.map f) :=
 ⟨by simp, .inr ⟨w.heap.size, xs.length, (xs.map f).toArray, rfl, hb, heap_alloc_new w _, Nat.le_refl _, hm, by simp, by simp; exact List.take_of_length_le (by simp)⟩⟩
theorem own_below {base : Nat} {t : TypeId} {v : Value} {n : Nat} {vs : List Value} {w w' : World} (h : w.ownsRow base t 1 v n vs) (hb : Below w.heap.size w w') : w'.ownsRow base t 1 v n vs :=
 own_keep h (row := none) ⟨hb.os, hb.tape, hb.output, hb.size, fun k hk _ => hb.block k hk⟩ (fun g _ => by simp)
set_option maxRecDepth 100000 in
set_option maxHeartbeats 1000000 in
theorem writeString (B b : Nat) (l : List UInt8) (s : ByteArray) (w : World) (h : Bld B b l w) (hlen : l.length + s.size ≤ 140737488355328) (hBw : B ≤ w.heap.size) :
  Calls Tryz.prog 22 #[.pointer (some ⟨b, 0, none⟩), .string s] w fun e w' => e = .returned (.tuple #[.int .i64 s.size, .nilIface]) ∧ Bld B b (l ++ s.data.toList) w' ∧ Below B w w' := by
 obtain ⟨i0, hi, hz0, hz1, hz2⟩ := infoParts
 have hll : (Lib.byteCells l).length = l.length := by simp [Lib.byteCells]
 have hne5 : (43 : TypeId) ≠ 5 := by decide
 go_enter Tryz.func22, Tryz.ntmps22
 go_wp2_with fail
 refine (check_any B b (Lib.byteCells l) _ h).mono ?_
 rintro e w1 ⟨rfl, h1, hb1⟩
 obtain ⟨hB, v, hbk, hown, hne⟩ := h1
 have c0 : w1.cell? ⟨b, 0, none⟩ = some (.pointer (some ⟨b, 0, none⟩)) := by rw [Lib.cell_of_heap hbk]; rfl
 have c1 : w1.cell? ⟨b, 1, none⟩ = some v := by rw [Lib.cell_of_heap hbk]; rfl
 have HK := Lib.hid hbk
 have HO := Lib.hid hown
 have HN := Lib.hid hne
 have H1 := Lib.hid hb1
 have HH := Lib.hid h
 clear hbk hown hne hb1 h
 go_wp2_with (at_builtin; refine Lib.wpList_append_own_string _ rfl _ _ 22 9 rfl B 5 i0 Tryz.underlying22 Tryz.underlying9 hi hz0 hz1 hz2 _ _ _ rfl HO.out s rfl ?c3 ?c4 ?c5 ?_)
 case c3 => unfold maxLen; omega
 case c4 => omega
 case c5 => have := H1.out.size; omega
 intro v' w2 hown' hgrow _
 have hlt : b < w1.heap.size := cell_lt c0
 have hb2 : w2.heap[b]? = some (.cells #[.pointer (some ⟨b, 0, none⟩), v] 43 (0, 0)) := by
  rw [hgrow.block b hlt (fun e => HN.out e.symm)]
  exact HK.out
 have d0 : w2.cell? ⟨b, 0, none⟩ = some (.pointer (some ⟨b, 0, none⟩)) := by rw [Lib.cell_of_heap hb2]; rfl
 have d1 : w2.cell? ⟨b, 1, none⟩ = some v := by rw [Lib.cell_of_heap hb2]; rfl
 have f1 : w2.frozen? ⟨b, 1, none⟩ = false := Lib.frozen_of_heap hb2 1
 obtain ⟨ao, n', cap, rfl⟩ : ∃ ao n' cap, v' = .slice ao n' cap := by
  rcases hown'.2 with ⟨hv, _⟩ | ⟨g, cap, cur, hv, _⟩
  ·exact ⟨_, _, _, hv⟩
  ·exact ⟨_, _, _, hv⟩
 have P1 := Lib.hid (Lib.BuilderAt.put (T := 43) (e := 5) hB hb2 (bs' := Lib.byteCells l ++ Lib.strCells s) (by simpa [Lib.strCells_length, hll] using hown') hne5)
 have P2 := Lib.hid ((H1.out.grown hgrow (by have := H1.out.size; omega) (fun k hk => (HO.out.lt k hk).1)).setCell (p := ⟨b, 1, none⟩) hB (.slice ao n' cap))
 clear hown' hgrow hb2
 go_wp2
 go_ret2
 refine ⟨rfl, .inr ?_, P2.out⟩
 have e1 : Lib.byteCells (l ++ s.data.toList) = Lib.byteCells l ++ Lib.strCells s := by simp [Lib.byteCells, Lib.strCells]
 rw [e1]
 exact P1.out
theorem Bld.below {B b : Nat} {l : List UInt8} {w w' : World} (h : Bld B b l w) (hb : Below w.heap.size w w') : Bld B b l w' := by
 have hg : w.grownBy w' none := ⟨hb.os, hb.tape, hb.output, hb.size, fun k hk _ => hb.block k hk⟩
 have hone : ∀ {p : Value}, Lib.BuilderAt 43 5 B b p (Lib.byteCells l) w → Lib.BuilderAt 43 5 B b p (Lib.byteCells l) w' := fun {p} h => by
  obtain ⟨hB, v, hbk, hown, hne⟩ := h
  have hlt : b < w.heap.size := (Array.getElem?_eq_some_iff.1 hbk).1
  refine ⟨hB, v, (hb.block b hlt).trans hbk, World.ownsRow.kept (w := w) hown hg ?_, hne⟩
  cases v.ownBlock with
  | none => exact .inl rfl
  | some g => exact .inr (by simp)
 rcases h with h | h
 ·exact .inl (hone h)
 ·exact .inr (hone h)
end Go.Proofs.YtndjefednfcmmaaGreatDoor
