/- Used rules, as plain functions. -/
import Derived.Test.YtefkhknfjohnaaaGreatDoorEGV
import Derived.Test.YtefkhknfjohnaaaGreatDoorEGBase
import Derived.Test.YtefkhknfjohnaaaGreatDoorEGEnd
namespace Go.Proofs.YtefkhknfjohnaaaGreatDoor
open Go Go.RowKit
def markK (u : Nat → Bool) (ks : List Int) : Nat → Bool:=fun i => u i || ks.contains (i : Int)
def down (rs : List RuleV) : Nat → (Nat → Bool) → (Nat → Bool)
 | 0,u => u
 | n + 1,u => down rs n (if u n = true then markK u (if h : n < rs.length then rs[n].kids else []) else u)
theorem down_keep {rs : List RuleV} : ∀ (n : Nat) (u : Nat → Bool) (i : Nat),u i = true → down rs n u i = true
 | 0,_,_,h => h
 | n + 1,u,i,h => by
  unfold down
  refine down_keep n _ i ?_
  split
  ·unfold markK; rw [h]; rfl
  ·exact h
theorem down_far {rs : List RuleV} (hk : ∀ n (h : n < rs.length),∀ k ∈ rs[n].kids,0 ≤ k ∧ k < (n : Int)) : ∀ (n : Nat) (u : Nat → Bool) (i : Nat),n ≤ i → down rs n u i = u i
 | 0,_,_,_ => rfl
 | n + 1,u,i,h => by
  unfold down
  rw [down_far hk n _ i (by omega)]
  split
  ·unfold markK
   by_cases hn : n < rs.length
   ·rw [dif_pos hn]
    have : ¬ (i : Int) ∈ rs[n].kids:=fun hm => by have:=hk n hn _ hm; omega
    simp [this]
   ·rw [dif_neg hn]; simp
  ·rfl
theorem down_closed {rs : List RuleV} (hk : ∀ n (h : n < rs.length),∀ k ∈ rs[n].kids,0 ≤ k ∧ k < (n : Int)) : ∀ (n : Nat) (u : Nat → Bool) (i : Nat) (hi : i < rs.length),i < n → down rs n u i = true → ∀ k ∈ rs[i].kids,down rs n u k.toNat = true
 | 0,_,_,_,h,_,_,_ => by omega
 | n + 1,u,i,hi,hin,hu,k,hkm => by
  unfold down at hu ⊢
  by_cases e : i = n
  ·subst e
   rw [down_far hk i _ i (Nat.le_refl _)] at hu
   have hkk:=hk i hi k hkm
   refine down_keep _ _ _ ?_
   by_cases hc : u i = true
   ·rw [if_pos hc,dif_pos hi]
    unfold markK
    rw [show ((k.toNat : Nat) : Int) = k from by omega]
    simp [hkm]
   ·rw [if_neg hc] at hu; exact absurd hu hc
  ·exact down_closed hk n _ i hi (by omega) hu k hkm
theorem kid_nat {ks : List Int} {j n : Nat} (h : ∀ k ∈ ks,0 ≤ k ∧ k < (n : Int)) (hj : j < ks.length) : ∃ m : Nat,ks[j] = (m : Int) ∧ m < n:=by
 have:=h _ (List.getElem_mem hj)
 exact ⟨ks[j].toNat,by omega,by omega⟩
theorem RdF.cellAt {α : Type} {f : α → Value} {a : Option Addr} {xs : List α} {w : World} (h : RdF f a xs w) {j : Nat} (hj : j < xs.length) : ∃ b off,a = some ⟨b,off,none⟩ ∧ w.cell? ⟨b,off + j,none⟩ = some (f xs[j]):=h j hj
theorem getD_at {ks : List Int} {j : Nat} (h : j < ks.length) : ks.getD j 0 = ks[j]:=by simp [List.getD,List.getElem?_eq_getElem h]
theorem kidLen {rs : List RuleV} (hall : allV (kindI rs) rs) {n : Nat} (hn : n < rs.length) {j : Nat} (hj : j < rs[n].kids.length) : ∃ m : Nat,rs[n].kids.getD j 0 = (m : Int) ∧ m < n:=by
 rw [getD_at hj]
 exact kid_nat (allV_kids hall hn) hj
theorem kid_int {rs : List RuleV} (hall : allV (kindI rs) rs) {n : Nat} (hn : n < rs.length) (hk : rs[n].kind = 4 ∨ rs[n].kind = 5 ∨ rs[n].kind = 7) : (ruleAt rs (rs[n].kids.getD 0 0)).kind = 1 ∧ ∃ m : Nat,rs[n].kids.getD 0 0 = (m : Int) ∧ m < n:=by
 have hki:=allV_kind hall hn
 have h1 : kindAtB rs (rs[n].kids.getD 0 0) = true ∧ 0 < rs[n].kids.length:=by
  rcases hk with hk | hk | hk
  ·have:=kindI_4 hki hk; exact ⟨this.2,by omega⟩
  ·have:=kindI_5 hki hk; exact ⟨this.2,by omega⟩
  ·have h7:=kindI_7 hki hk
   refine ⟨?_,by omega⟩
   have h8 : tagsB rs rs[n] = true:=by simp [kindI,meetsB,hk] at hki; exact hki.1
   unfold tagsB at h8
   rw [Bool.and_eq_true] at h8
   have h9 : 0 < rs[n].tags.length:=by omega
   have h10 : 0 ≤ limitAt rs (rs[n].kids.headD 0):=by
    have h11:=h8.2
    cases ht : rs[n].tags with
    | nil => rw [ht] at h9; simp at h9
    | cons t ts =>
     rw [ht] at h11
     unfold tagsOk at h11
     rw [Bool.and_eq_true] at h11
     have:=of_decide_eq_true h11.1
     omega
   have h12 : rs[n].kids.headD 0 = rs[n].kids.getD 0 0:=by cases rs[n].kids <;> rfl
   rw [h12] at h10
   unfold limitAt at h10
   unfold kindAtB
   split at h10
   ·rename_i hh
    rw [dif_pos hh]
    dsimp only at h10
    split at h10
    ·rename_i h13
     exact decide_eq_true h13.1
    ·omega
   ·omega
 obtain ⟨m,hm,hmn⟩:=kidLen hall hn h1.2
 refine ⟨?_,m,hm,hmn⟩
 have h2:=h1.1
 rw [hm] at h2 ⊢
 rw [ruleAt_at (by omega)]
 unfold kindAtB at h2
 rw [dif_pos (by omega)] at h2
 have h3:=of_decide_eq_true h2
 simpa using h3
theorem int_len {rs : List RuleV} (hall : allV (kindI rs) rs) {m : Nat} (hm : m < rs.length) (hk : rs[m].kind = 1) : sizeAt minStep rs (m : Int) = rs[m].size ∧ sizeAt (maxStep rs) rs (m : Int) = rs[m].size ∧ 1 ≤ rs[m].size ∧ rs[m].size ≤ 4:=by
 have h1:=kindI_size (allV_kind hall hm) hk
 rw [sizeAt_at hm,sizeAt_at hm]
 unfold minStep maxStep minOf maxOf
 rw [if_pos (by omega),if_pos (by omega)]
 omega
theorem sum_low {rs : List RuleV} {r : RuleV} {x : Int} {zs : List Int} (hk : r.kind = 6) : ∀ (l : List ValueV) (i : Nat),l.length + i = r.kids.length → (∀ q (h : q < l.length),tabAt zs (r.kids.getD (i + q) 0) ≤ (plen rs (itemR r x (i + q)) l[q] : Nat)) → sumT zs (r.kids.drop i) ≤ ((plens rs r x i l : Nat) : Int)
 | [],i,h,_ => by
  rw [List.drop_of_length_le (by simp at h; omega)]
  simp [sumT,plens]
 | v :: l,i,h,hl => by
  simp only [List.length_cons] at h
  rw [List.drop_eq_getElem_cons (by omega),sumT,plens]
  have h0:=hl 0 (by simp)
  have ih:=sum_low hk l (i + 1) (by omega) (fun q hq => by
   have:=hl (q + 1) (by simpa using hq)
   rw [show i + (q + 1) = i + 1 + q from by omega] at this
   simpa using this)
  simp only [Nat.add_zero,List.getElem_cons_zero] at h0
  rw [getD_at (ks:=r.kids) (j:=i) (by omega)] at h0
  push_cast
  omega
theorem leastT_le {t ks : List Int} : ∀ {m : Int},leastT t ks m ≤ m ∧ ∀ k ∈ ks,leastT t ks m ≤ tabAt t k:=by
 induction ks with
 | nil => intro m; exact ⟨Int.le_refl _,fun k h => by simp at h⟩
 | cons x ks ih =>
  intro m
  have h1:=ih (m:=min m (tabAt t x))
  unfold leastT
  refine ⟨by omega,fun k hk => ?_⟩
  rcases List.mem_cons.1 hk with rfl | hk
  ·omega
  ·exact h1.2 k hk
theorem items_of {rs : List RuleV} (hall : allV (kindI rs) rs) {n : Nat} (hn : n < rs.length) {v : ValueV} (hv : validV rs (n : Int) v = true) :
  ownB rs rs[n] v = true ∧ ∀ q (h : q < v.items.length),∃ m : Nat,itemR rs[n] v.number q = (m : Int) ∧ m < n ∧ validV rs (m : Int) v.items[q] = true:=by
 rw [validV_eq,ruleAt_at hn,Bool.and_eq_true] at hv
 refine ⟨hv.1,fun q hq => ?_⟩
 have h1:=item_kid (allV_kind hall hn) hv.1 hq
 have h2:=allV_kids hall hn _ h1
 have h3:=validL_at hv.2 q hq
 rw [Nat.zero_add] at h3
 obtain ⟨m,hm⟩ : ∃ m : Nat,itemR rs[n] v.number q = (m : Int):=⟨(itemR rs[n] v.number q).toNat,by omega⟩
 rw [hm] at h2 h3 ⊢
 exact ⟨m,rfl,by omega,h3⟩
theorem plen_low {rs : List RuleV} (hall : allV (kindI rs) rs) : ∀ (n : Nat) (_ : n < rs.length) (v : ValueV),validV rs (n : Int) v = true → sizeAt minStep rs (n : Int) ≤ ((plen rs (n : Int) v : Nat) : Int):=by
 intro n
 induction n using Nat.strongRecOn with
 | _ n ih =>
  intro hn v hv
  obtain ⟨hown,hit⟩:=items_of hall hn hv
  have hki:=allV_kind hall hn
  have hzb:=mins_b hall n (by omega)
  have hkn:=kindI_known hki
  have hlow : ∀ q (h : q < v.items.length),tabAt (tabTo minStep rs n) (itemR rs[n] v.number q) ≤ ((plen rs (itemR rs[n] v.number q) v.items[q] : Nat) : Int):=fun q hq => by
   obtain ⟨m,hm,hmn,hvm⟩:=hit q hq
   rw [hm,sizeAt_in (by omega) (by omega)]
   exact ih m hmn (by omega) _ hvm
  rw [sizeAt_at hn,plen_eq,ruleAt_at hn]
  obtain ⟨zs,hzs⟩ : ∃ zs,zs = tabTo minStep rs n:=⟨_,rfl⟩
  rw [← hzs] at hlow hzb ⊢
  have hmin : minStep zs rs[n] ≤ minOf zs rs[n]:=by unfold minStep; omega
  refine Int.le_trans hmin ?_
  have hint : rs[n].kind = 4 ∨ rs[n].kind = 5 ∨ rs[n].kind = 7 → tabAt zs (rs[n].kids.getD 0 0) = (ruleAt rs (rs[n].kids.getD 0 0)).size ∧ 0 ≤ (ruleAt rs (rs[n].kids.getD 0 0)).size:=fun hk => by
   obtain ⟨h1,m,hm,hmn⟩:=kid_int hall hn hk
   rw [hm] at h1 ⊢
   rw [ruleAt_at (by omega)] at h1 ⊢
   have h2:=int_len hall (by omega) h1
   rw [hzs,sizeAt_in (by omega) (by omega),h2.1]
   omega
  obtain ⟨r,hr⟩ : ∃ r,r = rs[n]:=⟨_,rfl⟩
  rw [← hr] at hown hki hkn hlow hint ⊢
  rcases (by omega : r.kind = 1 ∨ r.kind = 2 ∨ r.kind = 3 ∨ r.kind = 4 ∨ r.kind = 5 ∨ r.kind = 6 ∨ r.kind = 7 ∨ r.kind = 8 ∨ r.kind = 9 ∨ r.kind = 10) with e | e | e | e | e | e | e | e | e | e
  ·have:=kindI_size hki e
   simp [minOf,headLen,e]
   omega
  ·simp [minOf,headLen,e]
   omega
  ·have:=kindI_3 hki e
   simp [ownB,e] at hown
   simp [minOf,headLen,e]
   omega
  ·have:=hint (.inl e)
   simp [minOf,headLen,e] at this ⊢
   omega
  ·have:=hint (.inr (.inl e))
   simp [minOf,headLen,e] at this ⊢
   omega
  ·simp [ownB,e] at hown
   have h1:=sum_low (rs:=rs) (x:=v.number) (zs:=zs) e v.items 0 (by omega) (fun q hq => by
    have h2:=hlow q hq
    rw [Nat.zero_add]
    have h3 : itemR r v.number q = r.kids.getD q 0:=by unfold itemR; rw [if_neg (by omega),if_pos e,if_pos (by omega)]
    rw [h3] at h2 ⊢
    exact h2)
   rw [List.drop_zero] at h1
   have h2 : minOf zs r = sumT zs r.kids:=by simp [minOf,e]
   rw [h2]
   push_cast
   omega
  ·have h7:=kindI_7 hki e
   have h1:=hint (.inr (.inr e))
   have hown7 : v.items.length = 1:=by simp [ownB,e] at hown; exact hown.2.1
   have h2:=item_kid hki hown (q:=0) (by omega)
   have h3:=hlow 0 (by omega)
   have h4 : minOf zs r = tabAt zs (r.kids.getD 0 0) + leastT zs (r.kids.drop 2) (tabAt zs (r.kids.getD 1 0)):=by simp [minOf,e]
   have h5 : plens rs r v.number 0 v.items = plen rs (itemR r v.number 0) (v.items[0]'(by omega)):=by
    obtain ⟨x,hx⟩:=List.length_eq_one_iff.1 hown7
    simp [hx,plens]
   have h6 : headLen rs r v.bytes = (ruleAt rs (r.kids.getD 0 0)).size.toNat:=by simp [headLen,e]
   have h8 : leastT zs (r.kids.drop 2) (tabAt zs (r.kids.getD 1 0)) ≤ tabAt zs (itemR r v.number 0):=by
    have h9:=leastT_le (t:=zs) (ks:=r.kids.drop 2) (m:=tabAt zs (r.kids.getD 1 0))
    have h10 : itemR r v.number 0 = tagKid r.tags (r.kids.drop 1) v.number:=by unfold itemR; rw [if_neg (by omega),if_neg (by omega),if_pos e]
    have h11 : itemR r v.number 0 ∈ r.kids.drop 1:=by
     simp [ownB,e] at hown
     have h12:=hown.2.2
     rw [h10] at h12 ⊢
     rcases tagKid_mem r.tags (r.kids.drop 1) v.number with h13 | h13
     ·omega
     ·exact h13
    rw [List.drop_eq_getElem_cons (by omega)] at h11
    rcases List.mem_cons.1 h11 with h12 | h12
    ·rw [h12,← getD_at (by omega)]
     exact h9.1
    ·exact h9.2 _ h12
   rw [h4,h5,h6]
   push_cast
   omega
  ·simp [minOf,headLen,e]
   omega
  ·have h9:=kindI_9 hki e
   have hown9 : v.items.length = 1:=by simp [ownB,e] at hown; exact hown.2.2
   have h3:=hlow 0 (by omega)
   have h4 : minOf zs r = tabAt zs (r.kids.getD 0 0) + 1:=by simp [minOf,e]
   have h5 : plens rs r v.number 0 v.items = plen rs (itemR r v.number 0) (v.items[0]'(by omega)):=by
    obtain ⟨x,hx⟩:=List.length_eq_one_iff.1 hown9
    simp [hx,plens]
   have h6 : headLen rs r v.bytes = 1:=by simp [headLen,e]
   have h10 : itemR r v.number 0 = r.kids.getD 0 0:=by unfold itemR; simp [e]
   rw [h10] at h3 h5
   rw [h4,h5,h6]
   push_cast
   omega
  ·simp [minOf,headLen,e]
   omega
theorem low_pos {rs : List RuleV} (hall : allV (kindI rs) rs) : ∀ (n : Nat) (_ : n < rs.length),1 ≤ sizeAt minStep rs (n : Int):=by
 intro n
 induction n using Nat.strongRecOn with
 | _ n ih =>
  intro hn
  have hki:=allV_kind hall hn
  have hkn:=kindI_known hki
  have hzb:=mins_b hall n (by omega)
  have hkid : ∀ j,j < rs[n].kids.length → 1 ≤ tabAt (tabTo minStep rs n) (rs[n].kids.getD j 0):=fun j hj => by
   obtain ⟨m,hm,hmn⟩:=kidLen hall hn hj
   rw [hm,sizeAt_in (by omega) (by omega)]
   exact ih m hmn (by omega)
  rw [sizeAt_at hn]
  obtain ⟨zs,hzs⟩ : ∃ zs,zs = tabTo minStep rs n:=⟨_,rfl⟩
  rw [← hzs] at hkid hzb ⊢
  obtain ⟨r,hr⟩ : ∃ r,r = rs[n]:=⟨_,rfl⟩
  rw [← hr] at hki hkn hkid ⊢
  unfold minStep
  have hm : 1 ≤ minOf zs r:=by
   rcases (by omega : r.kind = 1 ∨ r.kind = 2 ∨ r.kind = 3 ∨ r.kind = 4 ∨ r.kind = 5 ∨ r.kind = 6 ∨ r.kind = 7 ∨ r.kind = 8 ∨ r.kind = 9 ∨ r.kind = 10) with e | e | e | e | e | e | e | e | e | e
   ·have:=kindI_size hki e; unfold minOf; rw [if_pos (by omega)]; omega
   ·have:=kindI_2 hki e; unfold minOf; rw [if_neg (by omega),if_pos (by omega)]; omega
   ·have:=kindI_3 hki e; unfold minOf; rw [if_pos (by omega)]; omega
   ·have h4:=kindI_4 hki e; have:=hkid 0 (by omega); unfold minOf; rw [if_neg (by omega),if_neg (by omega),if_pos (by omega)]; omega
   ·have h5:=kindI_5 hki e; have:=hkid 0 (by omega); unfold minOf; rw [if_neg (by omega),if_neg (by omega),if_pos (by omega)]; omega
   ·have h6:=kindI_6 hki e
    have h7:=hkid 0 (by omega)
    have h8 : minOf zs r = sumT zs r.kids:=by simp [minOf,e]
    rw [h8]
    have h9 : r.kids = r.kids[0]'(by omega) :: r.kids.drop 1:=by
     have:=List.drop_eq_getElem_cons (l:=r.kids) (i:=0) (by omega)
     simpa using this
    rw [getD_at (by omega)] at h7
    rw [h9,sumT]
    have:=(sumT_b hzb (r.kids.drop 1)).1
    omega
   ·have h7:=kindI_7 hki e
    have h8:=hkid 0 (by omega)
    have h9:=hzb (r.kids.getD 1 0)
    have h10:=leastT_b hzb (r.kids.drop 2) (tabAt zs (r.kids.getD 1 0)) h9.1 h9.2
    unfold minOf; rw [if_neg (by omega),if_neg (by omega),if_neg (by omega),if_neg (by omega),if_pos (by omega)]; omega
   ·unfold minOf; rw [if_neg (by omega),if_neg (by omega),if_neg (by omega),if_neg (by omega),if_neg (by omega),if_neg (by omega)]; omega
   ·have:=hzb (r.kids.getD 0 0)
    unfold minOf; rw [if_neg (by omega),if_neg (by omega),if_neg (by omega),if_neg (by omega),if_neg (by omega),if_pos (by omega)]; omega
   ·unfold minOf; rw [if_neg (by omega),if_neg (by omega),if_neg (by omega),if_neg (by omega),if_neg (by omega),if_neg (by omega)]; omega
  omega
def termR (t : UInt8) : List UInt8 → Bool → Option (List UInt8 × Nat)
 | [],_ => none
 | c :: l,e =>
  if e = false ∧ c = t then some ([],1)
  else if e = false ∧ c = 92 then (termR t l true).map fun o => (o.1,o.2 + 1)
  else (termR t l false).map fun o => (c :: o.1,o.2 + 1)
def termO (bs : List UInt8) (n : Int) (t : UInt8) : Option (List UInt8 × Nat):=if 0 ≤ n ∧ n ≤ (bs.length : Int) then termR t (bs.drop n.toNat) false else none
def termL (bs : List UInt8) (n : Int) (t : UInt8) : List UInt8:=match termO bs n t with | some o => o.1 | none => []
def termN (bs : List UInt8) (n : Int) (t : UInt8) : Int:=match termO bs n t with | some o => n + (o.2 : Int) | none => n
def termK (bs : List UInt8) (n : Int) (t : UInt8) : Bool:=(termO bs n t).isSome
theorem termR_len (t : UInt8) : ∀ (l : List UInt8) (e : Bool) (o : List UInt8 × Nat),termR t l e = some o → o.1.length ≤ o.2 ∧ o.2 ≤ l.length ∧ 0 < o.2
 | [],_,o,h => by simp [termR] at h
 | c :: l,e,o,h => by
  unfold termR at h
  split at h
  ·injection h with h; subst h; simp
  ·split at h
   ·cases h2 : termR t l true with
    | none => rw [h2] at h; simp at h
    | some o2 =>
     have h3:=termR_len t l true o2 h2
     rw [h2] at h
     simp at h
     subst h
     simp
     omega
   ·cases h2 : termR t l false with
    | none => rw [h2] at h; simp at h
    | some o2 =>
     have h3:=termR_len t l false o2 h2
     rw [h2] at h
     simp at h
     subst h
     simp
     omega
def TermAt (bs : List UInt8) (p : Nat) (t : UInt8) (k : Nat) (e : Bool) (acc : List UInt8) : Prop :=
 termR t (bs.drop p) false = (termR t (bs.drop k) e).map fun o => (acc ++ o.1,(k - p) + o.2)
theorem TermAt.start (bs : List UInt8) (p : Nat) (t : UInt8) : TermAt bs p t p false []:=by
 unfold TermAt
 cases termR t (bs.drop p) false with
 | none => rfl
 | some o => simp
theorem termAt_drop {bs : List UInt8} {k : Nat} (h : k < bs.length) : bs.drop k = bs[k] :: bs.drop (k + 1):=List.drop_eq_getElem_cons h
theorem TermAt.hit {bs : List UInt8} {p k : Nat} {t : UInt8} {acc : List UInt8} (h : TermAt bs p t k false acc) (hk : k < bs.length) (hc : bs[k] = t) : termR t (bs.drop p) false = some (acc,k - p + 1):=by
 unfold TermAt at h
 rw [h,termAt_drop hk,termR,if_pos ⟨rfl,hc⟩]
 simp
theorem TermAt.esc {bs : List UInt8} {p k : Nat} {t : UInt8} {acc : List UInt8} (h : TermAt bs p t k false acc) (hp : p ≤ k) (hk : k < bs.length) (hc : ¬ bs[k] = t) (he : bs[k] = 92) : TermAt bs p t (k + 1) true acc:=by
 unfold TermAt at h ⊢
 rw [h,termAt_drop hk,termR,if_neg (fun h => hc h.2),if_pos ⟨rfl,he⟩,Option.map_map]
 congr 1
 funext o
 simp only [Function.comp]
 congr 1
 omega
theorem TermAt.take {bs : List UInt8} {p k : Nat} {t : UInt8} {e : Bool} {acc : List UInt8} (h : TermAt bs p t k e acc) (hp : p ≤ k) (hk : k < bs.length) (hc : e = true ∨ (¬ bs[k] = t ∧ ¬ bs[k] = 92)) : TermAt bs p t (k + 1) false (acc ++ [bs[k]]):=by
  unfold TermAt at h ⊢
  rw [h,termAt_drop hk,termR]
  rw [if_neg (fun h => by rcases hc with hc | hc; · rw [hc] at h; cases h.1
                          · exact hc.1 h.2), if_neg (fun h => by rcases hc with hc | hc; · rw [hc] at h; cases h.1
                                                                 · exact hc.2 h.2),Option.map_map]
  congr 1
  funext o
  simp only [Function.comp]
  congr 1
  · simp
  · omega
theorem TermAt.none {bs : List UInt8} {p k : Nat} {t : UInt8} {e : Bool} {acc : List UInt8} (h : TermAt bs p t k e acc) (hk : bs.length ≤ k) : termR t (bs.drop p) false = none:=by
 unfold TermAt at h
 rw [h,List.drop_eq_nil_of_le hk]
 rfl
inductive Got (α : Type) where
 | ok (v : α) (p : Nat)
 | bad (p c : Nat)
def Got.to {α β : Type} (f : α → β) : Got α → Got β
 | .ok v p => .ok (f v) p
 | .bad p c => .bad p c
def gotInt (r : RuleV) (L : List UInt8) (p : Nat) : Got Int:=if L.length < p + r.size.toNat then .bad p 1 else .ok (readI ((L.drop p).take r.size.toNat) r.little : Int) (p + r.size.toNat)
def gotConst (p : Nat) : List UInt8 → List UInt8 → Nat → Got ValueV
 | [],_,i => .ok (.mk 0 [] []) (p + i)
 | _ :: _,[],_ => .bad p 1
 | c :: cs,d :: ds,i => if d = c then gotConst p cs ds (i + 1) else .bad (p + i) 2
def gotBytes (L : List UInt8) (p n : Nat) : Got ValueV:=if L.length < p + n then .bad p 1 else .ok (.mk 0 ((L.drop p).take n) []) (p + n)
def gotTerm (L : List UInt8) (p : Nat) (t : UInt8) : Got ValueV:=match termR t (L.drop p) false with | some o => .ok (.mk 0 o.1 []) (p + o.2) | none => .bad p 1
def gotItems (rd : Int → Nat → Got ValueV) (r : RuleV) (x : Int) : Nat → List ValueV → Nat → Got (List ValueV)
 | 0,acc,p => .ok acc p
 | m + 1,acc,p => match rd (itemR r x acc.length) p with
  | .bad q c => .bad q c
  | .ok v q => gotItems rd r x m (acc ++ [v]) q
def gotSum (L : List UInt8) (p : Nat) : Got (List ValueV) → Got ValueV
 | .bad q c => .bad q c
 | .ok l q => match L[q]? with
  | none => .bad q 1
  | some c => if c.toNat = sumB ((L.drop p).take (q - p)) 0 then .ok (.mk 0 [] l) (q + 1) else .bad q 5
def parseB (rs : List RuleV) (L : List UInt8) : Nat → Int → Nat → Got ValueV
 | 0,_,p => .bad p 0
 | n + 1,k,p =>
  if (ruleAt rs k).kind = 1 then (gotInt (ruleAt rs k) L p).to fun x => .mk x [] []
  else if (ruleAt rs k).kind = 2 then gotConst p (ruleAt rs k).bytes (L.drop p) 0
  else if (ruleAt rs k).kind = 3 then gotBytes L p (ruleAt rs k).size.toNat
  else if (ruleAt rs k).kind = 10 then gotTerm L p ((ruleAt rs k).bytes.getD 0 0)
  else if (ruleAt rs k).kind = 6 then (gotItems (parseB rs L n) (ruleAt rs k) 0 (ruleAt rs k).kids.length [] p).to fun l => .mk 0 [] l
  else if (ruleAt rs k).kind = 8 then
   match L[p]? with
   | none => .bad p 1
   | some c => if 1 < c.toNat then .bad p 4 else (gotItems (parseB rs L n) (ruleAt rs k) 0 c.toNat [] (p + 1)).to fun l => .mk 0 [] l
  else if (ruleAt rs k).kind = 9 then gotSum L p (gotItems (parseB rs L n) (ruleAt rs k) 0 1 [] p)
  else match gotInt (ruleAt rs ((ruleAt rs k).kids.getD 0 0)) L p with
   | .bad q c => .bad q c
   | .ok x q =>
    if (ruleAt rs k).kind = 7 then (if itemR (ruleAt rs k) x 0 < 0 then .bad p 3 else (gotItems (parseB rs L n) (ruleAt rs k) x 1 [] q).to fun l => .mk x [] l)
    else if (ruleAt rs k).kind = 4 then gotBytes L q x.toNat
    else if 40 < x then .bad p 6
    else (gotItems (parseB rs L n) (ruleAt rs k) 0 x.toNat [] q).to fun l => .mk 0 [] l
def Fine {α : Type} (L : List UInt8) (p : Nat) : Got α → Prop
 | .ok _ q => p ≤ q ∧ q ≤ L.length
 | .bad q c => q ≤ L.length ∧ 1 ≤ c ∧ c ≤ 6
theorem Fine.to {α β : Type} {L : List UInt8} {p : Nat} {g : Got α} (f : α → β) (h : Fine L p g) : Fine L p (g.to f):=by
 cases g <;> exact h
theorem Fine.more {α : Type} {L : List UInt8} {p q : Nat} {g : Got α} (h : Fine L p g) (hq : q ≤ p) : Fine L q g:=by
 cases g with
 | ok v r => exact ⟨Nat.le_trans hq h.1,h.2⟩
 | bad r c => exact h
theorem gotInt_fine (r : RuleV) (L : List UInt8) (p : Nat) (hp : p ≤ L.length) : Fine L p (gotInt r L p):=by
 unfold gotInt
 split
 ·exact ⟨hp,by omega,by omega⟩
 ·exact ⟨by omega,by omega⟩
theorem gotBytes_fine (L : List UInt8) (p n : Nat) (hp : p ≤ L.length) : Fine L p (gotBytes L p n):=by
 unfold gotBytes
 split
 ·exact ⟨hp,by omega,by omega⟩
 ·exact ⟨by omega,by omega⟩
theorem gotConst_fine (L : List UInt8) (p : Nat) (hp : p ≤ L.length) : ∀ (cs ds : List UInt8) (i : Nat),p + i + ds.length ≤ L.length → Fine L p (gotConst p cs ds i)
 | [],ds,i,h => by rw [gotConst]; exact ⟨by omega,by omega⟩
 | c :: cs,[],i,h => by rw [gotConst]; exact ⟨hp,by omega,by omega⟩
 | c :: cs,d :: ds,i,h => by
  rw [gotConst]
  rw [List.length_cons] at h
  split
  ·exact gotConst_fine L p hp cs ds (i + 1) (by omega)
  ·exact ⟨by omega,by omega,by omega⟩
theorem gotTerm_fine (L : List UInt8) (p : Nat) (t : UInt8) (hp : p ≤ L.length) : Fine L p (gotTerm L p t):=by
 unfold gotTerm
 cases h : termR t (L.drop p) false with
 | none => exact ⟨hp,by omega,by omega⟩
 | some o =>
  have:=termR_len t _ _ o h
  rw [List.length_drop] at this
  exact ⟨by omega,by omega⟩
theorem gotItems_fine {L : List UInt8} {r : RuleV} {x : Int} {rd : Int → Nat → Got ValueV} : ∀ (m : Nat) (acc : List ValueV) (p : Nat),(∀ i,i < m → ∀ p,p ≤ L.length → Fine L p (rd (itemR r x (acc.length + i)) p)) → p ≤ L.length → Fine L p (gotItems rd r x m acc p)
 | 0,acc,p,_,hp => by rw [gotItems]; exact ⟨Nat.le_refl _,hp⟩
 | m + 1,acc,p,hrd,hp => by
  have h0:=hrd 0 (by omega) p hp
  rw [Nat.add_zero] at h0
  rw [gotItems]
  cases h : rd (itemR r x acc.length) p with
  | bad q c => rw [h] at h0; exact h0
  | ok v q =>
   rw [h] at h0
   refine (gotItems_fine m (acc ++ [v]) q (fun i hi p hp => ?_) h0.2).more h0.1
   have h1:=hrd (i + 1) (by omega) p hp
   rw [List.length_append,List.length_singleton,show acc.length + 1 + i = acc.length + (i + 1) from by omega]
   exact h1
theorem gotSum_none {L : List UInt8} {p q : Nat} {l : List ValueV} (h : L[q]? = none) : gotSum L p (.ok l q) = .bad q 1:=by
 unfold gotSum
 simp only
 rw [h]
theorem gotSum_some {L : List UInt8} {p q : Nat} {l : List ValueV} {c : UInt8} (h : L[q]? = some c) : gotSum L p (.ok l q) = if c.toNat = sumB ((L.drop p).take (q - p)) 0 then .ok (.mk 0 [] l) (q + 1) else .bad q 5:=by
 unfold gotSum
 simp only
 rw [h]
theorem gotSum_fine {L : List UInt8} {p : Nat} {g : Got (List ValueV)} (h : Fine L p g) : Fine L p (gotSum L p g):=by
 cases g with
 | bad q c => exact h
 | ok l q =>
  cases hc : L[q]? with
  | none => rw [gotSum_none hc]; exact ⟨h.2,by omega,by omega⟩
  | some c =>
   have hq : q < L.length:=by
    rcases Nat.lt_or_ge q L.length with h | h
    ·exact h
    ·rw [List.getElem?_eq_none h] at hc; cases hc
   rw [gotSum_some hc]
   split
   ·exact ⟨by have:=h.1; omega,by omega⟩
   ·exact ⟨h.2,by omega,by omega⟩
theorem items_kid {rs : List RuleV} (hall : allV (kindI rs) rs) {k : Nat} (hk : k < rs.length) {x : Int} {i : Nat} (h : 0 ≤ itemR rs[k] x i) : ∃ m : Nat,itemR rs[k] x i = (m : Int) ∧ m < k:=by
 have hki:=allV_kind hall hk
 have hkids:=allV_kids hall hk
 have h1 : itemR rs[k] x i ∈ rs[k].kids:=by
  have hkn:=kindI_known hki
  unfold itemR at h ⊢
  rcases (by omega : rs[k].kind = 5 ∨ rs[k].kind = 6 ∨ rs[k].kind = 7 ∨ (rs[k].kind = 8 ∨ rs[k].kind = 9) ∨ (rs[k].kind ≠ 5 ∧ rs[k].kind ≠ 6 ∧ rs[k].kind ≠ 7 ∧ rs[k].kind ≠ 8 ∧ rs[k].kind ≠ 9)) with e | e | e | e | e
  ·rw [if_pos e]
   have:=(kindI_5 hki e).1
   exact getD_mem (by omega)
  ·rw [if_neg (by omega),if_pos e] at h ⊢
   by_cases hi : i < rs[k].kids.length
   ·rw [if_pos hi]; exact getD_mem hi
   ·rw [if_neg hi] at h; omega
  ·rw [if_neg (by omega),if_neg (by omega),if_pos e] at h ⊢
   rcases tagKid_mem rs[k].tags (rs[k].kids.drop 1) x with h3 | h3
   ·omega
   ·exact List.mem_of_mem_drop h3
  ·rw [if_neg (by omega),if_neg (by omega),if_neg (by omega),if_pos (by omega)] at h ⊢
   refine getD_mem ?_
   rcases e with e | e
   ·have:=kindI_8 hki e; omega
   ·have:=kindI_9 hki e; omega
  ·rw [if_neg (by omega),if_neg (by omega),if_neg (by omega),if_neg (by omega)] at h
   omega
 have h2:=hkids _ h1
 exact ⟨(itemR rs[k] x i).toNat,by omega,by omega⟩
theorem items_there {rs : List RuleV} (hall : allV (kindI rs) rs) {k : Nat} (hk : k < rs.length) {x : Int} {i m : Nat} (hi : i < m) (h : (rs[k].kind = 5) ∨ (rs[k].kind = 6 ∧ m = rs[k].kids.length) ∨ (rs[k].kind = 7 ∧ 0 ≤ itemR rs[k] x 0) ∨ rs[k].kind = 8 ∨ rs[k].kind = 9) : 0 ≤ itemR rs[k] x i:=by
 have hki:=allV_kind hall hk
 have hkids:=allV_kids hall hk
 rcases h with e | ⟨e,hm⟩ | ⟨e,h0⟩ | e | e
 ·unfold itemR
  rw [if_pos e]
  have:=(kindI_5 hki e).1
  exact (hkids _ (getD_mem (by omega))).1
 ·unfold itemR
  rw [if_neg (by omega),if_pos e,if_pos (by omega)]
  exact (hkids _ (getD_mem (by omega))).1
 ·unfold itemR at h0 ⊢
  rw [if_neg (by omega),if_neg (by omega),if_pos e] at h0 ⊢
  exact h0
 ·unfold itemR
  rw [if_neg (by omega),if_neg (by omega),if_neg (by omega),if_pos (by omega)]
  have:=kindI_8 hki e
  exact (hkids _ (getD_mem (by omega))).1
 ·unfold itemR
  rw [if_neg (by omega),if_neg (by omega),if_neg (by omega),if_pos (by omega)]
  have:=kindI_9 hki e
  exact (hkids _ (getD_mem (by omega))).1
theorem parse_fine {rs : List RuleV} (hall : allV (kindI rs) rs) (L : List UInt8) : ∀ (n k : Nat) (_ : k < rs.length) (_ : k < n) (p : Nat) (_ : p ≤ L.length),Fine L p (parseB rs L n (k : Int) p)
 | 0,_,_,h,_,_ => by omega
 | n + 1,k,hk,hn,p,hp => by
  have hki:=allV_kind hall hk
  have hkn:=kindI_known hki
  have hits : ∀ (x : Int) (m q : Nat),((rs[k].kind = 5) ∨ (rs[k].kind = 6 ∧ m = rs[k].kids.length) ∨ (rs[k].kind = 7 ∧ 0 ≤ itemR rs[k] x 0) ∨ rs[k].kind = 8 ∨ rs[k].kind = 9) → q ≤ L.length → Fine L q (gotItems (parseB rs L n) rs[k] x m [] q):=fun x m q h hq =>
   gotItems_fine m [] q (fun i hi p hp => by
    rw [List.length_nil,Nat.zero_add]
    obtain ⟨j,hj,hjk⟩:=items_kid hall hk (items_there hall hk (x:=x) hi h)
    rw [hj]
    exact parse_fine hall L n j (by omega) (by omega) p hp) hq
  rw [parseB,ruleAt_at hk]
  by_cases e1 : rs[k].kind = 1
  ·rw [if_pos e1]; exact (gotInt_fine _ L p hp).to _
  rw [if_neg e1]
  by_cases e2 : rs[k].kind = 2
  ·rw [if_pos e2]; exact gotConst_fine L p hp _ _ 0 (by rw [List.length_drop]; omega)
  rw [if_neg e2]
  by_cases e3 : rs[k].kind = 3
  ·rw [if_pos e3]; exact gotBytes_fine L p _ hp
  rw [if_neg e3]
  by_cases e10 : rs[k].kind = 10
  ·rw [if_pos e10]; exact gotTerm_fine L p _ hp
  rw [if_neg e10]
  by_cases e6 : rs[k].kind = 6
  ·rw [if_pos e6]; exact (hits _ _ p (.inr (.inl ⟨e6,rfl⟩)) hp).to _
  rw [if_neg e6]
  by_cases e8 : rs[k].kind = 8
  ·rw [if_pos e8]
   cases hc : L[p]? with
   | none => exact ⟨hp,by omega,by omega⟩
   | some c =>
    have hq : p < L.length:=by
     rcases Nat.lt_or_ge p L.length with h | h
     ·exact h
     ·rw [List.getElem?_eq_none h] at hc; cases hc
    simp only
    split
    ·exact ⟨hp,by omega,by omega⟩
    ·exact ((hits _ _ (p + 1) (.inr (.inr (.inr (.inl e8)))) (by omega)).more (by omega)).to _
  rw [if_neg e8]
  by_cases e9 : rs[k].kind = 9
  ·rw [if_pos e9]; exact gotSum_fine (hits _ _ p (.inr (.inr (.inr (.inr e9)))) hp)
  rw [if_neg e9]
  have hI:=gotInt_fine (ruleAt rs (rs[k].kids.getD 0 0)) L p hp
  cases hg : gotInt (ruleAt rs (rs[k].kids.getD 0 0)) L p with
  | bad q c => rw [hg] at hI; exact hI
  | ok x q =>
   rw [hg] at hI
   simp only
   by_cases e7 : rs[k].kind = 7
   ·rw [if_pos e7]
    split
    ·exact ⟨hp,by omega,by omega⟩
    ·exact ((hits _ _ q (.inr (.inr (.inl ⟨e7,by omega⟩))) hI.2).more hI.1).to _
   rw [if_neg e7]
   by_cases e4 : rs[k].kind = 4
   ·rw [if_pos e4]; exact (gotBytes_fine L q _ hI.2).more hI.1
   rw [if_neg e4]
   split
   ·exact ⟨hp,by omega,by omega⟩
   ·exact ((hits _ _ q (.inl (by omega)) hI.2).more hI.1).to _
theorem to_ok {α β : Type} {f : α → β} {g : Got α} {v : β} {q : Nat} (h : g.to f = .ok v q) : ∃ u,g = .ok u q ∧ f u = v:=by
 cases g with
 | ok u r => unfold Got.to at h; injection h with h1 h2; subst h2; exact ⟨u,rfl,h1⟩
 | bad r c => unfold Got.to at h; cases h
theorem sizL_app (l : List ValueV) (v : ValueV) : sizL (l ++ [v]) = sizL l + sizV v:=by
 induction l with
 | nil => simp [sizL]
 | cons x l ih => rw [List.cons_append,sizL,sizL,ih]; omega
theorem gotItems_siz {L : List UInt8} {r : RuleV} {x : Int} {rd : Int → Nat → Got ValueV} {c z : Nat} {l : List ValueV} : ∀ (m : Nat) (acc : List ValueV) (p : Nat),
  (∀ i,i < m → ∀ p v q,p ≤ L.length → rd (itemR r x (acc.length + i)) p = .ok v q → q ≤ L.length ∧ p < q ∧ sizV v ≤ c * (q - p)) → p ≤ L.length → gotItems rd r x m acc p = .ok l z →
  l.length = acc.length + m ∧ p + m ≤ z ∧ sizL l ≤ sizL acc + c * (z - p)
 | 0,acc,p,_,_,h => by
  rw [gotItems] at h
  injection h with h1 h2
  subst h1 h2
  exact ⟨rfl,Nat.le_refl _,by omega⟩
 | m + 1,acc,p,hrd,hp,h => by
  rw [gotItems] at h
  cases h0 : rd (itemR r x acc.length) p with
  | bad q c => rw [h0] at h; cases h
  | ok v q =>
   rw [h0] at h
   have h1:=hrd 0 (by omega) p v q hp (by rw [Nat.add_zero]; exact h0)
   have hl : (acc ++ [v]).length = acc.length + 1:=by simp
   obtain ⟨h2,h3,h4⟩:=gotItems_siz (L:=L) m (acc ++ [v]) q (fun i hi p v q hp => by
    rw [hl,show acc.length + 1 + i = acc.length + (i + 1) from by omega]
    exact hrd (i + 1) (by omega) p v q hp) h1.1 h
   rw [hl] at h2
   rw [sizL_app] at h4
   refine ⟨by omega,by omega,?_⟩
   have h5 : c * (z - p) = c * (z - q) + c * (q - p):=by rw [← Nat.mul_add]; congr 1; omega
   omega
theorem const_siz {p : Nat} : ∀ {cs ds : List UInt8} {i q : Nat} {v : ValueV},gotConst p cs ds i = .ok v q → v = .mk 0 [] [] ∧ q = p + i + cs.length
 | [],ds,i,q,v,h => by rw [gotConst] at h; injection h with h1 h2; exact ⟨h1.symm,by simp; omega⟩
 | c :: cs,[],i,q,v,h => by rw [gotConst] at h; cases h
 | c :: cs,d :: ds,i,q,v,h => by
  rw [gotConst] at h
  split at h
  ·obtain ⟨h1,h2⟩:=const_siz h
   exact ⟨h1,by rw [List.length_cons]; omega⟩
  ·cases h
theorem siz_leaf (n : Int) (b : List UInt8) : sizV (.mk n b []) = b.length:=by rw [sizV,sizL]; rfl
theorem siz_node (n : Int) (l : List ValueV) : sizV (.mk n [] l) = l.length + sizL l:=by rw [sizV]; simp
theorem parse_siz {rs : List RuleV} (hall : allV (kindI rs) rs) (L : List UInt8) : ∀ (n k : Nat) (_ : k < rs.length) (_ : k < n) (p : Nat) (_ : p ≤ L.length) (v : ValueV) (q : Nat),parseB rs L n (k : Int) p = .ok v q → p < q ∧ sizV v ≤ (k + 1) * (q - p)
 | 0,_,_,h,_,_,_,_,_ => by omega
 | n + 1,k,hk,hn,p,hp,v,q,h => by
  have hki:=allV_kind hall hk
  have hkn:=kindI_known hki
  have hits : ∀ (x : Int) (m p : Nat) (l : List ValueV) (z : Nat),((rs[k].kind = 5) ∨ (rs[k].kind = 6 ∧ m = rs[k].kids.length) ∨ (rs[k].kind = 7 ∧ 0 ≤ itemR rs[k] x 0) ∨ rs[k].kind = 8 ∨ rs[k].kind = 9) → p ≤ L.length → gotItems (parseB rs L n) rs[k] x m [] p = .ok l z → l.length = m ∧ p + m ≤ z ∧ l.length + sizL l ≤ (k + 1) * (z - p):=fun x m p l z h hp hg => by
   obtain ⟨h1,h2,h3⟩:=gotItems_siz (L:=L) (c:=k) m [] p (fun i hi p v q hp hv => by
    rw [List.length_nil,Nat.zero_add] at hv
    obtain ⟨j,hj,hjk⟩:=items_kid hall hk (items_there hall hk (x:=x) hi h)
    rw [hj] at hv
    have hf:=parse_fine hall L n j (by omega) (by omega) p hp
    rw [hv] at hf
    obtain ⟨h4,h5⟩:=parse_siz hall L n j (by omega) (by omega) p hp v q hv
    exact ⟨hf.2,h4,Nat.le_trans h5 (Nat.mul_le_mul_right _ (by omega))⟩) hp hg
   rw [List.length_nil,Nat.zero_add] at h1
   have h4 : sizL ([] : List ValueV) = 0:=by rw [sizL]
   rw [h4,Nat.zero_add] at h3
   refine ⟨h1,h2,?_⟩
   rw [Nat.add_mul,Nat.one_mul]
   omega
  have hlow : ∀ {p q : Nat},p ≤ q → q - p ≤ (k + 1) * (q - p):=fun {p q} h => by rw [Nat.add_mul,Nat.one_mul]; exact Nat.le_add_left _ _
  have hup : ∀ {p r q : Nat},p ≤ r → (k + 1) * (q - r) ≤ (k + 1) * (q - p):=fun {p r q} h => Nat.mul_le_mul_left _ (by omega)
  have hbytes : ∀ {p q m : Nat} {v : ValueV},gotBytes L p m = .ok v q → p + m = q ∧ sizV v ≤ q - p:=fun {p q m v} h => by
   unfold gotBytes at h
   split at h
   ·cases h
   ·injection h with h1 h2
    subst h1 h2
    rw [siz_leaf,List.length_take,List.length_drop]
    exact ⟨rfl,by omega⟩
  rw [parseB,ruleAt_at hk] at h
  by_cases e1 : rs[k].kind = 1
  ·rw [if_pos e1] at h
   obtain ⟨u,hu,rfl⟩:=to_ok h
   have h1:=kindI_size hki e1
   unfold gotInt at hu
   split at hu
   ·cases hu
   ·injection hu with h2 h3
    rw [siz_leaf]
    exact ⟨by omega,by simp⟩
  rw [if_neg e1] at h
  by_cases e2 : rs[k].kind = 2
  ·rw [if_pos e2] at h
   have h1:=kindI_2 hki e2
   obtain ⟨h2,h3⟩:=const_siz h
   subst h2
   rw [siz_leaf]
   exact ⟨by omega,by simp⟩
  rw [if_neg e2] at h
  by_cases e3 : rs[k].kind = 3
  ·rw [if_pos e3] at h
   have h1:=kindI_3 hki e3
   have h2:=hbytes h
   exact ⟨by omega,Nat.le_trans h2.2 (hlow (by omega))⟩
  rw [if_neg e3] at h
  by_cases e10 : rs[k].kind = 10
  ·rw [if_pos e10] at h
   unfold gotTerm at h
   cases ht : termR (rs[k].bytes.getD 0 0) (L.drop p) false with
   | none => rw [ht] at h; cases h
   | some o =>
    rw [ht] at h
    have h1:=termR_len _ _ _ o ht
    simp only at h
    injection h with h2 h3
    subst h2 h3
    rw [siz_leaf]
    exact ⟨by omega,Nat.le_trans (by omega) (hlow (p:=p) (q:=p + o.2) (by omega))⟩
  rw [if_neg e10] at h
  by_cases e6 : rs[k].kind = 6
  ·rw [if_pos e6] at h
   obtain ⟨u,hu,rfl⟩:=to_ok h
   have h1:=kindI_6 hki e6
   obtain ⟨h2,h3,h4⟩:=hits _ _ p _ _ (.inr (.inl ⟨e6,rfl⟩)) hp hu
   rw [siz_node]
   exact ⟨by omega,h4⟩
  rw [if_neg e6] at h
  by_cases e8 : rs[k].kind = 8
  ·rw [if_pos e8] at h
   cases hc : L[p]? with
   | none => rw [hc] at h; cases h
   | some c =>
    have hq : p < L.length:=by
     rcases Nat.lt_or_ge p L.length with h | h
     ·exact h
     ·rw [List.getElem?_eq_none h] at hc; cases hc
    rw [hc] at h
    simp only at h
    split at h
    ·cases h
    ·obtain ⟨u,hu,rfl⟩:=to_ok h
     obtain ⟨h2,h3,h4⟩:=hits _ _ (p + 1) _ _ (.inr (.inr (.inr (.inl e8)))) (by omega) hu
     rw [siz_node]
     exact ⟨by omega,Nat.le_trans h4 (hup (by omega))⟩
  rw [if_neg e8] at h
  by_cases e9 : rs[k].kind = 9
  ·rw [if_pos e9] at h
   cases hg : gotItems (parseB rs L n) rs[k] 0 1 [] p with
   | bad r c => rw [hg] at h; unfold gotSum at h; cases h
   | ok l r =>
    obtain ⟨h2,h3,h4⟩:=hits _ _ p _ _ (.inr (.inr (.inr (.inr e9)))) hp hg
    rw [hg] at h
    unfold gotSum at h
    simp only at h
    cases hc : L[r]? with
    | none => rw [hc] at h; cases h
    | some c =>
     rw [hc] at h
     simp only at h
     split at h
     ·injection h with h5 h6
      subst h5 h6
      rw [siz_node]
      exact ⟨by omega,Nat.le_trans h4 (Nat.mul_le_mul_left _ (by omega))⟩
     ·cases h
  rw [if_neg e9] at h
  have hI:=gotInt_fine (ruleAt rs (rs[k].kids.getD 0 0)) L p hp
  have hI2 : ∀ {x : Int} {r : Nat},gotInt (ruleAt rs (rs[k].kids.getD 0 0)) L p = .ok x r → p < r:=fun {x r} hg => by
   obtain ⟨hm1,m,hm,hmk⟩:=kid_int hall hk (by omega)
   have hmr : m < rs.length:=by omega
   rw [hm,ruleAt_at hmr] at hm1 hg
   have h1:=kindI_size (allV_kind hall hmr) hm1
   unfold gotInt at hg
   split at hg
   ·cases hg
   ·injection hg with h2 h3
    omega
  cases hg : gotInt (ruleAt rs (rs[k].kids.getD 0 0)) L p with
  | bad q c => rw [hg] at h; cases h
  | ok x r =>
   have hr:=hI2 hg
   rw [hg] at hI h
   simp only at h
   by_cases e7 : rs[k].kind = 7
   ·rw [if_pos e7] at h
    split at h
    ·cases h
    ·obtain ⟨u,hu,rfl⟩:=to_ok h
     obtain ⟨h2,h3,h4⟩:=hits _ _ r _ _ (.inr (.inr (.inl ⟨e7,by omega⟩))) hI.2 hu
     rw [siz_node]
     exact ⟨by omega,Nat.le_trans h4 (hup (by omega))⟩
   rw [if_neg e7] at h
   by_cases e4 : rs[k].kind = 4
   ·rw [if_pos e4] at h
    have h2:=hbytes h
    exact ⟨by omega,Nat.le_trans (Nat.le_trans h2.2 (by omega)) (hlow (p:=p) (q:=q) (by omega))⟩
   rw [if_neg e4] at h
   split at h
   ·cases h
   ·obtain ⟨u,hu,rfl⟩:=to_ok h
    obtain ⟨h2,h3,h4⟩:=hits _ _ r _ _ (.inl (by omega)) hI.2 hu
    rw [siz_node]
    exact ⟨by omega,Nat.le_trans h4 (hup (by omega))⟩
end Go.Proofs.YtefkhknfjohnaaaGreatDoor
