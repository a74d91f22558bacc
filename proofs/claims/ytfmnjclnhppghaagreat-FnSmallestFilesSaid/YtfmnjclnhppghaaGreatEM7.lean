/- Reading a value from bytes, as data: -/
import Derived.Test.YtfmnjclnhppghaaGreatEQV
import Derived.Test.YtfmnjclnhppghaaGreatEGEnd
import Derived.Test.YtfmnjclnhppghaaGreatEM2
import Derived.Test.YtfmnjclnhppghaaGreatEQL
namespace Go.Proofs.YtfmnjclnhppghaaGreat
open Go Go.RowKit
inductive Got (α : Type) where
 | ok (v : α) (p : Nat)
 | bad (p c : Nat)
def Got.to {α β : Type} (f : α → β) : Got α → Got β
 | .ok v p => .ok (f v) p
 | .bad p c => .bad p c
def gotInt (r : RuleV) (L : List UInt8) (p : Nat) : Got Int:=if L.length < p + r.size.toNat then .bad p 1 else .ok (readI ((L.drop p).take r.size.toNat) r.little : Int) (p + r.size.toNat)
def gotConst (p : Nat) : List UInt8 → List UInt8 → Nat → Got ValueV
 | [],_,i => .ok (.mk 0 [] []) (p + i)
 | _ :: _,[],_ => .bad p 1
 | c :: cs,d :: ds,i => if d = c then gotConst p cs ds (i + 1) else .bad (p + i) 2
def gotBytes (L : List UInt8) (p n : Nat) : Got ValueV:=if L.length < p + n then .bad p 1 else .ok (.mk 0 ((L.drop p).take n) []) (p + n)
def gotTerm (L : List UInt8) (p : Nat) (t : UInt8) : Got ValueV:=match termR t (L.drop p) false with | some o => .ok (.mk 0 o.1 []) (p + o.2) | none => .bad p 1
def gotItems (rd : Int → Nat → Got ValueV) (r : RuleV) (x : Int) : Nat → List ValueV → Nat → Got (List ValueV)
 | 0,acc,p => .ok acc p
 | m + 1,acc,p => match rd (itemR r x acc.length) p with
  | .bad q c => .bad q c
  | .ok v q => gotItems rd r x m (acc ++ [v]) q
def gotSum (L : List UInt8) (p : Nat) : Got (List ValueV) → Got ValueV
 | .bad q c => .bad q c
 | .ok l q => match L[q]? with
  | none => .bad q 1
  | some c => if c.toNat = sumB ((L.drop p).take (q - p)) 0 then .ok (.mk 0 [] l) (q + 1) else .bad q 5
def parseB (rs : List RuleV) (L : List UInt8) : Nat → Int → Nat → Got ValueV
 | 0,_,p => .bad p 0
 | n + 1,k,p =>
  if (ruleAt rs k).kind = 1 then (gotInt (ruleAt rs k) L p).to fun x => .mk x [] []
  else if (ruleAt rs k).kind = 2 then gotConst p (ruleAt rs k).bytes (L.drop p) 0
  else if (ruleAt rs k).kind = 3 then gotBytes L p (ruleAt rs k).size.toNat
  else if (ruleAt rs k).kind = 10 then gotTerm L p ((ruleAt rs k).bytes.getD 0 0)
  else if (ruleAt rs k).kind = 6 then (gotItems (parseB rs L n) (ruleAt rs k) 0 (ruleAt rs k).kids.length [] p).to fun l => .mk 0 [] l
  else if (ruleAt rs k).kind = 8 then
   match L[p]? with
   | none => .bad p 1
   | some c => if 1 < c.toNat then .bad p 4 else (gotItems (parseB rs L n) (ruleAt rs k) 0 c.toNat [] (p + 1)).to fun l => .mk 0 [] l
  else if (ruleAt rs k).kind = 9 then gotSum L p (gotItems (parseB rs L n) (ruleAt rs k) 0 1 [] p)
  else match gotInt (ruleAt rs ((ruleAt rs k).kids.getD 0 0)) L p with
   | .bad q c => .bad q c
   | .ok x q =>
    if (ruleAt rs k).kind = 7 then (if itemR (ruleAt rs k) x 0 < 0 then .bad p 3 else (gotItems (parseB rs L n) (ruleAt rs k) x 1 [] q).to fun l => .mk x [] l)
    else if (ruleAt rs k).kind = 4 then gotBytes L q x.toNat
    else if 40 < x then .bad p 6
    else (gotItems (parseB rs L n) (ruleAt rs k) 0 x.toNat [] q).to fun l => .mk 0 [] l
end Go.Proofs.YtfmnjclnhppghaaGreat
/- What ReadValue reads,as data. No program is walked here. -/
namespace Go.Proofs.YtfmnjclnhppghaaGreat
open Go Go.RowKit
noncomputable def readG (rs : List RuleV) (k : Int) (L : List UInt8) (x : Int) : Got ValueV :=
 if okAt rs k = true ∧ 0 ≤ x ∧ x ≤ (L.length : Int) ∧ L.length ≤ 400 then parseB rs L rs.length k x.toNat else .bad 0 8
end Go.Proofs.YtfmnjclnhppghaaGreat
/- Where readings end. No program is walked here. -/
namespace Go.Proofs.YtfmnjclnhppghaaGreat
open Go Go.RowKit
def Fine {α : Type} (L : List UInt8) (p : Nat) : Got α → Prop
 | .ok _ q => p ≤ q ∧ q ≤ L.length
 | .bad q c => q ≤ L.length ∧ 1 ≤ c ∧ c ≤ 6
theorem Fine.to {α β : Type} {L : List UInt8} {p : Nat} {g : Got α} (f : α → β) (h : Fine L p g) : Fine L p (g.to f):=by
 cases g <;> exact h
theorem Fine.more {α : Type} {L : List UInt8} {p q : Nat} {g : Got α} (h : Fine L p g) (hq : q ≤ p) : Fine L q g:=by
 cases g with
 | ok v r => exact ⟨Nat.le_trans hq h.1,h.2⟩
 | bad r c => exact h
theorem gotInt_fine (r : RuleV) (L : List UInt8) (p : Nat) (hp : p ≤ L.length) : Fine L p (gotInt r L p):=by
 unfold gotInt
 split
 ·exact ⟨hp,by omega,by omega⟩
 ·exact ⟨by omega,by omega⟩
theorem gotBytes_fine (L : List UInt8) (p n : Nat) (hp : p ≤ L.length) : Fine L p (gotBytes L p n):=by
 unfold gotBytes
 split
 ·exact ⟨hp,by omega,by omega⟩
 ·exact ⟨by omega,by omega⟩
theorem gotConst_fine (L : List UInt8) (p : Nat) (hp : p ≤ L.length) : ∀ (cs ds : List UInt8) (i : Nat),p + i + ds.length ≤ L.length → Fine L p (gotConst p cs ds i)
 | [],ds,i,h => by rw [gotConst]; exact ⟨by omega,by omega⟩
 | c :: cs,[],i,h => by rw [gotConst]; exact ⟨hp,by omega,by omega⟩
 | c :: cs,d :: ds,i,h => by
  rw [gotConst]
  rw [List.length_cons] at h
  split
  ·exact gotConst_fine L p hp cs ds (i + 1) (by omega)
  ·exact ⟨by omega,by omega,by omega⟩
theorem gotTerm_fine (L : List UInt8) (p : Nat) (t : UInt8) (hp : p ≤ L.length) : Fine L p (gotTerm L p t):=by
 unfold gotTerm
 cases h : termR t (L.drop p) false with
 | none => exact ⟨hp,by omega,by omega⟩
 | some o =>
  have:=termR_len t _ _ o h
  rw [List.length_drop] at this
  exact ⟨by omega,by omega⟩
theorem gotItems_fine {L : List UInt8} {r : RuleV} {x : Int} {rd : Int → Nat → Got ValueV} : ∀ (m : Nat) (acc : List ValueV) (p : Nat),(∀ i,i < m → ∀ p,p ≤ L.length → Fine L p (rd (itemR r x (acc.length + i)) p)) → p ≤ L.length → Fine L p (gotItems rd r x m acc p)
 | 0,acc,p,_,hp => by rw [gotItems]; exact ⟨Nat.le_refl _,hp⟩
 | m + 1,acc,p,hrd,hp => by
  have h0:=hrd 0 (by omega) p hp
  rw [Nat.add_zero] at h0
  rw [gotItems]
  cases h : rd (itemR r x acc.length) p with
  | bad q c => rw [h] at h0; exact h0
  | ok v q =>
   rw [h] at h0
   refine (gotItems_fine m (acc ++ [v]) q (fun i hi p hp => ?_) h0.2).more h0.1
   have h1:=hrd (i + 1) (by omega) p hp
   rw [List.length_append,List.length_singleton,show acc.length + 1 + i = acc.length + (i + 1) from by omega]
   exact h1
theorem gotSum_none {L : List UInt8} {p q : Nat} {l : List ValueV} (h : L[q]? = none) : gotSum L p (.ok l q) = .bad q 1:=by
 unfold gotSum
 simp only
 rw [h]
theorem gotSum_some {L : List UInt8} {p q : Nat} {l : List ValueV} {c : UInt8} (h : L[q]? = some c) : gotSum L p (.ok l q) = if c.toNat = sumB ((L.drop p).take (q - p)) 0 then .ok (.mk 0 [] l) (q + 1) else .bad q 5:=by
 unfold gotSum
 simp only
 rw [h]
theorem gotSum_fine {L : List UInt8} {p : Nat} {g : Got (List ValueV)} (h : Fine L p g) : Fine L p (gotSum L p g):=by
 cases g with
 | bad q c => exact h
 | ok l q =>
  cases hc : L[q]? with
  | none => rw [gotSum_none hc]; exact ⟨h.2,by omega,by omega⟩
  | some c =>
   have hq : q < L.length:=by
    rcases Nat.lt_or_ge q L.length with h | h
    ·exact h
    ·rw [List.getElem?_eq_none h] at hc; cases hc
   rw [gotSum_some hc]
   split
   ·exact ⟨by have:=h.1; omega,by omega⟩
   ·exact ⟨h.2,by omega,by omega⟩
theorem items_kid {rs : List RuleV} (hall : allV (kindI rs) rs) {k : Nat} (hk : k < rs.length) {x : Int} {i : Nat} (h : 0 ≤ itemR rs[k] x i) : ∃ m : Nat,itemR rs[k] x i = (m : Int) ∧ m < k:=by
 have hki:=allV_kind hall hk
 have hkids:=allV_kids hall hk
 have h1 : itemR rs[k] x i ∈ rs[k].kids:=by
  have hkn:=kindI_known hki
  unfold itemR at h ⊢
  rcases (by omega : rs[k].kind = 5 ∨ rs[k].kind = 6 ∨ rs[k].kind = 7 ∨ (rs[k].kind = 8 ∨ rs[k].kind = 9) ∨ (rs[k].kind ≠ 5 ∧ rs[k].kind ≠ 6 ∧ rs[k].kind ≠ 7 ∧ rs[k].kind ≠ 8 ∧ rs[k].kind ≠ 9)) with e | e | e | e | e
  ·rw [if_pos e]
   have:=(kindI_5 hki e).1
   exact getD_mem (by omega)
  ·rw [if_neg (by omega),if_pos e] at h ⊢
   by_cases hi : i < rs[k].kids.length
   ·rw [if_pos hi]; exact getD_mem hi
   ·rw [if_neg hi] at h; omega
  ·rw [if_neg (by omega),if_neg (by omega),if_pos e] at h ⊢
   rcases tagKid_mem rs[k].tags (rs[k].kids.drop 1) x with h3 | h3
   ·omega
   ·exact List.mem_of_mem_drop h3
  ·rw [if_neg (by omega),if_neg (by omega),if_neg (by omega),if_pos (by omega)] at h ⊢
   refine getD_mem ?_
   rcases e with e | e
   ·have:=kindI_8 hki e; omega
   ·have:=kindI_9 hki e; omega
  ·rw [if_neg (by omega),if_neg (by omega),if_neg (by omega),if_neg (by omega)] at h
   omega
 have h2:=hkids _ h1
 exact ⟨(itemR rs[k] x i).toNat,by omega,by omega⟩
theorem items_there {rs : List RuleV} (hall : allV (kindI rs) rs) {k : Nat} (hk : k < rs.length) {x : Int} {i m : Nat} (hi : i < m) (h : (rs[k].kind = 5) ∨ (rs[k].kind = 6 ∧ m = rs[k].kids.length) ∨ (rs[k].kind = 7 ∧ 0 ≤ itemR rs[k] x 0) ∨ rs[k].kind = 8 ∨ rs[k].kind = 9) : 0 ≤ itemR rs[k] x i:=by
 have hki:=allV_kind hall hk
 have hkids:=allV_kids hall hk
 rcases h with e | ⟨e,hm⟩ | ⟨e,h0⟩ | e | e
 ·unfold itemR
  rw [if_pos e]
  have:=(kindI_5 hki e).1
  exact (hkids _ (getD_mem (by omega))).1
 ·unfold itemR
  rw [if_neg (by omega),if_pos e,if_pos (by omega)]
  exact (hkids _ (getD_mem (by omega))).1
 ·unfold itemR at h0 ⊢
  rw [if_neg (by omega),if_neg (by omega),if_pos e] at h0 ⊢
  exact h0
 ·unfold itemR
  rw [if_neg (by omega),if_neg (by omega),if_neg (by omega),if_pos (by omega)]
  have:=kindI_8 hki e
  exact (hkids _ (getD_mem (by omega))).1
 ·unfold itemR
  rw [if_neg (by omega),if_neg (by omega),if_neg (by omega),if_pos (by omega)]
  have:=kindI_9 hki e
  exact (hkids _ (getD_mem (by omega))).1
theorem parse_fine {rs : List RuleV} (hall : allV (kindI rs) rs) (L : List UInt8) : ∀ (n k : Nat) (_ : k < rs.length) (_ : k < n) (p : Nat) (_ : p ≤ L.length),Fine L p (parseB rs L n (k : Int) p)
 | 0,_,_,h,_,_ => by omega
 | n + 1,k,hk,hn,p,hp => by
  have hki:=allV_kind hall hk
  have hkn:=kindI_known hki
  have hits : ∀ (x : Int) (m q : Nat),((rs[k].kind = 5) ∨ (rs[k].kind = 6 ∧ m = rs[k].kids.length) ∨ (rs[k].kind = 7 ∧ 0 ≤ itemR rs[k] x 0) ∨ rs[k].kind = 8 ∨ rs[k].kind = 9) → q ≤ L.length → Fine L q (gotItems (parseB rs L n) rs[k] x m [] q):=fun x m q h hq =>
   gotItems_fine m [] q (fun i hi p hp => by
    rw [List.length_nil,Nat.zero_add]
    obtain ⟨j,hj,hjk⟩:=items_kid hall hk (items_there hall hk (x:=x) hi h)
    rw [hj]
    exact parse_fine hall L n j (by omega) (by omega) p hp) hq
  rw [parseB,ruleAt_at hk]
  by_cases e1 : rs[k].kind = 1
  ·rw [if_pos e1]; exact (gotInt_fine _ L p hp).to _
  rw [if_neg e1]
  by_cases e2 : rs[k].kind = 2
  ·rw [if_pos e2]; exact gotConst_fine L p hp _ _ 0 (by rw [List.length_drop]; omega)
  rw [if_neg e2]
  by_cases e3 : rs[k].kind = 3
  ·rw [if_pos e3]; exact gotBytes_fine L p _ hp
  rw [if_neg e3]
  by_cases e10 : rs[k].kind = 10
  ·rw [if_pos e10]; exact gotTerm_fine L p _ hp
  rw [if_neg e10]
  by_cases e6 : rs[k].kind = 6
  ·rw [if_pos e6]; exact (hits _ _ p (.inr (.inl ⟨e6,rfl⟩)) hp).to _
  rw [if_neg e6]
  by_cases e8 : rs[k].kind = 8
  ·rw [if_pos e8]
   cases hc : L[p]? with
   | none => exact ⟨hp,by omega,by omega⟩
   | some c =>
    have hq : p < L.length:=by
     rcases Nat.lt_or_ge p L.length with h | h
     ·exact h
     ·rw [List.getElem?_eq_none h] at hc; cases hc
    simp only
    split
    ·exact ⟨hp,by omega,by omega⟩
    ·exact ((hits _ _ (p + 1) (.inr (.inr (.inr (.inl e8)))) (by omega)).more (by omega)).to _
  rw [if_neg e8]
  by_cases e9 : rs[k].kind = 9
  ·rw [if_pos e9]; exact gotSum_fine (hits _ _ p (.inr (.inr (.inr (.inr e9)))) hp)
  rw [if_neg e9]
  have hI:=gotInt_fine (ruleAt rs (rs[k].kids.getD 0 0)) L p hp
  cases hg : gotInt (ruleAt rs (rs[k].kids.getD 0 0)) L p with
  | bad q c => rw [hg] at hI; exact hI
  | ok x q =>
   rw [hg] at hI
   simp only
   by_cases e7 : rs[k].kind = 7
   ·rw [if_pos e7]
    split
    ·exact ⟨hp,by omega,by omega⟩
    ·exact ((hits _ _ q (.inr (.inr (.inl ⟨e7,by omega⟩))) hI.2).more hI.1).to _
   rw [if_neg e7]
   by_cases e4 : rs[k].kind = 4
   ·rw [if_pos e4]; exact (gotBytes_fine L q _ hI.2).more hI.1
   rw [if_neg e4]
   split
   ·exact ⟨hp,by omega,by omega⟩
   ·exact ((hits _ _ q (.inl (by omega)) hI.2).more hI.1).to _
end Go.Proofs.YtfmnjclnhppghaaGreat
