/- What the program makes of the fields and the items of a value, beside what the model makes of them. -/
import Derived.Test.YtefkhknfjohnaaaGreatDoorEK
import Derived.Test.YtefkhknfjohnaaaGreatDoorEGV
import Derived.Test.YtefkhknfjohnaaaGreatDoorEGP
import Derived.Deep.CutRange
import Derived.Test.YtefkhknfjohnaaaGreatDoorEGX
import Derived.Test.YtefkhknfjohnaaaGreatDoorEGDI
import Derived.Deep.RegionWith
import Derived.Test.YtefkhknfjohnaaaGreatDoorEGRul
import Derived.Deep.RegionHeld3
set_option maxRecDepth 100000
set_option maxHeartbeats 8000000
namespace Go.Proofs.YtefkhknfjohnaaaGreatDoor
open Go Go.RowKit
structure BndV where
 num : Int
 b0 : Int
 b1 : Int
 i0 : Int
 i1 : Int
def bndV (rs : List RuleV) (r : RuleV) : BndV :=
 if r.kind = 1 then ⟨pow256 r.size - 1,0,0,0,0⟩
 else if r.kind = 3 then ⟨0,r.size,r.size,0,0⟩
 else if r.kind = 4 then ⟨0,0,min 400 (limitAt rs (r.kids.getD 0 0)),0,0⟩
 else if r.kind = 10 then ⟨0,0,400,0,0⟩
 else if r.kind = 5 then ⟨0,0,0,0,min 40 (limitAt rs (r.kids.getD 0 0))⟩
 else if r.kind = 6 then ⟨0,0,0,(r.kids.length : Int),(r.kids.length : Int)⟩
 else if r.kind = 7 then ⟨limitAt rs (r.kids.getD 0 0),0,0,1,1⟩
 else if r.kind = 8 then ⟨0,0,0,0,1⟩
 else if r.kind = 9 then ⟨0,0,0,1,1⟩
 else ⟨0,0,0,0,0⟩
def fitB (b : BndV) (v : ValueV) : Bool :=
 decide (0 ≤ v.number ∧ v.number ≤ b.num) && (decide (b.b0 ≤ (v.bytes.length : Int) ∧ (v.bytes.length : Int) ≤ b.b1) && decide (b.i0 ≤ (v.items.length : Int) ∧ (v.items.length : Int) ≤ b.i1))
def kidI (r : RuleV) (x : Int) (i : Nat) : Int :=
 if r.kind = 5 then r.kids.getD 1 0
 else if r.kind = 7 then (if i = 0 then tagKid r.tags (r.kids.drop 1) x else -1)
 else if r.kind = 6 ∨ r.kind = 8 ∨ r.kind = 9 then (if i < r.kids.length then r.kids.getD i 0 else -1)
 else -1
theorem fit_tagsOk {lim : Int} : ∀ {ts : List Int} {lo : Int},tagsOk lim lo ts = true → 0 ≤ lo → ∀ t ∈ ts,0 ≤ t ∧ t ≤ lim
 | [],_,_,_,t,ht => by cases ht
 | a :: ts,lo,h,h0,t,ht => by
  unfold tagsOk at h
  simp at h
  rcases List.mem_cons.1 ht with rfl | ht
  ·omega
  ·exact fit_tagsOk h.2 (by omega) t ht
theorem fit_tag {x : Int} : ∀ {ts ks : List Int},0 ≤ tagKid ts ks x → x ∈ ts
 | [],ks,h => by cases ks <;> (simp [tagKid] at h)
 | t :: ts,[],h => by simp [tagKid] at h
 | t :: ts,k :: ks,h => by
  unfold tagKid at h
  by_cases e : t = x
  ·simp [e]
  ·rw [if_neg e] at h
   exact List.mem_cons_of_mem _ (fit_tag h)
theorem tagKid_none {x : Int} : ∀ {ts ks : List Int},(∀ t ∈ ts,t ≠ x) → tagKid ts ks x = -1
 | [],ks,_ => by cases ks <;> rfl
 | t :: ts,[],_ => rfl
 | t :: ts,k :: ks,h => by
  unfold tagKid
  rw [if_neg (h t (by simp))]
  exact tagKid_none fun u hu => h u (by simp [hu])
theorem tagKid_first {x : Int} : ∀ {ts ks : List Int} {j : Nat} (h : j < ts.length) (h2 : j < ks.length),ts[j] = x → (∀ i (hi : i < j),ts[i] ≠ x) → tagKid ts ks x = ks[j]
 | [],_,j,h,_,_,_ => by simp at h
 | t :: ts,[],j,_,h2,_,_ => by simp at h2
 | t :: ts,k :: ks,0,_,_,e,_ => by
  unfold tagKid
  simp at e
  rw [if_pos e]
  rfl
 | t :: ts,k :: ks,j + 1,h,h2,e,hn => by
  unfold tagKid
  have h0:=hn 0 (by omega)
  simp at h0
  rw [if_neg h0]
  simp only [List.getElem_cons_succ]
  exact tagKid_first (by simpa using h) (by simpa using h2) (by simpa using e) fun i hi => by simpa using hn (i + 1) (by omega)
theorem fit_no {rs : List RuleV} {r : RuleV} {v : ValueV} (hk : kindI rs r = true) (h : fitB (bndV rs r) v = false) : ownB rs r v = false:=by
 have hkn:=kindI_known hk
 rw [Bool.eq_false_iff] at h ⊢
 intro ho
 apply h
 rcases (by omega : r.kind = 1 ∨ r.kind = 2 ∨ r.kind = 3 ∨ r.kind = 4 ∨ r.kind = 5 ∨ r.kind = 6 ∨ r.kind = 7 ∨ r.kind = 8 ∨ r.kind = 9 ∨ r.kind = 10) with e | e | e | e | e | e | e | e | e | e
 case inr.inr.inr.inr.inr.inr.inl =>
  have h7 : tagsOk (limitAt rs (r.kids.headD 0)) 0 r.tags = true:=by
   simp [kindI,meetsB,e,tagsB] at hk
   simpa using hk.1.2
  have h8 : r.kids.headD 0 = r.kids.getD 0 0:=by cases r.kids <;> rfl
  simp only [ownB,e,Int.reduceEq,reduceIte,Bool.and_eq_true,decide_eq_true_eq] at ho
  have h1:=ho.2.2
  unfold itemR at h1
  rw [if_neg (by omega),if_neg (by omega),if_pos e] at h1
  have h2:=fit_tagsOk h7 (by omega) _ (fit_tag h1)
  rw [h8] at h2
  simp only [fitB,bndV,e,Int.reduceEq,reduceIte,Bool.and_eq_true,decide_eq_true_eq]
  have ho1:=ho.1
  have ho2:=ho.2.1
  exact ⟨h2,by omega,by omega⟩
 all_goals
  simp only [ownB,e,Int.reduceEq,reduceIte,Bool.and_eq_true,decide_eq_true_eq] at ho
  simp only [fitB,bndV,e,Int.reduceEq,reduceIte,Bool.and_eq_true,decide_eq_true_eq]
  omega
theorem fit_kid {rs : List RuleV} {r : RuleV} {v : ValueV} (hk : kindI rs r = true) (hks : ∀ x ∈ r.kids,0 ≤ x) (h : fitB (bndV rs r) v = true) {q : Nat} (hq : q < v.items.length) :
  kidI r v.number q = itemR r v.number q ∧ (itemR r v.number q < 0 → ownB rs r v = false) ∧ (0 ≤ itemR r v.number q → ownB rs r v = true):=by
 have hkn:=kindI_known hk
 rcases (by omega : r.kind = 1 ∨ r.kind = 2 ∨ r.kind = 3 ∨ r.kind = 4 ∨ r.kind = 5 ∨ r.kind = 6 ∨ r.kind = 7 ∨ r.kind = 8 ∨ r.kind = 9 ∨ r.kind = 10) with e | e | e | e | e | e | e | e | e | e
 ·simp only [fitB,bndV,e,Int.reduceEq,reduceIte,Bool.and_eq_true,decide_eq_true_eq] at h; omega
 ·simp only [fitB,bndV,e,Int.reduceEq,reduceIte,Bool.and_eq_true,decide_eq_true_eq] at h; omega
 ·simp only [fitB,bndV,e,Int.reduceEq,reduceIte,Bool.and_eq_true,decide_eq_true_eq] at h; omega
 ·simp only [fitB,bndV,e,Int.reduceEq,reduceIte,Bool.and_eq_true,decide_eq_true_eq] at h; omega
 ·have h5:=kindI_5 hk e
  have h6:=hks _ (getD_mem (ks:=r.kids) (j:=1) (by omega))
  simp only [fitB,bndV,e,Int.reduceEq,reduceIte,Bool.and_eq_true,decide_eq_true_eq] at h
  refine ⟨by simp [kidI,itemR,e],fun hn => ?_,fun _ => ?_⟩
  ·simp only [itemR,e,Int.reduceEq,reduceIte] at hn; omega
  ·simp only [ownB,e,Int.reduceEq,reduceIte,Bool.and_eq_true,decide_eq_true_eq]; omega
 ·have h5:=kindI_6 hk e
  simp only [fitB,bndV,e,Int.reduceEq,reduceIte,Bool.and_eq_true,decide_eq_true_eq] at h
  have hql : q < r.kids.length:=by omega
  have h6:=hks _ (getD_mem (ks:=r.kids) (j:=q) hql)
  have hi : itemR r v.number q = r.kids.getD q 0:=by unfold itemR; rw [if_neg (by omega),if_pos e,if_pos hql]
  refine ⟨?_,fun hn => by omega,fun _ => ?_⟩
  ·rw [hi]; unfold kidI; rw [if_neg (by omega),if_neg (by omega),if_pos (by omega),if_pos hql]
  ·simp only [ownB,e,Int.reduceEq,reduceIte,Bool.and_eq_true,decide_eq_true_eq]; omega
 ·simp only [fitB,bndV,e,Int.reduceEq,reduceIte,Bool.and_eq_true,decide_eq_true_eq] at h
  have h0 : q = 0:=by omega
  subst h0
  refine ⟨by simp [kidI,itemR,e],fun hn => ?_,fun hp => ?_⟩
  ·rw [Bool.eq_false_iff]; intro ho; simp only [ownB,e,Int.reduceEq,reduceIte,Bool.and_eq_true,decide_eq_true_eq] at ho; omega
  ·simp only [ownB,e,Int.reduceEq,reduceIte,Bool.and_eq_true,decide_eq_true_eq]; exact ⟨by omega,by omega,hp⟩
 ·have h5:=kindI_8 hk e
  simp only [fitB,bndV,e,Int.reduceEq,reduceIte,Bool.and_eq_true,decide_eq_true_eq] at h
  have h0 : q = 0:=by omega
  subst h0
  have h6:=hks _ (getD_mem (ks:=r.kids) (j:=0) (by omega))
  have hi : itemR r v.number 0 = r.kids.getD 0 0:=by unfold itemR; rw [if_neg (by omega),if_neg (by omega),if_neg (by omega),if_pos (by omega)]
  refine ⟨?_,fun hn => by omega,fun _ => ?_⟩
  ·rw [hi]; unfold kidI; rw [if_neg (by omega),if_neg (by omega),if_pos (by omega),if_pos (by omega)]
  ·simp only [ownB,e,Int.reduceEq,reduceIte,Bool.and_eq_true,decide_eq_true_eq]; omega
 ·have h5:=kindI_9 hk e
  simp only [fitB,bndV,e,Int.reduceEq,reduceIte,Bool.and_eq_true,decide_eq_true_eq] at h
  have h0 : q = 0:=by omega
  subst h0
  have h6:=hks _ (getD_mem (ks:=r.kids) (j:=0) (by omega))
  have hi : itemR r v.number 0 = r.kids.getD 0 0:=by unfold itemR; rw [if_neg (by omega),if_neg (by omega),if_neg (by omega),if_pos (by omega)]
  refine ⟨?_,fun hn => by omega,fun _ => ?_⟩
  ·rw [hi]; unfold kidI; rw [if_neg (by omega),if_neg (by omega),if_pos (by omega),if_pos (by omega)]
  ·simp only [ownB,e,Int.reduceEq,reduceIte,Bool.and_eq_true,decide_eq_true_eq]; omega
 ·simp only [fitB,bndV,e,Int.reduceEq,reduceIte,Bool.and_eq_true,decide_eq_true_eq] at h; omega
theorem fit_end {rs : List RuleV} {r : RuleV} {v : ValueV} (hk : kindI rs r = true) (h : fitB (bndV rs r) v = true) (h0 : v.items.length = 0) : ownB rs r v = true:=by
 have hkn:=kindI_known hk
 rcases (by omega : r.kind = 1 ∨ r.kind = 2 ∨ r.kind = 3 ∨ r.kind = 4 ∨ r.kind = 5 ∨ r.kind = 6 ∨ r.kind = 7 ∨ r.kind = 8 ∨ r.kind = 9 ∨ r.kind = 10) with e | e | e | e | e | e | e | e | e | e
 all_goals
  simp only [fitB,bndV,e,Int.reduceEq,reduceIte,Bool.and_eq_true,decide_eq_true_eq] at h
  simp only [ownB,e,Int.reduceEq,reduceIte,Bool.and_eq_true,decide_eq_true_eq]
  omega
theorem fit_len {rs : List RuleV} {r : RuleV} {v : ValueV} (hk : kindI rs r = true) (h : fitB (bndV rs r) v = true) : v.items.length ≤ 40:=by
 have hkn:=kindI_known hk
 rcases (by omega : r.kind = 1 ∨ r.kind = 2 ∨ r.kind = 3 ∨ r.kind = 4 ∨ r.kind = 5 ∨ r.kind = 6 ∨ r.kind = 7 ∨ r.kind = 8 ∨ r.kind = 9 ∨ r.kind = 10) with e | e | e | e | e | e | e | e | e | e
 all_goals
  simp only [fitB,bndV,e,Int.reduceEq,reduceIte,Bool.and_eq_true,decide_eq_true_eq] at h
  try have:=kindI_6 hk e
  omega
def IdxOut (ts : List Int) (x : Int) (e : Ending) : Prop :=
 ∃ R : Int,e = .returned (.int .i64 R) ∧ ((R = -1 ∧ ∀ t ∈ ts,t ≠ x) ∨ ∃ j : Nat,R = (j : Int) ∧ ∃ h : j < ts.length,ts[j] = x ∧ ∀ i (hi : i < j),ts[i] ≠ x)
theorem index_impl (a : Option Addr) (ts : List Int) (cap : Nat) (x : Int) (w : World) (hl : ts.length ≤ 1048576) (h : RdI a ts w) :
  Calls Tryz.prog 160 #[.slice a ts.length cap,.int .i64 x] w fun e w' => IdxOut ts x e ∧ w = w':=by
 have H:=kq h
 clear h
 go_enter Tryz.func160,Tryz.ntmps160
 go_wp2
 go_loop [8] (fun i => ∃ q : Nat,q ≤ ts.length ∧ i = .int .i64 q ∧ Hid (∀ i (hi : i < q) (hl : i < ts.length),ts[i] ≠ x)) (fun i => ts.length - (intOf i).toNat)
 case atStart => exact ⟨0,Nat.zero_le _,rfl,fun i hi => by omega⟩
 case round =>
  obtain ⟨q,hql,rfl,hno⟩:=hrel
  have q0 : (0 : Int) ≤ (q : Int):=by omega
  by_cases hlt : q < ts.length
  ·have q1 : (q : Int) < (ts.length : Int):=by omega
   obtain ⟨b6,o6,ha6,hc6⟩:=H.out.cellAt (j:=q) hlt
   subst ha6
   obtain ⟨t,ht⟩ : ∃ t,t = ts[q]:=⟨_,rfl⟩
   rw [← ht] at hc6
   have HT:=kq ht
   clear ht
   cases htx : (x == t) with
   | true =>
    have hyes : Hid (IdxOut ts x (.returned (.int .i64 (q : Int)))):=by
     have e : x = t:=eq_of_beq htx
     exact ⟨_,rfl,.inr ⟨q,rfl,hlt,by rw [← HT.out,e],fun i hi => hno.out i hi (by omega)⟩⟩
    go_wp2
    go_ret
    exact ⟨hyes.out,rfl⟩
   | false =>
    have hnx : Hid (∀ i (hi : i < q + 1) (hl : i < ts.length),ts[i] ≠ x):=fun i hi hl => by
     by_cases e : i = q
     ·subst e
      have : x ≠ t:=by simpa using htx
      rw [← HT.out]
      exact fun h => this h.symm
     ·exact hno.out i (by omega) hl
    go_wp2
    go_round
    case rel => exact ⟨q + 1,by omega,by go_num,hnx⟩
    case measure => simp [intOf]; omega
  ·have q1 : ¬ (q : Int) < (ts.length : Int):=by omega
   have hyes : Hid (IdxOut ts x (.returned (.int .i64 (-1)))):=⟨_,rfl,.inl ⟨rfl,fun t ht => by
    obtain ⟨i,hi,rfl⟩:=List.mem_iff_getElem.1 ht
    exact hno.out i (by omega) hi⟩⟩
   go_wp2
   go_ret
   exact ⟨hyes.out,rfl⟩
theorem kidof_impl (rs : List RuleV) (r : RuleV) (cs : List Value) (x : Int) (i : Nat) (w : World) (hi : i ≤ 1048576) (hki : kindI rs r = true) (h : IsRule r cs w) :
  Calls Tryz.prog 118 #[.agg cs.toArray,.int .i64 x,.int .i64 (i : Int)] w fun e w' => e = .returned (.int .i64 (kidI r x i)) ∧ Below w.heap.size w w':=by
 obtain ⟨a4,c4,a5,c5,a6,c6,a7,c7,rfl,h4,h5,h6,h7⟩:=h
 obtain ⟨w0,hw0⟩ : ∃ w0,w0 = w.alloc (.cells #[.string r.name,.int .i64 r.kind,.int .i64 r.size,.bool r.little,.slice a4 r.bytes.length c4,.slice a5 r.names.length c5,.slice a6 r.tags.length c6,.slice a7 r.kids.length c7] 63):=⟨_,rfl⟩
 have hB:=zb1 hw0
 have HC:=kq (zk1 hw0)
 have HR6:=kq (h6.below hB)
 have HR7:=kq (h7.below hB)
 have HB:=kq hB
 have HKI:=kq hki
 have hW:=kq hw0
 have y1:=(HC.out 1 _ rfl).1
 have y7:=(HC.out 7 _ rfl).1
 have i0 : (0 : Int) ≤ (i : Int):=by omega
 clear hB hki hw0 h4 h5 h6 h7
 have hkn:=kindI_known HKI.out
 have hlast : r.kind ≠ 5 → r.kind ≠ 6 → r.kind ≠ 7 → r.kind ≠ 8 → r.kind ≠ 9 → kidI r x i = -1:=fun k5 k6 k7 k8 k9 => by
  unfold kidI
  rw [if_neg k5,if_neg k7,if_neg (by omega)]
 have HLAST:=kq hlast
 clear hlast
 rcases (by omega : r.kind = 5 ∨ r.kind = 7 ∨ r.kind = 6 ∨ r.kind = 8 ∨ r.kind = 9 ∨ r.kind = 1 ∨ r.kind = 2 ∨ r.kind = 3 ∨ r.kind = 4 ∨ r.kind = 10) with hk | hk | hk | hk | hk | hk | hk | hk | hk | hk
 case inl =>
  have h5:=kindI_5 HKI.out hk
  have g1 : (1 : Int) < (r.kids.length : Int):=by omega
  obtain ⟨b7,o7,ha7,hc7⟩:=HR7.out.cellAt (j:=1) (by omega)
  subst ha7
  have hr : Hid (kidI r x i = r.kids[1]'(by omega)):=by show _ = _; unfold kidI; rw [if_pos hk,getD_at (by omega)]
  generalize r.kids[1]'(by omega) = y at hc7 hr
  rw [hk] at y1
  have HKK:=kq hk
  clear hk h5
  go_enter Tryz.func118,Tryz.ntmps118
  go_upto_region 1 with fail
  rw [← hW.out]
  clear hW
  go_wp2
  go_ret
  exact ⟨ret_int hr.out.symm,HB.out⟩
 case inr.inl =>
  have h7:=kindI_7 HKI.out hk
  have hk9 : r.kids.length ≤ 9:=by omega
  have ht8 : r.tags.length ≤ 8:=by omega
  have HL : Hid (r.kids.length = r.tags.length + 1):=h7.1
  have y6:=(HC.out 6 _ rfl).1
  rw [hk] at y1
  have hr : Hid (kidI r x i = if i = 0 then tagKid r.tags (r.kids.drop 1) x else -1):=by show _ = _; unfold kidI; rw [if_neg (by omega),if_pos hk]
  have HKK:=kq hk
  clear hk h7
  go_enter Tryz.func118,Tryz.ntmps118
  go_upto_region 1 with fail
  rw [← hW.out]
  clear hW
  go_wp2_with fail
  refine (index_impl a6 r.tags c6 x _ (by omega) HR6.out).mono ?_
  rintro e w1 ⟨⟨R,rfl,hR⟩,rfl⟩
  rcases hR with ⟨rfl,hno⟩ | ⟨j,rfl,hj,hjx,hno⟩
  ·have hrr : Hid (kidI r x i = -1):=by show _ = _; rw [hr.out,tagKid_none hno]; split <;> rfl
   clear hno hr
   go_wp2
   go_ret
   exact ⟨ret_int hrr.out.symm,HB.out⟩
  ·have hj2 : j < (r.kids.drop 1).length:=by have:=HL.out; rw [List.length_drop]; omega
   have hj3 : j + 1 < r.kids.length:=by have:=HL.out; omega
   have j0 : (0 : Int) ≤ (j : Int):=by omega
   have j2 : (j : Int) + 1 < (r.kids.length : Int):=by omega
   obtain ⟨b7,o7,ha7,hc7⟩:=HR7.out.cellAt (j:=j + 1) hj3
   subst ha7
   have hrr : Hid (kidI r x i = if i = 0 then r.kids[j + 1] else -1):=by
    show _ = _
    rw [hr.out,tagKid_first hj hj2 hjx hno,List.getElem_drop]
    simp only [Nat.add_comm]
   generalize r.kids[j + 1] = y at hc7 hrr
   clear hno hr hjx hj
   by_cases hi0 : i = 0
   ·have e0 : ((i : Int) == 0) = true:=by simp [hi0]
    have hr2 : Hid (kidI r x i = y):=by show _ = _; rw [hrr.out,if_pos hi0]
    clear hrr
    have HI0:=kq hi0
    clear hi0
    go_wp2
    go_ret
    exact ⟨ret_int hr2.out.symm,HB.out⟩
   ·have e0 : ((i : Int) == 0) = false:=by simp; omega
    have hr2 : Hid (kidI r x i = -1):=by show _ = _; rw [hrr.out,if_neg hi0]
    clear hrr
    have HI0:=kq hi0
    clear hi0
    go_wp2
    go_ret
    exact ⟨ret_int hr2.out.symm,HB.out⟩
 case inr.inr.inl =>
  have h6:=kindI_6 HKI.out hk
  have hk8 : r.kids.length ≤ 8:=by omega
  rw [hk] at y1
  by_cases hik : i < r.kids.length
  ·have g1 : (i : Int) < (r.kids.length : Int):=by omega
   obtain ⟨b7,o7,ha7,hc7⟩:=HR7.out.cellAt (j:=i) hik
   subst ha7
   have hr : Hid (kidI r x i = r.kids[i]):=by show _ = _; unfold kidI; rw [if_neg (by omega),if_neg (by omega),if_pos (by omega),if_pos hik,getD_at hik]
   generalize r.kids[i] = y at hc7 hr
   have HKK:=kq hk
   clear hk h6
   go_enter Tryz.func118,Tryz.ntmps118
   go_upto_region 1 with fail
   rw [← hW.out]
   clear hW
   go_wp2
   go_ret
   exact ⟨ret_int hr.out.symm,HB.out⟩
  ·have g1 : ¬ (i : Int) < (r.kids.length : Int):=by omega
   have hr : Hid (kidI r x i = -1):=by show _ = _; unfold kidI; rw [if_neg (by omega),if_neg (by omega),if_pos (by omega),if_neg hik]
   have HKK:=kq hk
   clear hk h6
   go_enter Tryz.func118,Tryz.ntmps118
   go_upto_region 1 with fail
   rw [← hW.out]
   clear hW
   go_wp2
   go_ret
   exact ⟨ret_int hr.out.symm,HB.out⟩
 case inr.inr.inr.inl =>
  have hk8 : r.kids.length ≤ 8:=by have:=kindI_8 HKI.out hk; omega
  rw [hk] at y1
  by_cases hik : i < r.kids.length
  ·have g1 : (i : Int) < (r.kids.length : Int):=by omega
   obtain ⟨b7,o7,ha7,hc7⟩:=HR7.out.cellAt (j:=i) hik
   subst ha7
   have hr : Hid (kidI r x i = r.kids[i]):=by show _ = _; unfold kidI; rw [if_neg (by omega),if_neg (by omega),if_pos (by omega),if_pos hik,getD_at hik]
   generalize r.kids[i] = y at hc7 hr
   have HKK:=kq hk
   clear hk
   go_enter Tryz.func118,Tryz.ntmps118
   go_upto_region 1 with fail
   rw [← hW.out]
   clear hW
   go_wp2
   go_ret
   exact ⟨ret_int hr.out.symm,HB.out⟩
  ·have g1 : ¬ (i : Int) < (r.kids.length : Int):=by omega
   have hr : Hid (kidI r x i = -1):=by show _ = _; unfold kidI; rw [if_neg (by omega),if_neg (by omega),if_pos (by omega),if_neg hik]
   have HKK:=kq hk
   clear hk
   go_enter Tryz.func118,Tryz.ntmps118
   go_upto_region 1 with fail
   rw [← hW.out]
   clear hW
   go_wp2
   go_ret
   exact ⟨ret_int hr.out.symm,HB.out⟩
 case inr.inr.inr.inr.inl =>
  have hk8 : r.kids.length ≤ 8:=by have:=kindI_9 HKI.out hk; omega
  rw [hk] at y1
  by_cases hik : i < r.kids.length
  ·have g1 : (i : Int) < (r.kids.length : Int):=by omega
   obtain ⟨b7,o7,ha7,hc7⟩:=HR7.out.cellAt (j:=i) hik
   subst ha7
   have hr : Hid (kidI r x i = r.kids[i]):=by show _ = _; unfold kidI; rw [if_neg (by omega),if_neg (by omega),if_pos (by omega),if_pos hik,getD_at hik]
   generalize r.kids[i] = y at hc7 hr
   have HKK:=kq hk
   clear hk
   go_enter Tryz.func118,Tryz.ntmps118
   go_upto_region 1 with fail
   rw [← hW.out]
   clear hW
   go_wp2
   go_ret
   exact ⟨ret_int hr.out.symm,HB.out⟩
  ·have g1 : ¬ (i : Int) < (r.kids.length : Int):=by omega
   have hr : Hid (kidI r x i = -1):=by show _ = _; unfold kidI; rw [if_neg (by omega),if_neg (by omega),if_pos (by omega),if_neg hik]
   have HKK:=kq hk
   clear hk
   go_enter Tryz.func118,Tryz.ntmps118
   go_upto_region 1 with fail
   rw [← hW.out]
   clear hW
   go_wp2
   go_ret
   exact ⟨ret_int hr.out.symm,HB.out⟩
 all_goals
  have hr:=kq (HLAST.out (by omega) (by omega) (by omega) (by omega) (by omega))
  rw [hk] at y1
  have HKK:=kq hk
  clear hk
  go_enter Tryz.func118,Tryz.ntmps118
  go_upto_region 1 with fail
  rw [← hW.out]
  clear hW
  go_wp2
  go_ret
  exact ⟨ret_int hr.out.symm,HB.out⟩
theorem bnd_1 (a : Option Addr) (rs : List RuleV) (cap k : Nat) (r : RuleV) (w : World) (hl : rs.length ≤ 1048576) (hk : k < rs.length) (hr : r = rs[k]) (hki : kindI rs r = true) (hrd : RdR a rs w) (hkd : r.kind = 1) :
  Calls Tryz.prog 103 #[.agg #[.slice a rs.length cap],.int .i64 (k : Int)] w fun e w' => e = .returned (.agg #[.int .i64 (bndV rs r).num,.int .i64 (bndV rs r).b0,.int .i64 (bndV rs r).b1,.int .i64 (bndV rs r).i0,.int .i64 (bndV rs r).i1]) ∧ Below w.heap.size w w':=by
 have hdef : bndV rs r = ⟨pow256 r.size - 1,0,0,0,0⟩:=by unfold bndV; simp [hkd]
 obtain ⟨w0,hw0⟩ : ∃ w0,w0 = (w.alloc (.cells #[.slice a rs.length cap] 26)).alloc (.cells #[.int .i64 0,.int .i64 0,.int .i64 0,.int .i64 0,.int .i64 0] 135):=⟨_,rfl⟩
 have hB:=zb2 hw0
 have hD:=zk2 hw0
 have hZ:=zk3 hw0
 obtain ⟨b0,off,a4,c4,a5,c5,a6,c6,a7,c7,rfl,⟨d0,d1,d2,d3,d4,d5,d6,d7⟩,r4,r5,r6,r7⟩:=(hrd.below hB).at k hk
 have hlim : limitAt rs (k : Int) = pow256 r.size - 1:=by have:=kindI_size hki hkd; rw [limitAt_in hk,← hr,if_pos ⟨hkd,this.1,this.2⟩]
 rw [← hr] at d0 d1 d2 d3 d4 d5 d6 d7 r4 r5 r6 r7
 obtain ⟨w2,hw2⟩ : ∃ w2,w2 = w0.alloc (.cells #[.string r.name,.int .i64 r.kind,.int .i64 r.size,.bool r.little,.slice a4 r.bytes.length c4,.slice a5 r.names.length c5,.slice a6 r.tags.length c6,.slice a7 r.kids.length c7] 63):=⟨_,rfl⟩
 have hb2:=zb1 hw2
 have HC:=kq (zk1 hw2)
 have HD:=kq (hD.below hb2)
 have HZ:=kq (hZ.below hb2)
 have HR7:=kq (r7.below hb2)
 have HRD:=kq ((hrd.below hB).below hb2)
 have HB:=kq (hB.trans (hb2.mono hB.size))
 have hne : w0.heap.size ≠ w.heap.size + 1:=by subst hw0; simp
 have HNE:=kq hne
 have HW:=kq hw0
 have HW2:=kq hw2
 have HKI:=kq hki
 have bx:=(hD 0 _ rfl).1
 have k0 : (0 : Int) ≤ (k : Int):=by omega
 have k1 : (k : Int) < (rs.length : Int):=by omega
 have y1:=(HC.out 1 _ rfl).1
 rw [hkd] at y1
 obtain ⟨M,hM⟩ : ∃ M,M = pow256 r.size - 1:=⟨_,rfl⟩
 rw [← hM] at hdef hlim
 have HL:=kq hlim
 clear hM hlim
 have HDEF:=kq hdef
 rw [hdef]
 simp only []
 have HKD:=kq hkd
 clear hB hD hZ hb2 hrd r4 r5 r6 r7 hw0 hw2 hne hki hr hdef hkd
 go_enter Tryz.func103,Tryz.ntmps103
 go_upto_region 1 with fail
 rw [← HW.out]
 go_upto_region 2 with fail
 rw [← HW2.out]
 clear bx d0 d1 d2 d3 d4 d5 d6 d7
 have bx:=(HD.out 0 _ rfl).1
 go_wp2_with fail
 refine (limit_impl (some ⟨b0,off,none⟩) rs cap (k : Int) _ (by omega) HRD.out).mono ?_
 rintro e w3 ⟨rfl,hb3⟩
 rw [HL.out]
 have HB3:=kq (HB.out.trans (hb3.mono HB.out.size))
 obtain ⟨z0,t0⟩:=HZ.out.below hb3 0 _ rfl
 obtain ⟨z1,t1⟩:=HZ.out.below hb3 1 _ rfl
 obtain ⟨z2,t2⟩:=HZ.out.below hb3 2 _ rfl
 obtain ⟨z3,t3⟩:=HZ.out.below hb3 3 _ rfl
 obtain ⟨z4,t4⟩:=HZ.out.below hb3 4 _ rfl
 clear hb3
 go_wp2
 (try simp only [Exit.inBlock,Exit.then])
 refine bodyPost_ret (v:=.agg #[.int .i64 M,.int .i64 0,.int .i64 0,.int .i64 0,.int .i64 0]) ?_ rfl ?_
 ·simp [results,Tryz.results103,go_sem,z0,z1,z2,z3,z4]
 ·exact ⟨rfl,(((((HB3.out.setCell (p:=⟨w.heap.size + 1,_,none⟩) (by simp) _).setCell (p:=⟨w.heap.size + 1,_,none⟩) (by simp) _).setCell (p:=⟨w.heap.size + 1,_,none⟩) (by simp) _).setCell (p:=⟨w.heap.size + 1,_,none⟩) (by simp) _).setCell (p:=⟨w.heap.size + 1,_,none⟩) (by simp) _)⟩
theorem bnd_2 (a : Option Addr) (rs : List RuleV) (cap k : Nat) (r : RuleV) (w : World) (_hl : rs.length ≤ 1048576) (hk : k < rs.length) (hr : r = rs[k]) (hki : kindI rs r = true) (hrd : RdR a rs w) (hkd : r.kind = 2) :
  Calls Tryz.prog 103 #[.agg #[.slice a rs.length cap],.int .i64 (k : Int)] w fun e w' => e = .returned (.agg #[.int .i64 (bndV rs r).num,.int .i64 (bndV rs r).b0,.int .i64 (bndV rs r).b1,.int .i64 (bndV rs r).i0,.int .i64 (bndV rs r).i1]) ∧ Below w.heap.size w w':=by
 have hdef : bndV rs r = ⟨0,0,0,0,0⟩:=by unfold bndV; simp [hkd]
 obtain ⟨w0,hw0⟩ : ∃ w0,w0 = (w.alloc (.cells #[.slice a rs.length cap] 26)).alloc (.cells #[.int .i64 0,.int .i64 0,.int .i64 0,.int .i64 0,.int .i64 0] 135):=⟨_,rfl⟩
 have hB:=zb2 hw0
 have hD:=zk2 hw0
 have hZ:=zk3 hw0
 obtain ⟨b0,off,a4,c4,a5,c5,a6,c6,a7,c7,rfl,⟨d0,d1,d2,d3,d4,d5,d6,d7⟩,r4,r5,r6,r7⟩:=(hrd.below hB).at k hk
 rw [← hr] at d0 d1 d2 d3 d4 d5 d6 d7 r4 r5 r6 r7
 obtain ⟨w2,hw2⟩ : ∃ w2,w2 = w0.alloc (.cells #[.string r.name,.int .i64 r.kind,.int .i64 r.size,.bool r.little,.slice a4 r.bytes.length c4,.slice a5 r.names.length c5,.slice a6 r.tags.length c6,.slice a7 r.kids.length c7] 63):=⟨_,rfl⟩
 have hb2:=zb1 hw2
 have HC:=kq (zk1 hw2)
 have HD:=kq (hD.below hb2)
 have HZ:=kq (hZ.below hb2)
 have HR7:=kq (r7.below hb2)
 have HRD:=kq ((hrd.below hB).below hb2)
 have HB:=kq (hB.trans (hb2.mono hB.size))
 have hne : w0.heap.size ≠ w.heap.size + 1:=by subst hw0; simp
 have HNE:=kq hne
 have HW:=kq hw0
 have HW2:=kq hw2
 have HKI:=kq hki
 have bx:=(hD 0 _ rfl).1
 have k0 : (0 : Int) ≤ (k : Int):=by omega
 have k1 : (k : Int) < (rs.length : Int):=by omega
 have y1:=(HC.out 1 _ rfl).1
 rw [hkd] at y1
 have HDEF:=kq hdef
 rw [hdef]
 simp only []
 have HKD:=kq hkd
 clear hB hD hZ hb2 hrd r4 r5 r6 r7 hw0 hw2 hne hki hr hdef hkd
 go_enter Tryz.func103,Tryz.ntmps103
 go_upto_region 1 with fail
 rw [← HW.out]
 go_upto_region 2 with fail
 rw [← HW2.out]
 clear bx d0 d1 d2 d3 d4 d5 d6 d7
 have bx:=(HD.out 0 _ rfl).1
 obtain ⟨z0,t0⟩:=HZ.out 0 _ rfl
 obtain ⟨z1,t1⟩:=HZ.out 1 _ rfl
 obtain ⟨z2,t2⟩:=HZ.out 2 _ rfl
 obtain ⟨z3,t3⟩:=HZ.out 3 _ rfl
 obtain ⟨z4,t4⟩:=HZ.out 4 _ rfl
 go_wp2
 (try simp only [Exit.inBlock,Exit.then])
 refine bodyPost_ret (v:=.agg #[.int .i64 0,.int .i64 0,.int .i64 0,.int .i64 0,.int .i64 0]) ?_ rfl ?_
 ·simp [results,Tryz.results103,go_sem,z0,z1,z2,z3,z4]
 ·exact ⟨rfl,(((((HB.out.setCell (p:=⟨w.heap.size + 1,_,none⟩) (by simp) _).setCell (p:=⟨w.heap.size + 1,_,none⟩) (by simp) _).setCell (p:=⟨w.heap.size + 1,_,none⟩) (by simp) _).setCell (p:=⟨w.heap.size + 1,_,none⟩) (by simp) _).setCell (p:=⟨w.heap.size + 1,_,none⟩) (by simp) _)⟩
theorem bnd_3 (a : Option Addr) (rs : List RuleV) (cap k : Nat) (r : RuleV) (w : World) (_hl : rs.length ≤ 1048576) (hk : k < rs.length) (hr : r = rs[k]) (hki : kindI rs r = true) (hrd : RdR a rs w) (hkd : r.kind = 3) :
  Calls Tryz.prog 103 #[.agg #[.slice a rs.length cap],.int .i64 (k : Int)] w fun e w' => e = .returned (.agg #[.int .i64 (bndV rs r).num,.int .i64 (bndV rs r).b0,.int .i64 (bndV rs r).b1,.int .i64 (bndV rs r).i0,.int .i64 (bndV rs r).i1]) ∧ Below w.heap.size w w':=by
 have hdef : bndV rs r = ⟨0,r.size,r.size,0,0⟩:=by unfold bndV; simp [hkd]
 obtain ⟨w0,hw0⟩ : ∃ w0,w0 = (w.alloc (.cells #[.slice a rs.length cap] 26)).alloc (.cells #[.int .i64 0,.int .i64 0,.int .i64 0,.int .i64 0,.int .i64 0] 135):=⟨_,rfl⟩
 have hB:=zb2 hw0
 have hD:=zk2 hw0
 have hZ:=zk3 hw0
 obtain ⟨b0,off,a4,c4,a5,c5,a6,c6,a7,c7,rfl,⟨d0,d1,d2,d3,d4,d5,d6,d7⟩,r4,r5,r6,r7⟩:=(hrd.below hB).at k hk
 rw [← hr] at d0 d1 d2 d3 d4 d5 d6 d7 r4 r5 r6 r7
 obtain ⟨w2,hw2⟩ : ∃ w2,w2 = w0.alloc (.cells #[.string r.name,.int .i64 r.kind,.int .i64 r.size,.bool r.little,.slice a4 r.bytes.length c4,.slice a5 r.names.length c5,.slice a6 r.tags.length c6,.slice a7 r.kids.length c7] 63):=⟨_,rfl⟩
 have hb2:=zb1 hw2
 have HC:=kq (zk1 hw2)
 have HD:=kq (hD.below hb2)
 have HZ:=kq (hZ.below hb2)
 have HR7:=kq (r7.below hb2)
 have HRD:=kq ((hrd.below hB).below hb2)
 have HB:=kq (hB.trans (hb2.mono hB.size))
 have hne : w0.heap.size ≠ w.heap.size + 1:=by subst hw0; simp
 have HNE:=kq hne
 have HW:=kq hw0
 have HW2:=kq hw2
 have HKI:=kq hki
 have bx:=(hD 0 _ rfl).1
 have k0 : (0 : Int) ≤ (k : Int):=by omega
 have k1 : (k : Int) < (rs.length : Int):=by omega
 have y1:=(HC.out 1 _ rfl).1
 rw [hkd] at y1
 have y2:=(HC.out 2 _ rfl).1
 obtain ⟨sz,hsz⟩ : ∃ sz,sz = r.size:=⟨_,rfl⟩
 rw [← hsz] at y2 hdef
 clear hsz
 have HDEF:=kq hdef
 rw [hdef]
 simp only []
 have HKD:=kq hkd
 clear hB hD hZ hb2 hrd r4 r5 r6 r7 hw0 hw2 hne hki hr hdef hkd
 go_enter Tryz.func103,Tryz.ntmps103
 go_upto_region 1 with fail
 rw [← HW.out]
 go_upto_region 2 with fail
 rw [← HW2.out]
 clear bx d0 d1 d2 d3 d4 d5 d6 d7
 have bx:=(HD.out 0 _ rfl).1
 obtain ⟨z0,t0⟩:=HZ.out 0 _ rfl
 obtain ⟨z1,t1⟩:=HZ.out 1 _ rfl
 obtain ⟨z2,t2⟩:=HZ.out 2 _ rfl
 obtain ⟨z3,t3⟩:=HZ.out 3 _ rfl
 obtain ⟨z4,t4⟩:=HZ.out 4 _ rfl
 go_wp2
 (try simp only [Exit.inBlock,Exit.then])
 refine bodyPost_ret (v:=.agg #[.int .i64 0,.int .i64 sz,.int .i64 sz,.int .i64 0,.int .i64 0]) ?_ rfl ?_
 ·simp [results,Tryz.results103,go_sem,z0,z1,z2,z3,z4]
 ·exact ⟨rfl,(((((HB.out.setCell (p:=⟨w.heap.size + 1,_,none⟩) (by simp) _).setCell (p:=⟨w.heap.size + 1,_,none⟩) (by simp) _).setCell (p:=⟨w.heap.size + 1,_,none⟩) (by simp) _).setCell (p:=⟨w.heap.size + 1,_,none⟩) (by simp) _).setCell (p:=⟨w.heap.size + 1,_,none⟩) (by simp) _)⟩
theorem bnd_4 (a : Option Addr) (rs : List RuleV) (cap k : Nat) (r : RuleV) (w : World) (hl : rs.length ≤ 1048576) (hk : k < rs.length) (hr : r = rs[k]) (hki : kindI rs r = true) (hrd : RdR a rs w) (hkd : r.kind = 4) :
  Calls Tryz.prog 103 #[.agg #[.slice a rs.length cap],.int .i64 (k : Int)] w fun e w' => e = .returned (.agg #[.int .i64 (bndV rs r).num,.int .i64 (bndV rs r).b0,.int .i64 (bndV rs r).b1,.int .i64 (bndV rs r).i0,.int .i64 (bndV rs r).i1]) ∧ Below w.heap.size w w':=by
 have hdef : bndV rs r = ⟨0,0,min 400 (limitAt rs (r.kids.getD 0 0)),0,0⟩:=by unfold bndV; simp [hkd]
 obtain ⟨w0,hw0⟩ : ∃ w0,w0 = (w.alloc (.cells #[.slice a rs.length cap] 26)).alloc (.cells #[.int .i64 0,.int .i64 0,.int .i64 0,.int .i64 0,.int .i64 0] 135):=⟨_,rfl⟩
 have hB:=zb2 hw0
 have hD:=zk2 hw0
 have hZ:=zk3 hw0
 obtain ⟨b0,off,a4,c4,a5,c5,a6,c6,a7,c7,rfl,⟨d0,d1,d2,d3,d4,d5,d6,d7⟩,r4,r5,r6,r7⟩:=(hrd.below hB).at k hk
 rw [← hr] at d0 d1 d2 d3 d4 d5 d6 d7 r4 r5 r6 r7
 obtain ⟨w2,hw2⟩ : ∃ w2,w2 = w0.alloc (.cells #[.string r.name,.int .i64 r.kind,.int .i64 r.size,.bool r.little,.slice a4 r.bytes.length c4,.slice a5 r.names.length c5,.slice a6 r.tags.length c6,.slice a7 r.kids.length c7] 63):=⟨_,rfl⟩
 have hb2:=zb1 hw2
 have HC:=kq (zk1 hw2)
 have HD:=kq (hD.below hb2)
 have HZ:=kq (hZ.below hb2)
 have HR7:=kq (r7.below hb2)
 have HRD:=kq ((hrd.below hB).below hb2)
 have HB:=kq (hB.trans (hb2.mono hB.size))
 have hne : w0.heap.size ≠ w.heap.size + 1:=by subst hw0; simp
 have HNE:=kq hne
 have HW:=kq hw0
 have HW2:=kq hw2
 have HKI:=kq hki
 have bx:=(hD 0 _ rfl).1
 have k0 : (0 : Int) ≤ (k : Int):=by omega
 have k1 : (k : Int) < (rs.length : Int):=by omega
 have y1:=(HC.out 1 _ rfl).1
 rw [hkd] at y1
 have h0 : 0 < r.kids.length:=by have:=kindI_4 hki hkd; omega
 have g0 : (0 : Int) < (r.kids.length : Int):=by omega
 obtain ⟨b7,o7,ha7,hc7⟩:=HR7.out.cellAt (j:=0) h0
 subst ha7
 simp only [Nat.add_zero] at hc7
 rw [getD_at h0] at hdef
 generalize r.kids[0] = kk at hc7 hdef
 have y7:=(HC.out 7 _ rfl).1
 obtain ⟨L,hL⟩ : ∃ L,L = limitAt rs kk:=⟨_,rfl⟩
 obtain ⟨M,hM⟩ : ∃ M,M = min 400 (limitAt rs kk):=⟨_,rfl⟩
 rw [← hM] at hdef
 rw [← hL] at hM
 have HL:=kq hL
 have HM:=kq hM
 clear hM hL
 have HDEF:=kq hdef
 rw [hdef]
 simp only []
 have HKD:=kq hkd
 clear hB hD hZ hb2 hrd r4 r5 r6 r7 hw0 hw2 hne hki hr hdef hkd
 go_enter Tryz.func103,Tryz.ntmps103
 go_upto_region 1 with fail
 rw [← HW.out]
 go_upto_region 2 with fail
 rw [← HW2.out]
 clear bx d0 d1 d2 d3 d4 d5 d6 d7
 have bx:=(HD.out 0 _ rfl).1
 go_upto_region 8 with fail
 have HSW : Hid (∀ W,Below w2.heap.size w2 W → W.cell? ⟨w.heap.size,0,none⟩ = some (.slice (some ⟨b0,off,none⟩) rs.length cap) ∧ W.cell? ⟨w0.heap.size,7,none⟩ = some (.slice (some ⟨b7,o7,none⟩) r.kids.length c7) ∧ W.cell? ⟨b7,o7,none⟩ = some (.int .i64 kk)):=fun W hW => ⟨(HD.out.below hW 0 _ rfl).1,(HC.out.below hW 7 _ rfl).1,cell_keep hW hc7⟩
 go_region_with (first | (go_at_call 152; refine (limit_impl (some ⟨b0,off,none⟩) rs cap kk _ (by omega) (HRD.out.below (below_drewN (Below.refl _ w2) 1))).mono ?_; rintro e w3 ⟨rfl,hb3⟩; rw [← HL.out]; replace hb3:=kq ((below_drewN (Below.refl _ w2) 1).trans hb3)) | (go_at_call 153; refine (min_impl 400 L _).mono ?_; rintro e w4 ⟨rfl,hb4⟩; rw [← HM.out]; have hb5:=kq (hb3.out.trans (hb4.mono hb3.out.size)); obtain ⟨z0,t0⟩:=HZ.out.below hb5.out 0 _ rfl; obtain ⟨z1,t1⟩:=HZ.out.below hb5.out 1 _ rfl; obtain ⟨z2,t2⟩:=HZ.out.below hb5.out 2 _ rfl; obtain ⟨z3,t3⟩:=HZ.out.below hb5.out 3 _ rfl; obtain ⟨z4,t4⟩:=HZ.out.below hb5.out 4 _ rfl; have HB5:=kq (HB.out.trans (hb5.out.mono HB.out.size)); clear hb3 hb4 hb5))
 all_goals (
  go_wp2
  (try simp only [Exit.inBlock,Exit.then])
  refine bodyPost_ret (v:=.agg #[.int .i64 0,.int .i64 0,.int .i64 M,.int .i64 0,.int .i64 0]) ?_ rfl ?_
  ·simp [results,Tryz.results103,go_sem,z0,z1,z2,z3,z4]
  ·exact ⟨rfl,(((((HB5.out.setCell (p:=⟨w.heap.size + 1,_,none⟩) (by simp) _).setCell (p:=⟨w.heap.size + 1,_,none⟩) (by simp) _).setCell (p:=⟨w.heap.size + 1,_,none⟩) (by simp) _).setCell (p:=⟨w.heap.size + 1,_,none⟩) (by simp) _).setCell (p:=⟨w.heap.size + 1,_,none⟩) (by simp) _)⟩)
theorem bnd_5 (a : Option Addr) (rs : List RuleV) (cap k : Nat) (r : RuleV) (w : World) (hl : rs.length ≤ 1048576) (hk : k < rs.length) (hr : r = rs[k]) (hki : kindI rs r = true) (hrd : RdR a rs w) (hkd : r.kind = 5) :
  Calls Tryz.prog 103 #[.agg #[.slice a rs.length cap],.int .i64 (k : Int)] w fun e w' => e = .returned (.agg #[.int .i64 (bndV rs r).num,.int .i64 (bndV rs r).b0,.int .i64 (bndV rs r).b1,.int .i64 (bndV rs r).i0,.int .i64 (bndV rs r).i1]) ∧ Below w.heap.size w w':=by
 have hdef : bndV rs r = ⟨0,0,0,0,min 40 (limitAt rs (r.kids.getD 0 0))⟩:=by unfold bndV; simp [hkd]
 obtain ⟨w0,hw0⟩ : ∃ w0,w0 = (w.alloc (.cells #[.slice a rs.length cap] 26)).alloc (.cells #[.int .i64 0,.int .i64 0,.int .i64 0,.int .i64 0,.int .i64 0] 135):=⟨_,rfl⟩
 have hB:=zb2 hw0
 have hD:=zk2 hw0
 have hZ:=zk3 hw0
 obtain ⟨b0,off,a4,c4,a5,c5,a6,c6,a7,c7,rfl,⟨d0,d1,d2,d3,d4,d5,d6,d7⟩,r4,r5,r6,r7⟩:=(hrd.below hB).at k hk
 rw [← hr] at d0 d1 d2 d3 d4 d5 d6 d7 r4 r5 r6 r7
 obtain ⟨w2,hw2⟩ : ∃ w2,w2 = w0.alloc (.cells #[.string r.name,.int .i64 r.kind,.int .i64 r.size,.bool r.little,.slice a4 r.bytes.length c4,.slice a5 r.names.length c5,.slice a6 r.tags.length c6,.slice a7 r.kids.length c7] 63):=⟨_,rfl⟩
 have hb2:=zb1 hw2
 have HC:=kq (zk1 hw2)
 have HD:=kq (hD.below hb2)
 have HZ:=kq (hZ.below hb2)
 have HR7:=kq (r7.below hb2)
 have HRD:=kq ((hrd.below hB).below hb2)
 have HB:=kq (hB.trans (hb2.mono hB.size))
 have hne : w0.heap.size ≠ w.heap.size + 1:=by subst hw0; simp
 have HNE:=kq hne
 have HW:=kq hw0
 have HW2:=kq hw2
 have HKI:=kq hki
 have bx:=(hD 0 _ rfl).1
 have k0 : (0 : Int) ≤ (k : Int):=by omega
 have k1 : (k : Int) < (rs.length : Int):=by omega
 have y1:=(HC.out 1 _ rfl).1
 rw [hkd] at y1
 have h0 : 0 < r.kids.length:=by have:=kindI_5 hki hkd; omega
 have g0 : (0 : Int) < (r.kids.length : Int):=by omega
 obtain ⟨b7,o7,ha7,hc7⟩:=HR7.out.cellAt (j:=0) h0
 subst ha7
 simp only [Nat.add_zero] at hc7
 rw [getD_at h0] at hdef
 generalize r.kids[0] = kk at hc7 hdef
 have y7:=(HC.out 7 _ rfl).1
 obtain ⟨L,hL⟩ : ∃ L,L = limitAt rs kk:=⟨_,rfl⟩
 obtain ⟨M,hM⟩ : ∃ M,M = min 40 (limitAt rs kk):=⟨_,rfl⟩
 rw [← hM] at hdef
 rw [← hL] at hM
 have HL:=kq hL
 have HM:=kq hM
 clear hM hL
 have HDEF:=kq hdef
 rw [hdef]
 simp only []
 have HKD:=kq hkd
 clear hB hD hZ hb2 hrd r4 r5 r6 r7 hw0 hw2 hne hki hr hdef hkd
 go_enter Tryz.func103,Tryz.ntmps103
 go_upto_region 1 with fail
 rw [← HW.out]
 go_upto_region 2 with fail
 rw [← HW2.out]
 clear bx d0 d1 d2 d3 d4 d5 d6 d7
 have bx:=(HD.out 0 _ rfl).1
 go_upto_region 12 with fail
 have HSW : Hid (∀ W,Below w2.heap.size w2 W → W.cell? ⟨w.heap.size,0,none⟩ = some (.slice (some ⟨b0,off,none⟩) rs.length cap) ∧ W.cell? ⟨w0.heap.size,7,none⟩ = some (.slice (some ⟨b7,o7,none⟩) r.kids.length c7) ∧ W.cell? ⟨b7,o7,none⟩ = some (.int .i64 kk)):=fun W hW => ⟨(HD.out.below hW 0 _ rfl).1,(HC.out.below hW 7 _ rfl).1,cell_keep hW hc7⟩
 go_region_with (first | (go_at_call 152; refine (limit_impl (some ⟨b0,off,none⟩) rs cap kk _ (by omega) (HRD.out.below (below_drewN (Below.refl _ w2) 1))).mono ?_; rintro e w3 ⟨rfl,hb3⟩; rw [← HL.out]; replace hb3:=kq ((below_drewN (Below.refl _ w2) 1).trans hb3)) | (go_at_call 153; refine (min_impl 40 L _).mono ?_; rintro e w4 ⟨rfl,hb4⟩; rw [← HM.out]; have hb5:=kq (hb3.out.trans (hb4.mono hb3.out.size)); obtain ⟨z0,t0⟩:=HZ.out.below hb5.out 0 _ rfl; obtain ⟨z1,t1⟩:=HZ.out.below hb5.out 1 _ rfl; obtain ⟨z2,t2⟩:=HZ.out.below hb5.out 2 _ rfl; obtain ⟨z3,t3⟩:=HZ.out.below hb5.out 3 _ rfl; obtain ⟨z4,t4⟩:=HZ.out.below hb5.out 4 _ rfl; have HB5:=kq (HB.out.trans (hb5.out.mono HB.out.size)); clear hb3 hb4 hb5))
 all_goals (
  go_wp2
  (try simp only [Exit.inBlock,Exit.then])
  refine bodyPost_ret (v:=.agg #[.int .i64 0,.int .i64 0,.int .i64 0,.int .i64 0,.int .i64 M]) ?_ rfl ?_
  ·simp [results,Tryz.results103,go_sem,z0,z1,z2,z3,z4]
  ·exact ⟨rfl,(((((HB5.out.setCell (p:=⟨w.heap.size + 1,_,none⟩) (by simp) _).setCell (p:=⟨w.heap.size + 1,_,none⟩) (by simp) _).setCell (p:=⟨w.heap.size + 1,_,none⟩) (by simp) _).setCell (p:=⟨w.heap.size + 1,_,none⟩) (by simp) _).setCell (p:=⟨w.heap.size + 1,_,none⟩) (by simp) _)⟩)
theorem bnd_6 (a : Option Addr) (rs : List RuleV) (cap k : Nat) (r : RuleV) (w : World) (_hl : rs.length ≤ 1048576) (hk : k < rs.length) (hr : r = rs[k]) (hki : kindI rs r = true) (hrd : RdR a rs w) (hkd : r.kind = 6) :
  Calls Tryz.prog 103 #[.agg #[.slice a rs.length cap],.int .i64 (k : Int)] w fun e w' => e = .returned (.agg #[.int .i64 (bndV rs r).num,.int .i64 (bndV rs r).b0,.int .i64 (bndV rs r).b1,.int .i64 (bndV rs r).i0,.int .i64 (bndV rs r).i1]) ∧ Below w.heap.size w w':=by
 have hdef : bndV rs r = ⟨0,0,0,(r.kids.length : Int),(r.kids.length : Int)⟩:=by unfold bndV; simp [hkd]
 obtain ⟨w0,hw0⟩ : ∃ w0,w0 = (w.alloc (.cells #[.slice a rs.length cap] 26)).alloc (.cells #[.int .i64 0,.int .i64 0,.int .i64 0,.int .i64 0,.int .i64 0] 135):=⟨_,rfl⟩
 have hB:=zb2 hw0
 have hD:=zk2 hw0
 have hZ:=zk3 hw0
 obtain ⟨b0,off,a4,c4,a5,c5,a6,c6,a7,c7,rfl,⟨d0,d1,d2,d3,d4,d5,d6,d7⟩,r4,r5,r6,r7⟩:=(hrd.below hB).at k hk
 rw [← hr] at d0 d1 d2 d3 d4 d5 d6 d7 r4 r5 r6 r7
 obtain ⟨w2,hw2⟩ : ∃ w2,w2 = w0.alloc (.cells #[.string r.name,.int .i64 r.kind,.int .i64 r.size,.bool r.little,.slice a4 r.bytes.length c4,.slice a5 r.names.length c5,.slice a6 r.tags.length c6,.slice a7 r.kids.length c7] 63):=⟨_,rfl⟩
 have hb2:=zb1 hw2
 have HC:=kq (zk1 hw2)
 have HD:=kq (hD.below hb2)
 have HZ:=kq (hZ.below hb2)
 have HR7:=kq (r7.below hb2)
 have HRD:=kq ((hrd.below hB).below hb2)
 have HB:=kq (hB.trans (hb2.mono hB.size))
 have hne : w0.heap.size ≠ w.heap.size + 1:=by subst hw0; simp
 have HNE:=kq hne
 have HW:=kq hw0
 have HW2:=kq hw2
 have HKI:=kq hki
 have bx:=(hD 0 _ rfl).1
 have k0 : (0 : Int) ≤ (k : Int):=by omega
 have k1 : (k : Int) < (rs.length : Int):=by omega
 have y1:=(HC.out 1 _ rfl).1
 rw [hkd] at y1
 have y7:=(HC.out 7 _ rfl).1
 obtain ⟨kl,hkl⟩ : ∃ kl,kl = r.kids.length:=⟨_,rfl⟩
 have hkl2 : kl ≤ 8:=by have:=kindI_6 hki hkd; omega
 rw [← hkl] at y7 hdef
 clear hkl
 have HDEF:=kq hdef
 rw [hdef]
 simp only []
 have HKD:=kq hkd
 clear hB hD hZ hb2 hrd r4 r5 r6 r7 hw0 hw2 hne hki hr hdef hkd
 go_enter Tryz.func103,Tryz.ntmps103
 go_upto_region 1 with fail
 rw [← HW.out]
 go_upto_region 2 with fail
 rw [← HW2.out]
 clear bx d0 d1 d2 d3 d4 d5 d6 d7
 have bx:=(HD.out 0 _ rfl).1
 obtain ⟨z0,t0⟩:=HZ.out 0 _ rfl
 obtain ⟨z1,t1⟩:=HZ.out 1 _ rfl
 obtain ⟨z2,t2⟩:=HZ.out 2 _ rfl
 obtain ⟨z3,t3⟩:=HZ.out 3 _ rfl
 obtain ⟨z4,t4⟩:=HZ.out 4 _ rfl
 go_wp2
 (try simp only [Exit.inBlock,Exit.then])
 refine bodyPost_ret (v:=.agg #[.int .i64 0,.int .i64 0,.int .i64 0,.int .i64 (kl : Int),.int .i64 (kl : Int)]) ?_ rfl ?_
 ·simp [results,Tryz.results103,go_sem,z0,z1,z2,z3,z4]
 ·exact ⟨rfl,(((((HB.out.setCell (p:=⟨w.heap.size + 1,_,none⟩) (by simp) _).setCell (p:=⟨w.heap.size + 1,_,none⟩) (by simp) _).setCell (p:=⟨w.heap.size + 1,_,none⟩) (by simp) _).setCell (p:=⟨w.heap.size + 1,_,none⟩) (by simp) _).setCell (p:=⟨w.heap.size + 1,_,none⟩) (by simp) _)⟩
theorem bnd_7 (a : Option Addr) (rs : List RuleV) (cap k : Nat) (r : RuleV) (w : World) (hl : rs.length ≤ 1048576) (hk : k < rs.length) (hr : r = rs[k]) (hki : kindI rs r = true) (hrd : RdR a rs w) (hkd : r.kind = 7) :
  Calls Tryz.prog 103 #[.agg #[.slice a rs.length cap],.int .i64 (k : Int)] w fun e w' => e = .returned (.agg #[.int .i64 (bndV rs r).num,.int .i64 (bndV rs r).b0,.int .i64 (bndV rs r).b1,.int .i64 (bndV rs r).i0,.int .i64 (bndV rs r).i1]) ∧ Below w.heap.size w w':=by
 have hdef : bndV rs r = ⟨limitAt rs (r.kids.getD 0 0),0,0,1,1⟩:=by unfold bndV; simp [hkd]
 obtain ⟨w0,hw0⟩ : ∃ w0,w0 = (w.alloc (.cells #[.slice a rs.length cap] 26)).alloc (.cells #[.int .i64 0,.int .i64 0,.int .i64 0,.int .i64 0,.int .i64 0] 135):=⟨_,rfl⟩
 have hB:=zb2 hw0
 have hD:=zk2 hw0
 have hZ:=zk3 hw0
 obtain ⟨b0,off,a4,c4,a5,c5,a6,c6,a7,c7,rfl,⟨d0,d1,d2,d3,d4,d5,d6,d7⟩,r4,r5,r6,r7⟩:=(hrd.below hB).at k hk
 rw [← hr] at d0 d1 d2 d3 d4 d5 d6 d7 r4 r5 r6 r7
 obtain ⟨w2,hw2⟩ : ∃ w2,w2 = w0.alloc (.cells #[.string r.name,.int .i64 r.kind,.int .i64 r.size,.bool r.little,.slice a4 r.bytes.length c4,.slice a5 r.names.length c5,.slice a6 r.tags.length c6,.slice a7 r.kids.length c7] 63):=⟨_,rfl⟩
 have hb2:=zb1 hw2
 have HC:=kq (zk1 hw2)
 have HD:=kq (hD.below hb2)
 have HZ:=kq (hZ.below hb2)
 have HR7:=kq (r7.below hb2)
 have HRD:=kq ((hrd.below hB).below hb2)
 have HB:=kq (hB.trans (hb2.mono hB.size))
 have hne : w0.heap.size ≠ w.heap.size + 1:=by subst hw0; simp
 have HNE:=kq hne
 have HW:=kq hw0
 have HW2:=kq hw2
 have HKI:=kq hki
 have bx:=(hD 0 _ rfl).1
 have k0 : (0 : Int) ≤ (k : Int):=by omega
 have k1 : (k : Int) < (rs.length : Int):=by omega
 have y1:=(HC.out 1 _ rfl).1
 rw [hkd] at y1
 have h0 : 0 < r.kids.length:=by have:=kindI_7 hki hkd; omega
 have g0 : (0 : Int) < (r.kids.length : Int):=by omega
 obtain ⟨b7,o7,ha7,hc7⟩:=HR7.out.cellAt (j:=0) h0
 subst ha7
 simp only [Nat.add_zero] at hc7
 rw [getD_at h0] at hdef
 generalize r.kids[0] = kk at hc7 hdef
 have y7:=(HC.out 7 _ rfl).1
 obtain ⟨M,hM⟩ : ∃ M,M = limitAt rs kk:=⟨_,rfl⟩
 rw [← hM] at hdef
 have HL:=kq hM
 clear hM
 have HDEF:=kq hdef
 rw [hdef]
 simp only []
 have HKD:=kq hkd
 clear hB hD hZ hb2 hrd r4 r5 r6 r7 hw0 hw2 hne hki hr hdef hkd
 go_enter Tryz.func103,Tryz.ntmps103
 go_upto_region 1 with fail
 rw [← HW.out]
 go_upto_region 2 with fail
 rw [← HW2.out]
 clear bx d0 d1 d2 d3 d4 d5 d6 d7
 have bx:=(HD.out 0 _ rfl).1
 go_upto_region 16 with fail
 have HSW : Hid (∀ W,Below w2.heap.size w2 W → W.cell? ⟨w.heap.size,0,none⟩ = some (.slice (some ⟨b0,off,none⟩) rs.length cap) ∧ W.cell? ⟨w0.heap.size,7,none⟩ = some (.slice (some ⟨b7,o7,none⟩) r.kids.length c7) ∧ W.cell? ⟨b7,o7,none⟩ = some (.int .i64 kk)):=fun W hW => ⟨(HD.out.below hW 0 _ rfl).1,(HC.out.below hW 7 _ rfl).1,cell_keep hW hc7⟩
 go_region_with (first | (go_at_call 152; refine (limit_impl (some ⟨b0,off,none⟩) rs cap kk _ (by omega) (HRD.out.below (below_drewN (Below.refl _ w2) 1))).mono ?_; rintro e w3 ⟨rfl,hb3⟩; rw [← HL.out]; replace hb3:=kq ((below_drewN (Below.refl _ w2) 1).trans hb3); obtain ⟨z0,t0⟩:=HZ.out.below hb3.out 0 _ rfl; obtain ⟨z1,t1⟩:=HZ.out.below hb3.out 1 _ rfl; obtain ⟨z2,t2⟩:=HZ.out.below hb3.out 2 _ rfl; obtain ⟨z3,t3⟩:=HZ.out.below hb3.out 3 _ rfl; obtain ⟨z4,t4⟩:=HZ.out.below hb3.out 4 _ rfl; have HB5:=kq (HB.out.trans (hb3.out.mono HB.out.size)); clear hb3))
 all_goals (
  go_wp2
  (try simp only [Exit.inBlock,Exit.then])
  refine bodyPost_ret (v:=.agg #[.int .i64 M,.int .i64 0,.int .i64 0,.int .i64 1,.int .i64 1]) ?_ rfl ?_
  ·simp [results,Tryz.results103,go_sem,z0,z1,z2,z3,z4]
  ·exact ⟨rfl,(((((HB5.out.setCell (p:=⟨w.heap.size + 1,_,none⟩) (by simp) _).setCell (p:=⟨w.heap.size + 1,_,none⟩) (by simp) _).setCell (p:=⟨w.heap.size + 1,_,none⟩) (by simp) _).setCell (p:=⟨w.heap.size + 1,_,none⟩) (by simp) _).setCell (p:=⟨w.heap.size + 1,_,none⟩) (by simp) _)⟩)
theorem bnd_8 (a : Option Addr) (rs : List RuleV) (cap k : Nat) (r : RuleV) (w : World) (_hl : rs.length ≤ 1048576) (hk : k < rs.length) (hr : r = rs[k]) (hki : kindI rs r = true) (hrd : RdR a rs w) (hkd : r.kind = 8) :
  Calls Tryz.prog 103 #[.agg #[.slice a rs.length cap],.int .i64 (k : Int)] w fun e w' => e = .returned (.agg #[.int .i64 (bndV rs r).num,.int .i64 (bndV rs r).b0,.int .i64 (bndV rs r).b1,.int .i64 (bndV rs r).i0,.int .i64 (bndV rs r).i1]) ∧ Below w.heap.size w w':=by
 have hdef : bndV rs r = ⟨0,0,0,0,1⟩:=by unfold bndV; simp [hkd]
 obtain ⟨w0,hw0⟩ : ∃ w0,w0 = (w.alloc (.cells #[.slice a rs.length cap] 26)).alloc (.cells #[.int .i64 0,.int .i64 0,.int .i64 0,.int .i64 0,.int .i64 0] 135):=⟨_,rfl⟩
 have hB:=zb2 hw0
 have hD:=zk2 hw0
 have hZ:=zk3 hw0
 obtain ⟨b0,off,a4,c4,a5,c5,a6,c6,a7,c7,rfl,⟨d0,d1,d2,d3,d4,d5,d6,d7⟩,r4,r5,r6,r7⟩:=(hrd.below hB).at k hk
 rw [← hr] at d0 d1 d2 d3 d4 d5 d6 d7 r4 r5 r6 r7
 obtain ⟨w2,hw2⟩ : ∃ w2,w2 = w0.alloc (.cells #[.string r.name,.int .i64 r.kind,.int .i64 r.size,.bool r.little,.slice a4 r.bytes.length c4,.slice a5 r.names.length c5,.slice a6 r.tags.length c6,.slice a7 r.kids.length c7] 63):=⟨_,rfl⟩
 have hb2:=zb1 hw2
 have HC:=kq (zk1 hw2)
 have HD:=kq (hD.below hb2)
 have HZ:=kq (hZ.below hb2)
 have HR7:=kq (r7.below hb2)
 have HRD:=kq ((hrd.below hB).below hb2)
 have HB:=kq (hB.trans (hb2.mono hB.size))
 have hne : w0.heap.size ≠ w.heap.size + 1:=by subst hw0; simp
 have HNE:=kq hne
 have HW:=kq hw0
 have HW2:=kq hw2
 have HKI:=kq hki
 have bx:=(hD 0 _ rfl).1
 have k0 : (0 : Int) ≤ (k : Int):=by omega
 have k1 : (k : Int) < (rs.length : Int):=by omega
 have y1:=(HC.out 1 _ rfl).1
 rw [hkd] at y1
 have HDEF:=kq hdef
 rw [hdef]
 simp only []
 have HKD:=kq hkd
 clear hB hD hZ hb2 hrd r4 r5 r6 r7 hw0 hw2 hne hki hr hdef hkd
 go_enter Tryz.func103,Tryz.ntmps103
 go_upto_region 1 with fail
 rw [← HW.out]
 go_upto_region 2 with fail
 rw [← HW2.out]
 clear bx d0 d1 d2 d3 d4 d5 d6 d7
 have bx:=(HD.out 0 _ rfl).1
 obtain ⟨z0,t0⟩:=HZ.out 0 _ rfl
 obtain ⟨z1,t1⟩:=HZ.out 1 _ rfl
 obtain ⟨z2,t2⟩:=HZ.out 2 _ rfl
 obtain ⟨z3,t3⟩:=HZ.out 3 _ rfl
 obtain ⟨z4,t4⟩:=HZ.out 4 _ rfl
 go_wp2
 (try simp only [Exit.inBlock,Exit.then])
 refine bodyPost_ret (v:=.agg #[.int .i64 0,.int .i64 0,.int .i64 0,.int .i64 0,.int .i64 1]) ?_ rfl ?_
 ·simp [results,Tryz.results103,go_sem,z0,z1,z2,z3,z4]
 ·exact ⟨rfl,(((((HB.out.setCell (p:=⟨w.heap.size + 1,_,none⟩) (by simp) _).setCell (p:=⟨w.heap.size + 1,_,none⟩) (by simp) _).setCell (p:=⟨w.heap.size + 1,_,none⟩) (by simp) _).setCell (p:=⟨w.heap.size + 1,_,none⟩) (by simp) _).setCell (p:=⟨w.heap.size + 1,_,none⟩) (by simp) _)⟩
theorem bnd_9 (a : Option Addr) (rs : List RuleV) (cap k : Nat) (r : RuleV) (w : World) (_hl : rs.length ≤ 1048576) (hk : k < rs.length) (hr : r = rs[k]) (hki : kindI rs r = true) (hrd : RdR a rs w) (hkd : r.kind = 9) :
  Calls Tryz.prog 103 #[.agg #[.slice a rs.length cap],.int .i64 (k : Int)] w fun e w' => e = .returned (.agg #[.int .i64 (bndV rs r).num,.int .i64 (bndV rs r).b0,.int .i64 (bndV rs r).b1,.int .i64 (bndV rs r).i0,.int .i64 (bndV rs r).i1]) ∧ Below w.heap.size w w':=by
 have hdef : bndV rs r = ⟨0,0,0,1,1⟩:=by unfold bndV; simp [hkd]
 obtain ⟨w0,hw0⟩ : ∃ w0,w0 = (w.alloc (.cells #[.slice a rs.length cap] 26)).alloc (.cells #[.int .i64 0,.int .i64 0,.int .i64 0,.int .i64 0,.int .i64 0] 135):=⟨_,rfl⟩
 have hB:=zb2 hw0
 have hD:=zk2 hw0
 have hZ:=zk3 hw0
 obtain ⟨b0,off,a4,c4,a5,c5,a6,c6,a7,c7,rfl,⟨d0,d1,d2,d3,d4,d5,d6,d7⟩,r4,r5,r6,r7⟩:=(hrd.below hB).at k hk
 rw [← hr] at d0 d1 d2 d3 d4 d5 d6 d7 r4 r5 r6 r7
 obtain ⟨w2,hw2⟩ : ∃ w2,w2 = w0.alloc (.cells #[.string r.name,.int .i64 r.kind,.int .i64 r.size,.bool r.little,.slice a4 r.bytes.length c4,.slice a5 r.names.length c5,.slice a6 r.tags.length c6,.slice a7 r.kids.length c7] 63):=⟨_,rfl⟩
 have hb2:=zb1 hw2
 have HC:=kq (zk1 hw2)
 have HD:=kq (hD.below hb2)
 have HZ:=kq (hZ.below hb2)
 have HR7:=kq (r7.below hb2)
 have HRD:=kq ((hrd.below hB).below hb2)
 have HB:=kq (hB.trans (hb2.mono hB.size))
 have hne : w0.heap.size ≠ w.heap.size + 1:=by subst hw0; simp
 have HNE:=kq hne
 have HW:=kq hw0
 have HW2:=kq hw2
 have HKI:=kq hki
 have bx:=(hD 0 _ rfl).1
 have k0 : (0 : Int) ≤ (k : Int):=by omega
 have k1 : (k : Int) < (rs.length : Int):=by omega
 have y1:=(HC.out 1 _ rfl).1
 rw [hkd] at y1
 have HDEF:=kq hdef
 rw [hdef]
 simp only []
 have HKD:=kq hkd
 clear hB hD hZ hb2 hrd r4 r5 r6 r7 hw0 hw2 hne hki hr hdef hkd
 go_enter Tryz.func103,Tryz.ntmps103
 go_upto_region 1 with fail
 rw [← HW.out]
 go_upto_region 2 with fail
 rw [← HW2.out]
 clear bx d0 d1 d2 d3 d4 d5 d6 d7
 have bx:=(HD.out 0 _ rfl).1
 obtain ⟨z0,t0⟩:=HZ.out 0 _ rfl
 obtain ⟨z1,t1⟩:=HZ.out 1 _ rfl
 obtain ⟨z2,t2⟩:=HZ.out 2 _ rfl
 obtain ⟨z3,t3⟩:=HZ.out 3 _ rfl
 obtain ⟨z4,t4⟩:=HZ.out 4 _ rfl
 go_wp2
 (try simp only [Exit.inBlock,Exit.then])
 refine bodyPost_ret (v:=.agg #[.int .i64 0,.int .i64 0,.int .i64 0,.int .i64 1,.int .i64 1]) ?_ rfl ?_
 ·simp [results,Tryz.results103,go_sem,z0,z1,z2,z3,z4]
 ·exact ⟨rfl,(((((HB.out.setCell (p:=⟨w.heap.size + 1,_,none⟩) (by simp) _).setCell (p:=⟨w.heap.size + 1,_,none⟩) (by simp) _).setCell (p:=⟨w.heap.size + 1,_,none⟩) (by simp) _).setCell (p:=⟨w.heap.size + 1,_,none⟩) (by simp) _).setCell (p:=⟨w.heap.size + 1,_,none⟩) (by simp) _)⟩
theorem bnd_10 (a : Option Addr) (rs : List RuleV) (cap k : Nat) (r : RuleV) (w : World) (_hl : rs.length ≤ 1048576) (hk : k < rs.length) (hr : r = rs[k]) (hki : kindI rs r = true) (hrd : RdR a rs w) (hkd : r.kind = 10) :
  Calls Tryz.prog 103 #[.agg #[.slice a rs.length cap],.int .i64 (k : Int)] w fun e w' => e = .returned (.agg #[.int .i64 (bndV rs r).num,.int .i64 (bndV rs r).b0,.int .i64 (bndV rs r).b1,.int .i64 (bndV rs r).i0,.int .i64 (bndV rs r).i1]) ∧ Below w.heap.size w w':=by
 have hdef : bndV rs r = ⟨0,0,400,0,0⟩:=by unfold bndV; simp [hkd]
 obtain ⟨w0,hw0⟩ : ∃ w0,w0 = (w.alloc (.cells #[.slice a rs.length cap] 26)).alloc (.cells #[.int .i64 0,.int .i64 0,.int .i64 0,.int .i64 0,.int .i64 0] 135):=⟨_,rfl⟩
 have hB:=zb2 hw0
 have hD:=zk2 hw0
 have hZ:=zk3 hw0
 obtain ⟨b0,off,a4,c4,a5,c5,a6,c6,a7,c7,rfl,⟨d0,d1,d2,d3,d4,d5,d6,d7⟩,r4,r5,r6,r7⟩:=(hrd.below hB).at k hk
 rw [← hr] at d0 d1 d2 d3 d4 d5 d6 d7 r4 r5 r6 r7
 obtain ⟨w2,hw2⟩ : ∃ w2,w2 = w0.alloc (.cells #[.string r.name,.int .i64 r.kind,.int .i64 r.size,.bool r.little,.slice a4 r.bytes.length c4,.slice a5 r.names.length c5,.slice a6 r.tags.length c6,.slice a7 r.kids.length c7] 63):=⟨_,rfl⟩
 have hb2:=zb1 hw2
 have HC:=kq (zk1 hw2)
 have HD:=kq (hD.below hb2)
 have HZ:=kq (hZ.below hb2)
 have HR7:=kq (r7.below hb2)
 have HRD:=kq ((hrd.below hB).below hb2)
 have HB:=kq (hB.trans (hb2.mono hB.size))
 have hne : w0.heap.size ≠ w.heap.size + 1:=by subst hw0; simp
 have HNE:=kq hne
 have HW:=kq hw0
 have HW2:=kq hw2
 have HKI:=kq hki
 have bx:=(hD 0 _ rfl).1
 have k0 : (0 : Int) ≤ (k : Int):=by omega
 have k1 : (k : Int) < (rs.length : Int):=by omega
 have y1:=(HC.out 1 _ rfl).1
 rw [hkd] at y1
 have HDEF:=kq hdef
 rw [hdef]
 simp only []
 have HKD:=kq hkd
 clear hB hD hZ hb2 hrd r4 r5 r6 r7 hw0 hw2 hne hki hr hdef hkd
 go_enter Tryz.func103,Tryz.ntmps103
 go_upto_region 1 with fail
 rw [← HW.out]
 go_upto_region 2 with fail
 rw [← HW2.out]
 clear bx d0 d1 d2 d3 d4 d5 d6 d7
 have bx:=(HD.out 0 _ rfl).1
 obtain ⟨z0,t0⟩:=HZ.out 0 _ rfl
 obtain ⟨z1,t1⟩:=HZ.out 1 _ rfl
 obtain ⟨z2,t2⟩:=HZ.out 2 _ rfl
 obtain ⟨z3,t3⟩:=HZ.out 3 _ rfl
 obtain ⟨z4,t4⟩:=HZ.out 4 _ rfl
 go_wp2
 (try simp only [Exit.inBlock,Exit.then])
 refine bodyPost_ret (v:=.agg #[.int .i64 0,.int .i64 0,.int .i64 400,.int .i64 0,.int .i64 0]) ?_ rfl ?_
 ·simp [results,Tryz.results103,go_sem,z0,z1,z2,z3,z4]
 ·exact ⟨rfl,(((((HB.out.setCell (p:=⟨w.heap.size + 1,_,none⟩) (by simp) _).setCell (p:=⟨w.heap.size + 1,_,none⟩) (by simp) _).setCell (p:=⟨w.heap.size + 1,_,none⟩) (by simp) _).setCell (p:=⟨w.heap.size + 1,_,none⟩) (by simp) _).setCell (p:=⟨w.heap.size + 1,_,none⟩) (by simp) _)⟩
theorem bnd_impl (a : Option Addr) (rs : List RuleV) (cap k : Nat) (r : RuleV) (w : World) (hl : rs.length ≤ 1048576) (hk : k < rs.length) (hr : r = rs[k]) (hki : kindI rs r = true) (hrd : RdR a rs w) :
  Calls Tryz.prog 103 #[.agg #[.slice a rs.length cap],.int .i64 (k : Int)] w fun e w' => e = .returned (.agg #[.int .i64 (bndV rs r).num,.int .i64 (bndV rs r).b0,.int .i64 (bndV rs r).b1,.int .i64 (bndV rs r).i0,.int .i64 (bndV rs r).i1]) ∧ Below w.heap.size w w':=by
 have hkn:=kindI_known hki
 rcases (by omega : r.kind = 1 ∨ r.kind = 2 ∨ r.kind = 3 ∨ r.kind = 4 ∨ r.kind = 5 ∨ r.kind = 6 ∨ r.kind = 7 ∨ r.kind = 8 ∨ r.kind = 9 ∨ r.kind = 10) with e | e | e | e | e | e | e | e | e | e
 ·exact bnd_1 a rs cap k r w hl hk hr hki hrd e
 ·exact bnd_2 a rs cap k r w hl hk hr hki hrd e
 ·exact bnd_3 a rs cap k r w hl hk hr hki hrd e
 ·exact bnd_4 a rs cap k r w hl hk hr hki hrd e
 ·exact bnd_5 a rs cap k r w hl hk hr hki hrd e
 ·exact bnd_6 a rs cap k r w hl hk hr hki hrd e
 ·exact bnd_7 a rs cap k r w hl hk hr hki hrd e
 ·exact bnd_8 a rs cap k r w hl hk hr hki hrd e
 ·exact bnd_9 a rs cap k r w hl hk hr hki hrd e
 ·exact bnd_10 a rs cap k r w hl hk hr hki hrd e
def zeroVal : List Value:=[.int .i64 0,.slice none 0 0,.slice none 0 0]
theorem make_vals (n : Nat) (hn : n ≤ 1073741824) (W : World) : (Instr.makeSlice 46 (.int .i64 (n : Int)) (.int .i64 (n : Int))).run Tryz.prog W = .ok (.slice (some ⟨W.heap.size,0,none⟩) n n) (W.alloc (.cells (madeCells #[.int .i64 0,.slice none 0 0,.slice none 0 0] (n * 3)) 48)):=by
 obtain ⟨i0,hi,h⟩:=Option.map_eq_some_iff.1 infoVal
 simp only [Prod.mk.injEq] at h
 obtain ⟨hz0,hz1,hz2⟩:=h
 have hr:=run_make (P:=Tryz.prog) W 46 48 i0 _ Tryz.underlying46 hi hz0 .i64 .i64 (n : Int) (n : Int) (by omega) (by omega) (by rw [hz2]; omega) (by omega)
 rw [hr,hz1]
 simp [Value.cells]
theorem fit_impl (B : BndV) (v : ValueV) (b o : Nat) (ab : Option Addr) (cb : Nat) (ai : Option Addr) (ci : Nat) (w : World) (x0 : w.cell? ⟨b,o,none⟩ = some (.int .i64 v.number)) (x1 : w.cell? ⟨b,o + 1,none⟩ = some (.slice ab v.bytes.length cb)) (x2 : w.cell? ⟨b,o + 2,none⟩ = some (.slice ai v.items.length ci)) :
  Calls Tryz.prog 102 #[.pointer (some ⟨b,o,none⟩),.agg #[.int .i64 B.num,.int .i64 B.b0,.int .i64 B.b1,.int .i64 B.i0,.int .i64 B.i1]] w fun e w' => e = .returned (.bool (fitB B v)) ∧ Below w.heap.size w w':=by
 obtain ⟨n0,n1,n2,n3,n4⟩:=B
 simp only []
 have hdef : fitB ⟨n0,n1,n2,n3,n4⟩ v = (decide (0 ≤ v.number ∧ v.number ≤ n0) && (decide (n1 ≤ (v.bytes.length : Int) ∧ (v.bytes.length : Int) ≤ n2) && decide (n3 ≤ (v.items.length : Int) ∧ (v.items.length : Int) ≤ n4))):=rfl
 obtain ⟨x,hx⟩ : ∃ x,x = v.number:=⟨_,rfl⟩
 obtain ⟨bl,hbl⟩ : ∃ bl,bl = v.bytes.length:=⟨_,rfl⟩
 obtain ⟨il,hil⟩ : ∃ il,il = v.items.length:=⟨_,rfl⟩
 rw [← hx] at x0 hdef
 rw [← hbl] at x1 hdef
 rw [← hil] at x2 hdef
 obtain ⟨c0,h0⟩ : ∃ c,c = decide (0 ≤ x ∧ x ≤ n0):=⟨_,rfl⟩
 obtain ⟨c1,h1⟩ : ∃ c,c = decide (n1 ≤ (bl : Int) ∧ (bl : Int) ≤ n2):=⟨_,rfl⟩
 obtain ⟨c2,h2⟩ : ∃ c,c = decide (n3 ≤ (il : Int) ∧ (il : Int) ≤ n4):=⟨_,rfl⟩
 rw [← h0,← h1,← h2] at hdef
 have HDEF:=kq hdef
 have H0:=kq h0.symm
 have H1:=kq h1.symm
 have H2:=kq h2.symm
 obtain ⟨w0,hw0⟩ : ∃ w0,w0 = w.alloc (.cells #[.int .i64 n0,.int .i64 n1,.int .i64 n2,.int .i64 n3,.int .i64 n4] 135):=⟨_,rfl⟩
 have hB:=zb1 hw0
 have hD:=zk1 hw0
 have HS : Hid ((w0.drewN 1).cell? ⟨b,o,none⟩ = some (.int .i64 x) ∧ (w0.drewN 1).cell? ⟨b,o + 1,none⟩ = some (.slice ab bl cb) ∧ (w0.drewN 1).cell? ⟨b,o + 2,none⟩ = some (.slice ai il ci) ∧ (w0.drewN 1).cell? ⟨w.heap.size,0,none⟩ = some (.int .i64 n0) ∧ (w0.drewN 1).cell? ⟨w.heap.size,1,none⟩ = some (.int .i64 n1) ∧ (w0.drewN 1).cell? ⟨w.heap.size,2,none⟩ = some (.int .i64 n2) ∧ (w0.drewN 1).cell? ⟨w.heap.size,3,none⟩ = some (.int .i64 n3) ∧ (w0.drewN 1).cell? ⟨w.heap.size,4,none⟩ = some (.int .i64 n4)):=⟨cell_keepV (below_drewN hB 1) x0,cell_keepV (below_drewN hB 1) x1,cell_keepV (below_drewN hB 1) x2,(hD.below (below_drewN (Below.refl _ _) 1) 0 _ rfl).1,(hD.below (below_drewN (Below.refl _ _) 1) 1 _ rfl).1,(hD.below (below_drewN (Below.refl _ _) 1) 2 _ rfl).1,(hD.below (below_drewN (Below.refl _ _) 1) 3 _ rfl).1,(hD.below (below_drewN (Below.refl _ _) 1) 4 _ rfl).1⟩
 have HBW : Hid (Below w.heap.size w w0.drew):=below_drewN hB 1
 have HW:=kq hw0
 clear hdef hx hbl hil h0 h1 h2 hB hD hw0 x0 x1 x2
 cases c0 with
 | false =>
  have hr : Hid (fitB ⟨n0,n1,n2,n3,n4⟩ v = false):=by show _ = _; rw [HDEF.out]; first | rfl | simp
  go_enter Tryz.func102,Tryz.ntmps102
  go_upto_region 1 with fail
  rw [← HW.out]
  clear HW
  refine wp_region_held_drew (S:=(fun W => W.cell? ⟨b,o,none⟩ = some (.int .i64 x) ∧ W.cell? ⟨b,o + 1,none⟩ = some (.slice ab bl cb) ∧ W.cell? ⟨b,o + 2,none⟩ = some (.slice ai il ci) ∧ W.cell? ⟨w.heap.size,0,none⟩ = some (.int .i64 n0) ∧ W.cell? ⟨w.heap.size,1,none⟩ = some (.int .i64 n1) ∧ W.cell? ⟨w.heap.size,2,none⟩ = some (.int .i64 n2) ∧ W.cell? ⟨w.heap.size,3,none⟩ = some (.int .i64 n3) ∧ W.cell? ⟨w.heap.size,4,none⟩ = some (.int .i64 n4))) (by kernel_rfl) ?_ (fun hHeld => ?_)
  ·(try dsimp only); exact HS.out
  refine tq 0 (h:=?_)
  refine tq 1 (h:=?_)
  refine tq 2 (h:=?_)
  refine tq 3 (h:=?_)
  refine tq 4 (h:=?_)
  refine tq 5 (h:=?_)
  refine wpAnyH_ready (rs:=[6]) (by kernel_rfl) (by simp) ?_
  refine ac (h:=fun K hK => ?_)
  go_simp
  (go_at_call 123; refine (inI_any _ _ _ false _ H0.out).mono ?_; rintro e wx ⟨rfl,rfl⟩)
  go_wp2_with fail
  refine hK.out _ _ ?_ (fun hHeld => ?_)
  ·(try dsimp only); exact HS.out
  clear hK K
  refine tq 7 (h:=?_)
  refine tq 8 (v:=undef) (hy:=Or.inr ⟨by rfl,rfl⟩) (h:=?_)
  refine tq 9 (v:=undef) (hy:=Or.inr ⟨by rfl,rfl⟩) (h:=?_)
  refine tq 10 (v:=undef) (hy:=Or.inr ⟨by rfl,rfl⟩) (h:=?_)
  refine tq 11 (v:=undef) (hy:=Or.inr ⟨by rfl,rfl⟩) (h:=?_)
  refine tq 12 (v:=undef) (hy:=Or.inr ⟨by rfl,rfl⟩) (h:=?_)
  refine tq 13 (v:=undef) (hy:=Or.inr ⟨by rfl,rfl⟩) (h:=?_)
  refine tq 14 (v:=undef) (hy:=Or.inr ⟨by rfl,rfl⟩) (h:=?_)
  refine tq 15 (v:=undef) (hy:=Or.inr ⟨by rfl,rfl⟩) (h:=?_)
  refine tq 16 (v:=undef) (hy:=Or.inr ⟨by rfl,rfl⟩) (h:=?_)
  refine tq 17 (v:=undef) (hy:=Or.inr ⟨by rfl,rfl⟩) (h:=?_)
  refine tq 18 (h:=?_)
  refine tq 19 (h:=?_)
  refine tq 20 (v:=undef) (hy:=Or.inr ⟨by rfl,rfl⟩) (h:=?_)
  refine tq 21 (v:=undef) (hy:=Or.inr ⟨by rfl,rfl⟩) (h:=?_)
  refine tq 22 (v:=undef) (hy:=Or.inr ⟨by rfl,rfl⟩) (h:=?_)
  refine tq 23 (v:=undef) (hy:=Or.inr ⟨by rfl,rfl⟩) (h:=?_)
  refine tq 24 (v:=undef) (hy:=Or.inr ⟨by rfl,rfl⟩) (h:=?_)
  refine tq 25 (v:=undef) (hy:=Or.inr ⟨by rfl,rfl⟩) (h:=?_)
  refine tq 26 (v:=undef) (hy:=Or.inr ⟨by rfl,rfl⟩) (h:=?_)
  refine tq 27 (v:=undef) (hy:=Or.inr ⟨by rfl,rfl⟩) (h:=?_)
  refine tq 28 (v:=undef) (hy:=Or.inr ⟨by rfl,rfl⟩) (h:=?_)
  refine tq 29 (v:=undef) (hy:=Or.inr ⟨by rfl,rfl⟩) (h:=?_)
  refine tq 30 (h:=?_)
  refine tq 31 (h:=?_)
  refine wpAnyH_done (by kernel_rfl) ?_ _
  go_wp2
  go_ret
  exact ⟨ret_bool hr.out.symm,HBW.out⟩
 | true =>
  cases c1 with
  | false =>
   have hr : Hid (fitB ⟨n0,n1,n2,n3,n4⟩ v = false):=by show _ = _; rw [HDEF.out]; first | rfl | simp
   go_enter Tryz.func102,Tryz.ntmps102
   go_upto_region 1 with fail
   rw [← HW.out]
   clear HW
   refine wp_region_held_drew (S:=(fun W => W.cell? ⟨b,o,none⟩ = some (.int .i64 x) ∧ W.cell? ⟨b,o + 1,none⟩ = some (.slice ab bl cb) ∧ W.cell? ⟨b,o + 2,none⟩ = some (.slice ai il ci) ∧ W.cell? ⟨w.heap.size,0,none⟩ = some (.int .i64 n0) ∧ W.cell? ⟨w.heap.size,1,none⟩ = some (.int .i64 n1) ∧ W.cell? ⟨w.heap.size,2,none⟩ = some (.int .i64 n2) ∧ W.cell? ⟨w.heap.size,3,none⟩ = some (.int .i64 n3) ∧ W.cell? ⟨w.heap.size,4,none⟩ = some (.int .i64 n4))) (by kernel_rfl) ?_ (fun hHeld => ?_)
   ·(try dsimp only); exact HS.out
   refine tq 0 (h:=?_)
   refine tq 1 (h:=?_)
   refine tq 2 (h:=?_)
   refine tq 3 (h:=?_)
   refine tq 4 (h:=?_)
   refine tq 5 (h:=?_)
   refine wpAnyH_ready (rs:=[6]) (by kernel_rfl) (by simp) ?_
   refine ac (h:=fun K hK => ?_)
   go_simp
   (go_at_call 123; refine (inI_any _ _ _ true _ H0.out).mono ?_; rintro e wx ⟨rfl,rfl⟩)
   go_wp2_with fail
   refine hK.out _ _ ?_ (fun hHeld => ?_)
   ·(try dsimp only); exact HS.out
   clear hK K
   refine tq 7 (h:=?_)
   refine tq 8 (h:=?_)
   refine tq 9 (h:=?_)
   refine tq 10 (h:=?_)
   refine tq 11 (h:=?_)
   refine tq 12 (h:=?_)
   refine tq 13 (h:=?_)
   refine tq 14 (h:=?_)
   refine tq 15 (h:=?_)
   refine tq 16 (h:=?_)
   refine wpAnyH_ready (rs:=[17]) (by kernel_rfl) (by simp) ?_
   refine ac (h:=fun K hK => ?_)
   go_simp
   (go_at_call 123; refine (inI_any _ _ _ false _ H1.out).mono ?_; rintro e wx ⟨rfl,rfl⟩)
   go_wp2_with fail
   refine hK.out _ _ ?_ (fun hHeld => ?_)
   ·(try dsimp only); exact HS.out
   clear hK K
   refine tq 18 (h:=?_)
   refine tq 19 (h:=?_)
   refine tq 20 (v:=undef) (hy:=Or.inr ⟨by rfl,rfl⟩) (h:=?_)
   refine tq 21 (v:=undef) (hy:=Or.inr ⟨by rfl,rfl⟩) (h:=?_)
   refine tq 22 (v:=undef) (hy:=Or.inr ⟨by rfl,rfl⟩) (h:=?_)
   refine tq 23 (v:=undef) (hy:=Or.inr ⟨by rfl,rfl⟩) (h:=?_)
   refine tq 24 (v:=undef) (hy:=Or.inr ⟨by rfl,rfl⟩) (h:=?_)
   refine tq 25 (v:=undef) (hy:=Or.inr ⟨by rfl,rfl⟩) (h:=?_)
   refine tq 26 (v:=undef) (hy:=Or.inr ⟨by rfl,rfl⟩) (h:=?_)
   refine tq 27 (v:=undef) (hy:=Or.inr ⟨by rfl,rfl⟩) (h:=?_)
   refine tq 28 (v:=undef) (hy:=Or.inr ⟨by rfl,rfl⟩) (h:=?_)
   refine tq 29 (v:=undef) (hy:=Or.inr ⟨by rfl,rfl⟩) (h:=?_)
   refine tq 30 (h:=?_)
   refine tq 31 (h:=?_)
   refine wpAnyH_done (by kernel_rfl) ?_ _
   go_wp2
   go_ret
   exact ⟨ret_bool hr.out.symm,HBW.out⟩
  | true =>
   have hr : Hid (fitB ⟨n0,n1,n2,n3,n4⟩ v = c2):=by show _ = _; rw [HDEF.out]; first | rfl | simp
   go_enter Tryz.func102,Tryz.ntmps102
   go_upto_region 1 with fail
   rw [← HW.out]
   clear HW
   refine wp_region_held_drew (S:=(fun W => W.cell? ⟨b,o,none⟩ = some (.int .i64 x) ∧ W.cell? ⟨b,o + 1,none⟩ = some (.slice ab bl cb) ∧ W.cell? ⟨b,o + 2,none⟩ = some (.slice ai il ci) ∧ W.cell? ⟨w.heap.size,0,none⟩ = some (.int .i64 n0) ∧ W.cell? ⟨w.heap.size,1,none⟩ = some (.int .i64 n1) ∧ W.cell? ⟨w.heap.size,2,none⟩ = some (.int .i64 n2) ∧ W.cell? ⟨w.heap.size,3,none⟩ = some (.int .i64 n3) ∧ W.cell? ⟨w.heap.size,4,none⟩ = some (.int .i64 n4))) (by kernel_rfl) ?_ (fun hHeld => ?_)
   ·(try dsimp only); exact HS.out
   refine tq 0 (h:=?_)
   refine tq 1 (h:=?_)
   refine tq 2 (h:=?_)
   refine tq 3 (h:=?_)
   refine tq 4 (h:=?_)
   refine tq 5 (h:=?_)
   refine wpAnyH_ready (rs:=[6]) (by kernel_rfl) (by simp) ?_
   refine ac (h:=fun K hK => ?_)
   go_simp
   (go_at_call 123; refine (inI_any _ _ _ true _ H0.out).mono ?_; rintro e wx ⟨rfl,rfl⟩)
   go_wp2_with fail
   refine hK.out _ _ ?_ (fun hHeld => ?_)
   ·(try dsimp only); exact HS.out
   clear hK K
   refine tq 7 (h:=?_)
   refine tq 8 (h:=?_)
   refine tq 9 (h:=?_)
   refine tq 10 (h:=?_)
   refine tq 11 (h:=?_)
   refine tq 12 (h:=?_)
   refine tq 13 (h:=?_)
   refine tq 14 (h:=?_)
   refine tq 15 (h:=?_)
   refine tq 16 (h:=?_)
   refine wpAnyH_ready (rs:=[17]) (by kernel_rfl) (by simp) ?_
   refine ac (h:=fun K hK => ?_)
   go_simp
   (go_at_call 123; refine (inI_any _ _ _ true _ H1.out).mono ?_; rintro e wx ⟨rfl,rfl⟩)
   go_wp2_with fail
   refine hK.out _ _ ?_ (fun hHeld => ?_)
   ·(try dsimp only); exact HS.out
   clear hK K
   refine tq 18 (h:=?_)
   refine tq 19 (h:=?_)
   refine tq 20 (h:=?_)
   refine tq 21 (h:=?_)
   refine tq 22 (h:=?_)
   refine tq 23 (h:=?_)
   refine tq 24 (h:=?_)
   refine tq 25 (h:=?_)
   refine tq 26 (h:=?_)
   refine tq 27 (h:=?_)
   refine tq 28 (h:=?_)
   refine wpAnyH_ready (rs:=[29]) (by kernel_rfl) (by simp) ?_
   refine ac (h:=fun K hK => ?_)
   go_simp
   (go_at_call 123; refine (inI_any _ _ _ c2 _ H2.out).mono ?_; rintro e wx ⟨rfl,rfl⟩)
   go_wp2_with fail
   refine hK.out _ _ ?_ (fun hHeld => ?_)
   ·(try dsimp only); exact HS.out
   clear hK K
   refine tq 30 (h:=?_)
   refine tq 31 (h:=?_)
   refine wpAnyH_done (by kernel_rfl) ?_ _
   go_wp2
   go_ret
   exact ⟨ret_bool hr.out.symm,HBW.out⟩
end Go.Proofs.YtefkhknfjohnaaaGreatDoor
