/- Used rules, as plain functions. -/
import Derived.Test.YtfmnjclnhppghaaGreatEK
import Derived.Test.YtfmnjclnhppghaaGreatEQV
import Derived.Test.YtfmnjclnhppghaaGreatEGBase
import Derived.Test.YtfmnjclnhppghaaGreatEGKS
import Derived.Test.YtfmnjclnhppghaaGreatEGPu
import Derived.Test.YtfmnjclnhppghaaGreatEGVI
import Derived.Test.YtfmnjclnhppghaaGreatEGDI
set_option maxRecDepth 100000
namespace Go.Proofs.YtfmnjclnhppghaaGreat
open Go Go.RowKit
theorem kid_nat {ks : List Int} {j n : Nat} (h : ∀ k ∈ ks,0 ≤ k ∧ k < (n : Int)) (hj : j < ks.length) : ∃ m : Nat,ks[j] = (m : Int) ∧ m < n:=by
 have:=h _ (List.getElem_mem hj)
 exact ⟨ks[j].toNat,by omega,by omega⟩
theorem RdF.cellAt {α : Type} {f : α → Value} {a : Option Addr} {xs : List α} {w : World} (h : RdF f a xs w) {j : Nat} (hj : j < xs.length) : ∃ b off,a = some ⟨b,off,none⟩ ∧ w.cell? ⟨b,off + j,none⟩ = some (f xs[j]):=h j hj
theorem getD_at {ks : List Int} {j : Nat} (h : j < ks.length) : ks.getD j 0 = ks[j]:=by simp [List.getD,List.getElem?_eq_getElem h]
theorem kidLen {rs : List RuleV} (hall : allV (kindI rs) rs) {n : Nat} (hn : n < rs.length) {j : Nat} (hj : j < rs[n].kids.length) : ∃ m : Nat,rs[n].kids.getD j 0 = (m : Int) ∧ m < n:=by
 rw [getD_at hj]
 exact kid_nat (allV_kids hall hn) hj
theorem kid_int {rs : List RuleV} (hall : allV (kindI rs) rs) {n : Nat} (hn : n < rs.length) (hk : rs[n].kind = 4 ∨ rs[n].kind = 5 ∨ rs[n].kind = 7) : (ruleAt rs (rs[n].kids.getD 0 0)).kind = 1 ∧ ∃ m : Nat,rs[n].kids.getD 0 0 = (m : Int) ∧ m < n:=by
 have hki:=allV_kind hall hn
 have h1 : kindAtB rs (rs[n].kids.getD 0 0) = true ∧ 0 < rs[n].kids.length:=by
  rcases hk with hk | hk | hk
  ·have:=kindI_4 hki hk; exact ⟨this.2,by omega⟩
  ·have:=kindI_5 hki hk; exact ⟨this.2,by omega⟩
  ·have h7:=kindI_7 hki hk
   refine ⟨?_,by omega⟩
   have h8 : tagsB rs rs[n] = true:=by simp [kindI,meetsB,hk] at hki; exact hki.1
   unfold tagsB at h8
   rw [Bool.and_eq_true] at h8
   have h9 : 0 < rs[n].tags.length:=by omega
   have h10 : 0 ≤ limitAt rs (rs[n].kids.headD 0):=by
    have h11:=h8.2
    cases ht : rs[n].tags with
    | nil => rw [ht] at h9; simp at h9
    | cons t ts =>
     rw [ht] at h11
     unfold tagsOk at h11
     rw [Bool.and_eq_true] at h11
     have:=of_decide_eq_true h11.1
     omega
   have h12 : rs[n].kids.headD 0 = rs[n].kids.getD 0 0:=by cases rs[n].kids <;> rfl
   rw [h12] at h10
   unfold limitAt at h10
   unfold kindAtB
   split at h10
   ·rename_i hh
    rw [dif_pos hh]
    dsimp only at h10
    split at h10
    ·rename_i h13
     exact decide_eq_true h13.1
    ·omega
   ·omega
 obtain ⟨m,hm,hmn⟩:=kidLen hall hn h1.2
 refine ⟨?_,m,hm,hmn⟩
 have h2:=h1.1
 rw [hm] at h2 ⊢
 rw [ruleAt_at (by omega)]
 unfold kindAtB at h2
 rw [dif_pos (by omega)] at h2
 have h3:=of_decide_eq_true h2
 simpa using h3
theorem int_len {rs : List RuleV} (hall : allV (kindI rs) rs) {m : Nat} (hm : m < rs.length) (hk : rs[m].kind = 1) : sizeAt minStep rs (m : Int) = rs[m].size ∧ sizeAt (maxStep rs) rs (m : Int) = rs[m].size ∧ 1 ≤ rs[m].size ∧ rs[m].size ≤ 4:=by
 have h1:=kindI_size (allV_kind hall hm) hk
 rw [sizeAt_at hm,sizeAt_at hm]
 unfold minStep maxStep minOf maxOf
 rw [if_pos (by omega),if_pos (by omega)]
 omega
theorem sum_low {rs : List RuleV} {r : RuleV} {x : Int} {zs : List Int} (hk : r.kind = 6) : ∀ (l : List ValueV) (i : Nat),l.length + i = r.kids.length → (∀ q (h : q < l.length),tabAt zs (r.kids.getD (i + q) 0) ≤ (plen rs (itemR r x (i + q)) l[q] : Nat)) → sumT zs (r.kids.drop i) ≤ ((plens rs r x i l : Nat) : Int)
 | [],i,h,_ => by
  rw [List.drop_of_length_le (by simp at h; omega)]
  simp [sumT,plens]
 | v :: l,i,h,hl => by
  simp only [List.length_cons] at h
  rw [List.drop_eq_getElem_cons (by omega),sumT,plens]
  have h0:=hl 0 (by simp)
  have ih:=sum_low hk l (i + 1) (by omega) (fun q hq => by
   have:=hl (q + 1) (by simpa using hq)
   rw [show i + (q + 1) = i + 1 + q from by omega] at this
   simpa using this)
  simp only [Nat.add_zero,List.getElem_cons_zero] at h0
  rw [getD_at (ks:=r.kids) (j:=i) (by omega)] at h0
  push_cast
  omega
theorem leastT_le {t ks : List Int} : ∀ {m : Int},leastT t ks m ≤ m ∧ ∀ k ∈ ks,leastT t ks m ≤ tabAt t k:=by
 induction ks with
 | nil => intro m; exact ⟨Int.le_refl _,fun k h => by simp at h⟩
 | cons x ks ih =>
  intro m
  have h1:=ih (m:=min m (tabAt t x))
  unfold leastT
  refine ⟨by omega,fun k hk => ?_⟩
  rcases List.mem_cons.1 hk with rfl | hk
  ·omega
  ·exact h1.2 k hk
theorem items_of {rs : List RuleV} (hall : allV (kindI rs) rs) {n : Nat} (hn : n < rs.length) {v : ValueV} (hv : validV rs (n : Int) v = true) :
  ownB rs rs[n] v = true ∧ ∀ q (h : q < v.items.length),∃ m : Nat,itemR rs[n] v.number q = (m : Int) ∧ m < n ∧ validV rs (m : Int) v.items[q] = true:=by
 rw [validV_eq,ruleAt_at hn,Bool.and_eq_true] at hv
 refine ⟨hv.1,fun q hq => ?_⟩
 have h1:=item_kid (allV_kind hall hn) hv.1 hq
 have h2:=allV_kids hall hn _ h1
 have h3:=validL_at hv.2 q hq
 rw [Nat.zero_add] at h3
 obtain ⟨m,hm⟩ : ∃ m : Nat,itemR rs[n] v.number q = (m : Int):=⟨(itemR rs[n] v.number q).toNat,by omega⟩
 rw [hm] at h2 h3 ⊢
 exact ⟨m,rfl,by omega,h3⟩
theorem plen_low {rs : List RuleV} (hall : allV (kindI rs) rs) : ∀ (n : Nat) (_ : n < rs.length) (v : ValueV),validV rs (n : Int) v = true → sizeAt minStep rs (n : Int) ≤ ((plen rs (n : Int) v : Nat) : Int):=by
 intro n
 induction n using Nat.strongRecOn with
 | _ n ih =>
  intro hn v hv
  obtain ⟨hown,hit⟩:=items_of hall hn hv
  have hki:=allV_kind hall hn
  have hzb:=mins_b hall n (by omega)
  have hkn:=kindI_known hki
  have hlow : ∀ q (h : q < v.items.length),tabAt (tabTo minStep rs n) (itemR rs[n] v.number q) ≤ ((plen rs (itemR rs[n] v.number q) v.items[q] : Nat) : Int):=fun q hq => by
   obtain ⟨m,hm,hmn,hvm⟩:=hit q hq
   rw [hm,sizeAt_in (by omega) (by omega)]
   exact ih m hmn (by omega) _ hvm
  rw [sizeAt_at hn,plen_eq,ruleAt_at hn]
  obtain ⟨zs,hzs⟩ : ∃ zs,zs = tabTo minStep rs n:=⟨_,rfl⟩
  rw [← hzs] at hlow hzb ⊢
  have hmin : minStep zs rs[n] ≤ minOf zs rs[n]:=by unfold minStep; omega
  refine Int.le_trans hmin ?_
  have hint : rs[n].kind = 4 ∨ rs[n].kind = 5 ∨ rs[n].kind = 7 → tabAt zs (rs[n].kids.getD 0 0) = (ruleAt rs (rs[n].kids.getD 0 0)).size ∧ 0 ≤ (ruleAt rs (rs[n].kids.getD 0 0)).size:=fun hk => by
   obtain ⟨h1,m,hm,hmn⟩:=kid_int hall hn hk
   rw [hm] at h1 ⊢
   rw [ruleAt_at (by omega)] at h1 ⊢
   have h2:=int_len hall (by omega) h1
   rw [hzs,sizeAt_in (by omega) (by omega),h2.1]
   omega
  obtain ⟨r,hr⟩ : ∃ r,r = rs[n]:=⟨_,rfl⟩
  rw [← hr] at hown hki hkn hlow hint ⊢
  rcases (by omega : r.kind = 1 ∨ r.kind = 2 ∨ r.kind = 3 ∨ r.kind = 4 ∨ r.kind = 5 ∨ r.kind = 6 ∨ r.kind = 7 ∨ r.kind = 8 ∨ r.kind = 9 ∨ r.kind = 10) with e | e | e | e | e | e | e | e | e | e
  ·have:=kindI_size hki e
   simp [minOf,headLen,e]
   omega
  ·simp [minOf,headLen,e]
   omega
  ·have:=kindI_3 hki e
   simp [ownB,e] at hown
   simp [minOf,headLen,e]
   omega
  ·have:=hint (.inl e)
   simp [minOf,headLen,e] at this ⊢
   omega
  ·have:=hint (.inr (.inl e))
   simp [minOf,headLen,e] at this ⊢
   omega
  ·simp [ownB,e] at hown
   have h1:=sum_low (rs:=rs) (x:=v.number) (zs:=zs) e v.items 0 (by omega) (fun q hq => by
    have h2:=hlow q hq
    rw [Nat.zero_add]
    have h3 : itemR r v.number q = r.kids.getD q 0:=by unfold itemR; rw [if_neg (by omega),if_pos e,if_pos (by omega)]
    rw [h3] at h2 ⊢
    exact h2)
   rw [List.drop_zero] at h1
   have h2 : minOf zs r = sumT zs r.kids:=by simp [minOf,e]
   rw [h2]
   push_cast
   omega
  ·have h7:=kindI_7 hki e
   have h1:=hint (.inr (.inr e))
   have hown7 : v.items.length = 1:=by simp [ownB,e] at hown; exact hown.2.1
   have h2:=item_kid hki hown (q:=0) (by omega)
   have h3:=hlow 0 (by omega)
   have h4 : minOf zs r = tabAt zs (r.kids.getD 0 0) + leastT zs (r.kids.drop 2) (tabAt zs (r.kids.getD 1 0)):=by simp [minOf,e]
   have h5 : plens rs r v.number 0 v.items = plen rs (itemR r v.number 0) (v.items[0]'(by omega)):=by
    obtain ⟨x,hx⟩:=List.length_eq_one_iff.1 hown7
    simp [hx,plens]
   have h6 : headLen rs r v.bytes = (ruleAt rs (r.kids.getD 0 0)).size.toNat:=by simp [headLen,e]
   have h8 : leastT zs (r.kids.drop 2) (tabAt zs (r.kids.getD 1 0)) ≤ tabAt zs (itemR r v.number 0):=by
    have h9:=leastT_le (t:=zs) (ks:=r.kids.drop 2) (m:=tabAt zs (r.kids.getD 1 0))
    have h10 : itemR r v.number 0 = tagKid r.tags (r.kids.drop 1) v.number:=by unfold itemR; rw [if_neg (by omega),if_neg (by omega),if_pos e]
    have h11 : itemR r v.number 0 ∈ r.kids.drop 1:=by
     simp [ownB,e] at hown
     have h12:=hown.2.2
     rw [h10] at h12 ⊢
     rcases tagKid_mem r.tags (r.kids.drop 1) v.number with h13 | h13
     ·omega
     ·exact h13
    rw [List.drop_eq_getElem_cons (by omega)] at h11
    rcases List.mem_cons.1 h11 with h12 | h12
    ·rw [h12,← getD_at (by omega)]
     exact h9.1
    ·exact h9.2 _ h12
   rw [h4,h5,h6]
   push_cast
   omega
  ·simp [minOf,headLen,e]
   omega
  ·have h9:=kindI_9 hki e
   have hown9 : v.items.length = 1:=by simp [ownB,e] at hown; exact hown.2.2
   have h3:=hlow 0 (by omega)
   have h4 : minOf zs r = tabAt zs (r.kids.getD 0 0) + 1:=by simp [minOf,e]
   have h5 : plens rs r v.number 0 v.items = plen rs (itemR r v.number 0) (v.items[0]'(by omega)):=by
    obtain ⟨x,hx⟩:=List.length_eq_one_iff.1 hown9
    simp [hx,plens]
   have h6 : headLen rs r v.bytes = 1:=by simp [headLen,e]
   have h10 : itemR r v.number 0 = r.kids.getD 0 0:=by unfold itemR; simp [e]
   rw [h10] at h3 h5
   rw [h4,h5,h6]
   push_cast
   omega
  ·simp [minOf,headLen,e]
   omega
theorem low_pos {rs : List RuleV} (hall : allV (kindI rs) rs) : ∀ (n : Nat) (_ : n < rs.length),1 ≤ sizeAt minStep rs (n : Int):=by
 intro n
 induction n using Nat.strongRecOn with
 | _ n ih =>
  intro hn
  have hki:=allV_kind hall hn
  have hkn:=kindI_known hki
  have hzb:=mins_b hall n (by omega)
  have hkid : ∀ j,j < rs[n].kids.length → 1 ≤ tabAt (tabTo minStep rs n) (rs[n].kids.getD j 0):=fun j hj => by
   obtain ⟨m,hm,hmn⟩:=kidLen hall hn hj
   rw [hm,sizeAt_in (by omega) (by omega)]
   exact ih m hmn (by omega)
  rw [sizeAt_at hn]
  obtain ⟨zs,hzs⟩ : ∃ zs,zs = tabTo minStep rs n:=⟨_,rfl⟩
  rw [← hzs] at hkid hzb ⊢
  obtain ⟨r,hr⟩ : ∃ r,r = rs[n]:=⟨_,rfl⟩
  rw [← hr] at hki hkn hkid ⊢
  unfold minStep
  have hm : 1 ≤ minOf zs r:=by
   rcases (by omega : r.kind = 1 ∨ r.kind = 2 ∨ r.kind = 3 ∨ r.kind = 4 ∨ r.kind = 5 ∨ r.kind = 6 ∨ r.kind = 7 ∨ r.kind = 8 ∨ r.kind = 9 ∨ r.kind = 10) with e | e | e | e | e | e | e | e | e | e
   ·have:=kindI_size hki e; unfold minOf; rw [if_pos (by omega)]; omega
   ·have:=kindI_2 hki e; unfold minOf; rw [if_neg (by omega),if_pos (by omega)]; omega
   ·have:=kindI_3 hki e; unfold minOf; rw [if_pos (by omega)]; omega
   ·have h4:=kindI_4 hki e; have:=hkid 0 (by omega); unfold minOf; rw [if_neg (by omega),if_neg (by omega),if_pos (by omega)]; omega
   ·have h5:=kindI_5 hki e; have:=hkid 0 (by omega); unfold minOf; rw [if_neg (by omega),if_neg (by omega),if_pos (by omega)]; omega
   ·have h6:=kindI_6 hki e
    have h7:=hkid 0 (by omega)
    have h8 : minOf zs r = sumT zs r.kids:=by simp [minOf,e]
    rw [h8]
    have h9 : r.kids = r.kids[0]'(by omega) :: r.kids.drop 1:=by
     have:=List.drop_eq_getElem_cons (l:=r.kids) (i:=0) (by omega)
     simpa using this
    rw [getD_at (by omega)] at h7
    rw [h9,sumT]
    have:=(sumT_b hzb (r.kids.drop 1)).1
    omega
   ·have h7:=kindI_7 hki e
    have h8:=hkid 0 (by omega)
    have h9:=hzb (r.kids.getD 1 0)
    have h10:=leastT_b hzb (r.kids.drop 2) (tabAt zs (r.kids.getD 1 0)) h9.1 h9.2
    unfold minOf; rw [if_neg (by omega),if_neg (by omega),if_neg (by omega),if_neg (by omega),if_pos (by omega)]; omega
   ·unfold minOf; rw [if_neg (by omega),if_neg (by omega),if_neg (by omega),if_neg (by omega),if_neg (by omega),if_neg (by omega)]; omega
   ·have:=hzb (r.kids.getD 0 0)
    unfold minOf; rw [if_neg (by omega),if_neg (by omega),if_neg (by omega),if_neg (by omega),if_neg (by omega),if_pos (by omega)]; omega
   ·unfold minOf; rw [if_neg (by omega),if_neg (by omega),if_neg (by omega),if_neg (by omega),if_neg (by omega),if_neg (by omega)]; omega
  omega
theorem min_spec (a b : Int) (w : World) :
  Calls Tryz.prog 107 #[.int .i64 a,.int .i64 b] w fun e w' => e = .returned (.int .i64 (min a b)) ∧ w = w':=by
 by_cases h : b < a
 ·have hr : Hid (min a b = b):=by show _ = _; omega
  go_enter Tryz.func107,Tryz.ntmps107
  go_wp2
  go_ret
  exact ⟨ret_int hr.out.symm,rfl⟩
 ·have hr : Hid (min a b = a):=by show _ = _; omega
  go_enter Tryz.func107,Tryz.ntmps107
  go_wp2
  go_ret
  exact ⟨ret_int hr.out.symm,rfl⟩
theorem outer_least (a b : Int) (w : World) (c : Nat) (hc : w.cell? ⟨c,0,none⟩ = some (.int .i64 b)) :
  Calls Tryz.prog 145 #[.bool false,.int .i64 a,.slice (some ⟨c,0,none⟩) 1 1] w fun e w' => e = .returned (.int .i64 (if b < a then b else a)) ∧ w = w':=by
 by_cases h : b < a
 all_goals
  go_enter Tryz.func145,Tryz.ntmps145
  go_wp2
  go_loop [7,9,13] (fun t _ i => ∃ k : Nat,k ≤ 1 ∧ i = .int .i64 k ∧ t = .int .i64 (if k = 1 then (if b < a then b else a) else a)) (fun _ _ i => 1 - (intOf i).toNat)
  case atStart => exact ⟨0,Nat.zero_le _,rfl,rfl⟩
  case round =>
   obtain ⟨k,hk,rfl,rfl⟩:=hrel
   obtain rfl | rfl : k = 0 ∨ k = 1:=by omega
   ·go_wp2
    go_round
    case rel => exact ⟨1,by omega,rfl,by first | rw [if_pos rfl,if_pos h] | rw [if_pos rfl,if_neg (by omega)]⟩
    case measure => simp [intOf]
   ·go_wp2
    go_ret
    exact ⟨rfl,rfl⟩
theorem outer_leastM (a b : Int) (w : World) (c : Nat) (hc : w.cell? ⟨c,0,none⟩ = some (.int .i64 b)) :
  Calls Tryz.prog 145 #[.bool false,.int .i64 a,.slice (some ⟨c,0,none⟩) 1 1] w fun e w' => e = .returned (.int .i64 (min a b)) ∧ w = w' :=
 (outer_least a b w c hc).mono fun e w' ⟨h1,h2⟩ => ⟨by rw [h1]; exact ret_int (by split <;> omega),h2⟩
theorem min_impl (a b : Int) (w : World) :
  Calls Tryz.prog 116 #[.int .i64 a,.int .i64 b] w fun e w' => e = .returned (.int .i64 (min a b)) ∧ Below w.heap.size w w':=by
 go_enter Tryz.func116,Tryz.ntmps116
 go_wp2_with (go_at_call 145; refine (outer_leastM a b (w.alloc (Obj.cells #[.int .i64 b] 3)) w.heap.size (by simp)).mono ?_; rintro e w' ⟨rfl,rfl⟩)
 go_ret
 exact ⟨rfl,(Below.refl _ _).alloc (Nat.le_refl _) _⟩
noncomputable def okAt (rs : List RuleV) (k : Int) : Bool:=decide (0 ≤ k ∧ k < (rs.length : Int)) && descrB (kindI rs) rs
theorem okAt_yes {rs : List RuleV} {k : Int} (h : okAt rs k = true) : (0 ≤ k ∧ k < (rs.length : Int)) ∧ (1 ≤ rs.length ∧ rs.length ≤ 24) ∧ allV (kindI rs) rs:=by
 unfold okAt at h
 rw [Bool.and_eq_true] at h
 exact ⟨of_decide_eq_true h.1,(descrB_iff.1 h.2).1,(descrB_iff.1 h.2).2⟩
theorem l7_spec (a : Option Addr) (rs : List RuleV) (cap : Nat) (k : Int) (w : World) (hl : rs.length ≤ 1048576) (hs : ∀ r ∈ rs,Short r) (hp : ∀ r ∈ rs,Spelt r) (h : RdC a rs w) :
  Calls Tryz.prog 42 #[.agg #[.slice a rs.length cap],.int .i64 k] w fun e w' => e = .returned (.bool (okAt rs k)) ∧ Below w.heap.size w w':=by
 obtain ⟨w0,hw0⟩ : ∃ w0,w0 = w.alloc (.cells #[.slice a rs.length cap] 26):=⟨_,rfl⟩
 have hB0:=zb1 hw0
 have hX0:=zk1 hw0
 have bx:=(hX0 0 _ rfl).1
 have HB:=kq hB0
 have HC:=kq (h.below hB0)
 have HS:=kq hs
 have HP:=kq hp
 have hW:=kq hw0
 clear h hB0 hX0 hs hp hw0
 by_cases hk : 0 ≤ k ∧ k ≤ (rs.length : Int) - 1
 ·have hd:=decide_eq_true hk
  have hr : Hid (okAt rs k = descrB (kindI rs) rs):=by
   show _ = _
   unfold okAt
   rw [decide_eq_true (by omega),Bool.true_and]
  go_enter Tryz.func42,Tryz.ntmps42
  go_wp2_with fail
  refine (in_any _ _ _ true _ hd).mono ?_
  rintro e w1 ⟨rfl,rfl⟩
  rw [← hW.out]
  clear hW
  go_wp2_with fail
  refine (validd_spec a rs cap _ hl HS.out HP.out HC.out).mono ?_
  rintro e w2 ⟨rfl,hb2⟩
  rw [← hr.out]
  obtain ⟨b,hb⟩ : ∃ b,b = okAt rs k:=⟨_,rfl⟩
  rw [← hb]
  have HBB:=kq hb
  clear hb
  have HB2:=kq (HB.out.trans (hb2.mono HB.out.size))
  clear hb2 hr
  go_wp2
  go_ret
  exact ⟨ret_bool HBB.out,HB2.out⟩
 ·have hd:=decide_eq_false hk
  have hr : Hid (okAt rs k = false):=by
   show _ = _
   unfold okAt
   rw [decide_eq_false (by omega),Bool.false_and]
  go_enter Tryz.func42,Tryz.ntmps42
  go_wp2_with fail
  refine (in_any _ _ _ false _ hd).mono ?_
  rintro e w1 ⟨rfl,rfl⟩
  go_wp2
  rw [← hW.out]
  go_ret
  exact ⟨ret_bool hr.out.symm,HB.out⟩
theorem isdescr_impl (a : Option Addr) (rs : List RuleV) (cap : Nat) (k : Int) (w : World) (hl : rs.length ≤ 1048576) (hs : ∀ r ∈ rs,Short r) (hp : ∀ r ∈ rs,Spelt r) (h : RdC a rs w) :
  Calls Tryz.prog 39 #[.agg #[.slice a rs.length cap],.int .i64 k] w fun e w' => e = .returned (.bool (okAt rs k)) ∧ Below w.heap.size w w':=by
 obtain ⟨w0,hw0⟩ : ∃ w0,w0 = w.alloc (.cells #[.slice a rs.length cap] 26):=⟨_,rfl⟩
 have hB0:=zb1 hw0
 have hX0:=zk1 hw0
 have bx:=(hX0 0 _ rfl).1
 have HX:=kq hX0
 have HB0:=kq hB0
 have HC:=kq (h.below hB0)
 have hW:=kq hw0
 have HS:=kq hs
 have HP:=kq hp
 clear h hs hp hB0 hX0 hw0
 obtain ⟨b,hb⟩ : ∃ b,b = descrB (kindI rs) rs:=⟨_,rfl⟩
 have HBB:=kq hb
 clear hb
 go_enter Tryz.func39,Tryz.ntmps39
 go_wp2_with fail
 rw [← hW.out]
 clear hW
 refine (validd_impl a rs cap _ hl HS.out HP.out HC.out).mono ?_
 rintro e w1 ⟨rfl,hb1⟩
 rw [← HBB.out]
 have HB:=kq (HB0.out.trans (hb1.mono HB0.out.size))
 replace HX:=kq (HX.out.below hb1)
 clear hb1 bx
 have bx:=(HX.out 0 _ rfl).1
 cases b with
 | false =>
  have hr : Hid (okAt rs k = false):=by show _ = _; unfold okAt; rw [← HBB.out,Bool.and_false]
  go_wp2
  go_ret
  exact ⟨ret_bool hr.out.symm,HB.out⟩
 | true =>
  have hr : Hid (okAt rs k = decide (0 ≤ k ∧ k < (rs.length : Int))):=by show _ = _; unfold okAt; rw [← HBB.out,Bool.and_true]
  obtain ⟨q,hq⟩ : ∃ q,q = decide (0 ≤ k ∧ k < (rs.length : Int)):=⟨_,rfl⟩
  rw [← hq] at hr
  go_wp2_with fail
  refine (hasr_impl a rs.length cap k _ (by omega) q hq.symm).mono ?_
  rintro e w2 ⟨rfl,hb2⟩
  replace HB:=kq (HB.out.trans (hb2.mono HB.out.size))
  clear hb2 hq
  go_wp2
  go_ret
  exact ⟨ret_bool hr.out.symm,HB.out⟩
end Go.Proofs.YtfmnjclnhppghaaGreat
