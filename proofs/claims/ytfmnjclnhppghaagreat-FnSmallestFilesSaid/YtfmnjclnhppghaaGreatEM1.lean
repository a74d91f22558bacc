/- The sizes of default values, rule by rule. -/
import Derived.Test.YtfmnjclnhppghaaGreatEQV
import Derived.Test.YtfmnjclnhppghaaGreatEGBase
import Derived.Test.YtfmnjclnhppghaaGreatEQL
import Derived.Test.YtfmnjclnhppghaaGreatEQE
import Derived.Test.YtfmnjclnhppghaaGreatEM2
import Derived.Test.YtfmnjclnhppghaaGreatEArr
import Derived.Test.YtfmnjclnhppghaaGreatEQT
namespace Go.Proofs.YtfmnjclnhppghaaGreat
open Go Go.RowKit
def fst (a _b : Int) : Int:=a
def firstT (_t _ks : List Int) (m : Int) : Int:=m
theorem firstT_next {t ks : List Int} {j : Nat} {m : Int} (h : j < ks.length) : firstT t (ks.take (j + 1)) m = fst (firstT t (ks.take j) m) (tabAt t ks[j]):=rfl
def defOf (t : List Int) (r : RuleV) : Int:=if r.kind = 7 then tabAt t (r.kids.getD 0 0) + tabAt t (r.kids.getD 1 0) else minOf t r
def defStep (t : List Int) (r : RuleV) : Int:=min 401 (defOf t r)
theorem defOf_b {rs : List RuleV} {t : List Int} {r : RuleV} (h : kindI rs r = true) (ht : InB 401 t) : 0 ≤ defOf t r ∧ defOf t r ≤ 4000:=by
 unfold defOf
 split
 ·have h1:=ht (r.kids.getD 0 0)
  have h2:=ht (r.kids.getD 1 0)
  omega
 ·exact minOf_b h ht
theorem defs_b {rs : List RuleV} (h : allV (kindI rs) rs) : ∀ n,n ≤ rs.length → InB 401 (tabTo defStep rs n) :=
 tabTo_b (by omega) fun t n hn ht => by
  have h1:=defOf_b (allV_kind h hn) ht
  unfold defStep
  omega
end Go.Proofs.YtfmnjclnhppghaaGreat
/- The contract of the first of two,as a closure. -/
namespace Go.Proofs.YtfmnjclnhppghaaGreat
open Go Go.RowKit
theorem fst_impl (a b : Int) (w : World) :
  Calls Tryz.prog 104 #[.int .i64 a,.int .i64 b] w fun e w' => e = .returned (.int .i64 (fst a b)) ∧ Below w.heap.size w w':=by
 go_enter Tryz.func104,Tryz.ntmps104
 go_wp2
 go_ret
 exact ⟨rfl,Below.refl _ _⟩
end Go.Proofs.YtfmnjclnhppghaaGreat
/- The answers of MinSize,MaxSize,DepthOf,as a plain function. -/
namespace Go.Proofs.YtfmnjclnhppghaaGreat
open Go Go.RowKit
noncomputable def sizeD (f : List Int → RuleV → Int) (rs : List RuleV) (k : Int) : Int:=if okAt rs k = true then sizeAt f rs k else 0
theorem sizeD_no {f : List Int → RuleV → Int} {rs : List RuleV} {k : Int} (h : okAt rs k = false) : sizeD f rs k = 0:=by unfold sizeD; rw [h]; rfl
theorem sizeD_yes {f : List Int → RuleV → Int} {rs : List RuleV} {k : Int} (h : okAt rs k = true) : sizeD f rs k = sizeAt f rs k:=by unfold sizeD; rw [if_pos h]
end Go.Proofs.YtfmnjclnhppghaaGreat
/- Values that are drawn: valid,and not too long. No program is walked here. -/
namespace Go.Proofs.YtfmnjclnhppghaaGreat
open Go Go.RowKit
theorem esc_le (t : UInt8) : ∀ bs : List UInt8,escLen t bs ≤ 2 * bs.length
 | [] => by simp [escLen]
 | b :: bs => by
  have:=esc_le t bs
  rw [escLen,List.length_cons]
  split <;> omega
theorem plens_le {rs : List RuleV} {r : RuleV} {x : Int} {B : Nat} : ∀ (l : List ValueV) (i : Nat),(∀ q (h : q < l.length),plen rs (itemR r x (i + q)) l[q] ≤ B) → plens rs r x i l ≤ l.length * B
 | [],i,_ => by simp [plens]
 | v :: l,i,hl => by
  rw [plens,List.length_cons,Nat.add_mul,Nat.one_mul]
  have h0:=hl 0 (by simp)
  have ih:=plens_le l (i + 1) (fun q hq => by
   have:=hl (q + 1) (by simpa using hq)
   rw [show i + (q + 1) = i + 1 + q from by omega] at this
   simpa using this)
  simp only [Nat.add_zero,List.getElem_cons_zero] at h0
  omega
theorem validL_of {rs : List RuleV} {r : RuleV} {x : Int} : ∀ (l : List ValueV) (i : Nat),(∀ q (h : q < l.length),validV rs (itemR r x (i + q)) l[q] = true) → validL rs r x i l = true
 | [],i,_ => by rw [validL]
 | v :: l,i,hl => by
  rw [validL,Bool.and_eq_true]
  have h0:=hl 0 (by simp)
  simp only [Nat.add_zero,List.getElem_cons_zero] at h0
  exact ⟨h0,validL_of l (i + 1) (fun q hq => by
   have:=hl (q + 1) (by simpa using hq)
   rw [show i + (q + 1) = i + 1 + q from by omega] at this
   simpa using this)⟩
def MadeVal (rs : List RuleV) (k : Nat) (v : ValueV) : Prop:=validV rs (k : Int) v = true ∧ plen rs (k : Int) v ≤ 200 * 9 ^ (k + 1)
theorem head_le {rs : List RuleV} (hall : allV (kindI rs) rs) {k : Nat} (hk : k < rs.length) {v : ValueV} (hb : v.bytes.length ≤ 64) : headLen rs rs[k] v.bytes ≤ 192:=by
 have hki:=allV_kind hall hk
 have hkn:=kindI_known hki
 have hint : rs[k].kind = 4 ∨ rs[k].kind = 5 ∨ rs[k].kind = 7 → (ruleAt rs (rs[k].kids.getD 0 0)).size ≤ 4:=fun h => by
  obtain ⟨h1,m,hm,hmk⟩:=kid_int hall hk h
  rw [hm] at h1 ⊢
  rw [ruleAt_at (by omega)] at h1 ⊢
  exact (kindI_size (allV_kind hall (by omega)) h1).2
 rcases (by omega : rs[k].kind = 1 ∨ rs[k].kind = 2 ∨ rs[k].kind = 3 ∨ rs[k].kind = 4 ∨ rs[k].kind = 5 ∨ rs[k].kind = 6 ∨ rs[k].kind = 7 ∨ rs[k].kind = 8 ∨ rs[k].kind = 9 ∨ rs[k].kind = 10) with e | e | e | e | e | e | e | e | e | e
 ·have:=kindI_size hki e; simp [headLen,e]; omega
 ·have h2 : rs[k].bytes.length ≤ 16:=by simp [kindI,meetsB,e] at hki; omega
  simp [headLen,e]; omega
 ·simp [headLen,e]; omega
 ·have h9:=hint (by omega); simp [headLen,e] at h9 ⊢; omega
 ·have h9:=hint (by omega); simp [headLen,e] at h9 ⊢; omega
 ·simp [headLen,e]
 ·have h9:=hint (by omega); simp [headLen,e] at h9 ⊢; omega
 ·simp [headLen,e]
 ·simp [headLen,e]
 ·have:=esc_le (rs[k].bytes.getD 0 0) v.bytes; simp [headLen,e] at this ⊢; omega
theorem made_node {rs : List RuleV} (hall : allV (kindI rs) rs) {k : Nat} (hk : k < rs.length) {v : ValueV} (ho : ownB rs rs[k] v = true) (hb : v.bytes.length ≤ 64) (hi : v.items.length ≤ 8)
  (hit : ∀ q (h : q < v.items.length),∃ m : Nat,itemR rs[k] v.number q = (m : Int) ∧ m < k ∧ MadeVal rs m v.items[q]) : MadeVal rs k v:=by
 constructor
 ·rw [validV_eq,ruleAt_at hk,ho,Bool.true_and]
  refine validL_of _ _ fun q hq => ?_
  obtain ⟨m,hm,hmk,hv,-⟩:=hit q hq
  rw [Nat.zero_add,hm]
  exact hv
 ·rw [plen_eq,ruleAt_at hk]
  have h1:=head_le hall hk hb
  have h2 : plens rs rs[k] v.number 0 v.items ≤ v.items.length * (200 * 9 ^ k):=plens_le _ _ fun q hq => by
   obtain ⟨m,hm,hmk,-,hp⟩:=hit q hq
   rw [Nat.zero_add,hm]
   refine Nat.le_trans hp (Nat.mul_le_mul_left 200 (Nat.pow_le_pow_right (by decide) (by omega)))
  have h3 : v.items.length * (200 * 9 ^ k) ≤ 8 * (200 * 9 ^ k):=Nat.mul_le_mul_right _ hi
  have h4 : 1 ≤ 9 ^ k:=Nat.one_le_pow _ _ (by decide)
  rw [Nat.pow_succ]
  omega
end Go.Proofs.YtfmnjclnhppghaaGreat
/- Default values as data; they are valid. No program is walked here. -/
namespace Go.Proofs.YtfmnjclnhppghaaGreat
open Go Go.RowKit
def defKids (r : RuleV) : List Int:=if r.kind = 6 ∨ r.kind = 9 then r.kids else if r.kind = 7 then [r.kids.getD 1 0] else []
def defNum (r : RuleV) : Int:=if r.kind = 7 then r.tags.getD 0 0 else 0
def defBytes (r : RuleV) : List UInt8:=if r.kind = 3 then List.replicate r.size.toNat 0 else []
def defV (rs : List RuleV) : Nat → Int → ValueV
 | 0,_ => .mk 0 [] []
 | n + 1,k => .mk (defNum (ruleAt rs k)) (defBytes (ruleAt rs k)) ((defKids (ruleAt rs k)).map (defV rs n))
theorem defKids_mem {rs : List RuleV} {r : RuleV} (hk : kindI rs r = true) : ∀ k ∈ defKids r,k ∈ r.kids:=fun k h => by
 unfold defKids at h
 split at h
 ·exact h
 ·split at h
  ·rename_i h7
   have h2:=kindI_7 hk h7
   rw [List.mem_singleton] at h
   subst h
   exact getD_mem (by omega)
  ·cases h
theorem defKids_len {rs : List RuleV} {r : RuleV} (hk : kindI rs r = true) : (defKids r).length ≤ 8:=by
 unfold defKids
 split
 ·rename_i h
  rcases h with h | h
  ·exact (kindI_6 hk h).2.2
  ·have:=kindI_9 hk h; omega
 ·split
  ·simp
  ·simp
theorem def_item {rs : List RuleV} {r : RuleV} (hk : kindI rs r = true) (htg : r.kind = 7 → tagKid r.tags (r.kids.drop 1) (r.tags.getD 0 0) = r.kids.getD 1 0) {j : Nat} (h : j < (defKids r).length) : itemR r (defNum r) j = (defKids r)[j]:=by
 unfold defKids at h ⊢
 unfold itemR defNum
 by_cases h6 : r.kind = 6
 ·simp only [h6] at h ⊢
  simp only [Int.reduceEq,reduceIte,true_or] at h ⊢
  rw [if_pos h]
  simp [List.getD,List.getElem?_eq_getElem h]
 ·by_cases h9 : r.kind = 9
  ·have:=kindI_9 hk h9
   simp only [h9] at h ⊢
   simp only [Int.reduceEq,reduceIte,or_true] at h ⊢
   have hj : j = 0:=by omega
   subst hj
   simp [List.getD,List.getElem?_eq_getElem h]
  ·by_cases h7 : r.kind = 7
   ·simp only [h7] at h ⊢
    simp only [Int.reduceEq,reduceIte,or_false] at h ⊢
    have hj : j = 0:=by simpa using h
    subst hj
    exact htg h7
   ·rw [if_neg (by omega),if_neg h7] at h
    simp at h
theorem tagKid_head {ts ks : List Int} (h : 1 ≤ ts.length) (h2 : 1 ≤ ks.length) : tagKid ts ks (ts.getD 0 0) = ks.getD 0 0:=by
 cases ts with
 | nil => simp at h
 | cons t ts =>
  cases ks with
  | nil => simp at h2
  | cons k ks => simp [tagKid]
theorem kid_limit {rs : List RuleV} (hall : allV (kindI rs) rs) {k : Nat} (hk : k < rs.length) (h : rs[k].kind = 4 ∨ rs[k].kind = 5 ∨ rs[k].kind = 7) : 0 ≤ limitAt rs (rs[k].kids.getD 0 0):=by
 obtain ⟨h1,m,hm,hmk⟩:=kid_int hall hk h
 rw [hm] at h1 ⊢
 have hml : m < rs.length:=by omega
 rw [ruleAt_at hml] at h1
 rw [limitAt_in hml]
 have h2:=kindI_size (allV_kind hall hml) h1
 rw [if_pos ⟨h1,h2⟩]
 have:=pow256_bounds rs[m].size
 omega
theorem defV_valid {rs : List RuleV} (hall : allV (kindI rs) rs) : ∀ (n k : Nat),k < rs.length → k < n → validV rs (k : Int) (defV rs n (k : Int)) = true
 | 0,k,_,h => by omega
 | n + 1,k,hk,hn => by
  have hki:=allV_kind hall hk
  have hkids:=allV_kids hall hk
  have htg : rs[k].kind = 7 → tagKid rs[k].tags (rs[k].kids.drop 1) (rs[k].tags.getD 0 0) = rs[k].kids.getD 1 0:=fun h7 => by
   obtain ⟨h1,h2,h3⟩:=kindI_7 hki h7
   have h4:=tagKid_head (ts:=rs[k].tags) (ks:=rs[k].kids.drop 1) (by omega) (by rw [List.length_drop]; omega)
   rw [h4]
   simp [List.getD]
  rw [defV,validV_eq,ruleAt_at hk]
  rw [show (ValueV.mk (defNum rs[k]) (defBytes rs[k]) ((defKids rs[k]).map (defV rs n))).number = defNum rs[k] from rfl,
   show (ValueV.mk (defNum rs[k]) (defBytes rs[k]) ((defKids rs[k]).map (defV rs n))).items = (defKids rs[k]).map (defV rs n) from rfl]
  have hL : validL rs rs[k] (defNum rs[k]) 0 ((defKids rs[k]).map (defV rs n)) = true:=by
   refine validL_of _ _ fun q hq => ?_
   have hq' : q < (defKids rs[k]).length:=by simpa using hq
   rw [Nat.zero_add,def_item hki htg hq']
   have hk2:=hkids _ (defKids_mem hki _ (List.getElem_mem hq'))
   obtain ⟨m,hm⟩ : ∃ m : Nat,(defKids rs[k])[q] = (m : Int):=⟨(defKids rs[k])[q].toNat,by omega⟩
   rw [List.getElem_map,hm]
   rw [hm] at hk2
   exact defV_valid hall n m (by omega) (by omega)
  rw [hL,Bool.and_true]
  have hkn:=kindI_known hki
  have hnum : ∀ (x : Int) (b : List UInt8) (l : List ValueV),(ValueV.mk x b l).number = x ∧ (ValueV.mk x b l).bytes = b ∧ (ValueV.mk x b l).items = l:=fun _ _ _ => ⟨rfl,rfl,rfl⟩
  rcases (by omega : rs[k].kind = 1 ∨ rs[k].kind = 2 ∨ rs[k].kind = 3 ∨ rs[k].kind = 4 ∨ rs[k].kind = 5 ∨ rs[k].kind = 6 ∨ rs[k].kind = 7 ∨ rs[k].kind = 8 ∨ rs[k].kind = 9 ∨ rs[k].kind = 10) with e | e | e | e | e | e | e | e | e | e
  ·have h1:=kindI_size hki e
   have h2:=pow256_bounds rs[k].size
   simp only [ownB,defNum,defBytes,defKids,hnum,e,Int.reduceEq,reduceIte,or_false,List.map_nil,List.length_nil]
   simp
   omega
  ·simp [ownB,defNum,defBytes,defKids,hnum,e]
  ·have h1:=kindI_3 hki e
   simp [ownB,defNum,defBytes,defKids,hnum,e]
   omega
  ·have h1:=kid_limit hall hk (by omega)
   simp only [List.getD_eq_getElem?_getD] at h1
   simp [ownB,defNum,defBytes,defKids,hnum,e]
   omega
  ·have h1:=kid_limit hall hk (by omega)
   simp only [List.getD_eq_getElem?_getD] at h1
   simp [ownB,defNum,defBytes,defKids,hnum,e]
   omega
  ·simp [ownB,defNum,defBytes,defKids,hnum,e]
  ·have hlen : 0 < (defKids rs[k]).length:=by unfold defKids; rw [if_neg (by omega),if_pos e]; simp
   have h2 : itemR rs[k] (defNum rs[k]) 0 = (defKids rs[k])[0]:=def_item hki htg hlen
   have h3 : (0 : Int) ≤ itemR rs[k] (defNum rs[k]) 0:=by
    rw [h2]
    have h5:=hkids _ (defKids_mem hki _ (List.getElem_mem hlen))
    omega
   simp only [ownB,hnum,e,Int.reduceEq,reduceIte]
   simp [h3]
   simp [defBytes,defKids,e]
  ·simp [ownB,defNum,defBytes,defKids,hnum,e]
  ·have h1:=kindI_9 hki e
   simp [ownB,defNum,defBytes,defKids,hnum,e,h1]
  ·simp [ownB,defNum,defBytes,defKids,hnum,e]
end Go.Proofs.YtfmnjclnhppghaaGreat
/- What lies in memory while a default value is set in place. No function of the program is walked here. -/
namespace Go.Proofs.YtfmnjclnhppghaaGreat
open Go Go.RowKit
theorem made_zeroD (n : Nat) (t : TypeId) (w : World) : ∀ j,j < n → PlacedAt w.heap.size (j * 3) zeroVal (w.alloc (.cells (madeCells #[.int .i64 0,.slice none 0 0,.slice none 0 0] (n * 3)) t)):=fun j hj i v hv => by
 have hi3 : i < 3:=by
  rcases Nat.lt_or_ge i 3 with h | h
  ·exact h
  ·rw [List.getElem?_eq_none (by simpa [zeroVal] using h)] at hv; cases hv
 refine ⟨(World.cell?_alloc_mark w _ t (0,0) (j * 3 + i)).trans ?_,by simp⟩
 rw [made_at _ _ (by omega)]
 have e : (j * 3 + i) % 3 = i:=by omega
 show some (#[.int .i64 0,.slice none 0 0,.slice none 0 0] : Array Value)[(j * 3 + i) % 3]! = some v
 rw [e]
 rcases (by omega : i = 0 ∨ i = 1 ∨ i = 2) with rfl | rfl | rfl <;> exact hv
theorem make_bytesD (h : Nat) (hh : h ≤ 1000000) (W : World) : (Instr.makeSlice 22 (.int .i64 (h : Int)) (.int .i64 (h : Int))).run Tryz.prog W = .ok (.slice (some ⟨W.heap.size,0,none⟩) h h) (W.alloc (.cells (madeCells #[.int .u8 0] h) 5)):=by
 obtain ⟨i0,hi,hz0,hz1,hz2⟩:=infoParts
 have hr:=run_make (P:=Tryz.prog) W 22 5 i0 (.int .u8 0) Tryz.underlying22 hi hz0 .i64 .i64 (h : Int) (h : Int) (by omega) (by omega) (by rw [hz2]; omega) (by omega)
 rw [hr,hz1]
 simp [Value.cells]
theorem made_byt (n : Nat) (w : World) : ∃ b1,BytT b1 (some ⟨w.heap.size,0,none⟩) (List.replicate n 0) (w.alloc (.cells (madeCells #[.int .u8 0] n) 5)) ∧ b1.Nodup ∧ ∀ b ∈ b1,b = w.heap.size:=by
 by_cases h0 : n = 0
 ·subst h0
  exact ⟨[],.inl ⟨rfl,rfl⟩,List.nodup_nil,fun b hb => by cases hb⟩
 ·refine ⟨[w.heap.size],.inr ⟨⟨w.heap.size,0,rfl,rfl,fun j hj => ?_⟩,fun e => h0 (by simpa using e)⟩,by simp,fun b hb => by simpa using hb⟩
  have hj2 : j < n:=by simpa using hj
  refine ⟨(World.cell?_alloc_mark w _ 5 (0,0) (0 + j)).trans ?_,by simp⟩
  rw [Nat.zero_add,made_at _ _ hj2]
  simp
  rw [Nat.mod_one]
  rfl
def DefAt (Z o n : Nat) (v : ValueV) (w : World) (e : Ending) (w' : World) : Prop :=
 e = .returned (.tuple #[]) ∧ ∃ bl cs,PlacedAt Z o cs w' ∧ OwnT n bl v cs w' ∧ (∀ b ∈ bl,w.heap.size ≤ b) ∧ Turn (InV Z o) w w'
theorem defV_eq (rs : List RuleV) (n : Nat) {k : Nat} (hk : k < rs.length) : defV rs (n + 1) (k : Int) = .mk (defNum rs[k]) (defBytes rs[k]) ((defKids rs[k]).map (defV rs n)):=by
 rw [defV,ruleAt_at hk]
noncomputable def defD (rs : List RuleV) (k : Int) : ValueV:=if okAt rs k = true then defV rs (k.toNat + 1) k else .mk 0 [] []
theorem defV_fuel {rs : List RuleV} (hall : allV (kindI rs) rs) : ∀ (n m k : Nat),k < rs.length → k < n → k < m → defV rs n (k : Int) = defV rs m (k : Int)
 | 0,_,_,_,h,_ => by omega
 | _,0,_,_,_,h => by omega
 | n + 1,m + 1,k,hk,hn,hm => by
  rw [defV_eq rs n hk,defV_eq rs m hk]
  congr 1
  refine List.map_congr_left fun x hx => ?_
  have hki:=allV_kind hall hk
  have h1:=allV_kids hall hk x (defKids_mem hki x hx)
  obtain ⟨j,rfl⟩ : ∃ j : Nat,x = (j : Int):=⟨x.toNat,by omega⟩
  exact defV_fuel hall n m j (by omega) (by omega) (by omega)
end Go.Proofs.YtfmnjclnhppghaaGreat
/- How long the encoding of a default value is. No program is walked here. -/
namespace Go.Proofs.YtfmnjclnhppghaaGreat
open Go Go.RowKit
theorem sum_def {rs : List RuleV} {r : RuleV} {x : Int} {zs : List Int} : ∀ (ks : List Int) (l : List ValueV) (i : Nat),l.length = ks.length → (∀ q (h : q < l.length) (h' : q < ks.length),tabAt zs ks[q] = min 401 ((plen rs (itemR r x (i + q)) l[q] : Nat) : Int)) → 0 ≤ sumT zs ks ∧ min 401 (sumT zs ks) = min 401 ((plens rs r x i l : Nat) : Int)
 | [],[],i,_,_ => by simp [sumT,plens]
 | [],v :: l,i,h,_ => by simp at h
 | k :: ks,[],i,h,_ => by simp at h
 | k :: ks,v :: l,i,h,hl => by
  have h0:=hl 0 (by simp) (by simp)
  have ih:=sum_def (r:=r) (x:=x) ks l (i + 1) (by simpa using h) (fun q hq hq' => by
   have:=hl (q + 1) (by simpa using hq) (by simpa using hq')
   rw [show i + (q + 1) = i + 1 + q from by omega] at this
   simpa using this)
  simp only [Nat.add_zero,List.getElem_cons_zero] at h0
  rw [sumT,plens]
  push_cast
  omega
theorem def_len {rs : List RuleV} (hall : allV (kindI rs) rs) : ∀ (n : Nat) (_ : n < rs.length),sizeAt defStep rs (n : Int) = min 401 ((plen rs (n : Int) (defV rs (n + 1) (n : Int)) : Nat) : Int):=by
 intro n
 induction n using Nat.strongRecOn with
 | _ n ih =>
  intro hn
  have hki:=allV_kind hall hn
  have hkn:=kindI_known hki
  have htg : rs[n].kind = 7 → tagKid rs[n].tags (rs[n].kids.drop 1) (rs[n].tags.getD 0 0) = rs[n].kids.getD 1 0:=fun h7 => by
   obtain ⟨h1,h2,h3⟩:=kindI_7 hki h7
   have h4:=tagKid_head (ts:=rs[n].tags) (ks:=rs[n].kids.drop 1) (by omega) (by rw [List.length_drop]; omega)
   rw [h4]
   simp [List.getD]
  have htab : ∀ m : Nat,m < n → tabAt (tabTo defStep rs n) (m : Int) = min 401 ((plen rs (m : Int) (defV rs n (m : Int)) : Nat) : Int):=fun m hm => by
   rw [sizeAt_in (by omega) (by omega),ih m hm (by omega),defV_fuel hall (m + 1) n m (by omega) (by omega) hm]
  have hlow : ∀ q (h : q < (defKids rs[n]).length),tabAt (tabTo defStep rs n) (defKids rs[n])[q] = min 401 ((plen rs (itemR rs[n] (defNum rs[n]) q) (defV rs n (defKids rs[n])[q]) : Nat) : Int):=fun q hq => by
   have h1:=allV_kids hall hn _ (defKids_mem hki _ (List.getElem_mem hq))
   rw [def_item hki htg hq]
   obtain ⟨m,hm⟩ : ∃ m : Nat,(defKids rs[n])[q] = (m : Int):=⟨(defKids rs[n])[q].toNat,by omega⟩
   rw [hm] at h1 ⊢
   exact htab m (by omega)
  have hint : rs[n].kind = 4 ∨ rs[n].kind = 5 ∨ rs[n].kind = 7 → tabAt (tabTo defStep rs n) (rs[n].kids.getD 0 0) = (ruleAt rs (rs[n].kids.getD 0 0)).size ∧ 1 ≤ (ruleAt rs (rs[n].kids.getD 0 0)).size ∧ (ruleAt rs (rs[n].kids.getD 0 0)).size ≤ 4:=fun hk => by
   obtain ⟨h1,m,hm,hmn⟩:=kid_int hall hn hk
   rw [hm] at h1 ⊢
   rw [ruleAt_at (by omega)] at h1 ⊢
   have h2:=kindI_size (allV_kind hall (by omega)) h1
   rw [sizeAt_in (by omega) (by omega),sizeAt_at (by omega)]
   unfold defStep defOf minOf
   rw [if_neg (by omega),if_pos (by omega)]
   omega
  have h9 : rs[n].kind = 9 → ∃ m : Nat,rs[n].kids = [(m : Int)] ∧ m < n:=fun h => by
   have h1:=kindI_9 hki h
   obtain ⟨x,hx⟩:=List.length_eq_one_iff.1 h1
   have h2:=allV_kids hall hn x (by rw [hx]; simp)
   exact ⟨x.toNat,by rw [hx,Int.toNat_of_nonneg h2.1],by omega⟩
  rw [sizeAt_at hn,defV_eq rs n hn,plen_eq,ruleAt_at hn]
  obtain ⟨zs,hzs⟩ : ∃ zs,zs = tabTo defStep rs n:=⟨_,rfl⟩
  rw [← hzs] at hlow hint ⊢
  rw [show (ValueV.mk (defNum rs[n]) (defBytes rs[n]) ((defKids rs[n]).map (defV rs n))).number = defNum rs[n] from rfl,
   show (ValueV.mk (defNum rs[n]) (defBytes rs[n]) ((defKids rs[n]).map (defV rs n))).bytes = defBytes rs[n] from rfl,
   show (ValueV.mk (defNum rs[n]) (defBytes rs[n]) ((defKids rs[n]).map (defV rs n))).items = (defKids rs[n]).map (defV rs n) from rfl]
  obtain ⟨r,hr⟩ : ∃ r,r = rs[n]:=⟨_,rfl⟩
  rw [← hr] at hki hkn hlow hint htg h9 ⊢
  have hsum:=sum_def (rs:=rs) (r:=r) (x:=defNum r) (zs:=zs) (defKids r) ((defKids r).map (defV rs n)) 0 (by simp) (fun q hq hq' => by
   rw [List.getElem_map,Nat.zero_add]
   exact hlow q hq')
  have hnone : ¬ (r.kind = 6 ∨ r.kind = 9) → r.kind ≠ 7 → plens rs r (defNum r) 0 ((defKids r).map (defV rs n)) = 0:=fun h1 h2 => by
   unfold defKids
   rw [if_neg h1,if_neg h2]
   simp [plens]
  unfold defStep
  rcases (by omega : r.kind = 1 ∨ r.kind = 2 ∨ r.kind = 3 ∨ r.kind = 4 ∨ r.kind = 5 ∨ r.kind = 6 ∨ r.kind = 7 ∨ r.kind = 8 ∨ r.kind = 9 ∨ r.kind = 10) with e | e | e | e | e | e | e | e | e | e
  ·have:=kindI_size hki e
   rw [hnone (by omega) (by omega)]
   simp [defOf,minOf,headLen,e]
   omega
  ·rw [hnone (by omega) (by omega)]
   simp [defOf,minOf,headLen,e]
  ·have:=kindI_3 hki e
   rw [hnone (by omega) (by omega)]
   simp [defOf,minOf,headLen,defBytes,e]
   omega
  ·have:=hint (.inl e)
   rw [hnone (by omega) (by omega)]
   simp [defOf,minOf,headLen,defBytes,e] at this ⊢
   omega
  ·have:=hint (.inr (.inl e))
   rw [hnone (by omega) (by omega)]
   simp [defOf,minOf,headLen,e] at this ⊢
   omega
  ·have hd : defKids r = r.kids:=by unfold defKids; rw [if_pos (.inl e)]
   rw [hd] at hsum
   rw [hd]
   have h1 : defOf zs r = sumT zs r.kids:=by simp [defOf,minOf,e]
   have h2 : headLen rs r (defBytes r) = 0:=by simp [headLen,e]
   rw [h1,h2]
   push_cast
   omega
  ·have hd : defKids r = [r.kids.getD 1 0]:=by unfold defKids; rw [if_neg (by omega),if_pos e]
   have h3:=hint (.inr (.inr e))
   rw [hd] at hsum
   rw [hd]
   have h1 : defOf zs r = tabAt zs (r.kids.getD 0 0) + tabAt zs (r.kids.getD 1 0):=by unfold defOf; rw [if_pos e]
   have h2 : headLen rs r (defBytes r) = (ruleAt rs (r.kids.getD 0 0)).size.toNat:=by unfold headLen; rw [if_neg (by omega),if_neg (by omega),if_neg (by omega),if_neg (by omega),if_pos (by omega)]
   have h4 : sumT zs [r.kids.getD 1 0] = tabAt zs (r.kids.getD 1 0):=by simp [sumT]
   rw [h4] at hsum
   rw [h1,h2]
   push_cast
   omega
  ·rw [hnone (by omega) (by omega)]
   simp [defOf,minOf,headLen,e]
  ·obtain ⟨m,hm,-⟩:=h9 e
   have hd : defKids r = r.kids:=by unfold defKids; rw [if_pos (.inr e)]
   rw [hd,hm] at hsum
   rw [hd,hm]
   have h1 : defOf zs r = tabAt zs (m : Int) + 1:=by simp [defOf,minOf,e,hm]
   have h2 : headLen rs r (defBytes r) = 1:=by simp [headLen,e]
   have h4 : sumT zs [(m : Int)] = tabAt zs (m : Int):=by simp [sumT]
   rw [h4] at hsum
   rw [h1,h2]
   push_cast
   omega
  ·have hd : defBytes r = []:=by unfold defBytes; rw [if_neg (by omega)]
   rw [hnone (by omega) (by omega),hd]
   simp [defOf,minOf,headLen,e,escLen]
end Go.Proofs.YtfmnjclnhppghaaGreat
