/- What was printed is read back; what was. -/
import Derived.Test.YtfmnjclnhppghaaGreatEM7
import Derived.Test.YtfmnjclnhppghaaGreatEQE
import Derived.Test.YtfmnjclnhppghaaGreatEM1
import Derived.Test.YtfmnjclnhppghaaGreatESItems11
import Derived.Test.YtfmnjclnhppghaaGreatEQW
import Derived.Test.YtfmnjclnhppghaaGreatEQL
namespace Go.Proofs.YtfmnjclnhppghaaGreat
open Go Go.RowKit
theorem readB_beB9 (m : Nat) : ∀ (S k : Nat),readB (beB m S) k = k * 256 ^ S + m % 256 ^ S
 | 0,k => by simp [beB,readB,Nat.mod_one]
 | S + 1,k => by
  have e0 : m % 256 ^ (S + 1) = m % 256 ^ S + 256 ^ S * (m / 256 ^ S % 256):=by rw [Nat.pow_succ,Nat.mod_mul]
  have e1 : k * 256 ^ (S + 1) = k * 256 * 256 ^ S:=by rw [Nat.pow_succ,Nat.mul_comm (256 ^ S) 256,Nat.mul_assoc]
  rw [beB,readB,readB_beB9 m S,UInt8.toNat_ofNat',e0,e1,Nat.add_mul,show (2 : Nat) ^ 8 = 256 from rfl,Nat.mul_comm (m / 256 ^ S % 256)]
  omega
theorem read_enc9 {little : Bool} {x s : Int} (h1 : 1 ≤ s) (h4 : s ≤ 4) (h0 : 0 ≤ x) (hx : x ≤ pow256 s - 1) : (readI (encI little x s) little : Int) = x:=by
 have hl:=enc_len (little:=little) h1 h4 h0 hx
 have hp:=pow_eq h1 h4
 obtain ⟨S,rfl⟩ : ∃ S : Nat,s = (S : Int):=⟨s.toNat,by omega⟩
 obtain ⟨m,rfl⟩ : ∃ m : Nat,x = (m : Int):=⟨x.toNat,by omega⟩
 rw [Int.toNat_natCast] at hl hp
 have hm : m < 256 ^ S:=by
  have h2 : ((m : Nat) : Int) < (256 : Int) ^ S:=by omega
  have h3 : ((256 ^ S : Nat) : Int) = (256 : Int) ^ S:=Int.natCast_pow 256 S
  omega
 have e : beOf (m : Int) (S : Int) = beB m S:=by
  unfold beOf
  rw [Int.toNat_natCast,Int.toNat_natCast,if_pos ⟨h1,h4,h0,by omega⟩]
 have hr : readB (beB m S) 0 = m:=by rw [readB_beB9,Nat.zero_mul,Nat.zero_add,Nat.mod_eq_of_lt hm]
 unfold readI
 rw [if_neg (by omega)]
 unfold encI orderB
 rw [e]
 cases little <;> simp [hr]
theorem drop_len {L A R : List UInt8} {p : Nat} (h : L.drop p = A ++ R) (hp : p ≤ L.length) : p + A.length ≤ L.length:=by
 have:=congrArg List.length h
 rw [List.length_drop,List.length_append] at this
 omega
theorem drop_next {L A R : List UInt8} {p : Nat} (h : L.drop p = A ++ R) : L.drop (p + A.length) = R:=by
 rw [← List.drop_drop,h]
 simp
theorem drop_take {L A R : List UInt8} {p : Nat} (h : L.drop p = A ++ R) : (L.drop p).take A.length = A:=by
 rw [h]; simp
theorem gotInt_enc {r : RuleV} {L R : List UInt8} {p : Nat} {x : Int} (h1 : 1 ≤ r.size) (h4 : r.size ≤ 4) (h0 : 0 ≤ x) (hx : x ≤ pow256 r.size - 1) (hp : p ≤ L.length) (h : L.drop p = encI r.little x r.size ++ R) :
  gotInt r L p = .ok x (p + (encI r.little x r.size).length):=by
 have hl : (encI r.little x r.size).length = r.size.toNat:=encI_length h1 h4 h0 (by rw [pow_eq h1 h4]; omega)
 have h2:=drop_len h hp
 have h3:=drop_take h
 unfold gotInt
 rw [if_neg (by omega),← hl,h3,read_enc9 h1 h4 h0 hx]
theorem gotConst_enc (p : Nat) : ∀ (cs R : List UInt8) (i : Nat),gotConst p cs (cs ++ R) i = .ok (.mk 0 [] []) (p + i + cs.length)
 | [],R,i => by rw [gotConst]; rfl
 | c :: cs,R,i => by
  rw [List.cons_append,gotConst,if_pos rfl,gotConst_enc p cs R (i + 1)]
  congr 1
  rw [List.length_cons]; omega
theorem gotBytes_enc {L R b : List UInt8} {p : Nat} (hp : p ≤ L.length) (h : L.drop p = b ++ R) : gotBytes L p b.length = .ok (.mk 0 b []) (p + b.length):=by
 have h2:=drop_len h hp
 unfold gotBytes
 rw [if_neg (by omega),drop_take h]
theorem termR_enc {t : UInt8} (ht : t ≠ 92) : ∀ (b R : List UInt8),termR t (escB t b ++ [t] ++ R) false = some (b,(escB t b).length + 1)
 | [],R => by simp [escB,termR]
 | c :: b,R => by
  have ih:=termR_enc ht b R
  rw [escB]
  by_cases hc : c = t ∨ c = 92
  ·rw [if_pos hc]
   simp only [List.cons_append,List.nil_append]
   rw [termR,if_neg (fun h => ht h.2.symm),if_pos ⟨rfl,rfl⟩,termR,if_neg (by simp),if_neg (by simp),ih]
   simp
  ·rw [if_neg hc]
   simp only [List.cons_append,List.nil_append]
   rw [termR,if_neg (fun h => hc (.inl h.2)),if_neg (fun h => hc (.inr h.2)),ih]
   simp
theorem gotItems_enc {rs : List RuleV} {r : RuleV} {x : Int} {L : List UInt8} {rd : Int → Nat → Got ValueV} : ∀ (l acc : List ValueV) (p : Nat) (R : List UInt8),
  (∀ q (h : q < l.length) (p : Nat) (R : List UInt8),p ≤ L.length → L.drop p = encV rs (itemR r x ((acc.length + q : Nat) : Int).toNat) l[q] ++ R → rd (itemR r x (acc.length + q)) p = .ok l[q] (p + (encV rs (itemR r x (acc.length + q)) l[q]).length)) →
  p ≤ L.length → L.drop p = encs rs r x acc.length l ++ R → gotItems rd r x l.length acc p = .ok (acc ++ l) (p + (encs rs r x acc.length l).length)
 | [],acc,p,R,_,_,_ => by simp [gotItems,encs]
 | v :: l,acc,p,R,hrd,hp,h => by
  rw [encs,List.append_assoc] at h
  have h0:=hrd 0 (by simp) p _ hp (by simpa using h)
  simp only [Nat.add_zero,List.getElem_cons_zero] at h0
  rw [List.length_cons,gotItems,h0]
  simp only
  have h2:=drop_next h
  have h3:=drop_len h hp
  have hl : (acc ++ [v]).length = acc.length + 1:=by simp
  rw [gotItems_enc (rs:=rs) (L:=L) l (acc ++ [v]) _ R (fun q hq p R hp h => ?_) h3 (by rw [h2,hl])]
  ·rw [hl,encs,List.length_append,List.append_assoc,List.singleton_append,Nat.add_assoc]
  ·have h4:=hrd (q + 1) (by simpa using hq) p R hp
   rw [hl] at h ⊢
   rw [show acc.length + 1 + q = acc.length + (q + 1) from by omega] at h ⊢
   simp only [List.getElem_cons_succ] at h4
   exact h4 h
theorem kindI_term {rs : List RuleV} {r : RuleV} (h : kindI rs r = true) (hk : r.kind = 10) : r.bytes.getD 0 0 ≠ 92:=by
 simp [kindI,meetsB,hk,termB] at h
 cases hb : r.bytes with
 | nil => simp
 | cons b bs =>
  have:=h.1.2
  rw [hb] at this
  simpa using this
theorem tag_in {x : Int} : ∀ {ts ks : List Int},0 ≤ tagKid ts ks x → x ∈ ts
 | [],ks,h => by cases ks <;> (simp [tagKid] at h)
 | t :: ts,[],h => by simp [tagKid] at h
 | t :: ts,k :: ks,h => by
  unfold tagKid at h
  by_cases e : t = x
  ·simp [e]
  ·rw [if_neg e] at h
   exact List.mem_cons_of_mem _ (tag_in h)
theorem choice_num {rs : List RuleV} (hall : allV (kindI rs) rs) {k : Nat} (hk : k < rs.length) (e : rs[k].kind = 7) {v : ValueV} (h : ownB rs rs[k] v = true) : 0 ≤ v.number ∧ v.number ≤ limitAt rs (rs[k].kids.getD 0 0):=by
 have hki:=allV_kind hall hk
 simp only [ownB,e,Int.reduceEq,reduceIte,Bool.and_eq_true,decide_eq_true_eq] at h
 obtain ⟨-,-,h4⟩:=h
 unfold itemR at h4
 rw [if_neg (by omega),if_neg (by omega),if_pos e] at h4
 have hm:=tag_in h4
 simp [kindI,meetsB,e] at hki
 have h1:=hki.1
 unfold tagsB at h1
 rw [Bool.and_eq_true] at h1
 have h12 : rs[k].kids.headD 0 = rs[k].kids.getD 0 0:=by cases rs[k].kids <;> rfl
 rw [h12] at h1
 exact tagsOk_in h1.2 _ hm
theorem own_val {v : ValueV} {n : Int} {b : List UInt8} {l : List ValueV} (h1 : v.number = n) (h2 : v.bytes = b) (h3 : v.items = l) : v = .mk n b l:=by
 cases v with
 | mk n' b' l' =>
  subst h1 h2 h3
  rfl
theorem nil_of {α : Type} {l : List α} (h : l.length = 0) : l = []:=List.eq_nil_of_length_eq_zero h
theorem parse_enc {rs : List RuleV} (hall : allV (kindI rs) rs) : ∀ (n k : Nat) (_ : k < rs.length) (_ : k < n) (v : ValueV) (_ : validV rs (k : Int) v = true) (L R : List UInt8) (p : Nat) (_ : p ≤ L.length) (_ : L.drop p = encV rs (k : Int) v ++ R),
  parseB rs L n (k : Int) p = .ok v (p + (encV rs (k : Int) v).length)
 | 0,_,_,h,_,_,_,_,_,_,_ => by omega
 | n + 1,k,hk,hn,v,hv,L,R,p,hp,h => by
  obtain ⟨hown,hit⟩:=items_of hall hk hv
  have hki:=allV_kind hall hk
  have hkn:=kindI_known hki
  rw [encV_eq,ruleAt_at hk] at h ⊢
  have hits : ∀ (p : Nat) (R : List UInt8),p ≤ L.length → L.drop p = encs rs rs[k] v.number 0 v.items ++ R → gotItems (parseB rs L n) rs[k] v.number v.items.length [] p = .ok v.items (p + (encs rs rs[k] v.number 0 v.items).length):=fun p R hp h => by
   have h9:=gotItems_enc (rs:=rs) (r:=rs[k]) (x:=v.number) (L:=L) (rd:=parseB rs L n) v.items [] p R (fun q hq p R hp h => by
    obtain ⟨m,hm,hmk,hvi⟩:=hit q hq
    simp only [List.length_nil,Nat.zero_add,Int.toNat_natCast] at h ⊢
    rw [hm] at h ⊢
    exact parse_enc hall n m (by omega) (by omega) _ hvi L R p hp h) hp h
   simpa using h9
  rw [parseB,ruleAt_at hk]
  rcases (by omega : rs[k].kind = 1 ∨ rs[k].kind = 2 ∨ rs[k].kind = 3 ∨ rs[k].kind = 4 ∨ rs[k].kind = 5 ∨ rs[k].kind = 6 ∨ rs[k].kind = 7 ∨ rs[k].kind = 8 ∨ rs[k].kind = 9 ∨ rs[k].kind = 10) with e | e | e | e | e | e | e | e | e | e
  ·have h1:=kindI_size hki e
   simp only [ownB,e,Int.reduceEq,reduceIte,Bool.and_eq_true,decide_eq_true_eq] at hown
   obtain ⟨h2,h3,h4⟩:=hown
   rw [if_pos e]
   rw [wrap_1 e] at h ⊢
   rw [gotInt_enc h1.1 h1.2 h2.1 h2.2 hp h]
   rw [own_val (v:=v) rfl (nil_of h3) (nil_of h4)]
   rfl
  ·simp only [ownB,e,Int.reduceEq,reduceIte,Bool.and_eq_true,decide_eq_true_eq] at hown
   obtain ⟨h2,h3,h4⟩:=hown
   rw [if_neg (by omega),if_pos e]
   rw [wrap_2 e] at h ⊢
   rw [h,gotConst_enc,own_val (v:=v) h2 (nil_of h3) (nil_of h4)]
   rfl
  ·simp only [ownB,e,Int.reduceEq,reduceIte,Bool.and_eq_true,decide_eq_true_eq] at hown
   obtain ⟨h2,h3,h4⟩:=hown
   rw [if_neg (by omega),if_neg (by omega),if_pos e]
   rw [wrap_3 e] at h ⊢
   rw [show rs[k].size.toNat = v.bytes.length from by omega,gotBytes_enc hp h,← own_val (v:=v) h2 rfl (nil_of h4)]
  ·obtain ⟨hm1,m,hm,hmk⟩:=kid_int hall hk (by omega)
   have hmr : m < rs.length:=by omega
   have hlim:=kid_limit hall hk (by omega)
   rw [hm] at hm1 hlim
   rw [ruleAt_at hmr] at hm1
   have h1:=kindI_size (allV_kind hall hmr) hm1
   rw [limitAt_in hmr,if_pos ⟨hm1,h1⟩] at hlim
   simp only [ownB,e,Int.reduceEq,reduceIte,Bool.and_eq_true,decide_eq_true_eq] at hown
   obtain ⟨h2,h3,h4⟩:=hown
   rw [hm,limitAt_in hmr,if_pos ⟨hm1,h1⟩] at h3
   rw [if_neg (by omega),if_neg (by omega),if_neg (by omega),if_neg (by omega),if_neg (by omega),if_neg (by omega),if_neg (by omega),hm,ruleAt_at hmr]
   rw [wrap_4 hmr hm e] at h ⊢
   rw [List.append_assoc] at h
   rw [gotInt_enc h1.1 h1.2 (by omega) (by omega) hp h]
   simp only
   rw [if_neg (by omega),if_pos e,Int.toNat_natCast,gotBytes_enc (drop_len h hp) (drop_next h),List.length_append,← Nat.add_assoc,← own_val (v:=v) h2 rfl (nil_of h4)]
  ·obtain ⟨hm1,m,hm,hmk⟩:=kid_int hall hk (by omega)
   have hmr : m < rs.length:=by omega
   rw [hm,ruleAt_at hmr] at hm1
   have h1:=kindI_size (allV_kind hall hmr) hm1
   simp only [ownB,e,Int.reduceEq,reduceIte,Bool.and_eq_true,decide_eq_true_eq] at hown
   obtain ⟨h2,h3,h4⟩:=hown
   rw [hm,limitAt_in hmr,if_pos ⟨hm1,h1⟩] at h4
   rw [if_neg (by omega),if_neg (by omega),if_neg (by omega),if_neg (by omega),if_neg (by omega),if_neg (by omega),if_neg (by omega),hm,ruleAt_at hmr]
   rw [wrap_5 hmr hm e] at h ⊢
   rw [List.append_assoc] at h
   rw [gotInt_enc h1.1 h1.2 (by omega) (by omega) hp h]
   simp only
   have h8:=hits _ R (drop_len h hp) (drop_next h)
   rw [h2] at h8
   rw [if_neg (by omega),if_neg (by omega),if_neg (by omega),Int.toNat_natCast,h2,h8,List.length_append,← Nat.add_assoc]
   conv => rhs; rw [own_val (v:=v) h2 (nil_of h3) rfl]
   rfl
  ·simp only [ownB,e,Int.reduceEq,reduceIte,Bool.and_eq_true,decide_eq_true_eq] at hown
   obtain ⟨h2,h3,h4⟩:=hown
   rw [if_neg (by omega),if_neg (by omega),if_neg (by omega),if_neg (by omega),if_pos e]
   rw [wrap_6 e] at h ⊢
   have h8:=hits _ R hp h
   rw [h2] at h8 ⊢
   rw [← h4,h8]
   conv => rhs; rw [own_val (v:=v) h2 (nil_of h3) rfl]
   rfl
  ·obtain ⟨hm1,m,hm,hmk⟩:=kid_int hall hk (by omega)
   have hmr : m < rs.length:=by omega
   rw [hm,ruleAt_at hmr] at hm1
   have h1:=kindI_size (allV_kind hall hmr) hm1
   have hnum:=choice_num hall hk e hown
   rw [hm,limitAt_in hmr,if_pos ⟨hm1,h1⟩] at hnum
   simp only [ownB,e,Int.reduceEq,reduceIte,Bool.and_eq_true,decide_eq_true_eq] at hown
   obtain ⟨h2,h3,h4⟩:=hown
   rw [if_neg (by omega),if_neg (by omega),if_neg (by omega),if_neg (by omega),if_neg (by omega),if_neg (by omega),if_neg (by omega),hm,ruleAt_at hmr]
   rw [wrap_7 hmr hm e] at h ⊢
   rw [List.append_assoc] at h
   rw [gotInt_enc h1.1 h1.2 (by omega) (by omega) hp h]
   simp only
   have h8:=hits _ R (drop_len h hp) (drop_next h)
   rw [h3] at h8
   rw [if_pos e,if_neg (by omega),h8,List.length_append,← Nat.add_assoc]
   conv => rhs; rw [own_val (v:=v) rfl (nil_of h2) rfl]
   rfl
  ·simp only [ownB,e,Int.reduceEq,reduceIte,Bool.and_eq_true,decide_eq_true_eq] at hown
   obtain ⟨h2,h3,h4⟩:=hown
   rw [if_neg (by omega),if_neg (by omega),if_neg (by omega),if_neg (by omega),if_neg (by omega),if_pos e]
   rw [wrap_8 e] at h ⊢
   rw [List.append_assoc] at h
   have hp1:=drop_len h hp
   have hc : L[p]? = some (UInt8.ofNat v.items.length):=by
    have:=congrArg (fun l => l[0]?) h
    simpa using this
   have hcn : (UInt8.ofNat v.items.length).toNat = v.items.length:=by rw [UInt8.toNat_ofNat']; omega
   rw [hc]
   simp only
   have h8:=hits _ R hp1 (drop_next h)
   rw [h2] at h8 ⊢
   simp only [List.length_cons,List.length_nil,Nat.zero_add] at h8
   rw [hcn,if_neg (by omega),h8,List.length_append,← Nat.add_assoc]
   conv => rhs; rw [own_val (v:=v) h2 (nil_of h3) rfl]
   rfl
  ·simp only [ownB,e,Int.reduceEq,reduceIte,Bool.and_eq_true,decide_eq_true_eq] at hown
   obtain ⟨h2,h3,h4⟩:=hown
   rw [if_neg (by omega),if_neg (by omega),if_neg (by omega),if_neg (by omega),if_neg (by omega),if_neg (by omega),if_pos e]
   rw [wrap_9 e] at h ⊢
   rw [List.append_assoc] at h
   have h8:=hits _ _ hp h
   have h9:=drop_next h
   have hq:=drop_len h hp
   have ht:=drop_take h
   rw [h2] at h8 h9 hq ht ⊢
   rw [h4] at h8
   rw [h8]
   have hc : L[p + (encs rs rs[k] 0 0 v.items).length]? = some (UInt8.ofNat (sumB (encs rs rs[k] 0 0 v.items) 0)):=by
    have:=congrArg (fun l => l[0]?) h9
    simpa using this
   unfold gotSum
   simp only
   rw [hc]
   simp only
   rw [Nat.add_sub_cancel_left,ht,if_pos (by rw [UInt8.toNat_ofNat']; exact Nat.mod_eq_of_lt (sumB_lt _ _ (by omega)))]
   rw [List.length_append]
   conv => rhs; rw [own_val (v:=v) h2 (nil_of h3) rfl]
   rfl
  ·simp only [ownB,e,Int.reduceEq,reduceIte,Bool.and_eq_true,decide_eq_true_eq] at hown
   obtain ⟨h2,h3,h4⟩:=hown
   have ht:=kindI_term hki e
   rw [if_neg (by omega),if_neg (by omega),if_neg (by omega),if_pos e]
   rw [wrap_10 e,nil_of h4] at h ⊢
   rw [encs,List.nil_append] at h ⊢
   unfold gotTerm
   rw [h,termR_enc ht]
   simp only
   rw [List.length_append]
   conv => rhs; rw [own_val (v:=v) h2 rfl (nil_of h4)]
   rfl
end Go.Proofs.YtfmnjclnhppghaaGreat
/- What reading a whole file gives; an item in a block of its own. -/
namespace Go.Proofs.YtfmnjclnhppghaaGreat
open Go Go.RowKit
noncomputable def fileG (rs : List RuleV) (L : List UInt8) : Got ValueV :=
 match readG rs ((rs.length : Int) - 1) L 0 with
 | .bad q c => .bad q c
 | .ok v q => if q < L.length then .bad q 7 else .ok v q
noncomputable def fileB (rs : List RuleV) (L : List UInt8) : Bool:=match fileG rs L with | .ok _ _ => true | .bad _ _ => false
theorem readG_code {rs : List RuleV} {k x : Int} {L : List UInt8} {q c : Nat} (h : readG rs k L x = .bad q c) : 1 ≤ c ∧ c ≤ 8:=by
 unfold readG at h
 split at h
 ·rename_i hall
  obtain ⟨h1,h2,h3,h4⟩:=hall
  obtain ⟨⟨h0,h0'⟩,-,hv⟩:=okAt_yes h1
  have hf:=parse_fine hv L rs.length k.toNat (by omega) (by omega) x.toNat (by omega)
  rw [show ((k.toNat : Nat) : Int) = k from by omega,h] at hf
  obtain ⟨-,h5,h6⟩:=hf
  omega
 ·injection h with h1 h2
  omega
theorem fileG_code {rs : List RuleV} {L : List UInt8} {q c : Nat} (h : fileG rs L = .bad q c) : 1 ≤ c ∧ c ≤ 8:=by
 unfold fileG at h
 cases hr : readG rs ((rs.length : Int) - 1) L 0 with
 | bad q' c' =>
  rw [hr] at h
  injection h with h1 h2
  subst h2
  exact readG_code hr
 | ok v q' =>
  rw [hr] at h
  simp only at h
  split at h
  ·injection h with h1 h2; omega
  ·cases h
def VAt (wr : World) (cs : List Value) (N : Nat) (W : World) : Prop:=wr.heap.size ≤ N ∧ CellsAt N cs W ∧ Below wr.heap.size wr W
theorem vat_new {wr w6 : World} {cs : List Value} (hb : Below wr.heap.size wr w6) (t : TypeId) : VAt wr cs w6.heap.size (w6.alloc (.cells cs.toArray t)):=by
 have hb2 : Below w6.heap.size w6 (w6.alloc (.cells cs.toArray t)):=(Below.refl _ _).alloc (Nat.le_refl _) _
 exact ⟨hb.size,CellsAt.new w6 cs t,hb.trans (hb2.mono hb.size)⟩
theorem vat_set {N : Nat} {wr w6 : World} {d0 d1 d2 c0 c1 c2 : Value} (hNw : wr.heap.size ≤ N) (hz : CellsAt N [d0,d1,d2] w6) (hb : Below wr.heap.size wr w6) :
  VAt wr [c0,c1,c2] N (((w6.setCell ⟨N,0,none⟩ c0).setCell ⟨N,1,none⟩ c1).setCell ⟨N,2,none⟩ c2):=by
 have hc:=((hz.set 0 c0 (by simp)).set 1 c1 (by simp)).set 2 c2 (by simp)
 simp only [List.set] at hc
 exact ⟨hNw,hc,below3 hb hNw _ _ _⟩
end Go.Proofs.YtfmnjclnhppghaaGreat
/- Smallest files,as data: of a short description's default value. No program is walked here. -/
namespace Go.Proofs.YtfmnjclnhppghaaGreat
open Go Go.RowKit
theorem defV_made {rs : List RuleV} (hall : allV (kindI rs) rs) : ∀ (n k : Nat),k < rs.length → k < n → MadeVal rs k (defV rs n (k : Int))
 | 0,k,_,h => by omega
 | n + 1,k,hk,hn => by
  have hki:=allV_kind hall hk
  have hv:=defV_valid hall (n + 1) k hk hn
  rw [defV_eq rs n hk] at hv ⊢
  have ho:=hv
  rw [validV_eq,ruleAt_at hk,Bool.and_eq_true] at ho
  have htg : rs[k].kind = 7 → tagKid rs[k].tags (rs[k].kids.drop 1) (rs[k].tags.getD 0 0) = rs[k].kids.getD 1 0:=fun h7 => by
   obtain ⟨h1,h2,h3⟩:=kindI_7 hki h7
   have h4:=tagKid_head (ts:=rs[k].tags) (ks:=rs[k].kids.drop 1) (by omega) (by rw [List.length_drop]; omega)
   rw [h4]
   simp [List.getD]
  refine made_node hall hk ho.1 ?_ ?_ fun q hq => ?_
  ·show (defBytes rs[k]).length ≤ 64
   unfold defBytes
   split
   ·rename_i h3
    have:=kindI_3 hki h3
    rw [List.length_replicate]; omega
   ·simp
  ·show ((defKids rs[k]).map (defV rs n)).length ≤ 8
   rw [List.length_map]; exact defKids_len hki
  ·have hq' : q < (defKids rs[k]).length:=by
    have : q < ((defKids rs[k]).map (defV rs n)).length:=hq
    simpa using this
   have hqm : q < ((defKids rs[k]).map (defV rs n)).length:=hq
   have hk2:=allV_kids hall hk _ (defKids_mem hki _ (List.getElem_mem hq'))
   obtain ⟨m,hm⟩ : ∃ m : Nat,(defKids rs[k])[q] = (m : Int):=⟨(defKids rs[k])[q].toNat,by omega⟩
   rw [hm] at hk2
   refine ⟨m,?_,by omega,?_⟩
   ·exact (def_item hki htg hq').trans hm
   ·show MadeVal rs m (((defKids rs[k]).map (defV rs n))[q]'hqm)
    rw [List.getElem_map,hm]
    exact defV_made hall n m (by omega) (by omega)
theorem defD_made {rs : List RuleV} {k : Nat} (hok : okAt rs (k : Int) = true) : k < rs.length ∧ MadeVal rs k (defD rs (k : Int)):=by
 obtain ⟨⟨h0,h1⟩,-,hall⟩:=okAt_yes hok
 have hk : k < rs.length:=by omega
 refine ⟨hk,?_⟩
 unfold defD
 rw [if_pos hok]
 have e : ((k : Int)).toNat + 1 = k + 1:=by omega
 rw [e]
 exact defV_made hall (k + 1) k hk (by omega)
theorem defD_len {rs : List RuleV} {k : Nat} (hok : okAt rs (k : Int) = true) (hk : k < 6) : plen rs (k : Int) (defD rs (k : Int)) ≤ 106288200:=by
 have h:=(defD_made hok).2.2
 have h2 : 200 * 9 ^ (k + 1) ≤ 200 * 9 ^ 6:=Nat.mul_le_mul_left _ (Nat.pow_le_pow_right (by omega) (by omega))
 omega
theorem small_file {rs : List RuleV} {k : Nat} (hok : okAt rs (k : Int) = true) (hk : k + 1 = rs.length) (hp : printB rs (k : Int) (defD rs (k : Int)) = true) :
  fileB rs (encV rs (k : Int) (defD rs (k : Int))) = true ∧ sizeD minStep rs (k : Int) ≤ ((encV rs (k : Int) (defD rs (k : Int))).length : Int) ∧ (encV rs (k : Int) (defD rs (k : Int))).length ≤ 400:=by
 obtain ⟨⟨h0,h1⟩,-,hall⟩:=okAt_yes hok
 obtain ⟨hkl,hv,-⟩:=defD_made hok
 have hel:=encV_length hall k hkl _ hv
 unfold printB at hp
 rw [Bool.and_eq_true] at hp
 have h4:=of_decide_eq_true hp.2
 have hlow:=plen_low hall k hkl _ hv
 generalize defD rs (k : Int) = v at hv hel h4 hlow ⊢
 have h400 : (encV rs (k : Int) v).length ≤ 400:=by omega
 refine ⟨?_,by rw [sizeD_yes hok,hel]; exact hlow,h400⟩
 have hr : readG rs (k : Int) (encV rs (k : Int) v) 0 = .ok v (0 + (encV rs (k : Int) v).length):=by
  unfold readG
  rw [if_pos ⟨hok,by omega,by omega,h400⟩]
  exact parse_enc hall rs.length k (by omega) (by omega) v hv _ [] 0 (by omega) (by simp)
 unfold fileB fileG
 rw [show (rs.length : Int) - 1 = (k : Int) from by omega,hr]
 simp
end Go.Proofs.YtfmnjclnhppghaaGreat
