/- The program's readValue at every height. -/
import Derived.Test.YtefkhknfjohnaaaGreatDoorEIHeaded
set_option maxRecDepth 100000
set_option maxHeartbeats 8000000
namespace Go.Proofs.YtefkhknfjohnaaaGreatDoor
open Go Go.RowKit
theorem readI_one (c : UInt8) : readI [c] false = c.toNat:=by
 unfold readI orderB
 simp [readB]
theorem flag_int (L : List UInt8) (p : Nat) : gotInt flagR L p = match L[p]? with | none => .bad p 1 | some c => .ok (c.toNat : Int) (p + 1):=by
 unfold gotInt
 rw [show flagR.size.toNat = 1 from rfl,show flagR.little = false from rfl]
 by_cases h : p < L.length
 ·rw [if_neg (by omega),List.getElem?_eq_getElem h,List.drop_eq_getElem_cons h,List.take_succ_cons,List.take_zero,readI_one]
 ·rw [if_pos (by omega),List.getElem?_eq_none (by omega)]
theorem parse_head {rs : List RuleV} {L : List UInt8} {n k p : Nat} (hk : k < rs.length) (h : rs[k].kind = 4 ∨ rs[k].kind = 5 ∨ rs[k].kind = 7) : parseB rs L (n + 1) (k : Int) p = headB rs L n rs[k] (ruleAt rs (rs[k].kids.getD 0 0)) p:=by
 rw [parseB,ruleAt_at hk]
 rw [if_neg (by omega),if_neg (by omega),if_neg (by omega),if_neg (by omega),if_neg (by omega),if_neg (by omega),if_neg (by omega)]
 unfold headB
 cases gotInt (ruleAt rs (rs[k].kids.getD 0 0)) L p with
 | bad q c => rfl
 | ok x q =>
  simp only
  rcases h with h | h | h <;> simp [h]
theorem parse_flag {rs : List RuleV} {L : List UInt8} {n k p : Nat} (hk : k < rs.length) (h : rs[k].kind = 8) : parseB rs L (n + 1) (k : Int) p = headB rs L n rs[k] flagR p:=by
 rw [parseB,ruleAt_at hk]
 rw [if_neg (by omega),if_neg (by omega),if_neg (by omega),if_neg (by omega),if_neg (by omega),if_pos h]
 unfold headB
 rw [flag_int]
 cases L[p]? with
 | none => rfl
 | some c =>
  simp only
  simp only [h,Int.reduceEq,reduceIte,Int.toNat_natCast]
  by_cases hc : 1 < c.toNat
  ·rw [if_pos hc,if_pos (by omega)]
  ·rw [if_neg hc,if_neg (by omega)]
theorem num_in {Rb Z o j i : Nat} (h : AtN Rb Z o j i) : AtV Rb Z o j i:=by
 rcases h with h | h
 ·exact .inl h
 ·exact .inr ⟨h.1,by have:=h.2; omega,by have:=h.2; omega⟩
theorem place_num {Rb Z o : Nat} {c0 c1 c2 x : Value} {w w' : World} (h : PlacedAt Z o [c0,c1,c2] w) (ht : Turn (AtN Rb Z o) w w') (hne : Z ≠ Rb) (hx : w'.cell? ⟨Z,o,none⟩ = some x) (hf : w'.frozen? ⟨Z,o,none⟩ = false) : PlacedAt Z o [x,c1,c2] w':=fun i u hu => by
 have hn : 0 < i → ¬ AtN Rb Z o Z (o + i):=fun hi h => by
  rcases h with h | h
  ·exact hne h.1
  ·have:=h.2; omega
 match i,hu with
 | 0,hu =>
  injection hu with hu
  subst hu
  exact ⟨hx,hf⟩
 | 1,hu => exact ht.kept (hn (by omega)) (h 1 u hu)
 | 2,hu => exact ht.kept (hn (by omega)) (h 2 u hu)
theorem const_zero {p : Nat} : ∀ {cs ds : List UInt8} {i q : Nat} {v : ValueV},gotConst p cs ds i = .ok v q → v = .mk 0 [] []
 | [],ds,i,q,v,h => by rw [gotConst] at h; injection h with h1 h2; exact h1.symm
 | c :: cs,[],i,q,v,h => by rw [gotConst] at h; cases h
 | c :: cs,d :: ds,i,q,v,h => by
  rw [gotConst] at h
  split at h
  ·exact const_zero h
  ·cases h
theorem iread_H0 (kd : Int) (hcs : kd = 1 ∨ kd = 2 ∨ kd = 3 ∨ kd = 10 ∨ kd = 6 ∨ kd = 9 ∨ kd = 4 ∨ kd = 5 ∨ kd = 7 ∨ kd = 8) (w0 : World) (a ab : Option Addr) (rs : List RuleV) (cap cb : Nat) (L : List UInt8) (n : Nat) (hall : allV (kindI rs) rs) (ih : IItemsC w0 a ab rs cap cb L n) (hrd : RdR a rs w0) (k p Rb Z o : Nat) (w : World) (hk : k < rs.length) (hkn : k < n + 1) (hkd : rs[k].kind = kd)
  (hp : p ≤ L.length) (hS : Site w0 a ab rs.length cap cb L Rb Z o w) (hR : CellsAt Rb (rdCells a rs.length cap ab L.length cb p) w) (hz : PlacedAt Z o [.int .i64 0,.slice none 0 0,.slice none 0 0] w) :
  Calls Tryz.prog 124 #[.pointer (some ⟨Rb,0,none⟩),.int .i64 (k : Int),.pointer (some ⟨Z,o,none⟩)] w (GotAt a ab rs.length cap cb L.length Rb Z o (n + 1) (parseB rs L (n + 1) (k : Int) p) w):=by
 have hki:=allV_kind hall hk
 obtain ⟨b0,off,a4,c4,a5,c5,a6,c6,a7,c7,rfl,⟨d0,d1,d2,d3,d4,d5,d6,d7⟩,r4,r5,r6,r7⟩:=(hrd.below hS.below).at k hk
 obtain ⟨b00,off0,cs0,hb00,hir0,hcc0⟩:=hrd k hk
 injection hb00 with hb00
 injection hb00 with e1 e2
 subst e1 e2
 have hbw:=hS.below
 have hcs : cs0 = [.string rs[k].name,.int .i64 rs[k].kind,.int .i64 rs[k].size,.bool rs[k].little,.slice a4 rs[k].bytes.length c4,.slice a5 rs[k].names.length c5,.slice a6 rs[k].tags.length c6,.slice a7 rs[k].kids.length c7]:=by
  obtain ⟨x4,y4,x5,y5,x6,y6,x7,y7,rfl,-,-,-,-⟩:=hir0
  have h4:=(cell_keepV hbw (hcc0 4 _ rfl)).symm.trans d4
  have h5:=(cell_keepV hbw (hcc0 5 _ rfl)).symm.trans d5
  have h6:=(cell_keepV hbw (hcc0 6 _ rfl)).symm.trans d6
  have h7:=(cell_keepV hbw (hcc0 7 _ rfl)).symm.trans d7
  injection h4 with h4
  injection h5 with h5
  injection h6 with h6
  injection h7 with h7
  rw [h4,h5,h6,h7]
 rw [hcs] at hir0
 clear hcs hcc0
 obtain ⟨r,hr⟩ : ∃ r,r = rs[k]:=⟨_,rfl⟩
 have HRK:=kq hr
 rw [← hr] at hkd hir0 hki d0 d1 d2 d3 d4 d5 d6 d7 r4 r5 r6 r7
 have HIR:=kq hir0
 have HKI:=kq hki
 have hZl : Z < w.heap.size:=hz.lt (by simp)
 have hRl : Rb < w.heap.size:=cell_lt (hR 0 _ rfl).1
 have hne:=hS.ne
 have hl:=hS.len
 obtain ⟨w1,hw1⟩ : ∃ w1,w1 = w.alloc (.cells #[.string r.name,.int .i64 r.kind,.int .i64 r.size,.bool r.little,.slice a4 r.bytes.length c4,.slice a5 r.names.length c5,.slice a6 r.tags.length c6,.slice a7 r.kids.length c7] 63):=⟨_,rfl⟩
 have hB : Below w.heap.size w w1:=by subst hw1; exact (Below.refl _ _).alloc (Nat.le_refl _) _
 have hC : CellsAt w.heap.size [.string r.name,.int .i64 r.kind,.int .i64 r.size,.bool r.little,.slice a4 r.bytes.length c4,.slice a5 r.names.length c5,.slice a6 r.tags.length c6,.slice a7 r.kids.length c7] w1:=by subst hw1; exact CellsAt.new w _ _
 have hT1 : Turn (AtV Rb Z o) w w1:=Turn.of_below _ hB
 have HT1:=kq hT1
 have HS1:=kq (hS.next hT1)
 have HR1:=kq (hR.below hB)
 have HZ1:=kq (hz.below hB)
 have HC:=kq hC
 have HW:=kq hw1
 have HRD:=kq hrd
 have HIT:=kq ih
 have HSL : Hid (w.heap.size < w1.heap.size):=by show _ < _; subst hw1; simp
 have c0:=(hR 0 _ rfl).1
 have k0' : (0 : Int) ≤ (k : Int):=by omega
 have k1' : (k : Int) < (rs.length : Int):=by omega
 have y0:=(hC 0 _ rfl).1
 have y1:=(hC 1 _ rfl).1
 have y2:=(hC 2 _ rfl).1
 have y3:=(hC 3 _ rfl).1
 have y4:=(hC 4 _ rfl).1
 have y5:=(hC 5 _ rfl).1
 have y6:=(hC 6 _ rfl).1
 have y7:=(hC 7 _ rfl).1
 have R4:=kq (r4.below hB)
 clear hB hC hT1 hw1 hrd hS hR hz r4 r5 r6 r7 hbw hir0
 rcases hcs with rfl | rfl | rfl | rfl | rfl | rfl | rfl | rfl | rfl | rfl
 ·have g1 : (r.kind == 1) = true:=by rw [hkd]; rfl
  have g2 : (r.kind == 2) = false:=by rw [hkd]; rfl
  have g3 : (r.kind == 3) = false:=by rw [hkd]; rfl
  have g10 : (r.kind == 10) = false:=by rw [hkd]; rfl
  have g6 : (r.kind == 6) = false:=by rw [hkd]; rfl
  have g9 : (r.kind == 9) = false:=by rw [hkd]; rfl
  have hpar:=parseB.eq_2 rs L (k : Int) p n
  rw [ruleAt_at hk,← HRK.out] at hpar
  rw [if_pos hkd] at hpar
  rw [hpar]
  clear hpar
  have hsz:=kindI_size hki hkd
  have HNUM : Hid (∀ W,Below w1.heap.size w1 W → Calls Tryz.prog 162 #[.pointer (some ⟨Rb,0,none⟩),.agg #[.string r.name,.int .i64 r.kind,.int .i64 r.size,.bool r.little,.slice a4 r.bytes.length c4,.slice a5 r.names.length c5,.slice a6 r.tags.length c6,.slice a7 r.kids.length c7],.pointer (some ⟨Z,o,none⟩)] W fun e w' => (match gotInt r L p with
    | .ok x q => e = .returned .nilIface ∧ CellsAt Rb (rdCells (some ⟨b0,off,none⟩) rs.length cap ab L.length cb q) w' ∧ w'.cell? ⟨Z,o,none⟩ = some (.int .i64 x)
    | .bad q c => e = .returned (RErr q c) ∧ ∃ x,w'.cell? ⟨Z,o,none⟩ = some x) ∧ w'.frozen? ⟨Z,o,none⟩ = false ∧ Turn (AtN Rb Z o) W w'):=fun W hb => by
   have hz0:=(HZ1.out.below hb) 0 _ rfl
   rw [Nat.add_zero] at hz0
   exact number_impl (some ⟨b0,off,none⟩) ab rs.length cap cb p Rb Z o L r _ (.int .i64 0) W (HR1.out.below hb) (HS1.out.srcAt.below hb) hl hp (HIR.out.below0 (HS1.out.below.trans (hb.mono HS1.out.below.size))) (by omega) hsz.2 hz0 hne fun w' ht => (HS1.out.next ((Turn.of_below (AtV Rb Z o) hb).trans ht fun _ _ _ h => .inl h)).srcAt
  have HW0 : Hid (Below w1.heap.size w1 w1.drew):=below_drewN (Below.refl _ w1) 1
  have hR1l : Rb < w1.heap.size:=Nat.lt_trans hRl HSL.out
  have hZ1l : Z < w1.heap.size:=Nat.lt_trans hZl HSL.out
  have HS9 : Hid (∀ W W',Below w1.heap.size w1 W → Turn (AtN Rb Z o) W W' → W'.cell? ⟨w.heap.size,0,none⟩ = some (.string r.name) ∧ W'.cell? ⟨w.heap.size,1,none⟩ = some (.int .i64 r.kind) ∧ W'.cell? ⟨w.heap.size,2,none⟩ = some (.int .i64 r.size) ∧ W'.cell? ⟨w.heap.size,3,none⟩ = some (.bool r.little) ∧ W'.cell? ⟨w.heap.size,4,none⟩ = some (.slice a4 r.bytes.length c4) ∧ W'.cell? ⟨w.heap.size,5,none⟩ = some (.slice a5 r.names.length c5) ∧ W'.cell? ⟨w.heap.size,6,none⟩ = some (.slice a6 r.tags.length c6) ∧ W'.cell? ⟨w.heap.size,7,none⟩ = some (.slice a7 r.kids.length c7)):=fun W W' hb ht => by
   have h2:=(HC.out.below hb).turn ht fun i _ h => by
    rcases h with h | h
    ·have:=h.1; omega
    ·have:=h.1; omega
   exact ⟨(h2 0 _ rfl).1,(h2 1 _ rfl).1,(h2 2 _ rfl).1,(h2 3 _ rfl).1,(h2 4 _ rfl).1,(h2 5 _ rfl).1,(h2 6 _ rfl).1,(h2 7 _ rfl).1⟩
  clear hr hkd hki hall ih hkn hsz
  cases hg : gotInt r L p with
  | bad q c =>
   rw [hg] at HNUM
   clear hg
   go_enter Tryz.func124,Tryz.ntmps124
   go_upto_region 2 with fail
   rw [← HW.out]
   clear HW d0 d1 d2 d3 d4 d5 d6 d7 c0
   go_upto_region 4 with fail
   go_region_held3 (fun W => W.cell? ⟨w.heap.size,0,none⟩ = some (.string r.name) ∧ W.cell? ⟨w.heap.size,1,none⟩ = some (.int .i64 r.kind) ∧ W.cell? ⟨w.heap.size,2,none⟩ = some (.int .i64 r.size) ∧ W.cell? ⟨w.heap.size,3,none⟩ = some (.bool r.little) ∧ W.cell? ⟨w.heap.size,4,none⟩ = some (.slice a4 r.bytes.length c4) ∧ W.cell? ⟨w.heap.size,5,none⟩ = some (.slice a5 r.names.length c5) ∧ W.cell? ⟨w.heap.size,6,none⟩ = some (.slice a6 r.tags.length c6) ∧ W.cell? ⟨w.heap.size,7,none⟩ = some (.slice a7 r.kids.length c7)) (first | exact HS9.out _ _ HW0.out (Turn.refl _ _) | exact HS9.out _ _ HW0.out ht6) ((go_at_call 162; refine (HNUM.out _ HW0.out).mono ?_; rintro e w6 ⟨⟨he6,x6,hx6⟩,hf6,ht6⟩; unfold RErr at he6; subst he6))
   have HT6:=kq ((Turn.of_below (AtN Rb Z o) HW0.out).trans ht6 fun _ _ _ h => h)
   have HX6:=kq hx6
   have HF6:=kq hf6
   clear ht6 hx6 hf6
   go_wp2
   go_ret
   refine ⟨⟨rfl,[x6,.slice none 0 0,.slice none 0 0],rfl,place_num HZ1.out HT6.out hne HX6.out HF6.out⟩,HT1.out.trans (HT6.out.mono fun j i _ h => ?_) fun _ _ _ h => h⟩
   exact num_in h
  | ok x q =>
   rw [hg] at HNUM
   clear hg
   go_enter Tryz.func124,Tryz.ntmps124
   go_upto_region 2 with fail
   rw [← HW.out]
   clear HW d0 d1 d2 d3 d4 d5 d6 d7 c0
   go_upto_region 4 with fail
   go_region_held3 (fun W => W.cell? ⟨w.heap.size,0,none⟩ = some (.string r.name) ∧ W.cell? ⟨w.heap.size,1,none⟩ = some (.int .i64 r.kind) ∧ W.cell? ⟨w.heap.size,2,none⟩ = some (.int .i64 r.size) ∧ W.cell? ⟨w.heap.size,3,none⟩ = some (.bool r.little) ∧ W.cell? ⟨w.heap.size,4,none⟩ = some (.slice a4 r.bytes.length c4) ∧ W.cell? ⟨w.heap.size,5,none⟩ = some (.slice a5 r.names.length c5) ∧ W.cell? ⟨w.heap.size,6,none⟩ = some (.slice a6 r.tags.length c6) ∧ W.cell? ⟨w.heap.size,7,none⟩ = some (.slice a7 r.kids.length c7)) (first | exact HS9.out _ _ HW0.out (Turn.refl _ _) | exact HS9.out _ _ HW0.out ht6) ((go_at_call 162; refine (HNUM.out _ HW0.out).mono ?_; rintro e w6 ⟨⟨rfl,hr6,hx6⟩,hf6,ht6⟩))
   have HT6:=kq ((Turn.of_below (AtN Rb Z o) HW0.out).trans ht6 fun _ _ _ h => h)
   have HX6:=kq hx6
   have HF6:=kq hf6
   have HR6:=kq hr6
   clear ht6 hx6 hf6 hr6
   go_wp2
   go_ret
   refine ⟨⟨rfl,HR6.out,[],_,leaf_tree (num:=x) (ai:=none) (c2:=0) (ab:=none) (c1:=0) (bs:=[]) ⟨Nat.le_refl _,fun _ => rfl⟩ (BytT.none0 _ none) (by simp),place_num HZ1.out HT6.out hne HX6.out HF6.out,fun b hb => by cases hb⟩,HT1.out.trans (HT6.out.mono fun j i _ h => ?_) fun _ _ _ h => h⟩
   exact num_in h
 ·have g1 : (r.kind == 1) = false:=by rw [hkd]; rfl
  have g2 : (r.kind == 2) = true:=by rw [hkd]; rfl
  have g3 : (r.kind == 3) = false:=by rw [hkd]; rfl
  have g10 : (r.kind == 10) = false:=by rw [hkd]; rfl
  have g6 : (r.kind == 6) = false:=by rw [hkd]; rfl
  have g9 : (r.kind == 9) = false:=by rw [hkd]; rfl
  have hpar:=parseB.eq_2 rs L (k : Int) p n
  rw [ruleAt_at hk,← HRK.out] at hpar
  rw [if_neg (by omega),if_pos hkd] at hpar
  rw [hpar]
  clear hpar
  have HLB:=kq (kindI_2 hki hkd)
  obtain ⟨G,hG⟩ : ∃ G,G = gotConst p r.bytes (L.drop p) 0:=⟨_,rfl⟩
  have hGv : ∀ v q,G = .ok v q → v = .mk 0 [] []:=fun v q h => const_zero (hG.symm.trans h)
  have HCI : Hid (Calls Tryz.prog 163 #[.pointer (some ⟨Rb,0,none⟩),.slice a4 r.bytes.length c4] w1 (ConstAt (some ⟨b0,off,none⟩) ab rs.length cap cb L.length Rb G w1)):=by
   rw [hG]
   exact const_impl (some ⟨b0,off,none⟩) ab a4 rs.length cap cb c4 p Rb L r.bytes w1 HS1.out.srcAt hl HR1.out hp R4.out (by have:=HLB.out; omega)
  rw [← hG]
  clear hG
  clear hr hkd hki hall ih hkn 
  cases G with
  | bad q c =>
   clear hGv
   go_enter Tryz.func124,Tryz.ntmps124
   go_upto_region 2 with fail
   rw [← HW.out]
   clear HW d0 d1 d2 d3 d4 d5 d6 d7 c0
   go_wp2_with ((go_at_call 163; refine HCI.out.mono ?_; rintro e w7 ⟨he7,ht7⟩; unfold RErr at he7; subst he7))
   try go_wp2
   go_ret
   exact ⟨⟨rfl,_,rfl,HZ1.out.kept ht7 fun i _ h => hne h.1⟩,HT1.out.trans (ht7.mono fun _ _ _ h => .inl h) fun _ _ _ h => h⟩
  | ok v q =>
   obtain rfl:=hGv v q rfl
   clear hGv
   go_enter Tryz.func124,Tryz.ntmps124
   go_upto_region 2 with fail
   rw [← HW.out]
   clear HW d0 d1 d2 d3 d4 d5 d6 d7 c0
   go_wp2_with ((go_at_call 163; refine HCI.out.mono ?_; rintro e w7 ⟨⟨rfl,hr7⟩,ht7⟩; skip))
   try go_wp2
   go_ret
   exact ⟨⟨rfl,hr7,[],_,leaf_tree (num:=0) (ai:=none) (c2:=0) (ab:=none) (c1:=0) (bs:=[]) ⟨Nat.le_refl _,fun _ => rfl⟩ (BytT.none0 _ none) (by simp),HZ1.out.kept ht7 fun i _ h => hne h.1,fun b hb => by cases hb⟩,HT1.out.trans (ht7.mono fun _ _ _ h => .inl h) fun _ _ _ h => h⟩
 ·have g1 : (r.kind == 1) = false:=by rw [hkd]; rfl
  have g2 : (r.kind == 2) = false:=by rw [hkd]; rfl
  have g3 : (r.kind == 3) = true:=by rw [hkd]; rfl
  have g10 : (r.kind == 10) = false:=by rw [hkd]; rfl
  have g6 : (r.kind == 6) = false:=by rw [hkd]; rfl
  have g9 : (r.kind == 9) = false:=by rw [hkd]; rfl
  have hpar:=parseB.eq_2 rs L (k : Int) p n
  rw [ruleAt_at hk,← HRK.out] at hpar
  rw [if_neg (by omega),if_neg (by omega),if_pos hkd] at hpar
  rw [hpar]
  clear hpar
  have hsz:=kindI_3 hki hkd
  obtain ⟨zz,hzz⟩ : ∃ zz : Nat,r.size = (zz : Int):=⟨r.size.toNat,by omega⟩
  have hzt : r.size.toNat = zz:=by omega
  have hzb : zz ≤ 64:=by omega
  rw [hzt]
  have HZZ:=kq hzz
  clear hr hkd hki hall ih hkn hsz hzz hzt
  go_enter Tryz.func124,Tryz.ntmps124
  go_upto_region 2 with fail
  rw [← HW.out]
  clear HW d0 d1 d2 d3 d4 d5 d6 d7 c0
  have hzz:=HZZ.out
  rw [hzz] at y2
  clear hzz
  go_wp2_with ((go_at_call 164; refine (content_impl w0 (some ⟨b0,off,none⟩) ab rs.length cap cb p zz Rb Z o n L w1 HS1.out HR1.out hp (by omega) HZ1.out).mono ?_; rintro e w7 h7; obtain ⟨v7,rfl⟩:=h7.ret; have H7:=kq (h7.later HT1.out); clear h7))
  try go_wp2
  go_ret
  exact H7.out
 ·have g1 : (r.kind == 1) = false:=by rw [hkd]; rfl
  have g2 : (r.kind == 2) = false:=by rw [hkd]; rfl
  have g3 : (r.kind == 3) = false:=by rw [hkd]; rfl
  have g10 : (r.kind == 10) = true:=by rw [hkd]; rfl
  have g6 : (r.kind == 6) = false:=by rw [hkd]; rfl
  have g9 : (r.kind == 9) = false:=by rw [hkd]; rfl
  have hpar:=parseB.eq_2 rs L (k : Int) p n
  rw [ruleAt_at hk,← HRK.out] at hpar
  rw [if_neg (by omega),if_neg (by omega),if_neg (by omega),if_pos hkd] at hpar
  rw [hpar]
  clear hpar
  have hlb:=kindI_10 hki hkd
  have hlb0 : 0 < r.bytes.length:=by omega
  obtain ⟨bt,ot,ha4,hct⟩:=R4.out 0 hlb0
  obtain ⟨t,ht⟩ : ∃ t,t = r.bytes[0]:=⟨_,rfl⟩
  have hgd : r.bytes.getD 0 0 = t:=by rw [ht]; simp [List.getD,List.getElem?_eq_getElem hlb0]
  rw [hgd]
  rw [← ht,Nat.add_zero] at hct
  subst ha4
  have l0 : (0 : Int) < (r.bytes.length : Int):=by omega
  clear hr hkd hki hall ih hkn hlb hgd ht
  go_enter Tryz.func124,Tryz.ntmps124
  go_upto_region 2 with fail
  rw [← HW.out]
  clear HW d0 d1 d2 d3 d4 d5 d6 d7 c0
  go_wp2_with ((go_at_call 165; refine (rterm_impl w0 (some ⟨b0,off,none⟩) ab rs.length cap cb p Rb Z o n t L w1 HS1.out HR1.out hp HZ1.out).mono ?_; rintro e w7 h7; obtain ⟨v7,rfl⟩:=h7.ret; have H7:=kq (h7.later HT1.out); clear h7))
  try go_wp2
  go_ret
  exact H7.out
 ·have g1 : (r.kind == 1) = false:=by rw [hkd]; rfl
  have g2 : (r.kind == 2) = false:=by rw [hkd]; rfl
  have g3 : (r.kind == 3) = false:=by rw [hkd]; rfl
  have g10 : (r.kind == 10) = false:=by rw [hkd]; rfl
  have g6 : (r.kind == 6) = true:=by rw [hkd]; rfl
  have g9 : (r.kind == 9) = false:=by rw [hkd]; rfl
  have hpar:=parseB.eq_2 rs L (k : Int) p n
  rw [ruleAt_at hk,← HRK.out] at hpar
  rw [if_neg (by omega),if_neg (by omega),if_neg (by omega),if_neg (by omega),if_pos hkd] at hpar
  rw [hpar]
  clear hpar
  have hlk:=(kindI_6 hki hkd).2.2
  have hitk : ∀ i,i < r.kids.length → ∃ q : Nat,kidI r 0 i = (q : Int) ∧ itemR r 0 i = (q : Int) ∧ q < rs.length ∧ q < n:=fun i hi => by
   have h0 : 0 ≤ itemR rs[k] 0 i:=items_there hall hk (m:=r.kids.length) hi (by rw [← HRK.out]; exact .inr (.inl ⟨hkd,rfl⟩))
   obtain ⟨q,hq,hqk⟩:=items_kid hall hk h0
   rw [← HRK.out] at hq
   refine ⟨q,?_,hq,by omega,by omega⟩
   rw [← hq]
   unfold kidI itemR
   rw [if_neg (by omega),if_neg (by omega),if_pos (by omega),if_pos hi,if_neg (by omega),if_pos hkd]
  have HITK:=kq hitk
  clear hr hkd hki hall ih hkn hitk
  go_enter Tryz.func124,Tryz.ntmps124
  go_upto_region 2 with fail
  rw [← HW.out]
  clear HW d0 d1 d2 d3 d4 d5 d6 d7 c0
  go_wp2_with ((go_at_call 166; refine (HIT.out r _ 0 r.kids.length p Rb Z o w1 HKI.out HIR.out (by omega) HITK.out hp HS1.out HR1.out HZ1.out).mono ?_; rintro e w7 h7; obtain ⟨v7,rfl⟩:=h7.ret; have H7:=kq (h7.later HT1.out); clear h7))
  try go_wp2
  go_ret
  exact H7.out
 ·have g1 : (r.kind == 1) = false:=by rw [hkd]; rfl
  have g2 : (r.kind == 2) = false:=by rw [hkd]; rfl
  have g3 : (r.kind == 3) = false:=by rw [hkd]; rfl
  have g10 : (r.kind == 10) = false:=by rw [hkd]; rfl
  have g6 : (r.kind == 6) = false:=by rw [hkd]; rfl
  have g9 : (r.kind == 9) = true:=by rw [hkd]; rfl
  have hpar:=parseB.eq_2 rs L (k : Int) p n
  rw [ruleAt_at hk,← HRK.out] at hpar
  rw [if_neg (by omega),if_neg (by omega),if_neg (by omega),if_neg (by omega),if_neg (by omega),if_neg (by omega),if_pos hkd] at hpar
  rw [hpar]
  clear hpar
  have hitk : ∃ m : Nat,kidI r 0 0 = (m : Int) ∧ itemR r 0 0 = (m : Int) ∧ m < rs.length ∧ m < n:=by
   have h0 : 0 ≤ itemR rs[k] 0 0:=items_there hall hk (m:=1) (by omega) (by rw [← HRK.out]; exact .inr (.inr (.inr (.inr hkd))))
   obtain ⟨q,hq,hqk⟩:=items_kid hall hk h0
   rw [← HRK.out] at hq
   refine ⟨q,?_,hq,by omega,by omega⟩
   rw [← hq]
   unfold kidI itemR
   have hkl:=kindI_9 hki hkd
   rw [if_neg (by omega),if_neg (by omega),if_pos (by omega),if_pos (by omega),if_neg (by omega),if_neg (by omega),if_neg (by omega),if_pos (by omega)]
  have HITK:=kq hitk
  have HALL:=kq hall
  have ISUM : Hid (∀ (p Rb Z o : Nat) (w : World),p ≤ L.length → Site w0 (some ⟨b0,off,none⟩) ab rs.length cap cb L Rb Z o w → CellsAt Rb (rdCells (some ⟨b0,off,none⟩) rs.length cap ab L.length cb p) w → PlacedAt Z o [.int .i64 0,.slice none 0 0,.slice none 0 0] w → _):=fun p Rb Z o w hp hS hR hz => ichecked w0 (some ⟨b0,off,none⟩) ab rs cap cb L n HALL.out HIT.out r _ p Rb Z o w HKI.out HIR.out HITK.out hp hS hR hz
  clear hr hkd hki hall ih hkn hitk
  go_enter Tryz.func124,Tryz.ntmps124
  go_upto_region 2 with fail
  rw [← HW.out]
  clear HW d0 d1 d2 d3 d4 d5 d6 d7 c0
  go_wp2_with ((go_at_call 167; refine (ISUM.out p Rb Z o w1 hp HS1.out HR1.out HZ1.out).mono ?_; rintro e w7 h7; obtain ⟨v7,rfl⟩:=h7.ret; have H7:=kq (h7.later HT1.out); clear h7))
  try go_wp2
  go_ret
  exact H7.out
 ·have g1 : (r.kind == 1) = false:=by rw [hkd]; rfl
  have g2 : (r.kind == 2) = false:=by rw [hkd]; rfl
  have g3 : (r.kind == 3) = false:=by rw [hkd]; rfl
  have g10 : (r.kind == 10) = false:=by rw [hkd]; rfl
  have g6 : (r.kind == 6) = false:=by rw [hkd]; rfl
  have g9 : (r.kind == 9) = false:=by rw [hkd]; rfl
  rw [parse_head hk (by rw [← HRK.out]; omega)]
  have IHD:=kq (iheaded_4 w0 (some ⟨b0,off,none⟩) ab rs cap cb L n hall HIT.out HRD.out k p Rb Z o _ w1 hk (by omega) (by rw [← HRK.out]; exact hkd) (by rw [← HRK.out]; exact HIR.out) hp HS1.out HR1.out HZ1.out)
  clear hr hkd hki hall ih hkn 
  go_enter Tryz.func124,Tryz.ntmps124
  go_upto_region 2 with fail
  rw [← HW.out]
  clear HW d0 d1 d2 d3 d4 d5 d6 d7 c0
  go_wp2_with ((go_at_call 168; refine (IHD.out).mono ?_; rintro e w7 h7; obtain ⟨v7,rfl⟩:=h7.ret; have H7:=kq (h7.later HT1.out); clear h7))
  try go_wp2
  go_ret
  exact H7.out
 ·have g1 : (r.kind == 1) = false:=by rw [hkd]; rfl
  have g2 : (r.kind == 2) = false:=by rw [hkd]; rfl
  have g3 : (r.kind == 3) = false:=by rw [hkd]; rfl
  have g10 : (r.kind == 10) = false:=by rw [hkd]; rfl
  have g6 : (r.kind == 6) = false:=by rw [hkd]; rfl
  have g9 : (r.kind == 9) = false:=by rw [hkd]; rfl
  rw [parse_head hk (by rw [← HRK.out]; omega)]
  have IHD:=kq (iheaded_5 w0 (some ⟨b0,off,none⟩) ab rs cap cb L n hall HIT.out HRD.out k p Rb Z o _ w1 hk (by omega) (by rw [← HRK.out]; exact hkd) (by rw [← HRK.out]; exact HIR.out) hp HS1.out HR1.out HZ1.out)
  clear hr hkd hki hall ih hkn 
  go_enter Tryz.func124,Tryz.ntmps124
  go_upto_region 2 with fail
  rw [← HW.out]
  clear HW d0 d1 d2 d3 d4 d5 d6 d7 c0
  go_wp2_with ((go_at_call 168; refine (IHD.out).mono ?_; rintro e w7 h7; obtain ⟨v7,rfl⟩:=h7.ret; have H7:=kq (h7.later HT1.out); clear h7))
  try go_wp2
  go_ret
  exact H7.out
 ·have g1 : (r.kind == 1) = false:=by rw [hkd]; rfl
  have g2 : (r.kind == 2) = false:=by rw [hkd]; rfl
  have g3 : (r.kind == 3) = false:=by rw [hkd]; rfl
  have g10 : (r.kind == 10) = false:=by rw [hkd]; rfl
  have g6 : (r.kind == 6) = false:=by rw [hkd]; rfl
  have g9 : (r.kind == 9) = false:=by rw [hkd]; rfl
  rw [parse_head hk (by rw [← HRK.out]; omega)]
  have IHD:=kq (iheaded_7 w0 (some ⟨b0,off,none⟩) ab rs cap cb L n hall HIT.out HRD.out k p Rb Z o _ w1 hk (by omega) (by rw [← HRK.out]; exact hkd) (by rw [← HRK.out]; exact HIR.out) hp HS1.out HR1.out HZ1.out)
  clear hr hkd hki hall ih hkn 
  go_enter Tryz.func124,Tryz.ntmps124
  go_upto_region 2 with fail
  rw [← HW.out]
  clear HW d0 d1 d2 d3 d4 d5 d6 d7 c0
  go_wp2_with ((go_at_call 168; refine (IHD.out).mono ?_; rintro e w7 h7; obtain ⟨v7,rfl⟩:=h7.ret; have H7:=kq (h7.later HT1.out); clear h7))
  try go_wp2
  go_ret
  exact H7.out
 ·have g1 : (r.kind == 1) = false:=by rw [hkd]; rfl
  have g2 : (r.kind == 2) = false:=by rw [hkd]; rfl
  have g3 : (r.kind == 3) = false:=by rw [hkd]; rfl
  have g10 : (r.kind == 10) = false:=by rw [hkd]; rfl
  have g6 : (r.kind == 6) = false:=by rw [hkd]; rfl
  have g9 : (r.kind == 9) = false:=by rw [hkd]; rfl
  rw [parse_flag hk (by rw [← HRK.out]; exact hkd)]
  have IHD:=kq (iheaded_8 w0 (some ⟨b0,off,none⟩) ab rs cap cb L n hall HIT.out HRD.out k p Rb Z o _ w1 hk (by omega) (by rw [← HRK.out]; exact hkd) (by rw [← HRK.out]; exact HIR.out) hp HS1.out HR1.out HZ1.out)
  clear hr hkd hki hall ih hkn 
  go_enter Tryz.func124,Tryz.ntmps124
  go_upto_region 2 with fail
  rw [← HW.out]
  clear HW d0 d1 d2 d3 d4 d5 d6 d7 c0
  go_wp2_with ((go_at_call 168; refine (IHD.out).mono ?_; rintro e w7 h7; obtain ⟨v7,rfl⟩:=h7.ret; have H7:=kq (h7.later HT1.out); clear h7))
  try go_wp2
  go_ret
  exact H7.out
theorem iread_step (w0 : World) (a ab : Option Addr) (rs : List RuleV) (cap cb : Nat) (L : List UInt8) (n : Nat) (hall : allV (kindI rs) rs) (hrd : RdR a rs w0) (ih : IReadC w0 a ab rs cap cb L n) : IReadC w0 a ab rs cap cb L (n + 1):=by
 intro k p Rb Z o w hk hkn hp hS hR hz
 have hit:=iitems_step w0 a ab rs cap cb L n hall ih
 have hkn':=kindI_known (allV_kind hall hk)
 rcases (by omega : rs[k].kind = 1 ∨ rs[k].kind = 2 ∨ rs[k].kind = 3 ∨ rs[k].kind = 4 ∨ rs[k].kind = 5 ∨ rs[k].kind = 6 ∨ rs[k].kind = 7 ∨ rs[k].kind = 8 ∨ rs[k].kind = 9 ∨ rs[k].kind = 10) with e | e | e | e | e | e | e | e | e | e
 ·exact iread_H0 1 (by simp) w0 a ab rs cap cb L n hall hit hrd k p Rb Z o w hk hkn e hp hS hR hz
 ·exact iread_H0 2 (by simp) w0 a ab rs cap cb L n hall hit hrd k p Rb Z o w hk hkn e hp hS hR hz
 ·exact iread_H0 3 (by simp) w0 a ab rs cap cb L n hall hit hrd k p Rb Z o w hk hkn e hp hS hR hz
 ·exact iread_H0 4 (by simp) w0 a ab rs cap cb L n hall hit hrd k p Rb Z o w hk hkn e hp hS hR hz
 ·exact iread_H0 5 (by simp) w0 a ab rs cap cb L n hall hit hrd k p Rb Z o w hk hkn e hp hS hR hz
 ·exact iread_H0 6 (by simp) w0 a ab rs cap cb L n hall hit hrd k p Rb Z o w hk hkn e hp hS hR hz
 ·exact iread_H0 7 (by simp) w0 a ab rs cap cb L n hall hit hrd k p Rb Z o w hk hkn e hp hS hR hz
 ·exact iread_H0 8 (by simp) w0 a ab rs cap cb L n hall hit hrd k p Rb Z o w hk hkn e hp hS hR hz
 ·exact iread_H0 9 (by simp) w0 a ab rs cap cb L n hall hit hrd k p Rb Z o w hk hkn e hp hS hR hz
 ·exact iread_H0 10 (by simp) w0 a ab rs cap cb L n hall hit hrd k p Rb Z o w hk hkn e hp hS hR hz
theorem iread_of (w0 : World) (a ab : Option Addr) (rs : List RuleV) (cap cb : Nat) (L : List UInt8) (hall : allV (kindI rs) rs) (hrd : RdR a rs w0) : ∀ n,IReadC w0 a ab rs cap cb L n
 | 0 => fun _ _ _ _ _ _ _ h => absurd h (Nat.not_lt_zero _)
 | n + 1 => iread_step w0 a ab rs cap cb L n hall hrd (iread_of w0 a ab rs cap cb L hall hrd n)
end Go.Proofs.YtefkhknfjohnaaaGreatDoor
