/- The program's readHeaded, kind by kind, out of readItems. -/
import Derived.Test.YtefkhknfjohnaaaGreatDoorEK
import Derived.Test.YtefkhknfjohnaaaGreatDoorEGH
set_option maxRecDepth 100000
set_option maxHeartbeats 8000000
namespace Go.Proofs.YtefkhknfjohnaaaGreatDoor
open Go Go.RowKit
theorem GotAt.ret {a ab : Option Addr} {n cap cb m Rb Z o h : Nat} {g : Got ValueV} {w w' : World} {e : Ending} (h1 : GotAt a ab n cap cb m Rb Z o h g w e w') : ∃ v,e = .returned v:=by
 obtain ⟨h2,-⟩:=h1
 cases g with
 | ok v q => exact ⟨_,h2.1⟩
 | bad q c => exact ⟨_,h2.1⟩
theorem GotAt.later {a ab : Option Addr} {n cap cb m Rb Z o h : Nat} {g : Got ValueV} {w w1 w' : World} {e : Ending} (h1 : GotAt a ab n cap cb m Rb Z o h g w1 e w') (ht : Turn (AtV Rb Z o) w w1) : GotAt a ab n cap cb m Rb Z o h g w e w':=by
 obtain ⟨h2,h3⟩:=h1
 refine ⟨?_,ht.trans h3 fun _ _ _ h => h⟩
 cases g with
 | ok v q =>
  obtain ⟨e1,e2,bl,cs,e3,e4,e5⟩:=h2
  exact ⟨e1,e2,bl,cs,e3,e4,fun b hb => Nat.le_trans ht.size (e5 b hb)⟩
 | bad q c => exact h2
def headB (rs : List RuleV) (L : List UInt8) (n : Nat) (r : RuleV) (hd : RuleV) (p : Nat) : Got ValueV :=
 match gotInt hd L p with
 | .bad q c => .bad q c
 | .ok x q =>
  if r.kind = 7 then (if itemR r x 0 < 0 then .bad p 3 else (gotItems (parseB rs L n) r x 1 [] q).to fun l => .mk x [] l)
  else if r.kind = 4 then gotBytes L q x.toNat
  else if r.kind = 8 then (if 1 < x then .bad p 4 else (gotItems (parseB rs L n) r 0 x.toNat [] q).to fun l => .mk 0 [] l)
  else if 40 < x then .bad p 6
  else (gotItems (parseB rs L n) r 0 x.toNat [] q).to fun l => .mk 0 [] l
theorem readI_small (B : List UInt8) (l : Bool) (k : Nat) (h : B.length ≤ k) (hk : k ≤ 4) : readI B l < 256 ^ k:=by
 unfold readI
 rw [if_neg (by omega)]
 have e : (orderB B l).length = B.length:=by unfold orderB; split <;> simp
 have h3:=readB_lt (orderB B l) 0
 rw [e] at h3
 have h5 : (256 : Nat) ^ B.length ≤ 256 ^ k:=Nat.pow_le_pow_right (by decide) h
 omega
theorem gotInt_nat {r : RuleV} {L : List UInt8} {p q : Nat} {x : Int} (h4 : r.size ≤ 4) (h : gotInt r L p = .ok x q) : ∃ xn : Nat,x = (xn : Int) ∧ xn ≤ 4294967295 ∧ (r.size ≤ 1 → xn < 256):=by
 unfold gotInt at h
 split at h
 ·cases h
 ·injection h with h1 h2
  have hl : ((L.drop p).take r.size.toNat).length ≤ r.size.toNat:=by rw [List.length_take]; omega
  refine ⟨_,h1.symm,?_,fun hs => ?_⟩
  ·have:=readI_small _ r.little 4 (Nat.le_trans hl (by omega)) (by omega)
   omega
  ·have:=readI_small _ r.little 1 (Nat.le_trans hl (by omega)) (by omega)
   omega
theorem contains_impl (a : Option Addr) (ts : List Int) (cap : Nat) (x : Int) (w : World) (h : RdI a ts w) (h0 : 0 < ts.length) (hl : ts.length ≤ 1048576) :
  Calls Tryz.prog 211 #[.slice a ts.length cap,.int .i64 x] w fun e w' => e = .returned (.bool (ts.contains x)) ∧ w' = w:=by
 obtain ⟨b,off,rfl,hc0⟩:=h 0 h0
 refine (Tryz.slices_Contains_int b off ts.length cap ts x w (Nat.le_refl _) (by omega) (fun j hj => ?_)).mono ?_
 ·obtain ⟨b',off',e,hcj⟩:=h j hj
  injection e with e
  injection e with e1 e2
  subst e1 e2
  rw [hcj,List.getD_eq_getElem?_getD,List.getElem?_eq_getElem hj]
  rfl
 ·rintro e w' ⟨rfl,rfl⟩
  rw [List.take_length]
  exact ⟨rfl,rfl⟩
theorem iheaded_4 (w0 : World) (a ab : Option Addr) (rs : List RuleV) (cap cb : Nat) (L : List UInt8) (n : Nat) (hall : allV (kindI rs) rs) (_ih : IItemsC w0 a ab rs cap cb L n) (hrd : RdR a rs w0) (k p Rb Z o : Nat) (cs : List Value) (w : World) (hk : k < rs.length) (_hkn : k < n + 1) (hkd : rs[k].kind = 4) (hir : IsRule rs[k] cs w0)
  (hp : p ≤ L.length) (hS : Site w0 a ab rs.length cap cb L Rb Z o w) (hR : CellsAt Rb (rdCells a rs.length cap ab L.length cb p) w) (hz : PlacedAt Z o [.int .i64 0,.slice none 0 0,.slice none 0 0] w) :
  Calls Tryz.prog 168 #[.pointer (some ⟨Rb,0,none⟩),.agg cs.toArray,.pointer (some ⟨Z,o,none⟩)] w (GotAt a ab rs.length cap cb L.length Rb Z o (n + 1) (headB rs L n rs[k] (ruleAt rs (rs[k].kids.getD 0 0)) p) w):=by
 have hki:=allV_kind hall hk
 obtain ⟨hm1,m,hm,hmk⟩:=kid_int hall hk (by omega)
 have hmr : m < rs.length:=by omega
 have hkl : 0 < rs[k].kids.length:=by have:=(kindI_4 hki hkd).1; omega
 obtain ⟨r,hr⟩ : ∃ r,r = rs[k]:=⟨_,rfl⟩
 have hrk:=hr
 rw [hm] at hm1 ⊢
 rw [ruleAt_at hmr] at hm1 ⊢
 have hsz:=kindI_size (allV_kind hall hmr) hm1
 obtain ⟨hd,hhd⟩ : ∃ hd,hd = rs[m]:=⟨_,rfl⟩
 rw [← hhd] at hsz ⊢
 rw [← hr] at hkd hir hki hm hkl ⊢
 have HIR:=kq hir
 have HKI:=kq hki
 obtain ⟨a4,c4,a5,c5,a6,c6,a7,c7,rfl,-,-,r6,-⟩:=hir
 have hZl : Z < w.heap.size:=hz.lt (by simp)
 have hRl : Rb < w.heap.size:=cell_lt (hR 0 _ rfl).1
 have hne:=hS.ne
 have hl:=hS.len
 have hzw:=hS.z
 have hrw:=hS.rb
 obtain ⟨wb,hwb⟩ : ∃ wb,wb = w.alloc (.cells #[.string r.name,.int .i64 r.kind,.int .i64 r.size,.bool r.little,.slice a4 r.bytes.length c4,.slice a5 r.names.length c5,.slice a6 r.tags.length c6,.slice a7 r.kids.length c7] 63):=⟨_,rfl⟩
 have hB:=zb1 hwb
 have hC:=zk1 hwb
 have hbs : wb.heap.size = w.heap.size + 1:=by subst hwb; simp
 obtain ⟨N,hN⟩ : ∃ N,N = w.heap.size + 1:=⟨_,rfl⟩
 obtain ⟨wn,hwn⟩ : ∃ wn,wn = wb.alloc (.cells #[.int .i64 0] 3):=⟨_,rfl⟩
 have hbn:=zb1 hwn
 have hBn : Below w.heap.size w wn:=hB.trans (hbn.mono hB.size)
 have hns : wn.heap.size = w.heap.size + 2:=by subst hwn; simp [hbs]
 have hNc : wn.cell? ⟨N,0,none⟩ = some (.int .i64 0) ∧ wn.frozen? ⟨N,0,none⟩ = false:=by subst hwn; rw [hN,← hbs]; exact CellsAt.new wb [.int .i64 0] 3 0 _ rfl
 have hCn:=hC.below hbn
 have hRn:=hR.below hBn
 have hZn:=hz.below hBn
 have hSn:=hS.next (Turn.of_below (AtV Rb Z o) hBn)
 have hNR : N ≠ Rb:=by omega
 have hNZ : N ≠ Z:=by omega
 have c2:=((hR.below hB) 2 _ rfl).1
 have hhead : ∀ W,Below wn.heap.size wn W → Calls Tryz.prog 210 #[.agg #[.slice a rs.length cap],.agg #[.string r.name,.int .i64 r.kind,.int .i64 r.size,.bool r.little,.slice a4 r.bytes.length c4,.slice a5 r.names.length c5,.slice a6 r.tags.length c6,.slice a7 r.kids.length c7]] W fun e w' => (∃ ks,e = .returned (.agg ks.toArray) ∧ IsRule hd ks W) ∧ Below W.heap.size W w':=fun W hb => by
  have hbw:=hSn.below.trans (hb.mono hSn.below.size)
  have h1:=head_rule a rs cap m r _ W (HIR.out.below0 hbw) (by omega) (hrd.below hbw) hmr hm hkl
  rw [← hhd] at h1
  exact h1
 have hnum : ∀ W ks,Below wn.heap.size wn W → IsRule hd ks W → Calls Tryz.prog 162 #[.pointer (some ⟨Rb,0,none⟩),.agg ks.toArray,.pointer (some ⟨N,0,none⟩)] W fun e w' => (match gotInt hd L p with
   | .ok x q => e = .returned .nilIface ∧ CellsAt Rb (rdCells a rs.length cap ab L.length cb q) w' ∧ w'.cell? ⟨N,0,none⟩ = some (.int .i64 x)
   | .bad q c => e = .returned (RErr q c) ∧ ∃ x,w'.cell? ⟨N,0,none⟩ = some x) ∧ w'.frozen? ⟨N,0,none⟩ = false ∧ Turn (AtN Rb N 0) W w':=fun W ks hb hi =>
  number_impl a ab rs.length cap cb p Rb N 0 L hd ks (.int .i64 0) W (hRn.below hb) (hSn.next (Turn.of_below (AtV Rb Z o) hb)).srcAt hl hp hi (by omega) hsz.2 ⟨cellK hb (Nat.le_refl _) hNc.1,(hb.frozen (p:=⟨N,0,none⟩) (cell_lt hNc.1)).trans hNc.2⟩ hNR fun w' ht => (hSn.next ((Turn.of_below (AtV Rb Z o) hb).trans ht fun _ _ _ h => .inl h)).srcAt
 have htw : ∀ W W',Below wn.heap.size wn W → Turn (AtN Rb N 0) W W' → Turn (AtV Rb Z o) w W':=fun W W' hb ht => (Turn.of_below (AtV Rb Z o) (hBn.trans (hb.mono hBn.size))).trans ht fun j i hj h => by
  rcases h with h | h
  ·exact .inl h
  ·have:=h.1; omega
 have hkeep : ∀ W W',Below wn.heap.size wn W → Turn (AtN Rb N 0) W W' → PlacedAt Z o [.int .i64 0,.slice none 0 0,.slice none 0 0] W' ∧ CellsAt w.heap.size [.string r.name,.int .i64 r.kind,.int .i64 r.size,.bool r.little,.slice a4 r.bytes.length c4,.slice a5 r.names.length c5,.slice a6 r.tags.length c6,.slice a7 r.kids.length c7] W' ∧ W'.cell? ⟨Rb,0,none⟩ = some (.slice a rs.length cap):=fun W W' hb ht => by
  refine ⟨(hZn.below hb).kept ht fun i _ h => ?_,(hCn.below hb).turn ht fun i _ h => ?_,(ht.kept (fun h => ?_) ((hRn.below hb) 0 _ rfl)).1⟩
  ·rcases h with h | h
   ·exact hne h.1
   ·exact hNZ h.1.symm
  ·rcases h with h | h
   ·have:=h.1; omega
   ·have:=h.1; omega
  ·rcases h with h | h
   ·exact absurd h.2 (by decide)
   ·exact hNR h.1.symm
 have HBN : Hid (wb.heap.size = N):=by show _ = _; omega
 have HB:=kq hwb
 have HWN:=kq hwn
 have HHEAD:=kq hhead
 have HNUM:=kq hnum
 have HTW:=kq htw
 have HKEEP:=kq hkeep
 have HSN:=kq hSn
 have HS:=kq hS
 have HW0 : Hid (Below wn.heap.size wn wn.drew):=below_drewN (Below.refl _ wn) 1
 have HS9 : Hid (∀ W W',Below wn.heap.size wn W → Turn (AtN Rb N 0) W W' → W'.cell? ⟨Rb,0,none⟩ = some (.slice a rs.length cap) ∧ W'.cell? ⟨w.heap.size,0,none⟩ = some (.string r.name) ∧ W'.cell? ⟨w.heap.size,1,none⟩ = some (.int .i64 r.kind) ∧ W'.cell? ⟨w.heap.size,2,none⟩ = some (.int .i64 r.size) ∧ W'.cell? ⟨w.heap.size,3,none⟩ = some (.bool r.little) ∧ W'.cell? ⟨w.heap.size,4,none⟩ = some (.slice a4 r.bytes.length c4) ∧ W'.cell? ⟨w.heap.size,5,none⟩ = some (.slice a5 r.names.length c5) ∧ W'.cell? ⟨w.heap.size,6,none⟩ = some (.slice a6 r.tags.length c6) ∧ W'.cell? ⟨w.heap.size,7,none⟩ = some (.slice a7 r.kids.length c7)):=fun W W' hb ht => by
  obtain ⟨_,h2,h3⟩:=hkeep W W' hb ht
  exact ⟨h3,(h2 0 _ rfl).1,(h2 1 _ rfl).1,(h2 2 _ rfl).1,(h2 3 _ rfl).1,(h2 4 _ rfl).1,(h2 5 _ rfl).1,(h2 6 _ rfl).1,(h2 7 _ rfl).1⟩
 cases hg : gotInt hd L p with
 | bad q c =>
  have hgb : headB rs L n r hd p = .bad q c:=by unfold headB; rw [hg]
  rw [hgb]
  rw [hg] at HNUM
  clear hg hgb hkd hwb hwn hB hC hbn hBn hCn hRn hZn hSn hNc hhead hnum htw hkeep hS hR hz hbs hN hrk hr hki hall hrd hm1 hm hmk hmr hkl hhd hsz 
  go_enter Tryz.func168,Tryz.ntmps168
  go_upto_region 1 with fail
  rw [← HB.out]
  clear HB
  go_upto_region 2 with fail
  rw [← HWN.out,HBN.out]
  clear HWN HBN
  go_region_held3 (fun W => W.cell? ⟨Rb,0,none⟩ = some (.slice a rs.length cap) ∧ W.cell? ⟨w.heap.size,0,none⟩ = some (.string r.name) ∧ W.cell? ⟨w.heap.size,1,none⟩ = some (.int .i64 r.kind) ∧ W.cell? ⟨w.heap.size,2,none⟩ = some (.int .i64 r.size) ∧ W.cell? ⟨w.heap.size,3,none⟩ = some (.bool r.little) ∧ W.cell? ⟨w.heap.size,4,none⟩ = some (.slice a4 r.bytes.length c4) ∧ W.cell? ⟨w.heap.size,5,none⟩ = some (.slice a5 r.names.length c5) ∧ W.cell? ⟨w.heap.size,6,none⟩ = some (.slice a6 r.tags.length c6) ∧ W.cell? ⟨w.heap.size,7,none⟩ = some (.slice a7 r.kids.length c7)) (first | exact HS9.out _ _ HW0.out (Turn.refl _ _) | exact HS9.out _ _ (HW0.out.trans (hb5.mono HW0.out.size)) (Turn.refl _ _) | exact HS9.out _ _ (HW0.out.trans (hb5.mono HW0.out.size)) ht6) (first | (go_at_call 210; refine (HHEAD.out _ HW0.out).mono ?_; rintro e w5 ⟨⟨ks,rfl,hks⟩,hb5⟩) | (go_at_call 162; refine (HNUM.out _ ks (HW0.out.trans (hb5.mono HW0.out.size)) (hks.below0 hb5)).mono ?_; rintro e w6 ⟨⟨he6,hx6⟩,hf6,ht6⟩; unfold RErr at he6; subst he6))
  have HT6:=kq (HTW.out _ _ (HW0.out.trans (hb5.mono HW0.out.size)) ht6)
  have HZ6:=kq (HKEEP.out _ _ (HW0.out.trans (hb5.mono HW0.out.size)) ht6).1
  clear hb5 ht6 hx6 hf6 hks
  go_wp2
  go_ret
  exact ⟨⟨rfl,_,rfl,HZ6.out⟩,HT6.out⟩
 | ok x q =>
  obtain ⟨xn,rfl,hxb,hxs⟩:=gotInt_nat hsz.2 hg
  have hfine:=gotInt_fine hd L p hp
  rw [hg] at hfine
  have hq : q ≤ L.length:=hfine.2
  rw [hg] at HNUM
  have x0 : (0 : Int) ≤ (xn : Int):=by omega
  have hgb : headB rs L n r hd p = gotBytes L q xn:=by
   unfold headB
   rw [hg]
   simp only
   rw [if_neg (by omega),if_pos hkd]
   rw [Int.toNat_natCast]
  rw [hgb]
  have HKD:=kq hkd
  clear hg hgb hfine hkd hwb hwn hB hC hbn hBn hCn hRn hZn hSn hNc hhead hnum htw hkeep hS hR hz hbs hN hrk hr hki hall hrd hm1 hm hmk hmr hkl hhd hsz 
  go_enter Tryz.func168,Tryz.ntmps168
  go_upto_region 1 with fail
  rw [← HB.out]
  clear HB
  go_upto_region 2 with fail
  rw [← HWN.out,HBN.out]
  clear HWN HBN
  go_region_held3 (fun W => W.cell? ⟨Rb,0,none⟩ = some (.slice a rs.length cap) ∧ W.cell? ⟨w.heap.size,0,none⟩ = some (.string r.name) ∧ W.cell? ⟨w.heap.size,1,none⟩ = some (.int .i64 r.kind) ∧ W.cell? ⟨w.heap.size,2,none⟩ = some (.int .i64 r.size) ∧ W.cell? ⟨w.heap.size,3,none⟩ = some (.bool r.little) ∧ W.cell? ⟨w.heap.size,4,none⟩ = some (.slice a4 r.bytes.length c4) ∧ W.cell? ⟨w.heap.size,5,none⟩ = some (.slice a5 r.names.length c5) ∧ W.cell? ⟨w.heap.size,6,none⟩ = some (.slice a6 r.tags.length c6) ∧ W.cell? ⟨w.heap.size,7,none⟩ = some (.slice a7 r.kids.length c7)) (first | exact HS9.out _ _ HW0.out (Turn.refl _ _) | exact HS9.out _ _ (HW0.out.trans (hb5.mono HW0.out.size)) (Turn.refl _ _) | exact HS9.out _ _ (HW0.out.trans (hb5.mono HW0.out.size)) ht6) (first | (go_at_call 210; refine (HHEAD.out _ HW0.out).mono ?_; rintro e w5 ⟨⟨ks,rfl,hks⟩,hb5⟩) | (go_at_call 162; refine (HNUM.out _ ks (HW0.out.trans (hb5.mono HW0.out.size)) (hks.below0 hb5)).mono ?_; rintro e w6 ⟨⟨rfl,hr6,hx6⟩,hf6,ht6⟩))
  have HB5:=kq (HW0.out.trans (hb5.mono HW0.out.size))
  have HT6:=kq (HTW.out _ _ HB5.out ht6)
  obtain ⟨hz6,hc6,-⟩:=HKEEP.out _ _ HB5.out ht6
  have HZ6:=kq hz6
  have HC6:=kq hc6
  have HR6':=kq hr6
  have HS6:=kq (HS.out.next HT6.out)
  clear hb5 ht6 hks hz6 hc6 hr6
  have hkd:=HKD.out
  have k1:=(HC6.out 1 _ rfl).1
  have g4 : (r.kind == 4) = true:=by rw [hkd]; rfl
  clear hkd
  go_wp2_with ((go_at_call 164; refine (content_impl w0 a ab rs.length cap cb q xn Rb Z o n L w6 HS6.out HR6'.out hq (by omega) HZ6.out).mono ?_; rintro e w7 h7; obtain ⟨v7,rfl⟩:=h7.ret; have H7:=kq (h7.later HT6.out); clear h7))
  try go_wp2
  go_ret
  exact H7.out
theorem iheaded_5 (w0 : World) (a ab : Option Addr) (rs : List RuleV) (cap cb : Nat) (L : List UInt8) (n : Nat) (hall : allV (kindI rs) rs) (ih : IItemsC w0 a ab rs cap cb L n) (hrd : RdR a rs w0) (k p Rb Z o : Nat) (cs : List Value) (w : World) (hk : k < rs.length) (hkn : k < n + 1) (hkd : rs[k].kind = 5) (hir : IsRule rs[k] cs w0)
  (hp : p ≤ L.length) (hS : Site w0 a ab rs.length cap cb L Rb Z o w) (hR : CellsAt Rb (rdCells a rs.length cap ab L.length cb p) w) (hz : PlacedAt Z o [.int .i64 0,.slice none 0 0,.slice none 0 0] w) :
  Calls Tryz.prog 168 #[.pointer (some ⟨Rb,0,none⟩),.agg cs.toArray,.pointer (some ⟨Z,o,none⟩)] w (GotAt a ab rs.length cap cb L.length Rb Z o (n + 1) (headB rs L n rs[k] (ruleAt rs (rs[k].kids.getD 0 0)) p) w):=by
 have hki:=allV_kind hall hk
 obtain ⟨hm1,m,hm,hmk⟩:=kid_int hall hk (by omega)
 have hmr : m < rs.length:=by omega
 have hkl : 0 < rs[k].kids.length:=by have:=(kindI_5 hki hkd).1; omega
 obtain ⟨r,hr⟩ : ∃ r,r = rs[k]:=⟨_,rfl⟩
 have hrk:=hr
 rw [hm] at hm1 ⊢
 rw [ruleAt_at hmr] at hm1 ⊢
 have hsz:=kindI_size (allV_kind hall hmr) hm1
 obtain ⟨hd,hhd⟩ : ∃ hd,hd = rs[m]:=⟨_,rfl⟩
 rw [← hhd] at hsz ⊢
 rw [← hr] at hkd hir hki hm hkl ⊢
 have HIR:=kq hir
 have HKI:=kq hki
 obtain ⟨a4,c4,a5,c5,a6,c6,a7,c7,rfl,-,-,r6,-⟩:=hir
 have hZl : Z < w.heap.size:=hz.lt (by simp)
 have hRl : Rb < w.heap.size:=cell_lt (hR 0 _ rfl).1
 have hne:=hS.ne
 have hl:=hS.len
 have hzw:=hS.z
 have hrw:=hS.rb
 obtain ⟨wb,hwb⟩ : ∃ wb,wb = w.alloc (.cells #[.string r.name,.int .i64 r.kind,.int .i64 r.size,.bool r.little,.slice a4 r.bytes.length c4,.slice a5 r.names.length c5,.slice a6 r.tags.length c6,.slice a7 r.kids.length c7] 63):=⟨_,rfl⟩
 have hB:=zb1 hwb
 have hC:=zk1 hwb
 have hbs : wb.heap.size = w.heap.size + 1:=by subst hwb; simp
 obtain ⟨N,hN⟩ : ∃ N,N = w.heap.size + 1:=⟨_,rfl⟩
 obtain ⟨wn,hwn⟩ : ∃ wn,wn = wb.alloc (.cells #[.int .i64 0] 3):=⟨_,rfl⟩
 have hbn:=zb1 hwn
 have hBn : Below w.heap.size w wn:=hB.trans (hbn.mono hB.size)
 have hns : wn.heap.size = w.heap.size + 2:=by subst hwn; simp [hbs]
 have hNc : wn.cell? ⟨N,0,none⟩ = some (.int .i64 0) ∧ wn.frozen? ⟨N,0,none⟩ = false:=by subst hwn; rw [hN,← hbs]; exact CellsAt.new wb [.int .i64 0] 3 0 _ rfl
 have hCn:=hC.below hbn
 have hRn:=hR.below hBn
 have hZn:=hz.below hBn
 have hSn:=hS.next (Turn.of_below (AtV Rb Z o) hBn)
 have hNR : N ≠ Rb:=by omega
 have hNZ : N ≠ Z:=by omega
 have c2:=((hR.below hB) 2 _ rfl).1
 have hhead : ∀ W,Below wn.heap.size wn W → Calls Tryz.prog 210 #[.agg #[.slice a rs.length cap],.agg #[.string r.name,.int .i64 r.kind,.int .i64 r.size,.bool r.little,.slice a4 r.bytes.length c4,.slice a5 r.names.length c5,.slice a6 r.tags.length c6,.slice a7 r.kids.length c7]] W fun e w' => (∃ ks,e = .returned (.agg ks.toArray) ∧ IsRule hd ks W) ∧ Below W.heap.size W w':=fun W hb => by
  have hbw:=hSn.below.trans (hb.mono hSn.below.size)
  have h1:=head_rule a rs cap m r _ W (HIR.out.below0 hbw) (by omega) (hrd.below hbw) hmr hm hkl
  rw [← hhd] at h1
  exact h1
 have hnum : ∀ W ks,Below wn.heap.size wn W → IsRule hd ks W → Calls Tryz.prog 162 #[.pointer (some ⟨Rb,0,none⟩),.agg ks.toArray,.pointer (some ⟨N,0,none⟩)] W fun e w' => (match gotInt hd L p with
   | .ok x q => e = .returned .nilIface ∧ CellsAt Rb (rdCells a rs.length cap ab L.length cb q) w' ∧ w'.cell? ⟨N,0,none⟩ = some (.int .i64 x)
   | .bad q c => e = .returned (RErr q c) ∧ ∃ x,w'.cell? ⟨N,0,none⟩ = some x) ∧ w'.frozen? ⟨N,0,none⟩ = false ∧ Turn (AtN Rb N 0) W w':=fun W ks hb hi =>
  number_impl a ab rs.length cap cb p Rb N 0 L hd ks (.int .i64 0) W (hRn.below hb) (hSn.next (Turn.of_below (AtV Rb Z o) hb)).srcAt hl hp hi (by omega) hsz.2 ⟨cellK hb (Nat.le_refl _) hNc.1,(hb.frozen (p:=⟨N,0,none⟩) (cell_lt hNc.1)).trans hNc.2⟩ hNR fun w' ht => (hSn.next ((Turn.of_below (AtV Rb Z o) hb).trans ht fun _ _ _ h => .inl h)).srcAt
 have htw : ∀ W W',Below wn.heap.size wn W → Turn (AtN Rb N 0) W W' → Turn (AtV Rb Z o) w W':=fun W W' hb ht => (Turn.of_below (AtV Rb Z o) (hBn.trans (hb.mono hBn.size))).trans ht fun j i hj h => by
  rcases h with h | h
  ·exact .inl h
  ·have:=h.1; omega
 have hkeep : ∀ W W',Below wn.heap.size wn W → Turn (AtN Rb N 0) W W' → PlacedAt Z o [.int .i64 0,.slice none 0 0,.slice none 0 0] W' ∧ CellsAt w.heap.size [.string r.name,.int .i64 r.kind,.int .i64 r.size,.bool r.little,.slice a4 r.bytes.length c4,.slice a5 r.names.length c5,.slice a6 r.tags.length c6,.slice a7 r.kids.length c7] W' ∧ W'.cell? ⟨Rb,0,none⟩ = some (.slice a rs.length cap):=fun W W' hb ht => by
  refine ⟨(hZn.below hb).kept ht fun i _ h => ?_,(hCn.below hb).turn ht fun i _ h => ?_,(ht.kept (fun h => ?_) ((hRn.below hb) 0 _ rfl)).1⟩
  ·rcases h with h | h
   ·exact hne h.1
   ·exact hNZ h.1.symm
  ·rcases h with h | h
   ·have:=h.1; omega
   ·have:=h.1; omega
  ·rcases h with h | h
   ·exact absurd h.2 (by decide)
   ·exact hNR h.1.symm
 have HBN : Hid (wb.heap.size = N):=by show _ = _; omega
 have HB:=kq hwb
 have HWN:=kq hwn
 have HHEAD:=kq hhead
 have HNUM:=kq hnum
 have HTW:=kq htw
 have HKEEP:=kq hkeep
 have HSN:=kq hSn
 have HS:=kq hS
 have HW0 : Hid (Below wn.heap.size wn wn.drew):=below_drewN (Below.refl _ wn) 1
 have HS9 : Hid (∀ W W',Below wn.heap.size wn W → Turn (AtN Rb N 0) W W' → W'.cell? ⟨Rb,0,none⟩ = some (.slice a rs.length cap) ∧ W'.cell? ⟨w.heap.size,0,none⟩ = some (.string r.name) ∧ W'.cell? ⟨w.heap.size,1,none⟩ = some (.int .i64 r.kind) ∧ W'.cell? ⟨w.heap.size,2,none⟩ = some (.int .i64 r.size) ∧ W'.cell? ⟨w.heap.size,3,none⟩ = some (.bool r.little) ∧ W'.cell? ⟨w.heap.size,4,none⟩ = some (.slice a4 r.bytes.length c4) ∧ W'.cell? ⟨w.heap.size,5,none⟩ = some (.slice a5 r.names.length c5) ∧ W'.cell? ⟨w.heap.size,6,none⟩ = some (.slice a6 r.tags.length c6) ∧ W'.cell? ⟨w.heap.size,7,none⟩ = some (.slice a7 r.kids.length c7)):=fun W W' hb ht => by
  obtain ⟨_,h2,h3⟩:=hkeep W W' hb ht
  exact ⟨h3,(h2 0 _ rfl).1,(h2 1 _ rfl).1,(h2 2 _ rfl).1,(h2 3 _ rfl).1,(h2 4 _ rfl).1,(h2 5 _ rfl).1,(h2 6 _ rfl).1,(h2 7 _ rfl).1⟩
 have HIT:=kq ih
 have hitk : ∀ (x : Int) (c : Nat),c ≤ 40 → ∀ i,i < c → ∃ q : Nat,kidI r x i = (q : Int) ∧ itemR r x i = (q : Int) ∧ q < rs.length ∧ q < n:=fun x c hc i hi => by
  have h0 : 0 ≤ itemR rs[k] x i:=items_there hall hk (m:=c) hi (by rw [← hrk]; exact .inl hkd)
  obtain ⟨q,hq,hqk⟩:=items_kid hall hk h0
  rw [← hrk] at hq
  refine ⟨q,?_,hq,by omega,by omega⟩
  rw [← hq]
  unfold kidI itemR
  rw [if_pos hkd,if_pos hkd]
 have HITK:=kq hitk
 cases hg : gotInt hd L p with
 | bad q c =>
  have hgb : headB rs L n r hd p = .bad q c:=by unfold headB; rw [hg]
  rw [hgb]
  rw [hg] at HNUM
  clear hg hgb hkd hwb hwn hB hC hbn hBn hCn hRn hZn hSn hNc hhead hnum htw hkeep hS hR hz hbs hN hrk hr hki hall hrd hm1 hm hmk hmr hkl hhd hsz hitk ih hkn 
  go_enter Tryz.func168,Tryz.ntmps168
  go_upto_region 1 with fail
  rw [← HB.out]
  clear HB
  go_upto_region 2 with fail
  rw [← HWN.out,HBN.out]
  clear HWN HBN
  go_region_held3 (fun W => W.cell? ⟨Rb,0,none⟩ = some (.slice a rs.length cap) ∧ W.cell? ⟨w.heap.size,0,none⟩ = some (.string r.name) ∧ W.cell? ⟨w.heap.size,1,none⟩ = some (.int .i64 r.kind) ∧ W.cell? ⟨w.heap.size,2,none⟩ = some (.int .i64 r.size) ∧ W.cell? ⟨w.heap.size,3,none⟩ = some (.bool r.little) ∧ W.cell? ⟨w.heap.size,4,none⟩ = some (.slice a4 r.bytes.length c4) ∧ W.cell? ⟨w.heap.size,5,none⟩ = some (.slice a5 r.names.length c5) ∧ W.cell? ⟨w.heap.size,6,none⟩ = some (.slice a6 r.tags.length c6) ∧ W.cell? ⟨w.heap.size,7,none⟩ = some (.slice a7 r.kids.length c7)) (first | exact HS9.out _ _ HW0.out (Turn.refl _ _) | exact HS9.out _ _ (HW0.out.trans (hb5.mono HW0.out.size)) (Turn.refl _ _) | exact HS9.out _ _ (HW0.out.trans (hb5.mono HW0.out.size)) ht6) (first | (go_at_call 210; refine (HHEAD.out _ HW0.out).mono ?_; rintro e w5 ⟨⟨ks,rfl,hks⟩,hb5⟩) | (go_at_call 162; refine (HNUM.out _ ks (HW0.out.trans (hb5.mono HW0.out.size)) (hks.below0 hb5)).mono ?_; rintro e w6 ⟨⟨he6,hx6⟩,hf6,ht6⟩; unfold RErr at he6; subst he6))
  have HT6:=kq (HTW.out _ _ (HW0.out.trans (hb5.mono HW0.out.size)) ht6)
  have HZ6:=kq (HKEEP.out _ _ (HW0.out.trans (hb5.mono HW0.out.size)) ht6).1
  clear hb5 ht6 hx6 hf6 hks
  go_wp2
  go_ret
  exact ⟨⟨rfl,_,rfl,HZ6.out⟩,HT6.out⟩
 | ok x q =>
  obtain ⟨xn,rfl,hxb,hxs⟩:=gotInt_nat hsz.2 hg
  have hfine:=gotInt_fine hd L p hp
  rw [hg] at hfine
  have hq : q ≤ L.length:=hfine.2
  rw [hg] at HNUM
  have x0 : (0 : Int) ≤ (xn : Int):=by omega
  by_cases hx : 40 < xn
  ·have hxi : (40 : Int) < (xn : Int):=by omega
   have hgb : headB rs L n r hd p = (.bad p 6):=by
    unfold headB
    rw [hg]
    simp only
    rw [if_neg (by omega),if_neg (by omega),if_neg (by omega)]
    rw [if_pos hxi]
   rw [hgb]
   have HKD:=kq hkd
   clear hg hgb hfine hkd hwb hwn hB hC hbn hBn hCn hRn hZn hSn hNc hhead hnum htw hkeep hS hR hz hbs hN hrk hr hki hall hrd hm1 hm hmk hmr hkl hhd hsz hitk ih hkn 
   go_enter Tryz.func168,Tryz.ntmps168
   go_upto_region 1 with fail
   rw [← HB.out]
   clear HB
   go_upto_region 2 with fail
   rw [← HWN.out,HBN.out]
   clear HWN HBN
   go_region_held3 (fun W => W.cell? ⟨Rb,0,none⟩ = some (.slice a rs.length cap) ∧ W.cell? ⟨w.heap.size,0,none⟩ = some (.string r.name) ∧ W.cell? ⟨w.heap.size,1,none⟩ = some (.int .i64 r.kind) ∧ W.cell? ⟨w.heap.size,2,none⟩ = some (.int .i64 r.size) ∧ W.cell? ⟨w.heap.size,3,none⟩ = some (.bool r.little) ∧ W.cell? ⟨w.heap.size,4,none⟩ = some (.slice a4 r.bytes.length c4) ∧ W.cell? ⟨w.heap.size,5,none⟩ = some (.slice a5 r.names.length c5) ∧ W.cell? ⟨w.heap.size,6,none⟩ = some (.slice a6 r.tags.length c6) ∧ W.cell? ⟨w.heap.size,7,none⟩ = some (.slice a7 r.kids.length c7)) (first | exact HS9.out _ _ HW0.out (Turn.refl _ _) | exact HS9.out _ _ (HW0.out.trans (hb5.mono HW0.out.size)) (Turn.refl _ _) | exact HS9.out _ _ (HW0.out.trans (hb5.mono HW0.out.size)) ht6) (first | (go_at_call 210; refine (HHEAD.out _ HW0.out).mono ?_; rintro e w5 ⟨⟨ks,rfl,hks⟩,hb5⟩) | (go_at_call 162; refine (HNUM.out _ ks (HW0.out.trans (hb5.mono HW0.out.size)) (hks.below0 hb5)).mono ?_; rintro e w6 ⟨⟨rfl,hr6,hx6⟩,hf6,ht6⟩))
   have HB5:=kq (HW0.out.trans (hb5.mono HW0.out.size))
   have HT6:=kq (HTW.out _ _ HB5.out ht6)
   obtain ⟨hz6,hc6,-⟩:=HKEEP.out _ _ HB5.out ht6
   have HZ6:=kq hz6
   have HC6:=kq hc6
   have HR6':=kq hr6
   have HS6:=kq (HS.out.next HT6.out)
   clear hb5 ht6 hks hz6 hc6 hr6
   have hkd:=HKD.out
   have k1:=(HC6.out 1 _ rfl).1
   have g4 : (r.kind == 4) = false:=by rw [hkd]; rfl
   have g5 : (r.kind == 5) = true:=by rw [hkd]; rfl
   have g8 : (r.kind == 8) = false:=by rw [hkd]; rfl
   clear hkd
   go_wp2
   go_ret
   exact ⟨⟨rfl,_,rfl,HZ6.out⟩,HT6.out⟩
  ·have hxi : ¬ (40 : Int) < (xn : Int):=by omega
   have hgb : headB rs L n r hd p = (gotItems (parseB rs L n) r 0 xn [] q).to fun l => .mk 0 [] l:=by
    unfold headB
    rw [hg]
    simp only
    rw [if_neg (by omega),if_neg (by omega),if_neg (by omega)]
    rw [if_neg hxi,Int.toNat_natCast]
   rw [hgb]
   have HKD:=kq hkd
   clear hg hgb hfine hkd hwb hwn hB hC hbn hBn hCn hRn hZn hSn hNc hhead hnum htw hkeep hS hR hz hbs hN hrk hr hki hall hrd hm1 hm hmk hmr hkl hhd hsz hitk ih hkn 
   go_enter Tryz.func168,Tryz.ntmps168
   go_upto_region 1 with fail
   rw [← HB.out]
   clear HB
   go_upto_region 2 with fail
   rw [← HWN.out,HBN.out]
   clear HWN HBN
   go_region_held3 (fun W => W.cell? ⟨Rb,0,none⟩ = some (.slice a rs.length cap) ∧ W.cell? ⟨w.heap.size,0,none⟩ = some (.string r.name) ∧ W.cell? ⟨w.heap.size,1,none⟩ = some (.int .i64 r.kind) ∧ W.cell? ⟨w.heap.size,2,none⟩ = some (.int .i64 r.size) ∧ W.cell? ⟨w.heap.size,3,none⟩ = some (.bool r.little) ∧ W.cell? ⟨w.heap.size,4,none⟩ = some (.slice a4 r.bytes.length c4) ∧ W.cell? ⟨w.heap.size,5,none⟩ = some (.slice a5 r.names.length c5) ∧ W.cell? ⟨w.heap.size,6,none⟩ = some (.slice a6 r.tags.length c6) ∧ W.cell? ⟨w.heap.size,7,none⟩ = some (.slice a7 r.kids.length c7)) (first | exact HS9.out _ _ HW0.out (Turn.refl _ _) | exact HS9.out _ _ (HW0.out.trans (hb5.mono HW0.out.size)) (Turn.refl _ _) | exact HS9.out _ _ (HW0.out.trans (hb5.mono HW0.out.size)) ht6) (first | (go_at_call 210; refine (HHEAD.out _ HW0.out).mono ?_; rintro e w5 ⟨⟨ks,rfl,hks⟩,hb5⟩) | (go_at_call 162; refine (HNUM.out _ ks (HW0.out.trans (hb5.mono HW0.out.size)) (hks.below0 hb5)).mono ?_; rintro e w6 ⟨⟨rfl,hr6,hx6⟩,hf6,ht6⟩))
   have HB5:=kq (HW0.out.trans (hb5.mono HW0.out.size))
   have HT6:=kq (HTW.out _ _ HB5.out ht6)
   obtain ⟨hz6,hc6,-⟩:=HKEEP.out _ _ HB5.out ht6
   have HZ6:=kq hz6
   have HC6:=kq hc6
   have HR6':=kq hr6
   have HS6:=kq (HS.out.next HT6.out)
   clear hb5 ht6 hks hz6 hc6 hr6
   have hkd:=HKD.out
   have k0:=(HC6.out 0 _ rfl).1
   have k1:=(HC6.out 1 _ rfl).1
   have k2:=(HC6.out 2 _ rfl).1
   have k3:=(HC6.out 3 _ rfl).1
   have k4:=(HC6.out 4 _ rfl).1
   have k5:=(HC6.out 5 _ rfl).1
   have k6:=(HC6.out 6 _ rfl).1
   have k7:=(HC6.out 7 _ rfl).1
   have g4 : (r.kind == 4) = false:=by rw [hkd]; rfl
   have g5 : (r.kind == 5) = true:=by rw [hkd]; rfl
   have g8 : (r.kind == 8) = false:=by rw [hkd]; rfl
   have g7 : (r.kind == 7) = false:=by rw [hkd]; rfl
   clear hkd
   go_wp2_with ((go_at_call 166; refine (HIT.out r _ 0 xn q Rb Z o w6 HKI.out HIR.out (by omega) (HITK.out 0 xn (by omega)) hq HS6.out HR6'.out HZ6.out).mono ?_; rintro e w7 h7; obtain ⟨v7,rfl⟩:=h7.ret; have H7:=kq (h7.later HT6.out); clear h7))
   try go_wp2
   go_ret
   exact H7.out
theorem contains_tag : ∀ (ts ks : List Int) (x : Int),ts.length ≤ ks.length → (∀ k ∈ ks,(0 : Int) ≤ k) → ts.contains x = decide (0 ≤ tagKid ts ks x)
 | [],ks,x,_,_ => by cases ks <;> simp [tagKid]
 | t :: ts,[],x,h,_ => by simp at h
 | t :: ts,k :: ks,x,h,hk => by
  have ih:=contains_tag ts ks x (by simpa using h) fun y hy => hk y (by simp [hy])
  unfold tagKid
  by_cases e : t = x
  ·rw [if_pos e]
   have h0:=hk k (by simp)
   simp [e,h0]
  ·rw [if_neg e,← ih]
   have e2 : ¬ x = t:=fun h => e h.symm
   simp [e2]
theorem iheaded_7 (w0 : World) (a ab : Option Addr) (rs : List RuleV) (cap cb : Nat) (L : List UInt8) (n : Nat) (hall : allV (kindI rs) rs) (ih : IItemsC w0 a ab rs cap cb L n) (hrd : RdR a rs w0) (k p Rb Z o : Nat) (cs : List Value) (w : World) (hk : k < rs.length) (hkn : k < n + 1) (hkd : rs[k].kind = 7) (hir : IsRule rs[k] cs w0)
  (hp : p ≤ L.length) (hS : Site w0 a ab rs.length cap cb L Rb Z o w) (hR : CellsAt Rb (rdCells a rs.length cap ab L.length cb p) w) (hz : PlacedAt Z o [.int .i64 0,.slice none 0 0,.slice none 0 0] w) :
  Calls Tryz.prog 168 #[.pointer (some ⟨Rb,0,none⟩),.agg cs.toArray,.pointer (some ⟨Z,o,none⟩)] w (GotAt a ab rs.length cap cb L.length Rb Z o (n + 1) (headB rs L n rs[k] (ruleAt rs (rs[k].kids.getD 0 0)) p) w):=by
 have hki:=allV_kind hall hk
 obtain ⟨hm1,m,hm,hmk⟩:=kid_int hall hk (by omega)
 have hmr : m < rs.length:=by omega
 have hkl : 0 < rs[k].kids.length:=by have:=(kindI_7 hki hkd).1; omega
 obtain ⟨r,hr⟩ : ∃ r,r = rs[k]:=⟨_,rfl⟩
 have hrk:=hr
 rw [hm] at hm1 ⊢
 rw [ruleAt_at hmr] at hm1 ⊢
 have hsz:=kindI_size (allV_kind hall hmr) hm1
 obtain ⟨hd,hhd⟩ : ∃ hd,hd = rs[m]:=⟨_,rfl⟩
 rw [← hhd] at hsz ⊢
 rw [← hr] at hkd hir hki hm hkl ⊢
 have HIR:=kq hir
 have HKI:=kq hki
 obtain ⟨a4,c4,a5,c5,a6,c6,a7,c7,rfl,-,-,r6,-⟩:=hir
 have hZl : Z < w.heap.size:=hz.lt (by simp)
 have hRl : Rb < w.heap.size:=cell_lt (hR 0 _ rfl).1
 have hne:=hS.ne
 have hl:=hS.len
 have hzw:=hS.z
 have hrw:=hS.rb
 obtain ⟨wb,hwb⟩ : ∃ wb,wb = w.alloc (.cells #[.string r.name,.int .i64 r.kind,.int .i64 r.size,.bool r.little,.slice a4 r.bytes.length c4,.slice a5 r.names.length c5,.slice a6 r.tags.length c6,.slice a7 r.kids.length c7] 63):=⟨_,rfl⟩
 have hB:=zb1 hwb
 have hC:=zk1 hwb
 have hbs : wb.heap.size = w.heap.size + 1:=by subst hwb; simp
 obtain ⟨N,hN⟩ : ∃ N,N = w.heap.size + 1:=⟨_,rfl⟩
 obtain ⟨wn,hwn⟩ : ∃ wn,wn = wb.alloc (.cells #[.int .i64 0] 3):=⟨_,rfl⟩
 have hbn:=zb1 hwn
 have hBn : Below w.heap.size w wn:=hB.trans (hbn.mono hB.size)
 have hns : wn.heap.size = w.heap.size + 2:=by subst hwn; simp [hbs]
 have hNc : wn.cell? ⟨N,0,none⟩ = some (.int .i64 0) ∧ wn.frozen? ⟨N,0,none⟩ = false:=by subst hwn; rw [hN,← hbs]; exact CellsAt.new wb [.int .i64 0] 3 0 _ rfl
 have hCn:=hC.below hbn
 have hRn:=hR.below hBn
 have hZn:=hz.below hBn
 have hSn:=hS.next (Turn.of_below (AtV Rb Z o) hBn)
 have hNR : N ≠ Rb:=by omega
 have hNZ : N ≠ Z:=by omega
 have c2:=((hR.below hB) 2 _ rfl).1
 have hhead : ∀ W,Below wn.heap.size wn W → Calls Tryz.prog 210 #[.agg #[.slice a rs.length cap],.agg #[.string r.name,.int .i64 r.kind,.int .i64 r.size,.bool r.little,.slice a4 r.bytes.length c4,.slice a5 r.names.length c5,.slice a6 r.tags.length c6,.slice a7 r.kids.length c7]] W fun e w' => (∃ ks,e = .returned (.agg ks.toArray) ∧ IsRule hd ks W) ∧ Below W.heap.size W w':=fun W hb => by
  have hbw:=hSn.below.trans (hb.mono hSn.below.size)
  have h1:=head_rule a rs cap m r _ W (HIR.out.below0 hbw) (by omega) (hrd.below hbw) hmr hm hkl
  rw [← hhd] at h1
  exact h1
 have hnum : ∀ W ks,Below wn.heap.size wn W → IsRule hd ks W → Calls Tryz.prog 162 #[.pointer (some ⟨Rb,0,none⟩),.agg ks.toArray,.pointer (some ⟨N,0,none⟩)] W fun e w' => (match gotInt hd L p with
   | .ok x q => e = .returned .nilIface ∧ CellsAt Rb (rdCells a rs.length cap ab L.length cb q) w' ∧ w'.cell? ⟨N,0,none⟩ = some (.int .i64 x)
   | .bad q c => e = .returned (RErr q c) ∧ ∃ x,w'.cell? ⟨N,0,none⟩ = some x) ∧ w'.frozen? ⟨N,0,none⟩ = false ∧ Turn (AtN Rb N 0) W w':=fun W ks hb hi =>
  number_impl a ab rs.length cap cb p Rb N 0 L hd ks (.int .i64 0) W (hRn.below hb) (hSn.next (Turn.of_below (AtV Rb Z o) hb)).srcAt hl hp hi (by omega) hsz.2 ⟨cellK hb (Nat.le_refl _) hNc.1,(hb.frozen (p:=⟨N,0,none⟩) (cell_lt hNc.1)).trans hNc.2⟩ hNR fun w' ht => (hSn.next ((Turn.of_below (AtV Rb Z o) hb).trans ht fun _ _ _ h => .inl h)).srcAt
 have htw : ∀ W W',Below wn.heap.size wn W → Turn (AtN Rb N 0) W W' → Turn (AtV Rb Z o) w W':=fun W W' hb ht => (Turn.of_below (AtV Rb Z o) (hBn.trans (hb.mono hBn.size))).trans ht fun j i hj h => by
  rcases h with h | h
  ·exact .inl h
  ·have:=h.1; omega
 have hkeep : ∀ W W',Below wn.heap.size wn W → Turn (AtN Rb N 0) W W' → PlacedAt Z o [.int .i64 0,.slice none 0 0,.slice none 0 0] W' ∧ CellsAt w.heap.size [.string r.name,.int .i64 r.kind,.int .i64 r.size,.bool r.little,.slice a4 r.bytes.length c4,.slice a5 r.names.length c5,.slice a6 r.tags.length c6,.slice a7 r.kids.length c7] W' ∧ W'.cell? ⟨Rb,0,none⟩ = some (.slice a rs.length cap):=fun W W' hb ht => by
  refine ⟨(hZn.below hb).kept ht fun i _ h => ?_,(hCn.below hb).turn ht fun i _ h => ?_,(ht.kept (fun h => ?_) ((hRn.below hb) 0 _ rfl)).1⟩
  ·rcases h with h | h
   ·exact hne h.1
   ·exact hNZ h.1.symm
  ·rcases h with h | h
   ·have:=h.1; omega
   ·have:=h.1; omega
  ·rcases h with h | h
   ·exact absurd h.2 (by decide)
   ·exact hNR h.1.symm
 have HBN : Hid (wb.heap.size = N):=by show _ = _; omega
 have HNW : Hid (N = w.heap.size + 1):=hN
 have HB:=kq hwb
 have HWN:=kq hwn
 have HHEAD:=kq hhead
 have HNUM:=kq hnum
 have HTW:=kq htw
 have HKEEP:=kq hkeep
 have HSN:=kq hSn
 have HS:=kq hS
 have HW0 : Hid (Below wn.heap.size wn wn.drew):=below_drewN (Below.refl _ wn) 1
 have HS9 : Hid (∀ W W',Below wn.heap.size wn W → Turn (AtN Rb N 0) W W' → W'.cell? ⟨Rb,0,none⟩ = some (.slice a rs.length cap) ∧ W'.cell? ⟨w.heap.size,0,none⟩ = some (.string r.name) ∧ W'.cell? ⟨w.heap.size,1,none⟩ = some (.int .i64 r.kind) ∧ W'.cell? ⟨w.heap.size,2,none⟩ = some (.int .i64 r.size) ∧ W'.cell? ⟨w.heap.size,3,none⟩ = some (.bool r.little) ∧ W'.cell? ⟨w.heap.size,4,none⟩ = some (.slice a4 r.bytes.length c4) ∧ W'.cell? ⟨w.heap.size,5,none⟩ = some (.slice a5 r.names.length c5) ∧ W'.cell? ⟨w.heap.size,6,none⟩ = some (.slice a6 r.tags.length c6) ∧ W'.cell? ⟨w.heap.size,7,none⟩ = some (.slice a7 r.kids.length c7)):=fun W W' hb ht => by
  obtain ⟨_,h2,h3⟩:=hkeep W W' hb ht
  exact ⟨h3,(h2 0 _ rfl).1,(h2 1 _ rfl).1,(h2 2 _ rfl).1,(h2 3 _ rfl).1,(h2 4 _ rfl).1,(h2 5 _ rfl).1,(h2 6 _ rfl).1,(h2 7 _ rfl).1⟩
 have HIT:=kq ih
 have hitk : ∀ (x : Int) (c : Nat),(c = 1 ∧ 0 ≤ itemR r x 0) → ∀ i,i < c → ∃ q : Nat,kidI r x i = (q : Int) ∧ itemR r x i = (q : Int) ∧ q < rs.length ∧ q < n:=fun x c hc i hi => by
  have h0 : 0 ≤ itemR rs[k] x i:=items_there hall hk (m:=c) hi (by rw [← hrk]; exact .inr (.inr (.inl ⟨hkd,hc.2⟩)))
  obtain ⟨q,hq,hqk⟩:=items_kid hall hk h0
  rw [← hrk] at hq
  refine ⟨q,?_,hq,by omega,by omega⟩
  rw [← hq]
  unfold kidI itemR
  have hi0 : i = 0:=by omega
  rw [if_neg (by omega),if_pos hkd,if_pos hi0,if_neg (by omega),if_neg (by omega),if_pos hkd]
 have HITK:=kq hitk
 have h7:=kindI_7 hki hkd
 have ht0 : 0 < r.tags.length:=by omega
 have ht8 : r.tags.length ≤ 8:=by omega
 have HH7:=kq h7
 have HR6:=kq r6
 clear h7
 cases hg : gotInt hd L p with
 | bad q c =>
  have hgb : headB rs L n r hd p = .bad q c:=by unfold headB; rw [hg]
  rw [hgb]
  rw [hg] at HNUM
  clear hg hgb hkd hwb hwn hB hC hbn hBn hCn hRn hZn hSn hNc hhead hnum htw hkeep hS hR hz hbs hN hrk hr hki hall hrd hm1 hm hmk hmr hkl hhd hsz hitk ih hkn 
  go_enter Tryz.func168,Tryz.ntmps168
  go_upto_region 1 with fail
  rw [← HB.out]
  clear HB
  go_upto_region 2 with fail
  rw [← HWN.out,HBN.out]
  clear HWN HBN
  go_region_held3 (fun W => W.cell? ⟨Rb,0,none⟩ = some (.slice a rs.length cap) ∧ W.cell? ⟨w.heap.size,0,none⟩ = some (.string r.name) ∧ W.cell? ⟨w.heap.size,1,none⟩ = some (.int .i64 r.kind) ∧ W.cell? ⟨w.heap.size,2,none⟩ = some (.int .i64 r.size) ∧ W.cell? ⟨w.heap.size,3,none⟩ = some (.bool r.little) ∧ W.cell? ⟨w.heap.size,4,none⟩ = some (.slice a4 r.bytes.length c4) ∧ W.cell? ⟨w.heap.size,5,none⟩ = some (.slice a5 r.names.length c5) ∧ W.cell? ⟨w.heap.size,6,none⟩ = some (.slice a6 r.tags.length c6) ∧ W.cell? ⟨w.heap.size,7,none⟩ = some (.slice a7 r.kids.length c7)) (first | exact HS9.out _ _ HW0.out (Turn.refl _ _) | exact HS9.out _ _ (HW0.out.trans (hb5.mono HW0.out.size)) (Turn.refl _ _) | exact HS9.out _ _ (HW0.out.trans (hb5.mono HW0.out.size)) ht6) (first | (go_at_call 210; refine (HHEAD.out _ HW0.out).mono ?_; rintro e w5 ⟨⟨ks,rfl,hks⟩,hb5⟩) | (go_at_call 162; refine (HNUM.out _ ks (HW0.out.trans (hb5.mono HW0.out.size)) (hks.below0 hb5)).mono ?_; rintro e w6 ⟨⟨he6,hx6⟩,hf6,ht6⟩; unfold RErr at he6; subst he6))
  have HT6:=kq (HTW.out _ _ (HW0.out.trans (hb5.mono HW0.out.size)) ht6)
  have HZ6:=kq (HKEEP.out _ _ (HW0.out.trans (hb5.mono HW0.out.size)) ht6).1
  clear hb5 ht6 hx6 hf6 hks
  go_wp2
  go_ret
  exact ⟨⟨rfl,_,rfl,HZ6.out⟩,HT6.out⟩
 | ok x q =>
  obtain ⟨xn,rfl,hxb,hxs⟩:=gotInt_nat hsz.2 hg
  have hfine:=gotInt_fine hd L p hp
  rw [hg] at hfine
  have hq : q ≤ L.length:=hfine.2
  rw [hg] at HNUM
  have x0 : (0 : Int) ≤ (xn : Int):=by omega
  have hct : r.tags.contains (xn : Int) = decide (0 ≤ itemR r (xn : Int) 0):=by
   have hnn : ∀ kk ∈ r.kids,(0 : Int) ≤ kk:=fun kk hkk => by rw [hrk] at hkk; exact (allV_kids hall hk kk hkk).1
   unfold itemR
   rw [if_neg (by omega),if_neg (by omega),if_pos hkd]
   exact contains_tag r.tags (r.kids.drop 1) (xn : Int) (by rw [List.length_drop]; have:=HH7.out; omega) fun kk hkk => hnn kk (List.mem_of_mem_drop hkk)
  by_cases hx : itemR r (xn : Int) 0 < 0
  ·have hcf : r.tags.contains (xn : Int) = false:=by rw [hct]; exact decide_eq_false (by omega)
   have hgb : headB rs L n r hd p = (.bad p 3):=by
    unfold headB
    rw [hg]
    simp only
    rw [if_pos hkd]
    rw [if_pos hx]
   rw [hgb]
   have HKD:=kq hkd
   clear hg hgb hfine hkd hx hct hwb hwn hB hC hbn hBn hCn hRn hZn hSn hNc hhead hnum htw hkeep hS hR hz hbs hN hrk hr hki hall hrd hm1 hm hmk hmr hkl hhd hsz hitk ih hkn 
   go_enter Tryz.func168,Tryz.ntmps168
   go_upto_region 1 with fail
   rw [← HB.out]
   clear HB
   go_upto_region 2 with fail
   rw [← HWN.out,HBN.out]
   clear HWN HBN
   go_region_held3 (fun W => W.cell? ⟨Rb,0,none⟩ = some (.slice a rs.length cap) ∧ W.cell? ⟨w.heap.size,0,none⟩ = some (.string r.name) ∧ W.cell? ⟨w.heap.size,1,none⟩ = some (.int .i64 r.kind) ∧ W.cell? ⟨w.heap.size,2,none⟩ = some (.int .i64 r.size) ∧ W.cell? ⟨w.heap.size,3,none⟩ = some (.bool r.little) ∧ W.cell? ⟨w.heap.size,4,none⟩ = some (.slice a4 r.bytes.length c4) ∧ W.cell? ⟨w.heap.size,5,none⟩ = some (.slice a5 r.names.length c5) ∧ W.cell? ⟨w.heap.size,6,none⟩ = some (.slice a6 r.tags.length c6) ∧ W.cell? ⟨w.heap.size,7,none⟩ = some (.slice a7 r.kids.length c7)) (first | exact HS9.out _ _ HW0.out (Turn.refl _ _) | exact HS9.out _ _ (HW0.out.trans (hb5.mono HW0.out.size)) (Turn.refl _ _) | exact HS9.out _ _ (HW0.out.trans (hb5.mono HW0.out.size)) ht6) (first | (go_at_call 210; refine (HHEAD.out _ HW0.out).mono ?_; rintro e w5 ⟨⟨ks,rfl,hks⟩,hb5⟩) | (go_at_call 162; refine (HNUM.out _ ks (HW0.out.trans (hb5.mono HW0.out.size)) (hks.below0 hb5)).mono ?_; rintro e w6 ⟨⟨rfl,hr6,hx6⟩,hf6,ht6⟩))
   have HB5:=kq (HW0.out.trans (hb5.mono HW0.out.size))
   have HT6:=kq (HTW.out _ _ HB5.out ht6)
   obtain ⟨hz6,hc6,-⟩:=HKEEP.out _ _ HB5.out ht6
   have HZ6:=kq hz6
   have HC6:=kq hc6
   have HR6':=kq hr6
   have HS6:=kq (HS.out.next HT6.out)
   clear hb5 ht6 hks hz6 hc6 hr6
   have hkd:=HKD.out
   have k0:=(HC6.out 0 _ rfl).1
   have k1:=(HC6.out 1 _ rfl).1
   have k2:=(HC6.out 2 _ rfl).1
   have k3:=(HC6.out 3 _ rfl).1
   have k4:=(HC6.out 4 _ rfl).1
   have k5:=(HC6.out 5 _ rfl).1
   have k6:=(HC6.out 6 _ rfl).1
   have k7:=(HC6.out 7 _ rfl).1
   have g4 : (r.kind == 4) = false:=by rw [hkd]; rfl
   have g5 : (r.kind == 5) = false:=by rw [hkd]; rfl
   have g8 : (r.kind == 8) = false:=by rw [hkd]; rfl
   have g7 : (r.kind == 7) = true:=by rw [hkd]; rfl
   clear hkd
   have hcc:=contains_impl a6 r.tags c6 (xn : Int) w6 (HR6.out.below HS6.out.below) (by omega) (by omega)
   rw [hcf] at hcc
   go_wp2_with ((go_at_call 211; refine hcc.mono ?_; rintro e w7 ⟨rfl,rfl⟩))
   try go_wp2
   go_ret
   exact ⟨⟨rfl,_,rfl,HZ6.out⟩,HT6.out⟩
  ·have hcf : r.tags.contains (xn : Int) = true:=by rw [hct]; exact decide_eq_true (by omega)
   have hx0 : 0 ≤ itemR r (xn : Int) 0:=by omega
   have hgb : headB rs L n r hd p = (gotItems (parseB rs L n) r (xn : Int) 1 [] q).to fun l => .mk (xn : Int) [] l:=by
    unfold headB
    rw [hg]
    simp only
    rw [if_pos hkd]
    rw [if_neg hx]
   rw [hgb]
   have HKD:=kq hkd
   have HX0:=kq hx0
   clear hg hgb hfine hkd hx hct hx0 hwb hwn hB hC hbn hBn hCn hRn hZn hSn hNc hhead hnum htw hkeep hS hR hz hbs hN hrk hr hki hall hrd hm1 hm hmk hmr hkl hhd hsz hitk ih hkn 
   go_enter Tryz.func168,Tryz.ntmps168
   go_upto_region 1 with fail
   rw [← HB.out]
   clear HB
   go_upto_region 2 with fail
   rw [← HWN.out,HBN.out]
   clear HWN HBN
   go_region_held3 (fun W => W.cell? ⟨Rb,0,none⟩ = some (.slice a rs.length cap) ∧ W.cell? ⟨w.heap.size,0,none⟩ = some (.string r.name) ∧ W.cell? ⟨w.heap.size,1,none⟩ = some (.int .i64 r.kind) ∧ W.cell? ⟨w.heap.size,2,none⟩ = some (.int .i64 r.size) ∧ W.cell? ⟨w.heap.size,3,none⟩ = some (.bool r.little) ∧ W.cell? ⟨w.heap.size,4,none⟩ = some (.slice a4 r.bytes.length c4) ∧ W.cell? ⟨w.heap.size,5,none⟩ = some (.slice a5 r.names.length c5) ∧ W.cell? ⟨w.heap.size,6,none⟩ = some (.slice a6 r.tags.length c6) ∧ W.cell? ⟨w.heap.size,7,none⟩ = some (.slice a7 r.kids.length c7)) (first | exact HS9.out _ _ HW0.out (Turn.refl _ _) | exact HS9.out _ _ (HW0.out.trans (hb5.mono HW0.out.size)) (Turn.refl _ _) | exact HS9.out _ _ (HW0.out.trans (hb5.mono HW0.out.size)) ht6) (first | (go_at_call 210; refine (HHEAD.out _ HW0.out).mono ?_; rintro e w5 ⟨⟨ks,rfl,hks⟩,hb5⟩) | (go_at_call 162; refine (HNUM.out _ ks (HW0.out.trans (hb5.mono HW0.out.size)) (hks.below0 hb5)).mono ?_; rintro e w6 ⟨⟨rfl,hr6,hx6⟩,hf6,ht6⟩))
   have HB5:=kq (HW0.out.trans (hb5.mono HW0.out.size))
   have HT6:=kq (HTW.out _ _ HB5.out ht6)
   obtain ⟨hz6,hc6,-⟩:=HKEEP.out _ _ HB5.out ht6
   have HZ6:=kq hz6
   have HC6:=kq hc6
   have HR6':=kq hr6
   have HS6:=kq (HS.out.next HT6.out)
   clear hb5 ht6 hks hz6 hc6 hr6
   have hkd:=HKD.out
   have k0:=(HC6.out 0 _ rfl).1
   have k1:=(HC6.out 1 _ rfl).1
   have k2:=(HC6.out 2 _ rfl).1
   have k3:=(HC6.out 3 _ rfl).1
   have k4:=(HC6.out 4 _ rfl).1
   have k5:=(HC6.out 5 _ rfl).1
   have k6:=(HC6.out 6 _ rfl).1
   have k7:=(HC6.out 7 _ rfl).1
   have g4 : (r.kind == 4) = false:=by rw [hkd]; rfl
   have g5 : (r.kind == 5) = false:=by rw [hkd]; rfl
   have g8 : (r.kind == 8) = false:=by rw [hkd]; rfl
   have g7 : (r.kind == 7) = true:=by rw [hkd]; rfl
   clear hkd
   have hcc:=contains_impl a6 r.tags c6 (xn : Int) w6 (HR6.out.below HS6.out.below) (by omega) (by omega)
   rw [hcf] at hcc
   obtain ⟨z0,f0⟩:=HZ6.out 0 _ rfl
   rw [Nat.add_zero] at z0 f0
   obtain ⟨ws,hws⟩ : ∃ ws,ws = (w6.setCell ⟨Z,o,none⟩ (.int .i64 (xn : Int))).setCell ⟨N,0,none⟩ (.int .i64 1):=⟨_,rfl⟩
   have hx6' : (w6.setCell ⟨Z,o,none⟩ (.int .i64 (xn : Int))).cell? ⟨N,0,none⟩ = some (.int .i64 (xn : Int)):=by rw [World.cell?_setCell_other (h:=show (⟨Z,o,none⟩ : Addr) ≠ ⟨N,0,none⟩ from fun e => hNZ (congrArg Addr.block e).symm)]; exact hx6
   have hf6' : (w6.setCell ⟨Z,o,none⟩ (.int .i64 (xn : Int))).frozen? ⟨N,0,none⟩ = false:=(World.frozen?_setCell _ _ _ _).trans hf6
   have hts : Turn (fun j i => (j = Z ∧ i = o) ∨ (j = N ∧ i = 0)) w6 ws:=by
    subst hws
    exact (Turn.set (S:=fun j i => (j = Z ∧ i = o) ∨ (j = N ∧ i = 0)) (.inl ⟨rfl,rfl⟩)).trans (Turn.set (S:=fun j i => (j = Z ∧ i = o) ∨ (j = N ∧ i = 0)) (.inr ⟨rfl,rfl⟩)) fun _ _ _ h => h
   have HZS : Hid (PlacedAt Z o [.int .i64 (xn : Int),.slice none 0 0,.slice none 0 0] ws):=by
    subst hws
    have h1:=HZ6.out.set 0 (.int .i64 (xn : Int)) (by simp)
    rw [Nat.add_zero] at h1
    exact PlacedAt.far h1 (.inl hNZ)
   have HTS : Hid (Turn (AtV Rb Z o) w ws):=HT6.out.trans hts fun j i hj h => by
    rcases h with h | h
    ·exact .inr ⟨h.1,by omega,by omega⟩
    ·have:=h.1; have:=HNW.out; omega
   have HCS : Hid (CellsAt w.heap.size [.string r.name,.int .i64 r.kind,.int .i64 r.size,.bool r.little,.slice a4 r.bytes.length c4,.slice a5 r.names.length c5,.slice a6 r.tags.length c6,.slice a7 r.kids.length c7] ws):=HC6.out.turn hts fun i _ h => by
    rcases h with h | h
    ·have:=h.1; omega
    ·have:=h.1; have:=HNW.out; omega
   have HRS : Hid (CellsAt Rb (rdCells a rs.length cap ab L.length cb q) ws):=HR6'.out.turn hts fun i _ h => by
    rcases h with h | h
    ·exact hne h.1.symm
    ·exact hNR h.1.symm
   have HSS:=kq (HS.out.next HTS.out)
   have hn1 : ws.cell? ⟨N,0,none⟩ = some (.int .i64 1):=by subst hws; exact World.cell?_setCell_same _ _ _ hx6'
   have HWS:=kq hws
   clear hws hts
   go_upto_region 18 with ((go_at_call 211; refine hcc.mono ?_; rintro e w7 ⟨rfl,rfl⟩))
   rw [← HWS.out]
   clear HWS k0 k1 k2 k3 k4 k5 k6 k7 z0 f0 hx6 hf6 hx6' hf6'
   have k0:=(HCS.out 0 _ rfl).1
   have k1:=(HCS.out 1 _ rfl).1
   have k2:=(HCS.out 2 _ rfl).1
   have k3:=(HCS.out 3 _ rfl).1
   have k4:=(HCS.out 4 _ rfl).1
   have k5:=(HCS.out 5 _ rfl).1
   have k6:=(HCS.out 6 _ rfl).1
   have k7:=(HCS.out 7 _ rfl).1
   go_wp2_with ((go_at_call 166; refine (HIT.out r _ (xn : Int) 1 q Rb Z o ws HKI.out HIR.out (by omega) (HITK.out (xn : Int) 1 ⟨rfl,HX0.out⟩) hq HSS.out HRS.out HZS.out).mono ?_; rintro e w7 h7; obtain ⟨v7,rfl⟩:=h7.ret; have H7:=kq (h7.later HTS.out); clear h7))
   try go_wp2
   go_ret
   exact H7.out
theorem iheaded_8 (w0 : World) (a ab : Option Addr) (rs : List RuleV) (cap cb : Nat) (L : List UInt8) (n : Nat) (hall : allV (kindI rs) rs) (ih : IItemsC w0 a ab rs cap cb L n) (_hrd : RdR a rs w0) (k p Rb Z o : Nat) (cs : List Value) (w : World) (hk : k < rs.length) (hkn : k < n + 1) (hkd : rs[k].kind = 8) (hir : IsRule rs[k] cs w0)
  (hp : p ≤ L.length) (hS : Site w0 a ab rs.length cap cb L Rb Z o w) (hR : CellsAt Rb (rdCells a rs.length cap ab L.length cb p) w) (hz : PlacedAt Z o [.int .i64 0,.slice none 0 0,.slice none 0 0] w) :
  Calls Tryz.prog 168 #[.pointer (some ⟨Rb,0,none⟩),.agg cs.toArray,.pointer (some ⟨Z,o,none⟩)] w (GotAt a ab rs.length cap cb L.length Rb Z o (n + 1) (headB rs L n rs[k] flagR p) w):=by
 have hki:=allV_kind hall hk
 obtain ⟨r,hr⟩ : ∃ r,r = rs[k]:=⟨_,rfl⟩
 have hrk:=hr
 rw [← hr] at hkd hir hki ⊢
 have HIR:=kq hir
 have HKI:=kq hki
 obtain ⟨a4,c4,a5,c5,a6,c6,a7,c7,rfl,-,-,r6,-⟩:=hir
 have hZl : Z < w.heap.size:=hz.lt (by simp)
 have hRl : Rb < w.heap.size:=cell_lt (hR 0 _ rfl).1
 have hne:=hS.ne
 have hl:=hS.len
 have hzw:=hS.z
 have hrw:=hS.rb
 obtain ⟨wb,hwb⟩ : ∃ wb,wb = w.alloc (.cells #[.string r.name,.int .i64 r.kind,.int .i64 r.size,.bool r.little,.slice a4 r.bytes.length c4,.slice a5 r.names.length c5,.slice a6 r.tags.length c6,.slice a7 r.kids.length c7] 63):=⟨_,rfl⟩
 have hB:=zb1 hwb
 have hC:=zk1 hwb
 have hbs : wb.heap.size = w.heap.size + 1:=by subst hwb; simp
 obtain ⟨N,hN⟩ : ∃ N,N = w.heap.size + 1:=⟨_,rfl⟩
 obtain ⟨wn,hwn⟩ : ∃ wn,wn = wb.alloc (.cells #[.int .i64 0] 3):=⟨_,rfl⟩
 have hbn:=zb1 hwn
 have hBn : Below w.heap.size w wn:=hB.trans (hbn.mono hB.size)
 have hns : wn.heap.size = w.heap.size + 2:=by subst hwn; simp [hbs]
 have hNc : wn.cell? ⟨N,0,none⟩ = some (.int .i64 0) ∧ wn.frozen? ⟨N,0,none⟩ = false:=by subst hwn; rw [hN,← hbs]; exact CellsAt.new wb [.int .i64 0] 3 0 _ rfl
 have hCn:=hC.below hbn
 have hRn:=hR.below hBn
 have hZn:=hz.below hBn
 have hSn:=hS.next (Turn.of_below (AtV Rb Z o) hBn)
 have hNR : N ≠ Rb:=by omega
 have hNZ : N ≠ Z:=by omega
 have c2:=((hR.below hB) 2 _ rfl).1
 have hhead : ∀ W,Below wn.heap.size wn W → Calls Tryz.prog 210 #[.agg #[.slice a rs.length cap],.agg #[.string r.name,.int .i64 r.kind,.int .i64 r.size,.bool r.little,.slice a4 r.bytes.length c4,.slice a5 r.names.length c5,.slice a6 r.tags.length c6,.slice a7 r.kids.length c7]] W fun e w' => (∃ ks,e = .returned (.agg ks.toArray) ∧ IsRule flagR ks W) ∧ Below W.heap.size W w':=fun W hb => by
  refine (head_flag a rs.length cap r _ W (HIR.out.below0 (hSn.below.trans (hb.mono hSn.below.size))) hkd).mono ?_
  rintro e w' ⟨rfl,hb'⟩
  exact ⟨⟨[.string ⟨#[]⟩,.int .i64 1,.int .i64 1,.bool false,.slice none 0 0,.slice none 0 0,.slice none 0 0,.slice none 0 0],rfl,none,0,none,0,none,0,none,0,rfl,(fun j h => by simp [flagR] at h),(fun j h => by simp [flagR] at h),(fun j h => by simp [flagR] at h),(fun j h => by simp [flagR] at h)⟩,hb'⟩
 have hsz : 1 ≤ flagR.size ∧ flagR.size ≤ 4:=by decide
 have hnum : ∀ W ks,Below wn.heap.size wn W → IsRule flagR ks W → Calls Tryz.prog 162 #[.pointer (some ⟨Rb,0,none⟩),.agg ks.toArray,.pointer (some ⟨N,0,none⟩)] W fun e w' => (match gotInt flagR L p with
   | .ok x q => e = .returned .nilIface ∧ CellsAt Rb (rdCells a rs.length cap ab L.length cb q) w' ∧ w'.cell? ⟨N,0,none⟩ = some (.int .i64 x)
   | .bad q c => e = .returned (RErr q c) ∧ ∃ x,w'.cell? ⟨N,0,none⟩ = some x) ∧ w'.frozen? ⟨N,0,none⟩ = false ∧ Turn (AtN Rb N 0) W w':=fun W ks hb hi =>
  number_impl a ab rs.length cap cb p Rb N 0 L flagR ks (.int .i64 0) W (hRn.below hb) (hSn.next (Turn.of_below (AtV Rb Z o) hb)).srcAt hl hp hi (by omega) hsz.2 ⟨cellK hb (Nat.le_refl _) hNc.1,(hb.frozen (p:=⟨N,0,none⟩) (cell_lt hNc.1)).trans hNc.2⟩ hNR fun w' ht => (hSn.next ((Turn.of_below (AtV Rb Z o) hb).trans ht fun _ _ _ h => .inl h)).srcAt
 have htw : ∀ W W',Below wn.heap.size wn W → Turn (AtN Rb N 0) W W' → Turn (AtV Rb Z o) w W':=fun W W' hb ht => (Turn.of_below (AtV Rb Z o) (hBn.trans (hb.mono hBn.size))).trans ht fun j i hj h => by
  rcases h with h | h
  ·exact .inl h
  ·have:=h.1; omega
 have hkeep : ∀ W W',Below wn.heap.size wn W → Turn (AtN Rb N 0) W W' → PlacedAt Z o [.int .i64 0,.slice none 0 0,.slice none 0 0] W' ∧ CellsAt w.heap.size [.string r.name,.int .i64 r.kind,.int .i64 r.size,.bool r.little,.slice a4 r.bytes.length c4,.slice a5 r.names.length c5,.slice a6 r.tags.length c6,.slice a7 r.kids.length c7] W' ∧ W'.cell? ⟨Rb,0,none⟩ = some (.slice a rs.length cap):=fun W W' hb ht => by
  refine ⟨(hZn.below hb).kept ht fun i _ h => ?_,(hCn.below hb).turn ht fun i _ h => ?_,(ht.kept (fun h => ?_) ((hRn.below hb) 0 _ rfl)).1⟩
  ·rcases h with h | h
   ·exact hne h.1
   ·exact hNZ h.1.symm
  ·rcases h with h | h
   ·have:=h.1; omega
   ·have:=h.1; omega
  ·rcases h with h | h
   ·exact absurd h.2 (by decide)
   ·exact hNR h.1.symm
 have HBN : Hid (wb.heap.size = N):=by show _ = _; omega
 have HB:=kq hwb
 have HWN:=kq hwn
 have HHEAD:=kq hhead
 have HNUM:=kq hnum
 have HTW:=kq htw
 have HKEEP:=kq hkeep
 have HSN:=kq hSn
 have HS:=kq hS
 have HW0 : Hid (Below wn.heap.size wn wn.drew):=below_drewN (Below.refl _ wn) 1
 have HS9 : Hid (∀ W W',Below wn.heap.size wn W → Turn (AtN Rb N 0) W W' → W'.cell? ⟨Rb,0,none⟩ = some (.slice a rs.length cap) ∧ W'.cell? ⟨w.heap.size,0,none⟩ = some (.string r.name) ∧ W'.cell? ⟨w.heap.size,1,none⟩ = some (.int .i64 r.kind) ∧ W'.cell? ⟨w.heap.size,2,none⟩ = some (.int .i64 r.size) ∧ W'.cell? ⟨w.heap.size,3,none⟩ = some (.bool r.little) ∧ W'.cell? ⟨w.heap.size,4,none⟩ = some (.slice a4 r.bytes.length c4) ∧ W'.cell? ⟨w.heap.size,5,none⟩ = some (.slice a5 r.names.length c5) ∧ W'.cell? ⟨w.heap.size,6,none⟩ = some (.slice a6 r.tags.length c6) ∧ W'.cell? ⟨w.heap.size,7,none⟩ = some (.slice a7 r.kids.length c7)):=fun W W' hb ht => by
  obtain ⟨_,h2,h3⟩:=hkeep W W' hb ht
  exact ⟨h3,(h2 0 _ rfl).1,(h2 1 _ rfl).1,(h2 2 _ rfl).1,(h2 3 _ rfl).1,(h2 4 _ rfl).1,(h2 5 _ rfl).1,(h2 6 _ rfl).1,(h2 7 _ rfl).1⟩
 have HIT:=kq ih
 have hitk : ∀ (x : Int) (c : Nat),c ≤ 1 → ∀ i,i < c → ∃ q : Nat,kidI r x i = (q : Int) ∧ itemR r x i = (q : Int) ∧ q < rs.length ∧ q < n:=fun x c hc i hi => by
  have h0 : 0 ≤ itemR rs[k] x i:=items_there hall hk (m:=c) hi (by rw [← hrk]; exact .inr (.inr (.inr (.inl hkd))))
  obtain ⟨q,hq,hqk⟩:=items_kid hall hk h0
  rw [← hrk] at hq
  refine ⟨q,?_,hq,by omega,by omega⟩
  rw [← hq]
  unfold kidI itemR
  have hi0 : i = 0:=by omega
  have hkl:=kindI_8 HKI.out hkd
  rw [if_neg (by omega),if_neg (by omega),if_pos (by omega),if_pos (by omega),hi0,if_neg (by omega),if_neg (by omega),if_neg (by omega),if_pos (by omega)]
 have HITK:=kq hitk
 cases hg : gotInt flagR L p with
 | bad q c =>
  have hgb : headB rs L n r flagR p = .bad q c:=by unfold headB; rw [hg]
  rw [hgb]
  rw [hg] at HNUM
  clear hg hgb hkd hwb hwn hB hC hbn hBn hCn hRn hZn hSn hNc hhead hnum htw hkeep hS hR hz hbs hN hrk hr hki hall hsz hitk ih hkn 
  go_enter Tryz.func168,Tryz.ntmps168
  go_upto_region 1 with fail
  rw [← HB.out]
  clear HB
  go_upto_region 2 with fail
  rw [← HWN.out,HBN.out]
  clear HWN HBN
  go_region_held3 (fun W => W.cell? ⟨Rb,0,none⟩ = some (.slice a rs.length cap) ∧ W.cell? ⟨w.heap.size,0,none⟩ = some (.string r.name) ∧ W.cell? ⟨w.heap.size,1,none⟩ = some (.int .i64 r.kind) ∧ W.cell? ⟨w.heap.size,2,none⟩ = some (.int .i64 r.size) ∧ W.cell? ⟨w.heap.size,3,none⟩ = some (.bool r.little) ∧ W.cell? ⟨w.heap.size,4,none⟩ = some (.slice a4 r.bytes.length c4) ∧ W.cell? ⟨w.heap.size,5,none⟩ = some (.slice a5 r.names.length c5) ∧ W.cell? ⟨w.heap.size,6,none⟩ = some (.slice a6 r.tags.length c6) ∧ W.cell? ⟨w.heap.size,7,none⟩ = some (.slice a7 r.kids.length c7)) (first | exact HS9.out _ _ HW0.out (Turn.refl _ _) | exact HS9.out _ _ (HW0.out.trans (hb5.mono HW0.out.size)) (Turn.refl _ _) | exact HS9.out _ _ (HW0.out.trans (hb5.mono HW0.out.size)) ht6) (first | (go_at_call 210; refine (HHEAD.out _ HW0.out).mono ?_; rintro e w5 ⟨⟨ks,rfl,hks⟩,hb5⟩) | (go_at_call 162; refine (HNUM.out _ ks (HW0.out.trans (hb5.mono HW0.out.size)) (hks.below0 hb5)).mono ?_; rintro e w6 ⟨⟨he6,hx6⟩,hf6,ht6⟩; unfold RErr at he6; subst he6))
  have HT6:=kq (HTW.out _ _ (HW0.out.trans (hb5.mono HW0.out.size)) ht6)
  have HZ6:=kq (HKEEP.out _ _ (HW0.out.trans (hb5.mono HW0.out.size)) ht6).1
  clear hb5 ht6 hx6 hf6 hks
  go_wp2
  go_ret
  exact ⟨⟨rfl,_,rfl,HZ6.out⟩,HT6.out⟩
 | ok x q =>
  obtain ⟨xn,rfl,hxb,hxs⟩:=gotInt_nat hsz.2 hg
  have hfine:=gotInt_fine flagR L p hp
  rw [hg] at hfine
  have hq : q ≤ L.length:=hfine.2
  rw [hg] at HNUM
  have x0 : (0 : Int) ≤ (xn : Int):=by omega
  by_cases hx : 1 < xn
  ·have hxi : (1 : Int) < (xn : Int):=by omega
   have hgb : headB rs L n r flagR p = (.bad p 4):=by
    unfold headB
    rw [hg]
    simp only
    rw [if_neg (by omega),if_neg (by omega),if_pos hkd]
    rw [if_pos hxi]
   rw [hgb]
   have HKD:=kq hkd
   clear hg hgb hfine hkd hwb hwn hB hC hbn hBn hCn hRn hZn hSn hNc hhead hnum htw hkeep hS hR hz hbs hN hrk hr hki hall hsz hitk ih hkn 
   go_enter Tryz.func168,Tryz.ntmps168
   go_upto_region 1 with fail
   rw [← HB.out]
   clear HB
   go_upto_region 2 with fail
   rw [← HWN.out,HBN.out]
   clear HWN HBN
   go_region_held3 (fun W => W.cell? ⟨Rb,0,none⟩ = some (.slice a rs.length cap) ∧ W.cell? ⟨w.heap.size,0,none⟩ = some (.string r.name) ∧ W.cell? ⟨w.heap.size,1,none⟩ = some (.int .i64 r.kind) ∧ W.cell? ⟨w.heap.size,2,none⟩ = some (.int .i64 r.size) ∧ W.cell? ⟨w.heap.size,3,none⟩ = some (.bool r.little) ∧ W.cell? ⟨w.heap.size,4,none⟩ = some (.slice a4 r.bytes.length c4) ∧ W.cell? ⟨w.heap.size,5,none⟩ = some (.slice a5 r.names.length c5) ∧ W.cell? ⟨w.heap.size,6,none⟩ = some (.slice a6 r.tags.length c6) ∧ W.cell? ⟨w.heap.size,7,none⟩ = some (.slice a7 r.kids.length c7)) (first | exact HS9.out _ _ HW0.out (Turn.refl _ _) | exact HS9.out _ _ (HW0.out.trans (hb5.mono HW0.out.size)) (Turn.refl _ _) | exact HS9.out _ _ (HW0.out.trans (hb5.mono HW0.out.size)) ht6) (first | (go_at_call 210; refine (HHEAD.out _ HW0.out).mono ?_; rintro e w5 ⟨⟨ks,rfl,hks⟩,hb5⟩) | (go_at_call 162; refine (HNUM.out _ ks (HW0.out.trans (hb5.mono HW0.out.size)) (hks.below0 hb5)).mono ?_; rintro e w6 ⟨⟨rfl,hr6,hx6⟩,hf6,ht6⟩))
   have HB5:=kq (HW0.out.trans (hb5.mono HW0.out.size))
   have HT6:=kq (HTW.out _ _ HB5.out ht6)
   obtain ⟨hz6,hc6,-⟩:=HKEEP.out _ _ HB5.out ht6
   have HZ6:=kq hz6
   have HC6:=kq hc6
   have HR6':=kq hr6
   have HS6:=kq (HS.out.next HT6.out)
   clear hb5 ht6 hks hz6 hc6 hr6
   have hkd:=HKD.out
   have k1:=(HC6.out 1 _ rfl).1
   have g4 : (r.kind == 4) = false:=by rw [hkd]; rfl
   have g5 : (r.kind == 5) = false:=by rw [hkd]; rfl
   have g8 : (r.kind == 8) = true:=by rw [hkd]; rfl
   clear hkd
   go_wp2
   go_ret
   exact ⟨⟨rfl,_,rfl,HZ6.out⟩,HT6.out⟩
  ·have hxi : ¬ (1 : Int) < (xn : Int):=by omega
   have hgb : headB rs L n r flagR p = (gotItems (parseB rs L n) r 0 xn [] q).to fun l => .mk 0 [] l:=by
    unfold headB
    rw [hg]
    simp only
    rw [if_neg (by omega),if_neg (by omega),if_pos hkd]
    rw [if_neg hxi,Int.toNat_natCast]
   rw [hgb]
   have HKD:=kq hkd
   clear hg hgb hfine hkd hwb hwn hB hC hbn hBn hCn hRn hZn hSn hNc hhead hnum htw hkeep hS hR hz hbs hN hrk hr hki hall hsz hitk ih hkn 
   go_enter Tryz.func168,Tryz.ntmps168
   go_upto_region 1 with fail
   rw [← HB.out]
   clear HB
   go_upto_region 2 with fail
   rw [← HWN.out,HBN.out]
   clear HWN HBN
   go_region_held3 (fun W => W.cell? ⟨Rb,0,none⟩ = some (.slice a rs.length cap) ∧ W.cell? ⟨w.heap.size,0,none⟩ = some (.string r.name) ∧ W.cell? ⟨w.heap.size,1,none⟩ = some (.int .i64 r.kind) ∧ W.cell? ⟨w.heap.size,2,none⟩ = some (.int .i64 r.size) ∧ W.cell? ⟨w.heap.size,3,none⟩ = some (.bool r.little) ∧ W.cell? ⟨w.heap.size,4,none⟩ = some (.slice a4 r.bytes.length c4) ∧ W.cell? ⟨w.heap.size,5,none⟩ = some (.slice a5 r.names.length c5) ∧ W.cell? ⟨w.heap.size,6,none⟩ = some (.slice a6 r.tags.length c6) ∧ W.cell? ⟨w.heap.size,7,none⟩ = some (.slice a7 r.kids.length c7)) (first | exact HS9.out _ _ HW0.out (Turn.refl _ _) | exact HS9.out _ _ (HW0.out.trans (hb5.mono HW0.out.size)) (Turn.refl _ _) | exact HS9.out _ _ (HW0.out.trans (hb5.mono HW0.out.size)) ht6) (first | (go_at_call 210; refine (HHEAD.out _ HW0.out).mono ?_; rintro e w5 ⟨⟨ks,rfl,hks⟩,hb5⟩) | (go_at_call 162; refine (HNUM.out _ ks (HW0.out.trans (hb5.mono HW0.out.size)) (hks.below0 hb5)).mono ?_; rintro e w6 ⟨⟨rfl,hr6,hx6⟩,hf6,ht6⟩))
   have HB5:=kq (HW0.out.trans (hb5.mono HW0.out.size))
   have HT6:=kq (HTW.out _ _ HB5.out ht6)
   obtain ⟨hz6,hc6,-⟩:=HKEEP.out _ _ HB5.out ht6
   have HZ6:=kq hz6
   have HC6:=kq hc6
   have HR6':=kq hr6
   have HS6:=kq (HS.out.next HT6.out)
   clear hb5 ht6 hks hz6 hc6 hr6
   have hkd:=HKD.out
   have k0:=(HC6.out 0 _ rfl).1
   have k1:=(HC6.out 1 _ rfl).1
   have k2:=(HC6.out 2 _ rfl).1
   have k3:=(HC6.out 3 _ rfl).1
   have k4:=(HC6.out 4 _ rfl).1
   have k5:=(HC6.out 5 _ rfl).1
   have k6:=(HC6.out 6 _ rfl).1
   have k7:=(HC6.out 7 _ rfl).1
   have g4 : (r.kind == 4) = false:=by rw [hkd]; rfl
   have g5 : (r.kind == 5) = false:=by rw [hkd]; rfl
   have g8 : (r.kind == 8) = true:=by rw [hkd]; rfl
   have g7 : (r.kind == 7) = false:=by rw [hkd]; rfl
   clear hkd
   go_wp2_with ((go_at_call 166; refine (HIT.out r _ 0 xn q Rb Z o w6 HKI.out HIR.out (by omega) (HITK.out 0 xn (by omega)) hq HS6.out HR6'.out HZ6.out).mono ?_; rintro e w7 h7; obtain ⟨v7,rfl⟩:=h7.ret; have H7:=kq (h7.later HT6.out); clear h7))
   try go_wp2
   go_ret
   exact H7.out
end Go.Proofs.YtefkhknfjohnaaaGreatDoor
