/- The model's l11Read at every height. -/
import Derived.Test.YtefkhknfjohnaaaGreatDoorEK
import Derived.Test.YtefkhknfjohnaaaGreatDoorEGI
set_option maxRecDepth 100000
set_option maxHeartbeats 8000000
namespace Go.Proofs.YtefkhknfjohnaaaGreatDoor
open Go Go.RowKit
structure Bex (dc rc : List Value) (w : World) (N1 N2 : Nat) (W : World) : Prop where
 d : CellsAt w.heap.size dc W
 z : CellsAt N1 [.int .i64 0,.slice none 0 0,.slice none 0 0] W
 r : CellsAt N2 rc W
 below : Below w.heap.size w W
 n1 : w.heap.size < N1
 n2 : N1 < N2
 le : N2 < W.heap.size
theorem Bex.later {dc rc : List Value} {w W W' : World} {N1 N2 : Nat} (h : Bex dc rc w N1 N2 W) (hb : Below W.heap.size W W') : Bex dc rc w N1 N2 W' :=
 ⟨h.d.below hb,h.z.below hb,h.r.below hb,h.below.trans (hb.mono h.below.size),h.n1,h.n2,Nat.lt_of_lt_of_le h.le hb.size⟩
theorem bex_new (d0 r0 r1 r2 r3 r4 r5 r6 r7 : Value) (w : World) : Bex [d0] [r0,r1,r2,r3,r4,r5,r6,r7] w (w.heap.size + 1) (w.heap.size + 2) (((w.alloc (.cells #[d0] 26)).alloc (.cells #[.int .i64 0,.slice none 0 0,.slice none 0 0] 48)).alloc (.cells #[r0,r1,r2,r3,r4,r5,r6,r7] 63)):=by
 refine ⟨?_,?_,?_,(((Below.refl _ _).alloc (Nat.le_refl _) _).alloc (by simp) _).alloc (by simp; omega) _,by omega,by omega,by simp⟩
 ·exact ((CellsAt.new w _ _).below ((Below.refl _ _).alloc (Nat.le_refl _) _)).below ((Below.refl _ _).alloc (Nat.le_refl _) _)
 ·have h1:=CellsAt.new (w.alloc (.cells #[d0] 26)) [.int .i64 0,.slice none 0 0,.slice none 0 0] 48
  rw [World.size_alloc] at h1
  exact h1.below ((Below.refl _ _).alloc (Nat.le_refl _) _)
 ·have h1:=CellsAt.new ((w.alloc (.cells #[d0] 26)).alloc (.cells #[.int .i64 0,.slice none 0 0,.slice none 0 0] 48)) [r0,r1,r2,r3,r4,r5,r6,r7] 63
  rw [World.size_alloc,World.size_alloc] at h1
  exact h1
theorem sterm_got (ab : Option Addr) (cb p h : Nat) (L : List UInt8) (t : UInt8) (w : World) (hl : L.length ≤ 1048576) (hp : p ≤ L.length) (hs : SrcB ab L cb w) :
  Calls Tryz.prog 182 #[.slice ab L.length cb,.int .i64 (p : Int),.int .u8 (t.toNat : Int)] w fun e w' => (match gotTerm L p t with
   | .ok v q => ∃ a1 c1,e = .returned (.tuple #[.slice a1 v.bytes.length c1,.int .i64 (q : Int),.bool true]) ∧ OwnV (fun b => w.heap.size ≤ b) (h + 1) v [.int .i64 0,.slice a1 v.bytes.length c1,.slice none 0 0] w'
   | .bad q c => q = p ∧ c = 1 ∧ ∃ a1 c1,e = .returned (.tuple #[.slice a1 0 c1,.int .i64 (p : Int),.bool false])) ∧ Below w.heap.size w w':=by
 have h1:=term_specN ab L cb p t w hl hp hs.1
 have ho : termO L (p : Int) t = termR t (L.drop p) false:=by unfold termO; rw [if_pos (by omega),Int.toNat_natCast]
 unfold gotTerm
 unfold termL termN termK at h1
 rw [ho] at h1
 cases hr : termR t (L.drop p) false with
 | none =>
  rw [hr] at h1
  refine h1.mono ?_
  rintro e w' ⟨a1,c1,rfl,-,hb⟩
  exact ⟨⟨rfl,rfl,a1,c1,rfl⟩,hb⟩
 | some o =>
  rw [hr] at h1
  refine h1.mono ?_
  rintro e w' ⟨a1,c1,rfl,hrow0,hb⟩
  have hrow : Row w.heap.size a1 o.1 c1 w':=hrow0
  refine ⟨⟨a1,c1,by simp [ValueV.bytes],OwnV.leaf ⟨hrow.rd,hrow.2.2⟩ fun b off e hn => ?_⟩,hb⟩
  rcases hrow.1 with h1 | ⟨b',off',ha,hB',_⟩
  ·rw [h1] at hn; exact absurd rfl hn
  ·rw [e] at ha
   injection ha with ha
   injection ha with e1
   omega
theorem one_kid {bs : List UInt8} {a : Option Addr} {w : World} (h : Rd a bs w) (h0 : 0 < bs.length) : ∃ b off,a = some ⟨b,off,none⟩ ∧ w.cell? ⟨b,off,none⟩ = some (.int .u8 ((bs.getD 0 0).toNat : Int)):=by
 obtain ⟨b,off,e,hc⟩:=h 0 h0
 refine ⟨b,off,e,?_⟩
 rw [List.getD,List.getElem?_eq_getElem h0]
 exact hc
theorem sread_10 (a ab : Option Addr) (rs : List RuleV) (cap cb : Nat) (L : List UInt8) (n k p : Nat) (w : World) (hall : allV (kindI rs) rs) (hits : SItemsC11 a ab rs cap cb L n) (hk : k < rs.length) (hkn : k < n + 1) (hkd : rs[k].kind = 10) (hl : L.length ≤ 1048576) (hp : p ≤ L.length) (hrd : RdR a rs w) (hs : SrcB ab L cb w) :
  Calls Tryz.prog 127 #[.agg #[.slice a rs.length cap],.int .i64 (k : Int),.slice ab L.length cb,.int .i64 (p : Int)] w (SGot (n + 1) (parseB rs L (n + 1) (k : Int) p) w):=by
 have hki:=allV_kind hall hk
 have hitk : ∀ (x : Int) (c : Nat),((rs[k].kind = 5) ∨ (rs[k].kind = 6 ∧ c = rs[k].kids.length)) → ∀ i,i < c → ∃ m : Nat,itemR rs[k] x i = (m : Int) ∧ m < rs.length ∧ m < n:=fun x c h i hi => by
  have h0 : 0 ≤ itemR rs[k] x i:=items_there hall hk (m:=c) hi (by rcases h with h | h; exact .inl h; exact .inr (.inl h))
  obtain ⟨q,hq,hqk⟩:=items_kid hall hk h0
  exact ⟨q,hq,by omega,by omega⟩
 have HIRK : Hid (∀ cs W,IsRule rs[k] cs W → Below w.heap.size w W → rs[k].kind = 7 → Calls Tryz.prog 184 #[.agg #[.slice a rs.length cap],.agg cs.toArray,.slice ab L.length cb,.int .i64 (p : Int)] W (SGot (n + 1) (parseB rs L (n + 1) (k : Int) p) W)):=fun cs W hi hb h7 => schoice_spec a ab rs cap cb L n k p cs W hall hits hk hkn h7 hl hp (hrd.below hb) (hs.below hb) hi
 have HIR8 : Hid (∀ cs W,IsRule rs[k] cs W → Below w.heap.size w W → rs[k].kind = 8 → Calls Tryz.prog 185 #[.agg #[.slice a rs.length cap],.agg cs.toArray,.slice ab L.length cb,.int .i64 (p : Int)] W (SGot (n + 1) (parseB rs L (n + 1) (k : Int) p) W)):=fun cs W hi hb h7 => soption_spec a ab rs cap cb L n k p cs W hall hits hk hkn h7 hl hp (hrd.below hb) (hs.below hb) hi
 have HIR9 : Hid (∀ cs W,IsRule rs[k] cs W → Below w.heap.size w W → rs[k].kind = 9 → Calls Tryz.prog 186 #[.agg #[.slice a rs.length cap],.agg cs.toArray,.slice ab L.length cb,.int .i64 (p : Int)] W (SGot (n + 1) (parseB rs L (n + 1) (k : Int) p) W)):=fun cs W hi hb h7 => schecked_spec a ab rs cap cb L n k p cs W hall hits hk hkn h7 hl hp (hrd.below hb) (hs.below hb) hi
 obtain ⟨b0,off,a4,c4,a5,c5,a6,c6,a7,c7,rfl,⟨d0,d1,d2,d3,d4,d5,d6,d7⟩,r4,r5,r6,r7⟩:=hrd.at k hk
 have hir : IsRule rs[k] [.string rs[k].name,.int .i64 rs[k].kind,.int .i64 rs[k].size,.bool rs[k].little,.slice a4 rs[k].bytes.length c4,.slice a5 rs[k].names.length c5,.slice a6 rs[k].tags.length c6,.slice a7 rs[k].kids.length c7] w:=⟨a4,c4,a5,c5,a6,c6,a7,c7,rfl,r4,r5,r6,r7⟩
 clear r5 r6
 obtain ⟨r,hr⟩ : ∃ r,r = rs[k]:=⟨_,rfl⟩
 obtain ⟨b4,o4,rfl,hc4⟩:=one_kid r4 (by have:=kindI_10 hki hkd; omega)
 rw [← hr] at hki hitk hkd hir HIRK HIR8 HIR9 r4 r7 d0 d1 d2 d3 d4 d5 d6 d7
 obtain ⟨w1,hw1⟩ : ∃ w1,w1 = (w.alloc (.cells #[.slice (some ⟨b0,off,none⟩) rs.length cap] 26)).alloc (.cells #[.int .i64 0,.slice none 0 0,.slice none 0 0] 48):=⟨_,rfl⟩
 have hb1:=zb2 hw1
 have hs1 : w1.heap.size = w.heap.size + 2:=by subst hw1; simp
 obtain ⟨w0,hw0⟩ : ∃ w0,w0 = w1.alloc (.cells #[.string r.name,.int .i64 r.kind,.int .i64 r.size,.bool r.little,.slice (some ⟨b4,o4,none⟩) r.bytes.length c4,.slice a5 r.names.length c5,.slice a6 r.tags.length c6,.slice a7 r.kids.length c7] 63):=⟨_,rfl⟩
 have hbex : Bex [.slice (some ⟨b0,off,none⟩) rs.length cap] [.string r.name,.int .i64 r.kind,.int .i64 r.size,.bool r.little,.slice (some ⟨b4,o4,none⟩) r.bytes.length c4,.slice a5 r.names.length c5,.slice a6 r.tags.length c6,.slice a7 r.kids.length c7] w (w.heap.size + 1) (w.heap.size + 2) w0:=by subst hw0 hw1; exact bex_new _ _ _ _ _ _ _ _ _ w
 obtain ⟨N1,hN1⟩ : ∃ N1,N1 = w.heap.size + 1:=⟨_,rfl⟩
 obtain ⟨N2,hN2⟩ : ∃ N2,N2 = w.heap.size + 2:=⟨_,rfl⟩
 rw [← hN1,← hN2] at hbex
 have e0:=cellK hb1 (Nat.le_refl _) d0
 have e1:=cellK hb1 (Nat.le_refl _) d1
 have e2:=cellK hb1 (Nat.le_refl _) d2
 have e3:=cellK hb1 (Nat.le_refl _) d3
 have e4:=cellK hb1 (Nat.le_refl _) d4
 have e5:=cellK hb1 (Nat.le_refl _) d5
 have e6:=cellK hb1 (Nat.le_refl _) d6
 have e7:=cellK hb1 (Nat.le_refl _) d7
 have bx:=cellK hb1 (Nat.le_refl _) (v:=.slice (some ⟨b0,off,none⟩) rs.length cap) (b:=w.heap.size) (i:=0)
 have HBE:=kq hbex
 have hZ1 : w.heap.size ≤ N1:=by omega
 have HN1:=kq hN1.symm
 have HN2 : Hid (w1.heap.size = N2):=by show _ = _; omega
 have HIR:=kq hir
 have HKI:=kq hki
 have HRD:=kq hrd
 have HS:=kq hs
 have HW0:=kq hw0
 have HW1:=kq hw1
 have HITK:=kq hitk
 have hb1c:=(CellsAt.new w [.slice (some ⟨b0,off,none⟩) rs.length cap] 26).below ((Below.refl _ _).alloc (Nat.le_refl _) (.cells #[.int .i64 0,.slice none 0 0,.slice none 0 0] 48))
 rw [← hw1] at hb1c
 replace bx:=(hb1c 0 _ rfl).1
 have kk0 : (0 : Int) ≤ (k : Int):=by omega
 have kk1 : (k : Int) < (rs.length : Int):=by omega
 have p0 : (0 : Int) ≤ (p : Int):=by omega
 have q1 : (r.kind == 1) = false:=by rw [hkd]; rfl
 have q2 : (r.kind == 2) = false:=by rw [hkd]; rfl
 have q3 : (r.kind == 3) = false:=by rw [hkd]; rfl
 have q10 : (r.kind == 10) = true:=by rw [hkd]; rfl
 have hfine : Fine L p (parseB rs L (n + 1) (k : Int) p):=parse_fine hall L (n + 1) k hk hkn p hp
 clear hb1 hs1 hb1c d0 d1 d2 d3 d4 d5 d6 d7 hitk
 rw [parseB,ruleAt_at hk,← hr,if_neg (by omega),if_neg (by omega),if_neg (by omega),if_pos hkd]
 rw [← hr] at hc4
 obtain ⟨t,ht⟩ : ∃ t,t = r.bytes.getD 0 0:=⟨_,rfl⟩
 rw [← ht] at hc4 ⊢
 have hbl : 0 < r.bytes.length:=by have:=kindI_10 hki hkd; omega
 have hc4':=cellK HBE.out.below (Nat.le_refl _) hc4
 have HC : Hid (∀ W,Bex [.slice (some ⟨b0,off,none⟩) rs.length cap] [.string r.name,.int .i64 r.kind,.int .i64 r.size,.bool r.little,.slice (some ⟨b4,o4,none⟩) r.bytes.length c4,.slice a5 r.names.length c5,.slice a6 r.tags.length c6,.slice a7 r.kids.length c7] w N1 N2 W → _):=fun W hb => sterm_got ab cb p n L t W hl hp (HS.out.below hb.below)
 cases hg : gotTerm L p t with
 | bad q c =>
  rw [hg] at HC
  clear hbex hN1 hN2 hir hki hrd hs hw0 hw1 hall hr hkd r4 r7 hits HIRK HIR8 HIR9 HITK hg hfine ht hc4
  go_enter Tryz.func127,Tryz.ntmps127
  go_upto_region 1 with fail
  rw [← HW1.out,HN1.out]
  go_upto_region 2 with fail
  rw [← HW0.out,HN2.out]
  clear HW0 HW1 e0 e1 e2 e3 e4 e5 e6 e7 bx
  obtain ⟨d0,-⟩:=HBE.out.d 0 _ rfl
  obtain ⟨y0,-⟩:=HBE.out.r 0 _ rfl
  obtain ⟨y1,-⟩:=HBE.out.r 1 _ rfl
  obtain ⟨y2,-⟩:=HBE.out.r 2 _ rfl
  obtain ⟨y3,-⟩:=HBE.out.r 3 _ rfl
  obtain ⟨y4,-⟩:=HBE.out.r 4 _ rfl
  obtain ⟨y5,-⟩:=HBE.out.r 5 _ rfl
  obtain ⟨y6,-⟩:=HBE.out.r 6 _ rfl
  obtain ⟨y7,-⟩:=HBE.out.r 7 _ rfl
  go_wp2_with (go_at_call 182; refine (HC.out _ HBE.out).mono ?_; rintro e w7 ⟨⟨rfl,rfl,a9,c9,rfl⟩,hb7⟩; have HB7:=kq (HBE.out.later hb7); clear hb7; obtain ⟨z0,f0⟩:=HB7.out.z 0 _ rfl; obtain ⟨z1,f1⟩:=HB7.out.z 1 _ rfl; obtain ⟨z2,f2⟩:=HB7.out.z 2 _ rfl)
  try go_wp2
  (try simp only [Exit.inBlock,Exit.then])
  refine bodyPost_ret (v:=.tuple #[.agg #[.int .i64 0,.slice none 0 0,.slice none 0 0],.int .i64 (q : Int),.int .i64 1]) ?_ rfl ?_
  ·simp [results,Tryz.results127,go_sem,z0,z1,z2]
  ·exact sgot_bad (c:=1) rfl (below3 HB7.out.below hZ1 _ _ _)
 | ok v q =>
  rw [hg] at HC
  clear hbex hN1 hN2 hir hki hrd hs hw0 hw1 hall hr hkd r4 r7 hits HIRK HIR8 HIR9 HITK hg hfine ht hc4
  go_enter Tryz.func127,Tryz.ntmps127
  go_upto_region 1 with fail
  rw [← HW1.out,HN1.out]
  go_upto_region 2 with fail
  rw [← HW0.out,HN2.out]
  clear HW0 HW1 e0 e1 e2 e3 e4 e5 e6 e7 bx
  obtain ⟨d0,-⟩:=HBE.out.d 0 _ rfl
  obtain ⟨y0,-⟩:=HBE.out.r 0 _ rfl
  obtain ⟨y1,-⟩:=HBE.out.r 1 _ rfl
  obtain ⟨y2,-⟩:=HBE.out.r 2 _ rfl
  obtain ⟨y3,-⟩:=HBE.out.r 3 _ rfl
  obtain ⟨y4,-⟩:=HBE.out.r 4 _ rfl
  obtain ⟨y5,-⟩:=HBE.out.r 5 _ rfl
  obtain ⟨y6,-⟩:=HBE.out.r 6 _ rfl
  obtain ⟨y7,-⟩:=HBE.out.r 7 _ rfl
  go_wp2_with (go_at_call 182; refine (HC.out _ HBE.out).mono ?_; rintro e w7 ⟨⟨a9,c9,rfl,hown⟩,hb7⟩; have HB7:=kq (HBE.out.later hb7); have HOW:=kq hown; clear hb7 hown; obtain ⟨z0,f0⟩:=HB7.out.z 0 _ rfl; obtain ⟨z1,f1⟩:=HB7.out.z 1 _ rfl; obtain ⟨z2,f2⟩:=HB7.out.z 2 _ rfl)
  try go_wp2
  (try simp only [Exit.inBlock,Exit.then])
  refine bodyPost_ret (v:=.tuple #[.agg #[.int .i64 0,.slice a9 v.bytes.length c9,.slice none 0 0],.int .i64 (q : Int),.int .i64 0]) ?_ rfl ?_
  ·simp [results,Tryz.results127,go_sem,z0,z1,z2]
  ·exact sret_ok (X:=w0.heap.size) (v:=v) (cs:=[.int .i64 0,.slice a9 v.bytes.length c9,.slice none 0 0]) rfl HB7.out.below HOW.out (Nat.lt_trans HBE.out.n2 HBE.out.le) hZ1 _ _ _
theorem sread_J0 (kd : Int) (hcs : kd = 1 ∨ kd = 2 ∨ kd = 3 ∨ kd = 6 ∨ kd = 7 ∨ kd = 8 ∨ kd = 9) (a ab : Option Addr) (rs : List RuleV) (cap cb : Nat) (L : List UInt8) (n k p : Nat) (w : World) (hall : allV (kindI rs) rs) (hits : SItemsC11 a ab rs cap cb L n) (hk : k < rs.length) (hkn : k < n + 1) (hkd : rs[k].kind = kd) (hl : L.length ≤ 1048576) (hp : p ≤ L.length) (hrd : RdR a rs w) (hs : SrcB ab L cb w) :
  Calls Tryz.prog 127 #[.agg #[.slice a rs.length cap],.int .i64 (k : Int),.slice ab L.length cb,.int .i64 (p : Int)] w (SGot (n + 1) (parseB rs L (n + 1) (k : Int) p) w):=by
 have hki:=allV_kind hall hk
 have hitk : ∀ (x : Int) (c : Nat),((rs[k].kind = 5) ∨ (rs[k].kind = 6 ∧ c = rs[k].kids.length)) → ∀ i,i < c → ∃ m : Nat,itemR rs[k] x i = (m : Int) ∧ m < rs.length ∧ m < n:=fun x c h i hi => by
  have h0 : 0 ≤ itemR rs[k] x i:=items_there hall hk (m:=c) hi (by rcases h with h | h; exact .inl h; exact .inr (.inl h))
  obtain ⟨q,hq,hqk⟩:=items_kid hall hk h0
  exact ⟨q,hq,by omega,by omega⟩
 have HIRK : Hid (∀ cs W,IsRule rs[k] cs W → Below w.heap.size w W → rs[k].kind = 7 → Calls Tryz.prog 184 #[.agg #[.slice a rs.length cap],.agg cs.toArray,.slice ab L.length cb,.int .i64 (p : Int)] W (SGot (n + 1) (parseB rs L (n + 1) (k : Int) p) W)):=fun cs W hi hb h7 => schoice_spec a ab rs cap cb L n k p cs W hall hits hk hkn h7 hl hp (hrd.below hb) (hs.below hb) hi
 have HIR8 : Hid (∀ cs W,IsRule rs[k] cs W → Below w.heap.size w W → rs[k].kind = 8 → Calls Tryz.prog 185 #[.agg #[.slice a rs.length cap],.agg cs.toArray,.slice ab L.length cb,.int .i64 (p : Int)] W (SGot (n + 1) (parseB rs L (n + 1) (k : Int) p) W)):=fun cs W hi hb h7 => soption_spec a ab rs cap cb L n k p cs W hall hits hk hkn h7 hl hp (hrd.below hb) (hs.below hb) hi
 have HIR9 : Hid (∀ cs W,IsRule rs[k] cs W → Below w.heap.size w W → rs[k].kind = 9 → Calls Tryz.prog 186 #[.agg #[.slice a rs.length cap],.agg cs.toArray,.slice ab L.length cb,.int .i64 (p : Int)] W (SGot (n + 1) (parseB rs L (n + 1) (k : Int) p) W)):=fun cs W hi hb h7 => schecked_spec a ab rs cap cb L n k p cs W hall hits hk hkn h7 hl hp (hrd.below hb) (hs.below hb) hi
 obtain ⟨b0,off,a4,c4,a5,c5,a6,c6,a7,c7,rfl,⟨d0,d1,d2,d3,d4,d5,d6,d7⟩,r4,r5,r6,r7⟩:=hrd.at k hk
 have hir : IsRule rs[k] [.string rs[k].name,.int .i64 rs[k].kind,.int .i64 rs[k].size,.bool rs[k].little,.slice a4 rs[k].bytes.length c4,.slice a5 rs[k].names.length c5,.slice a6 rs[k].tags.length c6,.slice a7 rs[k].kids.length c7] w:=⟨a4,c4,a5,c5,a6,c6,a7,c7,rfl,r4,r5,r6,r7⟩
 clear r5 r6
 obtain ⟨r,hr⟩ : ∃ r,r = rs[k]:=⟨_,rfl⟩
 rw [← hr] at hki hitk hkd hir HIRK HIR8 HIR9 r4 r7 d0 d1 d2 d3 d4 d5 d6 d7
 obtain ⟨w1,hw1⟩ : ∃ w1,w1 = (w.alloc (.cells #[.slice (some ⟨b0,off,none⟩) rs.length cap] 26)).alloc (.cells #[.int .i64 0,.slice none 0 0,.slice none 0 0] 48):=⟨_,rfl⟩
 have hb1:=zb2 hw1
 have hs1 : w1.heap.size = w.heap.size + 2:=by subst hw1; simp
 obtain ⟨w0,hw0⟩ : ∃ w0,w0 = w1.alloc (.cells #[.string r.name,.int .i64 r.kind,.int .i64 r.size,.bool r.little,.slice a4 r.bytes.length c4,.slice a5 r.names.length c5,.slice a6 r.tags.length c6,.slice a7 r.kids.length c7] 63):=⟨_,rfl⟩
 have hbex : Bex [.slice (some ⟨b0,off,none⟩) rs.length cap] [.string r.name,.int .i64 r.kind,.int .i64 r.size,.bool r.little,.slice a4 r.bytes.length c4,.slice a5 r.names.length c5,.slice a6 r.tags.length c6,.slice a7 r.kids.length c7] w (w.heap.size + 1) (w.heap.size + 2) w0:=by subst hw0 hw1; exact bex_new _ _ _ _ _ _ _ _ _ w
 obtain ⟨N1,hN1⟩ : ∃ N1,N1 = w.heap.size + 1:=⟨_,rfl⟩
 obtain ⟨N2,hN2⟩ : ∃ N2,N2 = w.heap.size + 2:=⟨_,rfl⟩
 rw [← hN1,← hN2] at hbex
 have e0:=cellK hb1 (Nat.le_refl _) d0
 have e1:=cellK hb1 (Nat.le_refl _) d1
 have e2:=cellK hb1 (Nat.le_refl _) d2
 have e3:=cellK hb1 (Nat.le_refl _) d3
 have e4:=cellK hb1 (Nat.le_refl _) d4
 have e5:=cellK hb1 (Nat.le_refl _) d5
 have e6:=cellK hb1 (Nat.le_refl _) d6
 have e7:=cellK hb1 (Nat.le_refl _) d7
 have bx:=cellK hb1 (Nat.le_refl _) (v:=.slice (some ⟨b0,off,none⟩) rs.length cap) (b:=w.heap.size) (i:=0)
 have HBE:=kq hbex
 have hZ1 : w.heap.size ≤ N1:=by omega
 have HN1:=kq hN1.symm
 have HN2 : Hid (w1.heap.size = N2):=by show _ = _; omega
 have HIR:=kq hir
 have HKI:=kq hki
 have HRD:=kq hrd
 have HS:=kq hs
 have HW0:=kq hw0
 have HW1:=kq hw1
 have HITK:=kq hitk
 have hb1c:=(CellsAt.new w [.slice (some ⟨b0,off,none⟩) rs.length cap] 26).below ((Below.refl _ _).alloc (Nat.le_refl _) (.cells #[.int .i64 0,.slice none 0 0,.slice none 0 0] 48))
 rw [← hw1] at hb1c
 replace bx:=(hb1c 0 _ rfl).1
 have kk0 : (0 : Int) ≤ (k : Int):=by omega
 have kk1 : (k : Int) < (rs.length : Int):=by omega
 have p0 : (0 : Int) ≤ (p : Int):=by omega
 rcases hcs with rfl | rfl | rfl | rfl | rfl | rfl | rfl
 ·have q1 : (r.kind == 1) = true:=by rw [hkd]; rfl
  have hfine : Fine L p (parseB rs L (n + 1) (k : Int) p):=parse_fine hall L (n + 1) k hk hkn p hp
  clear hb1 hs1 hb1c d0 d1 d2 d3 d4 d5 d6 d7 hitk
  rw [parseB,ruleAt_at hk,← hr,if_pos hkd]
  have hsz:=kindI_size hki hkd
  have HC : Hid (∀ W,Bex [.slice (some ⟨b0,off,none⟩) rs.length cap] [.string r.name,.int .i64 r.kind,.int .i64 r.size,.bool r.little,.slice a4 r.bytes.length c4,.slice a5 r.names.length c5,.slice a6 r.tags.length c6,.slice a7 r.kids.length c7] w N1 N2 W → Calls Tryz.prog 179 #[.agg #[.slice (some ⟨b0,off,none⟩) rs.length cap],.int .i64 (k : Int),.slice ab L.length cb,.int .i64 (p : Int)] W (SIntAt (gotInt r L p) p W)):=fun W hb => by
   have h1:=sint_spec (some ⟨b0,off,none⟩) ab rs cap cb k p L W hk (by rw [← hr]; omega) (by rw [← hr]; omega) hl hp (HRD.out.below hb.below) (HS.out.below hb.below)
   rw [← hr] at h1
   exact h1
  cases hg : gotInt r L p with
  | bad q c =>
   obtain ⟨rfl,rfl⟩:=sint_bad hg
   rw [hg] at HC
   clear hbex hN1 hN2 hir hki hrd hs hw0 hw1 hall hr hkd r4 r7 hits HIRK HIR8 HIR9 HITK hsz hg hfine
   go_enter Tryz.func127,Tryz.ntmps127
   go_upto_region 1 with fail
   rw [← HW1.out,HN1.out]
   go_upto_region 2 with fail
   rw [← HW0.out,HN2.out]
   clear HW0 HW1 e0 e1 e2 e3 e4 e5 e6 e7 bx
   obtain ⟨d0,-⟩:=HBE.out.d 0 _ rfl
   obtain ⟨y0,-⟩:=HBE.out.r 0 _ rfl
   obtain ⟨y1,-⟩:=HBE.out.r 1 _ rfl
   obtain ⟨y2,-⟩:=HBE.out.r 2 _ rfl
   obtain ⟨y3,-⟩:=HBE.out.r 3 _ rfl
   obtain ⟨y4,-⟩:=HBE.out.r 4 _ rfl
   obtain ⟨y5,-⟩:=HBE.out.r 5 _ rfl
   obtain ⟨y6,-⟩:=HBE.out.r 6 _ rfl
   obtain ⟨y7,-⟩:=HBE.out.r 7 _ rfl
   go_wp2_with (go_at_call 179; refine (HC.out _ HBE.out).mono ?_; rintro e w7 ⟨rfl,hb7⟩; have HB7:=kq (HBE.out.later hb7); clear hb7; obtain ⟨z0,f0⟩:=HB7.out.z 0 _ rfl; obtain ⟨z1,f1⟩:=HB7.out.z 1 _ rfl; obtain ⟨z2,f2⟩:=HB7.out.z 2 _ rfl)
   try go_wp2
   (try simp only [Exit.inBlock,Exit.then])
   refine bodyPost_ret (v:=.tuple #[.agg #[.int .i64 0,.slice none 0 0,.slice none 0 0],.int .i64 (q : Int),.int .i64 1]) ?_ rfl ?_
   ·simp [results,Tryz.results127,go_sem,z0,z1,z2]
   ·exact sgot_bad (c:=1) rfl (below3 HB7.out.below hZ1 _ _ _)
  | ok x q =>
   rw [hg] at HC
   clear hbex hN1 hN2 hir hki hrd hs hw0 hw1 hall hr hkd r4 r7 hits HIRK HIR8 HIR9 HITK hsz hg hfine
   go_enter Tryz.func127,Tryz.ntmps127
   go_upto_region 1 with fail
   rw [← HW1.out,HN1.out]
   go_upto_region 2 with fail
   rw [← HW0.out,HN2.out]
   clear HW0 HW1 e0 e1 e2 e3 e4 e5 e6 e7 bx
   obtain ⟨d0,-⟩:=HBE.out.d 0 _ rfl
   obtain ⟨y0,-⟩:=HBE.out.r 0 _ rfl
   obtain ⟨y1,-⟩:=HBE.out.r 1 _ rfl
   obtain ⟨y2,-⟩:=HBE.out.r 2 _ rfl
   obtain ⟨y3,-⟩:=HBE.out.r 3 _ rfl
   obtain ⟨y4,-⟩:=HBE.out.r 4 _ rfl
   obtain ⟨y5,-⟩:=HBE.out.r 5 _ rfl
   obtain ⟨y6,-⟩:=HBE.out.r 6 _ rfl
   obtain ⟨y7,-⟩:=HBE.out.r 7 _ rfl
   go_wp2_with (go_at_call 179; refine (HC.out _ HBE.out).mono ?_; rintro e w7 ⟨rfl,hb7⟩; have HB7:=kq (HBE.out.later hb7); clear hb7; obtain ⟨z0,f0⟩:=HB7.out.z 0 _ rfl; obtain ⟨z1,f1⟩:=HB7.out.z 1 _ rfl; obtain ⟨z2,f2⟩:=HB7.out.z 2 _ rfl)
   try go_wp2
   (try simp only [Exit.inBlock,Exit.then])
   refine bodyPost_ret (v:=.tuple #[.agg #[.int .i64 x,.slice none 0 0,.slice none 0 0],.int .i64 (q : Int),.int .i64 0]) ?_ rfl ?_
   ·simp [results,Tryz.results127,go_sem,z0,z1,z2]
   ·exact sret_ok (X:=w0.heap.size) (v:=.mk x [] []) (cs:=[.int .i64 x,.slice none 0 0,.slice none 0 0]) rfl HB7.out.below (OwnV.leaf (RdN.nil0 _) (fun b off e => by cases e)) (Nat.lt_trans HBE.out.n2 HBE.out.le) hZ1 _ _ _
 ·have q1 : (r.kind == 1) = false:=by rw [hkd]; rfl
  have q2 : (r.kind == 2) = true:=by rw [hkd]; rfl
  have hfine : Fine L p (parseB rs L (n + 1) (k : Int) p):=parse_fine hall L (n + 1) k hk hkn p hp
  clear hb1 hs1 hb1c d0 d1 d2 d3 d4 d5 d6 d7 hitk
  have HC : Hid (∀ W,Bex [.slice (some ⟨b0,off,none⟩) rs.length cap] [.string r.name,.int .i64 r.kind,.int .i64 r.size,.bool r.little,.slice a4 r.bytes.length c4,.slice a5 r.names.length c5,.slice a6 r.tags.length c6,.slice a7 r.kids.length c7] w N1 N2 W → Calls Tryz.prog 180 #[.agg #[.string r.name,.int .i64 r.kind,.int .i64 r.size,.bool r.little,.slice a4 r.bytes.length c4,.slice a5 r.names.length c5,.slice a6 r.tags.length c6,.slice a7 r.kids.length c7],.slice ab L.length cb,.int .i64 (p : Int)] W (SGot (n + 1) (parseB rs L (n + 1) (k : Int) p) W)):=fun W hb => by
   rw [parseB,ruleAt_at hk,← hr,if_neg (by omega),if_pos hkd]
   exact sconst_spec ab cb p n L r _ W hl hp (HS.out.below hb.below) (HIR.out.below hb.below) (by have:=kindI_2 HKI.out hkd; omega)
  generalize parseB rs L (n + 1) (k : Int) p = g at HC hfine ⊢
  clear hbex hN1 hN2 hir hki hrd hs hw0 hw1 hall hr hkd r4 r7 hits HIRK HIR8 HIR9 HITK
  cases g with
  | bad q' c' =>
   go_enter Tryz.func127,Tryz.ntmps127
   go_upto_region 1 with fail
   rw [← HW1.out,HN1.out]
   go_upto_region 2 with fail
   rw [← HW0.out,HN2.out]
   clear HW0 HW1 e0 e1 e2 e3 e4 e5 e6 e7 bx
   obtain ⟨d0,-⟩:=HBE.out.d 0 _ rfl
   obtain ⟨y0,-⟩:=HBE.out.r 0 _ rfl
   obtain ⟨y1,-⟩:=HBE.out.r 1 _ rfl
   obtain ⟨y2,-⟩:=HBE.out.r 2 _ rfl
   obtain ⟨y3,-⟩:=HBE.out.r 3 _ rfl
   obtain ⟨y4,-⟩:=HBE.out.r 4 _ rfl
   obtain ⟨y5,-⟩:=HBE.out.r 5 _ rfl
   obtain ⟨y6,-⟩:=HBE.out.r 6 _ rfl
   obtain ⟨y7,-⟩:=HBE.out.r 7 _ rfl
   go_wp2_with (go_at_call 180; refine (HC.out _ HBE.out).mono ?_; rintro e w7 ⟨rfl,hb7⟩; have HB7:=kq (HBE.out.later hb7); clear hb7; obtain ⟨z0,f0⟩:=HB7.out.z 0 _ rfl; obtain ⟨z1,f1⟩:=HB7.out.z 1 _ rfl; obtain ⟨z2,f2⟩:=HB7.out.z 2 _ rfl)
   try go_wp2
   (try simp only [Exit.inBlock,Exit.then])
   refine bodyPost_ret (v:=.tuple #[.agg #[.int .i64 0,.slice none 0 0,.slice none 0 0],.int .i64 (q' : Int),.int .i64 (c' : Int)]) ?_ rfl ?_
   ·simp [results,Tryz.results127,go_sem,z0,z1,z2]
   ·exact sgot_bad rfl (below3 HB7.out.below hZ1 _ _ _)
  | ok v q' =>
   go_enter Tryz.func127,Tryz.ntmps127
   go_upto_region 1 with fail
   rw [← HW1.out,HN1.out]
   go_upto_region 2 with fail
   rw [← HW0.out,HN2.out]
   clear HW0 HW1 e0 e1 e2 e3 e4 e5 e6 e7 bx
   obtain ⟨d0,-⟩:=HBE.out.d 0 _ rfl
   obtain ⟨y0,-⟩:=HBE.out.r 0 _ rfl
   obtain ⟨y1,-⟩:=HBE.out.r 1 _ rfl
   obtain ⟨y2,-⟩:=HBE.out.r 2 _ rfl
   obtain ⟨y3,-⟩:=HBE.out.r 3 _ rfl
   obtain ⟨y4,-⟩:=HBE.out.r 4 _ rfl
   obtain ⟨y5,-⟩:=HBE.out.r 5 _ rfl
   obtain ⟨y6,-⟩:=HBE.out.r 6 _ rfl
   obtain ⟨y7,-⟩:=HBE.out.r 7 _ rfl
   go_wp2_with (go_at_call 180; refine (HC.out _ HBE.out).mono ?_; rintro e w7 ⟨⟨cs',rfl,hown⟩,hb7⟩; obtain ⟨ab',cb',ai',ci',rfl⟩:=hown.cells; have HB7:=kq (HBE.out.later hb7); have HOW:=kq hown; clear hb7 hown; obtain ⟨z0,f0⟩:=HB7.out.z 0 _ rfl; obtain ⟨z1,f1⟩:=HB7.out.z 1 _ rfl; obtain ⟨z2,f2⟩:=HB7.out.z 2 _ rfl)
   try go_wp2
   (try simp only [Exit.inBlock,Exit.then])
   refine bodyPost_ret (v:=.tuple #[.agg #[.int .i64 v.number,.slice ab' v.bytes.length cb',.slice ai' v.items.length ci'],.int .i64 (q' : Int),.int .i64 0]) ?_ rfl ?_
   ·simp [results,Tryz.results127,go_sem,z0,z1,z2]
   ·exact sret_ok (X:=w0.heap.size) (v:=v) (cs:=[.int .i64 v.number,.slice ab' v.bytes.length cb',.slice ai' v.items.length ci']) rfl HB7.out.below HOW.out (Nat.lt_trans HBE.out.n2 HBE.out.le) hZ1 _ _ _
 ·have q1 : (r.kind == 1) = false:=by rw [hkd]; rfl
  have q2 : (r.kind == 2) = false:=by rw [hkd]; rfl
  have q3 : (r.kind == 3) = true:=by rw [hkd]; rfl
  have hfine : Fine L p (parseB rs L (n + 1) (k : Int) p):=parse_fine hall L (n + 1) k hk hkn p hp
  clear hb1 hs1 hb1c d0 d1 d2 d3 d4 d5 d6 d7 hitk
  have HC : Hid (∀ W,Bex [.slice (some ⟨b0,off,none⟩) rs.length cap] [.string r.name,.int .i64 r.kind,.int .i64 r.size,.bool r.little,.slice a4 r.bytes.length c4,.slice a5 r.names.length c5,.slice a6 r.tags.length c6,.slice a7 r.kids.length c7] w N1 N2 W → Calls Tryz.prog 181 #[.slice ab L.length cb,.int .i64 (p : Int),.int .i64 r.size] W (SGot (n + 1) (parseB rs L (n + 1) (k : Int) p) W)):=fun W hb => by
   rw [parseB,ruleAt_at hk,← hr,if_neg (by omega),if_neg (by omega),if_pos hkd]
   have h3:=kindI_3 HKI.out hkd
   have h1:=sbytes_spec ab cb p r.size.toNat n L W hl hp (by omega) (HS.out.below hb.below)
   rw [show ((r.size.toNat : Nat) : Int) = r.size from by omega] at h1
   exact h1
  generalize parseB rs L (n + 1) (k : Int) p = g at HC hfine ⊢
  clear hbex hN1 hN2 hir hki hrd hs hw0 hw1 hall hr hkd r4 r7 hits HIRK HIR8 HIR9 HITK
  cases g with
  | bad q' c' =>
   go_enter Tryz.func127,Tryz.ntmps127
   go_upto_region 1 with fail
   rw [← HW1.out,HN1.out]
   go_upto_region 2 with fail
   rw [← HW0.out,HN2.out]
   clear HW0 HW1 e0 e1 e2 e3 e4 e5 e6 e7 bx
   obtain ⟨d0,-⟩:=HBE.out.d 0 _ rfl
   obtain ⟨y0,-⟩:=HBE.out.r 0 _ rfl
   obtain ⟨y1,-⟩:=HBE.out.r 1 _ rfl
   obtain ⟨y2,-⟩:=HBE.out.r 2 _ rfl
   obtain ⟨y3,-⟩:=HBE.out.r 3 _ rfl
   obtain ⟨y4,-⟩:=HBE.out.r 4 _ rfl
   obtain ⟨y5,-⟩:=HBE.out.r 5 _ rfl
   obtain ⟨y6,-⟩:=HBE.out.r 6 _ rfl
   obtain ⟨y7,-⟩:=HBE.out.r 7 _ rfl
   go_wp2_with (go_at_call 181; refine (HC.out _ HBE.out).mono ?_; rintro e w7 ⟨rfl,hb7⟩; have HB7:=kq (HBE.out.later hb7); clear hb7; obtain ⟨z0,f0⟩:=HB7.out.z 0 _ rfl; obtain ⟨z1,f1⟩:=HB7.out.z 1 _ rfl; obtain ⟨z2,f2⟩:=HB7.out.z 2 _ rfl)
   try go_wp2
   (try simp only [Exit.inBlock,Exit.then])
   refine bodyPost_ret (v:=.tuple #[.agg #[.int .i64 0,.slice none 0 0,.slice none 0 0],.int .i64 (q' : Int),.int .i64 (c' : Int)]) ?_ rfl ?_
   ·simp [results,Tryz.results127,go_sem,z0,z1,z2]
   ·exact sgot_bad rfl (below3 HB7.out.below hZ1 _ _ _)
  | ok v q' =>
   go_enter Tryz.func127,Tryz.ntmps127
   go_upto_region 1 with fail
   rw [← HW1.out,HN1.out]
   go_upto_region 2 with fail
   rw [← HW0.out,HN2.out]
   clear HW0 HW1 e0 e1 e2 e3 e4 e5 e6 e7 bx
   obtain ⟨d0,-⟩:=HBE.out.d 0 _ rfl
   obtain ⟨y0,-⟩:=HBE.out.r 0 _ rfl
   obtain ⟨y1,-⟩:=HBE.out.r 1 _ rfl
   obtain ⟨y2,-⟩:=HBE.out.r 2 _ rfl
   obtain ⟨y3,-⟩:=HBE.out.r 3 _ rfl
   obtain ⟨y4,-⟩:=HBE.out.r 4 _ rfl
   obtain ⟨y5,-⟩:=HBE.out.r 5 _ rfl
   obtain ⟨y6,-⟩:=HBE.out.r 6 _ rfl
   obtain ⟨y7,-⟩:=HBE.out.r 7 _ rfl
   go_wp2_with (go_at_call 181; refine (HC.out _ HBE.out).mono ?_; rintro e w7 ⟨⟨cs',rfl,hown⟩,hb7⟩; obtain ⟨ab',cb',ai',ci',rfl⟩:=hown.cells; have HB7:=kq (HBE.out.later hb7); have HOW:=kq hown; clear hb7 hown; obtain ⟨z0,f0⟩:=HB7.out.z 0 _ rfl; obtain ⟨z1,f1⟩:=HB7.out.z 1 _ rfl; obtain ⟨z2,f2⟩:=HB7.out.z 2 _ rfl)
   try go_wp2
   (try simp only [Exit.inBlock,Exit.then])
   refine bodyPost_ret (v:=.tuple #[.agg #[.int .i64 v.number,.slice ab' v.bytes.length cb',.slice ai' v.items.length ci'],.int .i64 (q' : Int),.int .i64 0]) ?_ rfl ?_
   ·simp [results,Tryz.results127,go_sem,z0,z1,z2]
   ·exact sret_ok (X:=w0.heap.size) (v:=v) (cs:=[.int .i64 v.number,.slice ab' v.bytes.length cb',.slice ai' v.items.length ci']) rfl HB7.out.below HOW.out (Nat.lt_trans HBE.out.n2 HBE.out.le) hZ1 _ _ _
 ·have q1 : (r.kind == 1) = false:=by rw [hkd]; rfl
  have q2 : (r.kind == 2) = false:=by rw [hkd]; rfl
  have q3 : (r.kind == 3) = false:=by rw [hkd]; rfl
  have q10 : (r.kind == 10) = false:=by rw [hkd]; rfl
  have q6 : (r.kind == 6) = true:=by rw [hkd]; rfl
  have hfine : Fine L p (parseB rs L (n + 1) (k : Int) p):=parse_fine hall L (n + 1) k hk hkn p hp
  clear hb1 hs1 hb1c d0 d1 d2 d3 d4 d5 d6 d7 hitk
  have HC : Hid (∀ W,Bex [.slice (some ⟨b0,off,none⟩) rs.length cap] [.string r.name,.int .i64 r.kind,.int .i64 r.size,.bool r.little,.slice a4 r.bytes.length c4,.slice a5 r.names.length c5,.slice a6 r.tags.length c6,.slice a7 r.kids.length c7] w N1 N2 W → Calls Tryz.prog 183 #[.agg #[.slice (some ⟨b0,off,none⟩) rs.length cap],.agg #[.string r.name,.int .i64 r.kind,.int .i64 r.size,.bool r.little,.slice a4 r.bytes.length c4,.slice a5 r.names.length c5,.slice a6 r.tags.length c6,.slice a7 r.kids.length c7],.int .i64 0,.int .i64 (r.kids.length : Int),.slice ab L.length cb,.int .i64 (p : Int)] W (SGot (n + 1) (parseB rs L (n + 1) (k : Int) p) W)):=fun W hb => by
   rw [parseB,ruleAt_at hk,← hr,if_neg (by omega),if_neg (by omega),if_neg (by omega),if_neg (by omega),if_pos hkd]
   exact hits r _ 0 r.kids.length p W HKI.out (by have:=kindI_6 HKI.out hkd; omega) (HITK.out 0 r.kids.length (.inr ⟨hkd,rfl⟩)) hp (HRD.out.below hb.below) (HS.out.below hb.below) (HIR.out.below hb.below)
  generalize parseB rs L (n + 1) (k : Int) p = g at HC hfine ⊢
  clear hbex hN1 hN2 hir hki hrd hs hw0 hw1 hall hr hkd r4 r7 hits HIRK HIR8 HIR9 HITK
  cases g with
  | bad q' c' =>
   go_enter Tryz.func127,Tryz.ntmps127
   go_upto_region 1 with fail
   rw [← HW1.out,HN1.out]
   go_upto_region 2 with fail
   rw [← HW0.out,HN2.out]
   clear HW0 HW1 e0 e1 e2 e3 e4 e5 e6 e7 bx
   obtain ⟨d0,-⟩:=HBE.out.d 0 _ rfl
   obtain ⟨y0,-⟩:=HBE.out.r 0 _ rfl
   obtain ⟨y1,-⟩:=HBE.out.r 1 _ rfl
   obtain ⟨y2,-⟩:=HBE.out.r 2 _ rfl
   obtain ⟨y3,-⟩:=HBE.out.r 3 _ rfl
   obtain ⟨y4,-⟩:=HBE.out.r 4 _ rfl
   obtain ⟨y5,-⟩:=HBE.out.r 5 _ rfl
   obtain ⟨y6,-⟩:=HBE.out.r 6 _ rfl
   obtain ⟨y7,-⟩:=HBE.out.r 7 _ rfl
   go_wp2_with (go_at_call 183; refine (HC.out _ HBE.out).mono ?_; rintro e w7 ⟨rfl,hb7⟩; have HB7:=kq (HBE.out.later hb7); clear hb7; obtain ⟨z0,f0⟩:=HB7.out.z 0 _ rfl; obtain ⟨z1,f1⟩:=HB7.out.z 1 _ rfl; obtain ⟨z2,f2⟩:=HB7.out.z 2 _ rfl)
   try go_wp2
   (try simp only [Exit.inBlock,Exit.then])
   refine bodyPost_ret (v:=.tuple #[.agg #[.int .i64 0,.slice none 0 0,.slice none 0 0],.int .i64 (q' : Int),.int .i64 (c' : Int)]) ?_ rfl ?_
   ·simp [results,Tryz.results127,go_sem,z0,z1,z2]
   ·exact sgot_bad rfl (below3 HB7.out.below hZ1 _ _ _)
  | ok v q' =>
   go_enter Tryz.func127,Tryz.ntmps127
   go_upto_region 1 with fail
   rw [← HW1.out,HN1.out]
   go_upto_region 2 with fail
   rw [← HW0.out,HN2.out]
   clear HW0 HW1 e0 e1 e2 e3 e4 e5 e6 e7 bx
   obtain ⟨d0,-⟩:=HBE.out.d 0 _ rfl
   obtain ⟨y0,-⟩:=HBE.out.r 0 _ rfl
   obtain ⟨y1,-⟩:=HBE.out.r 1 _ rfl
   obtain ⟨y2,-⟩:=HBE.out.r 2 _ rfl
   obtain ⟨y3,-⟩:=HBE.out.r 3 _ rfl
   obtain ⟨y4,-⟩:=HBE.out.r 4 _ rfl
   obtain ⟨y5,-⟩:=HBE.out.r 5 _ rfl
   obtain ⟨y6,-⟩:=HBE.out.r 6 _ rfl
   obtain ⟨y7,-⟩:=HBE.out.r 7 _ rfl
   go_wp2_with (go_at_call 183; refine (HC.out _ HBE.out).mono ?_; rintro e w7 ⟨⟨cs',rfl,hown⟩,hb7⟩; obtain ⟨ab',cb',ai',ci',rfl⟩:=hown.cells; have HB7:=kq (HBE.out.later hb7); have HOW:=kq hown; clear hb7 hown; obtain ⟨z0,f0⟩:=HB7.out.z 0 _ rfl; obtain ⟨z1,f1⟩:=HB7.out.z 1 _ rfl; obtain ⟨z2,f2⟩:=HB7.out.z 2 _ rfl)
   try go_wp2
   (try simp only [Exit.inBlock,Exit.then])
   refine bodyPost_ret (v:=.tuple #[.agg #[.int .i64 v.number,.slice ab' v.bytes.length cb',.slice ai' v.items.length ci'],.int .i64 (q' : Int),.int .i64 0]) ?_ rfl ?_
   ·simp [results,Tryz.results127,go_sem,z0,z1,z2]
   ·exact sret_ok (X:=w0.heap.size) (v:=v) (cs:=[.int .i64 v.number,.slice ab' v.bytes.length cb',.slice ai' v.items.length ci']) rfl HB7.out.below HOW.out (Nat.lt_trans HBE.out.n2 HBE.out.le) hZ1 _ _ _
 ·have q1 : (r.kind == 1) = false:=by rw [hkd]; rfl
  have q2 : (r.kind == 2) = false:=by rw [hkd]; rfl
  have q3 : (r.kind == 3) = false:=by rw [hkd]; rfl
  have q10 : (r.kind == 10) = false:=by rw [hkd]; rfl
  have q6 : (r.kind == 6) = false:=by rw [hkd]; rfl
  have q7 : (r.kind == 7) = true:=by rw [hkd]; rfl
  have hfine : Fine L p (parseB rs L (n + 1) (k : Int) p):=parse_fine hall L (n + 1) k hk hkn p hp
  clear hb1 hs1 hb1c d0 d1 d2 d3 d4 d5 d6 d7 hitk
  have HC : Hid (∀ W,Bex [.slice (some ⟨b0,off,none⟩) rs.length cap] [.string r.name,.int .i64 r.kind,.int .i64 r.size,.bool r.little,.slice a4 r.bytes.length c4,.slice a5 r.names.length c5,.slice a6 r.tags.length c6,.slice a7 r.kids.length c7] w N1 N2 W → Calls Tryz.prog 184 #[.agg #[.slice (some ⟨b0,off,none⟩) rs.length cap],.agg #[.string r.name,.int .i64 r.kind,.int .i64 r.size,.bool r.little,.slice a4 r.bytes.length c4,.slice a5 r.names.length c5,.slice a6 r.tags.length c6,.slice a7 r.kids.length c7],.slice ab L.length cb,.int .i64 (p : Int)] W (SGot (n + 1) (parseB rs L (n + 1) (k : Int) p) W)):=fun W hb => HIRK.out _ W (HIR.out.below hb.below) hb.below hkd
  generalize parseB rs L (n + 1) (k : Int) p = g at HC hfine ⊢
  clear hbex hN1 hN2 hir hki hrd hs hw0 hw1 hall hr hkd r4 r7 hits HIRK HIR8 HIR9 HITK
  cases g with
  | bad q' c' =>
   go_enter Tryz.func127,Tryz.ntmps127
   go_upto_region 1 with fail
   rw [← HW1.out,HN1.out]
   go_upto_region 2 with fail
   rw [← HW0.out,HN2.out]
   clear HW0 HW1 e0 e1 e2 e3 e4 e5 e6 e7 bx
   obtain ⟨d0,-⟩:=HBE.out.d 0 _ rfl
   obtain ⟨y0,-⟩:=HBE.out.r 0 _ rfl
   obtain ⟨y1,-⟩:=HBE.out.r 1 _ rfl
   obtain ⟨y2,-⟩:=HBE.out.r 2 _ rfl
   obtain ⟨y3,-⟩:=HBE.out.r 3 _ rfl
   obtain ⟨y4,-⟩:=HBE.out.r 4 _ rfl
   obtain ⟨y5,-⟩:=HBE.out.r 5 _ rfl
   obtain ⟨y6,-⟩:=HBE.out.r 6 _ rfl
   obtain ⟨y7,-⟩:=HBE.out.r 7 _ rfl
   go_wp2_with (go_at_call 184; refine (HC.out _ HBE.out).mono ?_; rintro e w7 ⟨rfl,hb7⟩; have HB7:=kq (HBE.out.later hb7); clear hb7; obtain ⟨z0,f0⟩:=HB7.out.z 0 _ rfl; obtain ⟨z1,f1⟩:=HB7.out.z 1 _ rfl; obtain ⟨z2,f2⟩:=HB7.out.z 2 _ rfl)
   try go_wp2
   (try simp only [Exit.inBlock,Exit.then])
   refine bodyPost_ret (v:=.tuple #[.agg #[.int .i64 0,.slice none 0 0,.slice none 0 0],.int .i64 (q' : Int),.int .i64 (c' : Int)]) ?_ rfl ?_
   ·simp [results,Tryz.results127,go_sem,z0,z1,z2]
   ·exact sgot_bad rfl (below3 HB7.out.below hZ1 _ _ _)
  | ok v q' =>
   go_enter Tryz.func127,Tryz.ntmps127
   go_upto_region 1 with fail
   rw [← HW1.out,HN1.out]
   go_upto_region 2 with fail
   rw [← HW0.out,HN2.out]
   clear HW0 HW1 e0 e1 e2 e3 e4 e5 e6 e7 bx
   obtain ⟨d0,-⟩:=HBE.out.d 0 _ rfl
   obtain ⟨y0,-⟩:=HBE.out.r 0 _ rfl
   obtain ⟨y1,-⟩:=HBE.out.r 1 _ rfl
   obtain ⟨y2,-⟩:=HBE.out.r 2 _ rfl
   obtain ⟨y3,-⟩:=HBE.out.r 3 _ rfl
   obtain ⟨y4,-⟩:=HBE.out.r 4 _ rfl
   obtain ⟨y5,-⟩:=HBE.out.r 5 _ rfl
   obtain ⟨y6,-⟩:=HBE.out.r 6 _ rfl
   obtain ⟨y7,-⟩:=HBE.out.r 7 _ rfl
   go_wp2_with (go_at_call 184; refine (HC.out _ HBE.out).mono ?_; rintro e w7 ⟨⟨cs',rfl,hown⟩,hb7⟩; obtain ⟨ab',cb',ai',ci',rfl⟩:=hown.cells; have HB7:=kq (HBE.out.later hb7); have HOW:=kq hown; clear hb7 hown; obtain ⟨z0,f0⟩:=HB7.out.z 0 _ rfl; obtain ⟨z1,f1⟩:=HB7.out.z 1 _ rfl; obtain ⟨z2,f2⟩:=HB7.out.z 2 _ rfl)
   try go_wp2
   (try simp only [Exit.inBlock,Exit.then])
   refine bodyPost_ret (v:=.tuple #[.agg #[.int .i64 v.number,.slice ab' v.bytes.length cb',.slice ai' v.items.length ci'],.int .i64 (q' : Int),.int .i64 0]) ?_ rfl ?_
   ·simp [results,Tryz.results127,go_sem,z0,z1,z2]
   ·exact sret_ok (X:=w0.heap.size) (v:=v) (cs:=[.int .i64 v.number,.slice ab' v.bytes.length cb',.slice ai' v.items.length ci']) rfl HB7.out.below HOW.out (Nat.lt_trans HBE.out.n2 HBE.out.le) hZ1 _ _ _
 ·have q1 : (r.kind == 1) = false:=by rw [hkd]; rfl
  have q2 : (r.kind == 2) = false:=by rw [hkd]; rfl
  have q3 : (r.kind == 3) = false:=by rw [hkd]; rfl
  have q10 : (r.kind == 10) = false:=by rw [hkd]; rfl
  have q6 : (r.kind == 6) = false:=by rw [hkd]; rfl
  have q7 : (r.kind == 7) = false:=by rw [hkd]; rfl
  have q8 : (r.kind == 8) = true:=by rw [hkd]; rfl
  have hfine : Fine L p (parseB rs L (n + 1) (k : Int) p):=parse_fine hall L (n + 1) k hk hkn p hp
  clear hb1 hs1 hb1c d0 d1 d2 d3 d4 d5 d6 d7 hitk
  have HC : Hid (∀ W,Bex [.slice (some ⟨b0,off,none⟩) rs.length cap] [.string r.name,.int .i64 r.kind,.int .i64 r.size,.bool r.little,.slice a4 r.bytes.length c4,.slice a5 r.names.length c5,.slice a6 r.tags.length c6,.slice a7 r.kids.length c7] w N1 N2 W → Calls Tryz.prog 185 #[.agg #[.slice (some ⟨b0,off,none⟩) rs.length cap],.agg #[.string r.name,.int .i64 r.kind,.int .i64 r.size,.bool r.little,.slice a4 r.bytes.length c4,.slice a5 r.names.length c5,.slice a6 r.tags.length c6,.slice a7 r.kids.length c7],.slice ab L.length cb,.int .i64 (p : Int)] W (SGot (n + 1) (parseB rs L (n + 1) (k : Int) p) W)):=fun W hb => HIR8.out _ W (HIR.out.below hb.below) hb.below hkd
  generalize parseB rs L (n + 1) (k : Int) p = g at HC hfine ⊢
  clear hbex hN1 hN2 hir hki hrd hs hw0 hw1 hall hr hkd r4 r7 hits HIRK HIR8 HIR9 HITK
  cases g with
  | bad q' c' =>
   go_enter Tryz.func127,Tryz.ntmps127
   go_upto_region 1 with fail
   rw [← HW1.out,HN1.out]
   go_upto_region 2 with fail
   rw [← HW0.out,HN2.out]
   clear HW0 HW1 e0 e1 e2 e3 e4 e5 e6 e7 bx
   obtain ⟨d0,-⟩:=HBE.out.d 0 _ rfl
   obtain ⟨y0,-⟩:=HBE.out.r 0 _ rfl
   obtain ⟨y1,-⟩:=HBE.out.r 1 _ rfl
   obtain ⟨y2,-⟩:=HBE.out.r 2 _ rfl
   obtain ⟨y3,-⟩:=HBE.out.r 3 _ rfl
   obtain ⟨y4,-⟩:=HBE.out.r 4 _ rfl
   obtain ⟨y5,-⟩:=HBE.out.r 5 _ rfl
   obtain ⟨y6,-⟩:=HBE.out.r 6 _ rfl
   obtain ⟨y7,-⟩:=HBE.out.r 7 _ rfl
   go_wp2_with (go_at_call 185; refine (HC.out _ HBE.out).mono ?_; rintro e w7 ⟨rfl,hb7⟩; have HB7:=kq (HBE.out.later hb7); clear hb7; obtain ⟨z0,f0⟩:=HB7.out.z 0 _ rfl; obtain ⟨z1,f1⟩:=HB7.out.z 1 _ rfl; obtain ⟨z2,f2⟩:=HB7.out.z 2 _ rfl)
   try go_wp2
   (try simp only [Exit.inBlock,Exit.then])
   refine bodyPost_ret (v:=.tuple #[.agg #[.int .i64 0,.slice none 0 0,.slice none 0 0],.int .i64 (q' : Int),.int .i64 (c' : Int)]) ?_ rfl ?_
   ·simp [results,Tryz.results127,go_sem,z0,z1,z2]
   ·exact sgot_bad rfl (below3 HB7.out.below hZ1 _ _ _)
  | ok v q' =>
   go_enter Tryz.func127,Tryz.ntmps127
   go_upto_region 1 with fail
   rw [← HW1.out,HN1.out]
   go_upto_region 2 with fail
   rw [← HW0.out,HN2.out]
   clear HW0 HW1 e0 e1 e2 e3 e4 e5 e6 e7 bx
   obtain ⟨d0,-⟩:=HBE.out.d 0 _ rfl
   obtain ⟨y0,-⟩:=HBE.out.r 0 _ rfl
   obtain ⟨y1,-⟩:=HBE.out.r 1 _ rfl
   obtain ⟨y2,-⟩:=HBE.out.r 2 _ rfl
   obtain ⟨y3,-⟩:=HBE.out.r 3 _ rfl
   obtain ⟨y4,-⟩:=HBE.out.r 4 _ rfl
   obtain ⟨y5,-⟩:=HBE.out.r 5 _ rfl
   obtain ⟨y6,-⟩:=HBE.out.r 6 _ rfl
   obtain ⟨y7,-⟩:=HBE.out.r 7 _ rfl
   go_wp2_with (go_at_call 185; refine (HC.out _ HBE.out).mono ?_; rintro e w7 ⟨⟨cs',rfl,hown⟩,hb7⟩; obtain ⟨ab',cb',ai',ci',rfl⟩:=hown.cells; have HB7:=kq (HBE.out.later hb7); have HOW:=kq hown; clear hb7 hown; obtain ⟨z0,f0⟩:=HB7.out.z 0 _ rfl; obtain ⟨z1,f1⟩:=HB7.out.z 1 _ rfl; obtain ⟨z2,f2⟩:=HB7.out.z 2 _ rfl)
   try go_wp2
   (try simp only [Exit.inBlock,Exit.then])
   refine bodyPost_ret (v:=.tuple #[.agg #[.int .i64 v.number,.slice ab' v.bytes.length cb',.slice ai' v.items.length ci'],.int .i64 (q' : Int),.int .i64 0]) ?_ rfl ?_
   ·simp [results,Tryz.results127,go_sem,z0,z1,z2]
   ·exact sret_ok (X:=w0.heap.size) (v:=v) (cs:=[.int .i64 v.number,.slice ab' v.bytes.length cb',.slice ai' v.items.length ci']) rfl HB7.out.below HOW.out (Nat.lt_trans HBE.out.n2 HBE.out.le) hZ1 _ _ _
 ·have q1 : (r.kind == 1) = false:=by rw [hkd]; rfl
  have q2 : (r.kind == 2) = false:=by rw [hkd]; rfl
  have q3 : (r.kind == 3) = false:=by rw [hkd]; rfl
  have q10 : (r.kind == 10) = false:=by rw [hkd]; rfl
  have q6 : (r.kind == 6) = false:=by rw [hkd]; rfl
  have q7 : (r.kind == 7) = false:=by rw [hkd]; rfl
  have q8 : (r.kind == 8) = false:=by rw [hkd]; rfl
  have q9 : (r.kind == 9) = true:=by rw [hkd]; rfl
  have hfine : Fine L p (parseB rs L (n + 1) (k : Int) p):=parse_fine hall L (n + 1) k hk hkn p hp
  clear hb1 hs1 hb1c d0 d1 d2 d3 d4 d5 d6 d7 hitk
  have HC : Hid (∀ W,Bex [.slice (some ⟨b0,off,none⟩) rs.length cap] [.string r.name,.int .i64 r.kind,.int .i64 r.size,.bool r.little,.slice a4 r.bytes.length c4,.slice a5 r.names.length c5,.slice a6 r.tags.length c6,.slice a7 r.kids.length c7] w N1 N2 W → Calls Tryz.prog 186 #[.agg #[.slice (some ⟨b0,off,none⟩) rs.length cap],.agg #[.string r.name,.int .i64 r.kind,.int .i64 r.size,.bool r.little,.slice a4 r.bytes.length c4,.slice a5 r.names.length c5,.slice a6 r.tags.length c6,.slice a7 r.kids.length c7],.slice ab L.length cb,.int .i64 (p : Int)] W (SGot (n + 1) (parseB rs L (n + 1) (k : Int) p) W)):=fun W hb => HIR9.out _ W (HIR.out.below hb.below) hb.below hkd
  generalize parseB rs L (n + 1) (k : Int) p = g at HC hfine ⊢
  clear hbex hN1 hN2 hir hki hrd hs hw0 hw1 hall hr hkd r4 r7 hits HIRK HIR8 HIR9 HITK
  cases g with
  | bad q' c' =>
   go_enter Tryz.func127,Tryz.ntmps127
   go_upto_region 1 with fail
   rw [← HW1.out,HN1.out]
   go_upto_region 2 with fail
   rw [← HW0.out,HN2.out]
   clear HW0 HW1 e0 e1 e2 e3 e4 e5 e6 e7 bx
   obtain ⟨d0,-⟩:=HBE.out.d 0 _ rfl
   obtain ⟨y0,-⟩:=HBE.out.r 0 _ rfl
   obtain ⟨y1,-⟩:=HBE.out.r 1 _ rfl
   obtain ⟨y2,-⟩:=HBE.out.r 2 _ rfl
   obtain ⟨y3,-⟩:=HBE.out.r 3 _ rfl
   obtain ⟨y4,-⟩:=HBE.out.r 4 _ rfl
   obtain ⟨y5,-⟩:=HBE.out.r 5 _ rfl
   obtain ⟨y6,-⟩:=HBE.out.r 6 _ rfl
   obtain ⟨y7,-⟩:=HBE.out.r 7 _ rfl
   go_wp2_with (go_at_call 186; refine (HC.out _ HBE.out).mono ?_; rintro e w7 ⟨rfl,hb7⟩; have HB7:=kq (HBE.out.later hb7); clear hb7; obtain ⟨z0,f0⟩:=HB7.out.z 0 _ rfl; obtain ⟨z1,f1⟩:=HB7.out.z 1 _ rfl; obtain ⟨z2,f2⟩:=HB7.out.z 2 _ rfl)
   try go_wp2
   (try simp only [Exit.inBlock,Exit.then])
   refine bodyPost_ret (v:=.tuple #[.agg #[.int .i64 0,.slice none 0 0,.slice none 0 0],.int .i64 (q' : Int),.int .i64 (c' : Int)]) ?_ rfl ?_
   ·simp [results,Tryz.results127,go_sem,z0,z1,z2]
   ·exact sgot_bad rfl (below3 HB7.out.below hZ1 _ _ _)
  | ok v q' =>
   go_enter Tryz.func127,Tryz.ntmps127
   go_upto_region 1 with fail
   rw [← HW1.out,HN1.out]
   go_upto_region 2 with fail
   rw [← HW0.out,HN2.out]
   clear HW0 HW1 e0 e1 e2 e3 e4 e5 e6 e7 bx
   obtain ⟨d0,-⟩:=HBE.out.d 0 _ rfl
   obtain ⟨y0,-⟩:=HBE.out.r 0 _ rfl
   obtain ⟨y1,-⟩:=HBE.out.r 1 _ rfl
   obtain ⟨y2,-⟩:=HBE.out.r 2 _ rfl
   obtain ⟨y3,-⟩:=HBE.out.r 3 _ rfl
   obtain ⟨y4,-⟩:=HBE.out.r 4 _ rfl
   obtain ⟨y5,-⟩:=HBE.out.r 5 _ rfl
   obtain ⟨y6,-⟩:=HBE.out.r 6 _ rfl
   obtain ⟨y7,-⟩:=HBE.out.r 7 _ rfl
   go_wp2_with (go_at_call 186; refine (HC.out _ HBE.out).mono ?_; rintro e w7 ⟨⟨cs',rfl,hown⟩,hb7⟩; obtain ⟨ab',cb',ai',ci',rfl⟩:=hown.cells; have HB7:=kq (HBE.out.later hb7); have HOW:=kq hown; clear hb7 hown; obtain ⟨z0,f0⟩:=HB7.out.z 0 _ rfl; obtain ⟨z1,f1⟩:=HB7.out.z 1 _ rfl; obtain ⟨z2,f2⟩:=HB7.out.z 2 _ rfl)
   try go_wp2
   (try simp only [Exit.inBlock,Exit.then])
   refine bodyPost_ret (v:=.tuple #[.agg #[.int .i64 v.number,.slice ab' v.bytes.length cb',.slice ai' v.items.length ci'],.int .i64 (q' : Int),.int .i64 0]) ?_ rfl ?_
   ·simp [results,Tryz.results127,go_sem,z0,z1,z2]
   ·exact sret_ok (X:=w0.heap.size) (v:=v) (cs:=[.int .i64 v.number,.slice ab' v.bytes.length cb',.slice ai' v.items.length ci']) rfl HB7.out.below HOW.out (Nat.lt_trans HBE.out.n2 HBE.out.le) hZ1 _ _ _
theorem sread_4 (a ab : Option Addr) (rs : List RuleV) (cap cb : Nat) (L : List UInt8) (n k p : Nat) (w : World) (hall : allV (kindI rs) rs) (hits : SItemsC11 a ab rs cap cb L n) (hk : k < rs.length) (hkn : k < n + 1) (hkd : rs[k].kind = 4) (hl : L.length ≤ 1048576) (hp : p ≤ L.length) (hrd : RdR a rs w) (hs : SrcB ab L cb w) :
  Calls Tryz.prog 127 #[.agg #[.slice a rs.length cap],.int .i64 (k : Int),.slice ab L.length cb,.int .i64 (p : Int)] w (SGot (n + 1) (parseB rs L (n + 1) (k : Int) p) w):=by
 have hki:=allV_kind hall hk
 have hitk : ∀ (x : Int) (c : Nat),((rs[k].kind = 5) ∨ (rs[k].kind = 6 ∧ c = rs[k].kids.length)) → ∀ i,i < c → ∃ m : Nat,itemR rs[k] x i = (m : Int) ∧ m < rs.length ∧ m < n:=fun x c h i hi => by
  have h0 : 0 ≤ itemR rs[k] x i:=items_there hall hk (m:=c) hi (by rcases h with h | h; exact .inl h; exact .inr (.inl h))
  obtain ⟨q,hq,hqk⟩:=items_kid hall hk h0
  exact ⟨q,hq,by omega,by omega⟩
 have HIRK : Hid (∀ cs W,IsRule rs[k] cs W → Below w.heap.size w W → rs[k].kind = 7 → Calls Tryz.prog 184 #[.agg #[.slice a rs.length cap],.agg cs.toArray,.slice ab L.length cb,.int .i64 (p : Int)] W (SGot (n + 1) (parseB rs L (n + 1) (k : Int) p) W)):=fun cs W hi hb h7 => schoice_spec a ab rs cap cb L n k p cs W hall hits hk hkn h7 hl hp (hrd.below hb) (hs.below hb) hi
 have HIR8 : Hid (∀ cs W,IsRule rs[k] cs W → Below w.heap.size w W → rs[k].kind = 8 → Calls Tryz.prog 185 #[.agg #[.slice a rs.length cap],.agg cs.toArray,.slice ab L.length cb,.int .i64 (p : Int)] W (SGot (n + 1) (parseB rs L (n + 1) (k : Int) p) W)):=fun cs W hi hb h7 => soption_spec a ab rs cap cb L n k p cs W hall hits hk hkn h7 hl hp (hrd.below hb) (hs.below hb) hi
 have HIR9 : Hid (∀ cs W,IsRule rs[k] cs W → Below w.heap.size w W → rs[k].kind = 9 → Calls Tryz.prog 186 #[.agg #[.slice a rs.length cap],.agg cs.toArray,.slice ab L.length cb,.int .i64 (p : Int)] W (SGot (n + 1) (parseB rs L (n + 1) (k : Int) p) W)):=fun cs W hi hb h7 => schecked_spec a ab rs cap cb L n k p cs W hall hits hk hkn h7 hl hp (hrd.below hb) (hs.below hb) hi
 obtain ⟨hm1,m,hm,hmk⟩:=kid_int hall hk (by omega)
 have hmr : m < rs.length:=by omega
 have hkl : 0 < rs[k].kids.length:=by have:=(kindI_4 hki hkd).1; omega
 rw [hm,ruleAt_at hmr] at hm1
 have hsz:=kindI_size (allV_kind hall hmr) hm1
 obtain ⟨hd,hhd⟩ : ∃ hd,hd = rs[m]:=⟨_,rfl⟩
 rw [← hhd] at hsz
 obtain ⟨b0,off,a4,c4,a5,c5,a6,c6,a7,c7,rfl,⟨d0,d1,d2,d3,d4,d5,d6,d7⟩,r4,r5,r6,r7⟩:=hrd.at k hk
 have hir : IsRule rs[k] [.string rs[k].name,.int .i64 rs[k].kind,.int .i64 rs[k].size,.bool rs[k].little,.slice a4 rs[k].bytes.length c4,.slice a5 rs[k].names.length c5,.slice a6 rs[k].tags.length c6,.slice a7 rs[k].kids.length c7] w:=⟨a4,c4,a5,c5,a6,c6,a7,c7,rfl,r4,r5,r6,r7⟩
 clear r5 r6
 obtain ⟨r,hr⟩ : ∃ r,r = rs[k]:=⟨_,rfl⟩
 obtain ⟨b7,o7,rfl,hc7⟩:=r7.cellAt hkl
 have hm0 : rs[k].kids[0] = (m : Int):=by rw [← hm,getD_at hkl]
 rw [hm0,Nat.add_zero] at hc7
 rw [← hr] at hm hkl
 clear hm0
 rw [← hr] at hki hitk hkd hir HIRK HIR8 HIR9 r4 r7 d0 d1 d2 d3 d4 d5 d6 d7
 obtain ⟨w1,hw1⟩ : ∃ w1,w1 = (w.alloc (.cells #[.slice (some ⟨b0,off,none⟩) rs.length cap] 26)).alloc (.cells #[.int .i64 0,.slice none 0 0,.slice none 0 0] 48):=⟨_,rfl⟩
 have hb1:=zb2 hw1
 have hs1 : w1.heap.size = w.heap.size + 2:=by subst hw1; simp
 obtain ⟨w0,hw0⟩ : ∃ w0,w0 = w1.alloc (.cells #[.string r.name,.int .i64 r.kind,.int .i64 r.size,.bool r.little,.slice a4 r.bytes.length c4,.slice a5 r.names.length c5,.slice a6 r.tags.length c6,.slice (some ⟨b7,o7,none⟩) r.kids.length c7] 63):=⟨_,rfl⟩
 have hbex : Bex [.slice (some ⟨b0,off,none⟩) rs.length cap] [.string r.name,.int .i64 r.kind,.int .i64 r.size,.bool r.little,.slice a4 r.bytes.length c4,.slice a5 r.names.length c5,.slice a6 r.tags.length c6,.slice (some ⟨b7,o7,none⟩) r.kids.length c7] w (w.heap.size + 1) (w.heap.size + 2) w0:=by subst hw0 hw1; exact bex_new _ _ _ _ _ _ _ _ _ w
 obtain ⟨N1,hN1⟩ : ∃ N1,N1 = w.heap.size + 1:=⟨_,rfl⟩
 obtain ⟨N2,hN2⟩ : ∃ N2,N2 = w.heap.size + 2:=⟨_,rfl⟩
 rw [← hN1,← hN2] at hbex
 have e0:=cellK hb1 (Nat.le_refl _) d0
 have e1:=cellK hb1 (Nat.le_refl _) d1
 have e2:=cellK hb1 (Nat.le_refl _) d2
 have e3:=cellK hb1 (Nat.le_refl _) d3
 have e4:=cellK hb1 (Nat.le_refl _) d4
 have e5:=cellK hb1 (Nat.le_refl _) d5
 have e6:=cellK hb1 (Nat.le_refl _) d6
 have e7:=cellK hb1 (Nat.le_refl _) d7
 have bx:=cellK hb1 (Nat.le_refl _) (v:=.slice (some ⟨b0,off,none⟩) rs.length cap) (b:=w.heap.size) (i:=0)
 have HBE:=kq hbex
 have hZ1 : w.heap.size ≤ N1:=by omega
 have HN1:=kq hN1.symm
 have HN2 : Hid (w1.heap.size = N2):=by show _ = _; omega
 have HIR:=kq hir
 have HKI:=kq hki
 have HRD:=kq hrd
 have HS:=kq hs
 have HW0:=kq hw0
 have HW1:=kq hw1
 have HITK:=kq hitk
 have hb1c:=(CellsAt.new w [.slice (some ⟨b0,off,none⟩) rs.length cap] 26).below ((Below.refl _ _).alloc (Nat.le_refl _) (.cells #[.int .i64 0,.slice none 0 0,.slice none 0 0] 48))
 rw [← hw1] at hb1c
 replace bx:=(hb1c 0 _ rfl).1
 have kk0 : (0 : Int) ≤ (k : Int):=by omega
 have kk1 : (k : Int) < (rs.length : Int):=by omega
 have p0 : (0 : Int) ≤ (p : Int):=by omega
 have q1 : (r.kind == 1) = false:=by rw [hkd]; rfl
 have q2 : (r.kind == 2) = false:=by rw [hkd]; rfl
 have q3 : (r.kind == 3) = false:=by rw [hkd]; rfl
 have q10 : (r.kind == 10) = false:=by rw [hkd]; rfl
 have q6 : (r.kind == 6) = false:=by rw [hkd]; rfl
 have q7 : (r.kind == 7) = false:=by rw [hkd]; rfl
 have q8 : (r.kind == 8) = false:=by rw [hkd]; rfl
 have q9 : (r.kind == 9) = false:=by rw [hkd]; rfl
 have q4 : (r.kind == 4) = true:=by rw [hkd]; rfl
 have hfine : Fine L p (parseB rs L (n + 1) (k : Int) p):=parse_fine hall L (n + 1) k hk hkn p hp
 clear hb1 hs1 hb1c d0 d1 d2 d3 d4 d5 d6 d7 hitk
 rw [parseB,ruleAt_at hk,← hr,if_neg (by omega),if_neg (by omega),if_neg (by omega),if_neg (by omega),if_neg (by omega),if_neg (by omega),if_neg (by omega)] at hfine ⊢
 rw [hm,ruleAt_at hmr,← hhd] at hfine ⊢
 have HKC : Hid (w.cell? ⟨b7,o7,none⟩ = some (.int .i64 (m : Int))):=hc7
 have HSW : Hid (∀ W,Bex [.slice (some ⟨b0,off,none⟩) rs.length cap] [.string r.name,.int .i64 r.kind,.int .i64 r.size,.bool r.little,.slice a4 r.bytes.length c4,.slice a5 r.names.length c5,.slice a6 r.tags.length c6,.slice (some ⟨b7,o7,none⟩) r.kids.length c7] w N1 N2 W → W.cell? ⟨w.heap.size,0,none⟩ = some (.slice (some ⟨b0,off,none⟩) rs.length cap) ∧ W.cell? ⟨N2,7,none⟩ = some (.slice (some ⟨b7,o7,none⟩) r.kids.length c7) ∧ W.cell? ⟨b7,o7,none⟩ = some (.int .i64 (m : Int))):=fun W hb => ⟨(hb.d 0 _ rfl).1,(hb.r 7 _ rfl).1,cellK hb.below (Nat.le_refl _) HKC.out⟩
 have HINT : Hid (∀ W,Bex [.slice (some ⟨b0,off,none⟩) rs.length cap] [.string r.name,.int .i64 r.kind,.int .i64 r.size,.bool r.little,.slice a4 r.bytes.length c4,.slice a5 r.names.length c5,.slice a6 r.tags.length c6,.slice (some ⟨b7,o7,none⟩) r.kids.length c7] w N1 N2 W → Calls Tryz.prog 179 #[.agg #[.slice (some ⟨b0,off,none⟩) rs.length cap],.int .i64 (m : Int),.slice ab L.length cb,.int .i64 (p : Int)] W (SIntAt (gotInt hd L p) p W)):=fun W hb => by
  have h1:=sint_spec (some ⟨b0,off,none⟩) ab rs cap cb m p L W hmr (by rw [← hhd]; omega) (by rw [← hhd]; omega) hl hp (HRD.out.below hb.below) (HS.out.below hb.below)
  rw [← hhd] at h1
  exact h1
 have HB0 : Hid (Bex [.slice (some ⟨b0,off,none⟩) rs.length cap] [.string r.name,.int .i64 r.kind,.int .i64 r.size,.bool r.little,.slice a4 r.bytes.length c4,.slice a5 r.names.length c5,.slice a6 r.tags.length c6,.slice (some ⟨b7,o7,none⟩) r.kids.length c7] w N1 N2 w0.drew):=HBE.out.later (below_drewN (Below.refl _ _) 1)
 have hfi:=gotInt_fine hd L p hp
 have hkl1 : (0 : Int) < (r.kids.length : Int):=by omega
 cases hg : gotInt hd L p with
 | bad q c =>
  obtain ⟨rfl,rfl⟩:=sint_bad hg
  rw [hg] at HINT
  simp only
  clear hbex hN1 hN2 hir hki hrd hs hw0 hw1 hall hr hkd r4 r7 hits HIRK HIR8 HIR9 HITK hsz hg hfine hfi hc7 hm hhd hm1 hmk hmr
  go_enter Tryz.func127,Tryz.ntmps127
  go_upto_region 1 with fail
  rw [← HW1.out,HN1.out]
  go_upto_region 2 with fail
  rw [← HW0.out,HN2.out]
  clear HW0 HW1 e0 e1 e2 e3 e4 e5 e6 e7 bx
  obtain ⟨d0,-⟩:=HBE.out.d 0 _ rfl
  obtain ⟨y0,-⟩:=HBE.out.r 0 _ rfl
  obtain ⟨y1,-⟩:=HBE.out.r 1 _ rfl
  obtain ⟨y2,-⟩:=HBE.out.r 2 _ rfl
  obtain ⟨y3,-⟩:=HBE.out.r 3 _ rfl
  obtain ⟨y4,-⟩:=HBE.out.r 4 _ rfl
  obtain ⟨y5,-⟩:=HBE.out.r 5 _ rfl
  obtain ⟨y6,-⟩:=HBE.out.r 6 _ rfl
  obtain ⟨y7,-⟩:=HBE.out.r 7 _ rfl
  go_upto_region 25 with fail
  clear d0 y0 y1 y2 y3 y4 y5 y6 y7
  go_region_held3 (fun W => W.cell? ⟨w.heap.size,0,none⟩ = some (.slice (some ⟨b0,off,none⟩) rs.length cap) ∧ W.cell? ⟨N2,7,none⟩ = some (.slice (some ⟨b7,o7,none⟩) r.kids.length c7) ∧ W.cell? ⟨b7,o7,none⟩ = some (.int .i64 (m : Int))) (exact HSW.out _ HB0.out) (first | (go_at_call 179; refine (HINT.out _ HB0.out).mono ?_; rintro e w5 ⟨rfl,hb5⟩; have HWS : Hid (w0.heap.size ≤ w5.heap.size):=hb5.size; have hb5':=HB0.out.later hb5; clear hb5; replace HB0:=kq hb5'))
  obtain ⟨z0,f0⟩:=HB0.out.z 0 _ rfl
  obtain ⟨z1,f1⟩:=HB0.out.z 1 _ rfl
  obtain ⟨z2,f2⟩:=HB0.out.z 2 _ rfl
  clear HSW HINT
  go_wp2
  (try simp only [Exit.inBlock,Exit.then])
  refine bodyPost_ret (v:=.tuple #[.agg #[.int .i64 0,.slice none 0 0,.slice none 0 0],.int .i64 (q : Int),.int .i64 1]) ?_ rfl ?_
  ·simp [results,Tryz.results127,go_sem,z0,z1,z2]
  ·exact sgot_bad (c:=1) rfl (below3 HB0.out.below hZ1 _ _ _)
 | ok x q =>
  obtain ⟨xn,rfl,hxb⟩:=sint_nat hsz.2 hg
  rw [hg] at HINT hfi hfine
  obtain ⟨hq1,hq⟩:=hfi
  simp only at hfine ⊢
  have x0 : (0 : Int) ≤ (xn : Int):=by omega
  have HC : Hid (∀ W,Bex [.slice (some ⟨b0,off,none⟩) rs.length cap] [.string r.name,.int .i64 r.kind,.int .i64 r.size,.bool r.little,.slice a4 r.bytes.length c4,.slice a5 r.names.length c5,.slice a6 r.tags.length c6,.slice (some ⟨b7,o7,none⟩) r.kids.length c7] w N1 N2 W → Calls Tryz.prog 181 #[.slice ab L.length cb,.int .i64 (q : Int),.int .i64 (xn : Int)] W (SGot (n + 1) (gotBytes L q xn) W)):=fun W hb => sbytes_spec ab cb q xn n L W hl hq (by omega) (HS.out.below hb.below)
  rw [if_neg (by omega),if_pos hkd,Int.toNat_natCast] at hfine ⊢
  generalize gotBytes L q xn = g at HC hfine ⊢
  clear hbex hN1 hN2 hir hki hrd hs hw0 hw1 hall hr hkd r4 r7 hits HIRK HIR8 HIR9 HITK hsz hg hc7 hm hhd hm1 hmk hmr
  cases g with
  | bad q' c' =>
   go_enter Tryz.func127,Tryz.ntmps127
   go_upto_region 1 with fail
   rw [← HW1.out,HN1.out]
   go_upto_region 2 with fail
   rw [← HW0.out,HN2.out]
   clear HW0 HW1 e0 e1 e2 e3 e4 e5 e6 e7 bx
   obtain ⟨d0,-⟩:=HBE.out.d 0 _ rfl
   obtain ⟨y0,-⟩:=HBE.out.r 0 _ rfl
   obtain ⟨y1,-⟩:=HBE.out.r 1 _ rfl
   obtain ⟨y2,-⟩:=HBE.out.r 2 _ rfl
   obtain ⟨y3,-⟩:=HBE.out.r 3 _ rfl
   obtain ⟨y4,-⟩:=HBE.out.r 4 _ rfl
   obtain ⟨y5,-⟩:=HBE.out.r 5 _ rfl
   obtain ⟨y6,-⟩:=HBE.out.r 6 _ rfl
   obtain ⟨y7,-⟩:=HBE.out.r 7 _ rfl
   go_upto_region 25 with fail
   clear d0 y0 y1 y2 y3 y4 y5 y6 y7
   go_region_held3 (fun W => W.cell? ⟨w.heap.size,0,none⟩ = some (.slice (some ⟨b0,off,none⟩) rs.length cap) ∧ W.cell? ⟨N2,7,none⟩ = some (.slice (some ⟨b7,o7,none⟩) r.kids.length c7) ∧ W.cell? ⟨b7,o7,none⟩ = some (.int .i64 (m : Int))) (exact HSW.out _ HB0.out) (first | (go_at_call 179; refine (HINT.out _ HB0.out).mono ?_; rintro e w5 ⟨rfl,hb5⟩; have HWS : Hid (w0.heap.size ≤ w5.heap.size):=hb5.size; have hb5':=HB0.out.later hb5; clear hb5; replace HB0:=kq hb5'))
   obtain ⟨d0,-⟩:=HB0.out.d 0 _ rfl
   obtain ⟨y0,-⟩:=HB0.out.r 0 _ rfl
   obtain ⟨y1,-⟩:=HB0.out.r 1 _ rfl
   obtain ⟨y2,-⟩:=HB0.out.r 2 _ rfl
   obtain ⟨y3,-⟩:=HB0.out.r 3 _ rfl
   obtain ⟨y4,-⟩:=HB0.out.r 4 _ rfl
   obtain ⟨y5,-⟩:=HB0.out.r 5 _ rfl
   obtain ⟨y6,-⟩:=HB0.out.r 6 _ rfl
   obtain ⟨y7,-⟩:=HB0.out.r 7 _ rfl
   clear HSW HINT
   go_wp2_with (go_at_call 181; refine (HC.out _ HB0.out).mono ?_; rintro e w7 ⟨rfl,hb7⟩; have HB7:=kq (HB0.out.later hb7); clear hb7; obtain ⟨z0,f0⟩:=HB7.out.z 0 _ rfl; obtain ⟨z1,f1⟩:=HB7.out.z 1 _ rfl; obtain ⟨z2,f2⟩:=HB7.out.z 2 _ rfl)
   try go_wp2
   (try simp only [Exit.inBlock,Exit.then])
   refine bodyPost_ret (v:=.tuple #[.agg #[.int .i64 0,.slice none 0 0,.slice none 0 0],.int .i64 (q' : Int),.int .i64 (c' : Int)]) ?_ rfl ?_
   ·simp [results,Tryz.results127,go_sem,z0,z1,z2]
   ·exact sgot_bad rfl (below3 HB7.out.below hZ1 _ _ _)
  | ok v q' =>
   go_enter Tryz.func127,Tryz.ntmps127
   go_upto_region 1 with fail
   rw [← HW1.out,HN1.out]
   go_upto_region 2 with fail
   rw [← HW0.out,HN2.out]
   clear HW0 HW1 e0 e1 e2 e3 e4 e5 e6 e7 bx
   obtain ⟨d0,-⟩:=HBE.out.d 0 _ rfl
   obtain ⟨y0,-⟩:=HBE.out.r 0 _ rfl
   obtain ⟨y1,-⟩:=HBE.out.r 1 _ rfl
   obtain ⟨y2,-⟩:=HBE.out.r 2 _ rfl
   obtain ⟨y3,-⟩:=HBE.out.r 3 _ rfl
   obtain ⟨y4,-⟩:=HBE.out.r 4 _ rfl
   obtain ⟨y5,-⟩:=HBE.out.r 5 _ rfl
   obtain ⟨y6,-⟩:=HBE.out.r 6 _ rfl
   obtain ⟨y7,-⟩:=HBE.out.r 7 _ rfl
   go_upto_region 25 with fail
   clear d0 y0 y1 y2 y3 y4 y5 y6 y7
   go_region_held3 (fun W => W.cell? ⟨w.heap.size,0,none⟩ = some (.slice (some ⟨b0,off,none⟩) rs.length cap) ∧ W.cell? ⟨N2,7,none⟩ = some (.slice (some ⟨b7,o7,none⟩) r.kids.length c7) ∧ W.cell? ⟨b7,o7,none⟩ = some (.int .i64 (m : Int))) (exact HSW.out _ HB0.out) (first | (go_at_call 179; refine (HINT.out _ HB0.out).mono ?_; rintro e w5 ⟨rfl,hb5⟩; have HWS : Hid (w0.heap.size ≤ w5.heap.size):=hb5.size; have hb5':=HB0.out.later hb5; clear hb5; replace HB0:=kq hb5'))
   obtain ⟨d0,-⟩:=HB0.out.d 0 _ rfl
   obtain ⟨y0,-⟩:=HB0.out.r 0 _ rfl
   obtain ⟨y1,-⟩:=HB0.out.r 1 _ rfl
   obtain ⟨y2,-⟩:=HB0.out.r 2 _ rfl
   obtain ⟨y3,-⟩:=HB0.out.r 3 _ rfl
   obtain ⟨y4,-⟩:=HB0.out.r 4 _ rfl
   obtain ⟨y5,-⟩:=HB0.out.r 5 _ rfl
   obtain ⟨y6,-⟩:=HB0.out.r 6 _ rfl
   obtain ⟨y7,-⟩:=HB0.out.r 7 _ rfl
   clear HSW HINT
   go_wp2_with (go_at_call 181; refine (HC.out _ HB0.out).mono ?_; rintro e w7 ⟨⟨cs',rfl,hown⟩,hb7⟩; obtain ⟨ab',cb',ai',ci',rfl⟩:=hown.cells; have HB7:=kq (HB0.out.later hb7); have HOW:=kq hown; clear hb7 hown; obtain ⟨z0,f0⟩:=HB7.out.z 0 _ rfl; obtain ⟨z1,f1⟩:=HB7.out.z 1 _ rfl; obtain ⟨z2,f2⟩:=HB7.out.z 2 _ rfl)
   try go_wp2
   (try simp only [Exit.inBlock,Exit.then])
   refine bodyPost_ret (v:=.tuple #[.agg #[.int .i64 v.number,.slice ab' v.bytes.length cb',.slice ai' v.items.length ci'],.int .i64 (q' : Int),.int .i64 0]) ?_ rfl ?_
   ·simp [results,Tryz.results127,go_sem,z0,z1,z2]
   ·exact sret_ok (X:=w0.heap.size) (v:=v) (cs:=[.int .i64 v.number,.slice ab' v.bytes.length cb',.slice ai' v.items.length ci']) rfl HB7.out.below (HOW.out.mono fun b _ (hb : _ ≤ b) => Nat.le_trans HWS.out hb) (Nat.lt_trans HBE.out.n2 HBE.out.le) hZ1 _ _ _
theorem sread_5 (a ab : Option Addr) (rs : List RuleV) (cap cb : Nat) (L : List UInt8) (n k p : Nat) (w : World) (hall : allV (kindI rs) rs) (hits : SItemsC11 a ab rs cap cb L n) (hk : k < rs.length) (hkn : k < n + 1) (hkd : rs[k].kind = 5) (hl : L.length ≤ 1048576) (hp : p ≤ L.length) (hrd : RdR a rs w) (hs : SrcB ab L cb w) :
  Calls Tryz.prog 127 #[.agg #[.slice a rs.length cap],.int .i64 (k : Int),.slice ab L.length cb,.int .i64 (p : Int)] w (SGot (n + 1) (parseB rs L (n + 1) (k : Int) p) w):=by
 have hki:=allV_kind hall hk
 have hitk : ∀ (x : Int) (c : Nat),((rs[k].kind = 5) ∨ (rs[k].kind = 6 ∧ c = rs[k].kids.length)) → ∀ i,i < c → ∃ m : Nat,itemR rs[k] x i = (m : Int) ∧ m < rs.length ∧ m < n:=fun x c h i hi => by
  have h0 : 0 ≤ itemR rs[k] x i:=items_there hall hk (m:=c) hi (by rcases h with h | h; exact .inl h; exact .inr (.inl h))
  obtain ⟨q,hq,hqk⟩:=items_kid hall hk h0
  exact ⟨q,hq,by omega,by omega⟩
 have HIRK : Hid (∀ cs W,IsRule rs[k] cs W → Below w.heap.size w W → rs[k].kind = 7 → Calls Tryz.prog 184 #[.agg #[.slice a rs.length cap],.agg cs.toArray,.slice ab L.length cb,.int .i64 (p : Int)] W (SGot (n + 1) (parseB rs L (n + 1) (k : Int) p) W)):=fun cs W hi hb h7 => schoice_spec a ab rs cap cb L n k p cs W hall hits hk hkn h7 hl hp (hrd.below hb) (hs.below hb) hi
 have HIR8 : Hid (∀ cs W,IsRule rs[k] cs W → Below w.heap.size w W → rs[k].kind = 8 → Calls Tryz.prog 185 #[.agg #[.slice a rs.length cap],.agg cs.toArray,.slice ab L.length cb,.int .i64 (p : Int)] W (SGot (n + 1) (parseB rs L (n + 1) (k : Int) p) W)):=fun cs W hi hb h7 => soption_spec a ab rs cap cb L n k p cs W hall hits hk hkn h7 hl hp (hrd.below hb) (hs.below hb) hi
 have HIR9 : Hid (∀ cs W,IsRule rs[k] cs W → Below w.heap.size w W → rs[k].kind = 9 → Calls Tryz.prog 186 #[.agg #[.slice a rs.length cap],.agg cs.toArray,.slice ab L.length cb,.int .i64 (p : Int)] W (SGot (n + 1) (parseB rs L (n + 1) (k : Int) p) W)):=fun cs W hi hb h7 => schecked_spec a ab rs cap cb L n k p cs W hall hits hk hkn h7 hl hp (hrd.below hb) (hs.below hb) hi
 obtain ⟨hm1,m,hm,hmk⟩:=kid_int hall hk (by omega)
 have hmr : m < rs.length:=by omega
 have hkl : 0 < rs[k].kids.length:=by have:=(kindI_5 hki hkd).1; omega
 rw [hm,ruleAt_at hmr] at hm1
 have hsz:=kindI_size (allV_kind hall hmr) hm1
 obtain ⟨hd,hhd⟩ : ∃ hd,hd = rs[m]:=⟨_,rfl⟩
 rw [← hhd] at hsz
 obtain ⟨b0,off,a4,c4,a5,c5,a6,c6,a7,c7,rfl,⟨d0,d1,d2,d3,d4,d5,d6,d7⟩,r4,r5,r6,r7⟩:=hrd.at k hk
 have hir : IsRule rs[k] [.string rs[k].name,.int .i64 rs[k].kind,.int .i64 rs[k].size,.bool rs[k].little,.slice a4 rs[k].bytes.length c4,.slice a5 rs[k].names.length c5,.slice a6 rs[k].tags.length c6,.slice a7 rs[k].kids.length c7] w:=⟨a4,c4,a5,c5,a6,c6,a7,c7,rfl,r4,r5,r6,r7⟩
 clear r5 r6
 obtain ⟨r,hr⟩ : ∃ r,r = rs[k]:=⟨_,rfl⟩
 obtain ⟨b7,o7,rfl,hc7⟩:=r7.cellAt hkl
 have hm0 : rs[k].kids[0] = (m : Int):=by rw [← hm,getD_at hkl]
 rw [hm0,Nat.add_zero] at hc7
 rw [← hr] at hm hkl
 clear hm0
 rw [← hr] at hki hitk hkd hir HIRK HIR8 HIR9 r4 r7 d0 d1 d2 d3 d4 d5 d6 d7
 obtain ⟨w1,hw1⟩ : ∃ w1,w1 = (w.alloc (.cells #[.slice (some ⟨b0,off,none⟩) rs.length cap] 26)).alloc (.cells #[.int .i64 0,.slice none 0 0,.slice none 0 0] 48):=⟨_,rfl⟩
 have hb1:=zb2 hw1
 have hs1 : w1.heap.size = w.heap.size + 2:=by subst hw1; simp
 obtain ⟨w0,hw0⟩ : ∃ w0,w0 = w1.alloc (.cells #[.string r.name,.int .i64 r.kind,.int .i64 r.size,.bool r.little,.slice a4 r.bytes.length c4,.slice a5 r.names.length c5,.slice a6 r.tags.length c6,.slice (some ⟨b7,o7,none⟩) r.kids.length c7] 63):=⟨_,rfl⟩
 have hbex : Bex [.slice (some ⟨b0,off,none⟩) rs.length cap] [.string r.name,.int .i64 r.kind,.int .i64 r.size,.bool r.little,.slice a4 r.bytes.length c4,.slice a5 r.names.length c5,.slice a6 r.tags.length c6,.slice (some ⟨b7,o7,none⟩) r.kids.length c7] w (w.heap.size + 1) (w.heap.size + 2) w0:=by subst hw0 hw1; exact bex_new _ _ _ _ _ _ _ _ _ w
 obtain ⟨N1,hN1⟩ : ∃ N1,N1 = w.heap.size + 1:=⟨_,rfl⟩
 obtain ⟨N2,hN2⟩ : ∃ N2,N2 = w.heap.size + 2:=⟨_,rfl⟩
 rw [← hN1,← hN2] at hbex
 have e0:=cellK hb1 (Nat.le_refl _) d0
 have e1:=cellK hb1 (Nat.le_refl _) d1
 have e2:=cellK hb1 (Nat.le_refl _) d2
 have e3:=cellK hb1 (Nat.le_refl _) d3
 have e4:=cellK hb1 (Nat.le_refl _) d4
 have e5:=cellK hb1 (Nat.le_refl _) d5
 have e6:=cellK hb1 (Nat.le_refl _) d6
 have e7:=cellK hb1 (Nat.le_refl _) d7
 have bx:=cellK hb1 (Nat.le_refl _) (v:=.slice (some ⟨b0,off,none⟩) rs.length cap) (b:=w.heap.size) (i:=0)
 have HBE:=kq hbex
 have hZ1 : w.heap.size ≤ N1:=by omega
 have HN1:=kq hN1.symm
 have HN2 : Hid (w1.heap.size = N2):=by show _ = _; omega
 have HIR:=kq hir
 have HKI:=kq hki
 have HRD:=kq hrd
 have HS:=kq hs
 have HW0:=kq hw0
 have HW1:=kq hw1
 have HITK:=kq hitk
 have hb1c:=(CellsAt.new w [.slice (some ⟨b0,off,none⟩) rs.length cap] 26).below ((Below.refl _ _).alloc (Nat.le_refl _) (.cells #[.int .i64 0,.slice none 0 0,.slice none 0 0] 48))
 rw [← hw1] at hb1c
 replace bx:=(hb1c 0 _ rfl).1
 have kk0 : (0 : Int) ≤ (k : Int):=by omega
 have kk1 : (k : Int) < (rs.length : Int):=by omega
 have p0 : (0 : Int) ≤ (p : Int):=by omega
 have q1 : (r.kind == 1) = false:=by rw [hkd]; rfl
 have q2 : (r.kind == 2) = false:=by rw [hkd]; rfl
 have q3 : (r.kind == 3) = false:=by rw [hkd]; rfl
 have q10 : (r.kind == 10) = false:=by rw [hkd]; rfl
 have q6 : (r.kind == 6) = false:=by rw [hkd]; rfl
 have q7 : (r.kind == 7) = false:=by rw [hkd]; rfl
 have q8 : (r.kind == 8) = false:=by rw [hkd]; rfl
 have q9 : (r.kind == 9) = false:=by rw [hkd]; rfl
 have q4 : (r.kind == 4) = false:=by rw [hkd]; rfl
 have hfine : Fine L p (parseB rs L (n + 1) (k : Int) p):=parse_fine hall L (n + 1) k hk hkn p hp
 clear hb1 hs1 hb1c d0 d1 d2 d3 d4 d5 d6 d7 hitk
 rw [parseB,ruleAt_at hk,← hr,if_neg (by omega),if_neg (by omega),if_neg (by omega),if_neg (by omega),if_neg (by omega),if_neg (by omega),if_neg (by omega)] at hfine ⊢
 rw [hm,ruleAt_at hmr,← hhd] at hfine ⊢
 have HKC : Hid (w.cell? ⟨b7,o7,none⟩ = some (.int .i64 (m : Int))):=hc7
 have HSW : Hid (∀ W,Bex [.slice (some ⟨b0,off,none⟩) rs.length cap] [.string r.name,.int .i64 r.kind,.int .i64 r.size,.bool r.little,.slice a4 r.bytes.length c4,.slice a5 r.names.length c5,.slice a6 r.tags.length c6,.slice (some ⟨b7,o7,none⟩) r.kids.length c7] w N1 N2 W → W.cell? ⟨w.heap.size,0,none⟩ = some (.slice (some ⟨b0,off,none⟩) rs.length cap) ∧ W.cell? ⟨N2,7,none⟩ = some (.slice (some ⟨b7,o7,none⟩) r.kids.length c7) ∧ W.cell? ⟨b7,o7,none⟩ = some (.int .i64 (m : Int))):=fun W hb => ⟨(hb.d 0 _ rfl).1,(hb.r 7 _ rfl).1,cellK hb.below (Nat.le_refl _) HKC.out⟩
 have HINT : Hid (∀ W,Bex [.slice (some ⟨b0,off,none⟩) rs.length cap] [.string r.name,.int .i64 r.kind,.int .i64 r.size,.bool r.little,.slice a4 r.bytes.length c4,.slice a5 r.names.length c5,.slice a6 r.tags.length c6,.slice (some ⟨b7,o7,none⟩) r.kids.length c7] w N1 N2 W → Calls Tryz.prog 179 #[.agg #[.slice (some ⟨b0,off,none⟩) rs.length cap],.int .i64 (m : Int),.slice ab L.length cb,.int .i64 (p : Int)] W (SIntAt (gotInt hd L p) p W)):=fun W hb => by
  have h1:=sint_spec (some ⟨b0,off,none⟩) ab rs cap cb m p L W hmr (by rw [← hhd]; omega) (by rw [← hhd]; omega) hl hp (HRD.out.below hb.below) (HS.out.below hb.below)
  rw [← hhd] at h1
  exact h1
 have HB0 : Hid (Bex [.slice (some ⟨b0,off,none⟩) rs.length cap] [.string r.name,.int .i64 r.kind,.int .i64 r.size,.bool r.little,.slice a4 r.bytes.length c4,.slice a5 r.names.length c5,.slice a6 r.tags.length c6,.slice (some ⟨b7,o7,none⟩) r.kids.length c7] w N1 N2 w0.drew):=HBE.out.later (below_drewN (Below.refl _ _) 1)
 have hfi:=gotInt_fine hd L p hp
 have hkl1 : (0 : Int) < (r.kids.length : Int):=by omega
 cases hg : gotInt hd L p with
 | bad q c =>
  obtain ⟨rfl,rfl⟩:=sint_bad hg
  rw [hg] at HINT
  simp only
  clear hbex hN1 hN2 hir hki hrd hs hw0 hw1 hall hr hkd r4 r7 hits HIRK HIR8 HIR9 HITK hsz hg hfine hfi hc7 hm hhd hm1 hmk hmr
  go_enter Tryz.func127,Tryz.ntmps127
  go_upto_region 1 with fail
  rw [← HW1.out,HN1.out]
  go_upto_region 2 with fail
  rw [← HW0.out,HN2.out]
  clear HW0 HW1 e0 e1 e2 e3 e4 e5 e6 e7 bx
  obtain ⟨d0,-⟩:=HBE.out.d 0 _ rfl
  obtain ⟨y0,-⟩:=HBE.out.r 0 _ rfl
  obtain ⟨y1,-⟩:=HBE.out.r 1 _ rfl
  obtain ⟨y2,-⟩:=HBE.out.r 2 _ rfl
  obtain ⟨y3,-⟩:=HBE.out.r 3 _ rfl
  obtain ⟨y4,-⟩:=HBE.out.r 4 _ rfl
  obtain ⟨y5,-⟩:=HBE.out.r 5 _ rfl
  obtain ⟨y6,-⟩:=HBE.out.r 6 _ rfl
  obtain ⟨y7,-⟩:=HBE.out.r 7 _ rfl
  go_upto_region 25 with fail
  clear d0 y0 y1 y2 y3 y4 y5 y6 y7
  go_region_held3 (fun W => W.cell? ⟨w.heap.size,0,none⟩ = some (.slice (some ⟨b0,off,none⟩) rs.length cap) ∧ W.cell? ⟨N2,7,none⟩ = some (.slice (some ⟨b7,o7,none⟩) r.kids.length c7) ∧ W.cell? ⟨b7,o7,none⟩ = some (.int .i64 (m : Int))) (exact HSW.out _ HB0.out) (first | (go_at_call 179; refine (HINT.out _ HB0.out).mono ?_; rintro e w5 ⟨rfl,hb5⟩; have HWS : Hid (w0.heap.size ≤ w5.heap.size):=hb5.size; have hb5':=HB0.out.later hb5; clear hb5; replace HB0:=kq hb5'))
  obtain ⟨z0,f0⟩:=HB0.out.z 0 _ rfl
  obtain ⟨z1,f1⟩:=HB0.out.z 1 _ rfl
  obtain ⟨z2,f2⟩:=HB0.out.z 2 _ rfl
  clear HSW HINT
  go_wp2
  (try simp only [Exit.inBlock,Exit.then])
  refine bodyPost_ret (v:=.tuple #[.agg #[.int .i64 0,.slice none 0 0,.slice none 0 0],.int .i64 (q : Int),.int .i64 1]) ?_ rfl ?_
  ·simp [results,Tryz.results127,go_sem,z0,z1,z2]
  ·exact sgot_bad (c:=1) rfl (below3 HB0.out.below hZ1 _ _ _)
 | ok x q =>
  obtain ⟨xn,rfl,hxb⟩:=sint_nat hsz.2 hg
  rw [hg] at HINT hfi hfine
  obtain ⟨hq1,hq⟩:=hfi
  simp only at hfine ⊢
  have x0 : (0 : Int) ≤ (xn : Int):=by omega
  rw [if_neg (by omega),if_neg (by omega)] at hfine ⊢
  by_cases h40 : 40 < xn
  ·rw [if_pos (by omega)]
   have g40 : (40 : Int) < (xn : Int):=by omega
   clear hbex hN1 hN2 hir hki hrd hs hw0 hw1 hall hr hkd r4 r7 hits HIRK HIR8 HIR9 HITK hsz hg hc7 hm hhd hm1 hmk hmr hfine
   go_enter Tryz.func127,Tryz.ntmps127
   go_upto_region 1 with fail
   rw [← HW1.out,HN1.out]
   go_upto_region 2 with fail
   rw [← HW0.out,HN2.out]
   clear HW0 HW1 e0 e1 e2 e3 e4 e5 e6 e7 bx
   obtain ⟨d0,-⟩:=HBE.out.d 0 _ rfl
   obtain ⟨y0,-⟩:=HBE.out.r 0 _ rfl
   obtain ⟨y1,-⟩:=HBE.out.r 1 _ rfl
   obtain ⟨y2,-⟩:=HBE.out.r 2 _ rfl
   obtain ⟨y3,-⟩:=HBE.out.r 3 _ rfl
   obtain ⟨y4,-⟩:=HBE.out.r 4 _ rfl
   obtain ⟨y5,-⟩:=HBE.out.r 5 _ rfl
   obtain ⟨y6,-⟩:=HBE.out.r 6 _ rfl
   obtain ⟨y7,-⟩:=HBE.out.r 7 _ rfl
   go_upto_region 25 with fail
   clear d0 y0 y1 y2 y3 y4 y5 y6 y7
   go_region_held3 (fun W => W.cell? ⟨w.heap.size,0,none⟩ = some (.slice (some ⟨b0,off,none⟩) rs.length cap) ∧ W.cell? ⟨N2,7,none⟩ = some (.slice (some ⟨b7,o7,none⟩) r.kids.length c7) ∧ W.cell? ⟨b7,o7,none⟩ = some (.int .i64 (m : Int))) (exact HSW.out _ HB0.out) (first | (go_at_call 179; refine (HINT.out _ HB0.out).mono ?_; rintro e w5 ⟨rfl,hb5⟩; have HWS : Hid (w0.heap.size ≤ w5.heap.size):=hb5.size; have hb5':=HB0.out.later hb5; clear hb5; replace HB0:=kq hb5'))
   obtain ⟨z0,f0⟩:=HB0.out.z 0 _ rfl
   obtain ⟨z1,f1⟩:=HB0.out.z 1 _ rfl
   obtain ⟨z2,f2⟩:=HB0.out.z 2 _ rfl
   obtain ⟨d0,-⟩:=HB0.out.d 0 _ rfl
   obtain ⟨y0,-⟩:=HB0.out.r 0 _ rfl
   obtain ⟨y1,-⟩:=HB0.out.r 1 _ rfl
   obtain ⟨y2,-⟩:=HB0.out.r 2 _ rfl
   obtain ⟨y3,-⟩:=HB0.out.r 3 _ rfl
   obtain ⟨y4,-⟩:=HB0.out.r 4 _ rfl
   obtain ⟨y5,-⟩:=HB0.out.r 5 _ rfl
   obtain ⟨y6,-⟩:=HB0.out.r 6 _ rfl
   obtain ⟨y7,-⟩:=HB0.out.r 7 _ rfl
   clear HSW HINT
   go_wp2
   (try simp only [Exit.inBlock,Exit.then])
   refine bodyPost_ret (v:=.tuple #[.agg #[.int .i64 0,.slice none 0 0,.slice none 0 0],.int .i64 (p : Int),.int .i64 6]) ?_ rfl ?_
   ·simp [results,Tryz.results127,go_sem,z0,z1,z2]
   ·exact sgot_bad (c:=6) rfl (below3 HB0.out.below hZ1 _ _ _)
  ·rw [if_neg (by omega),Int.toNat_natCast] at hfine ⊢
   have g40 : ¬ (40 : Int) < (xn : Int):=by omega
   have HC : Hid (∀ W,Bex [.slice (some ⟨b0,off,none⟩) rs.length cap] [.string r.name,.int .i64 r.kind,.int .i64 r.size,.bool r.little,.slice a4 r.bytes.length c4,.slice a5 r.names.length c5,.slice a6 r.tags.length c6,.slice (some ⟨b7,o7,none⟩) r.kids.length c7] w N1 N2 W → Calls Tryz.prog 183 #[.agg #[.slice (some ⟨b0,off,none⟩) rs.length cap],.agg #[.string r.name,.int .i64 r.kind,.int .i64 r.size,.bool r.little,.slice a4 r.bytes.length c4,.slice a5 r.names.length c5,.slice a6 r.tags.length c6,.slice (some ⟨b7,o7,none⟩) r.kids.length c7],.int .i64 0,.int .i64 (xn : Int),.slice ab L.length cb,.int .i64 (q : Int)] W (SGot (n + 1) ((gotItems (parseB rs L n) r 0 xn [] q).to fun l => .mk 0 [] l) W)):=fun W hb => hits r _ 0 xn q W HKI.out (by omega) (HITK.out 0 xn (.inl hkd)) hq (HRD.out.below hb.below) (HS.out.below hb.below) (HIR.out.below hb.below)
   generalize (gotItems (parseB rs L n) r 0 xn [] q).to (fun l => ValueV.mk 0 [] l) = g at HC hfine ⊢
   clear hbex hN1 hN2 hir hki hrd hs hw0 hw1 hall hr hkd r4 r7 hits HIRK HIR8 HIR9 HITK hsz hg hc7 hm hhd hm1 hmk hmr
   cases g with
   | bad q' c' =>
    go_enter Tryz.func127,Tryz.ntmps127
    go_upto_region 1 with fail
    rw [← HW1.out,HN1.out]
    go_upto_region 2 with fail
    rw [← HW0.out,HN2.out]
    clear HW0 HW1 e0 e1 e2 e3 e4 e5 e6 e7 bx
    obtain ⟨d0,-⟩:=HBE.out.d 0 _ rfl
    obtain ⟨y0,-⟩:=HBE.out.r 0 _ rfl
    obtain ⟨y1,-⟩:=HBE.out.r 1 _ rfl
    obtain ⟨y2,-⟩:=HBE.out.r 2 _ rfl
    obtain ⟨y3,-⟩:=HBE.out.r 3 _ rfl
    obtain ⟨y4,-⟩:=HBE.out.r 4 _ rfl
    obtain ⟨y5,-⟩:=HBE.out.r 5 _ rfl
    obtain ⟨y6,-⟩:=HBE.out.r 6 _ rfl
    obtain ⟨y7,-⟩:=HBE.out.r 7 _ rfl
    go_upto_region 25 with fail
    clear d0 y0 y1 y2 y3 y4 y5 y6 y7
    go_region_held3 (fun W => W.cell? ⟨w.heap.size,0,none⟩ = some (.slice (some ⟨b0,off,none⟩) rs.length cap) ∧ W.cell? ⟨N2,7,none⟩ = some (.slice (some ⟨b7,o7,none⟩) r.kids.length c7) ∧ W.cell? ⟨b7,o7,none⟩ = some (.int .i64 (m : Int))) (exact HSW.out _ HB0.out) (first | (go_at_call 179; refine (HINT.out _ HB0.out).mono ?_; rintro e w5 ⟨rfl,hb5⟩; have HWS : Hid (w0.heap.size ≤ w5.heap.size):=hb5.size; have hb5':=HB0.out.later hb5; clear hb5; replace HB0:=kq hb5'))
    obtain ⟨d0,-⟩:=HB0.out.d 0 _ rfl
    obtain ⟨y0,-⟩:=HB0.out.r 0 _ rfl
    obtain ⟨y1,-⟩:=HB0.out.r 1 _ rfl
    obtain ⟨y2,-⟩:=HB0.out.r 2 _ rfl
    obtain ⟨y3,-⟩:=HB0.out.r 3 _ rfl
    obtain ⟨y4,-⟩:=HB0.out.r 4 _ rfl
    obtain ⟨y5,-⟩:=HB0.out.r 5 _ rfl
    obtain ⟨y6,-⟩:=HB0.out.r 6 _ rfl
    obtain ⟨y7,-⟩:=HB0.out.r 7 _ rfl
    clear HSW HINT
    go_wp2_with (go_at_call 183; refine (HC.out _ HB0.out).mono ?_; rintro e w7 ⟨rfl,hb7⟩; have HB7:=kq (HB0.out.later hb7); clear hb7; obtain ⟨z0,f0⟩:=HB7.out.z 0 _ rfl; obtain ⟨z1,f1⟩:=HB7.out.z 1 _ rfl; obtain ⟨z2,f2⟩:=HB7.out.z 2 _ rfl)
    try go_wp2
    (try simp only [Exit.inBlock,Exit.then])
    refine bodyPost_ret (v:=.tuple #[.agg #[.int .i64 0,.slice none 0 0,.slice none 0 0],.int .i64 (q' : Int),.int .i64 (c' : Int)]) ?_ rfl ?_
    ·simp [results,Tryz.results127,go_sem,z0,z1,z2]
    ·exact sgot_bad rfl (below3 HB7.out.below hZ1 _ _ _)
   | ok v q' =>
    go_enter Tryz.func127,Tryz.ntmps127
    go_upto_region 1 with fail
    rw [← HW1.out,HN1.out]
    go_upto_region 2 with fail
    rw [← HW0.out,HN2.out]
    clear HW0 HW1 e0 e1 e2 e3 e4 e5 e6 e7 bx
    obtain ⟨d0,-⟩:=HBE.out.d 0 _ rfl
    obtain ⟨y0,-⟩:=HBE.out.r 0 _ rfl
    obtain ⟨y1,-⟩:=HBE.out.r 1 _ rfl
    obtain ⟨y2,-⟩:=HBE.out.r 2 _ rfl
    obtain ⟨y3,-⟩:=HBE.out.r 3 _ rfl
    obtain ⟨y4,-⟩:=HBE.out.r 4 _ rfl
    obtain ⟨y5,-⟩:=HBE.out.r 5 _ rfl
    obtain ⟨y6,-⟩:=HBE.out.r 6 _ rfl
    obtain ⟨y7,-⟩:=HBE.out.r 7 _ rfl
    go_upto_region 25 with fail
    clear d0 y0 y1 y2 y3 y4 y5 y6 y7
    go_region_held3 (fun W => W.cell? ⟨w.heap.size,0,none⟩ = some (.slice (some ⟨b0,off,none⟩) rs.length cap) ∧ W.cell? ⟨N2,7,none⟩ = some (.slice (some ⟨b7,o7,none⟩) r.kids.length c7) ∧ W.cell? ⟨b7,o7,none⟩ = some (.int .i64 (m : Int))) (exact HSW.out _ HB0.out) (first | (go_at_call 179; refine (HINT.out _ HB0.out).mono ?_; rintro e w5 ⟨rfl,hb5⟩; have HWS : Hid (w0.heap.size ≤ w5.heap.size):=hb5.size; have hb5':=HB0.out.later hb5; clear hb5; replace HB0:=kq hb5'))
    obtain ⟨d0,-⟩:=HB0.out.d 0 _ rfl
    obtain ⟨y0,-⟩:=HB0.out.r 0 _ rfl
    obtain ⟨y1,-⟩:=HB0.out.r 1 _ rfl
    obtain ⟨y2,-⟩:=HB0.out.r 2 _ rfl
    obtain ⟨y3,-⟩:=HB0.out.r 3 _ rfl
    obtain ⟨y4,-⟩:=HB0.out.r 4 _ rfl
    obtain ⟨y5,-⟩:=HB0.out.r 5 _ rfl
    obtain ⟨y6,-⟩:=HB0.out.r 6 _ rfl
    obtain ⟨y7,-⟩:=HB0.out.r 7 _ rfl
    clear HSW HINT
    go_wp2_with (go_at_call 183; refine (HC.out _ HB0.out).mono ?_; rintro e w7 ⟨⟨cs',rfl,hown⟩,hb7⟩; obtain ⟨ab',cb',ai',ci',rfl⟩:=hown.cells; have HB7:=kq (HB0.out.later hb7); have HOW:=kq hown; clear hb7 hown; obtain ⟨z0,f0⟩:=HB7.out.z 0 _ rfl; obtain ⟨z1,f1⟩:=HB7.out.z 1 _ rfl; obtain ⟨z2,f2⟩:=HB7.out.z 2 _ rfl)
    try go_wp2
    (try simp only [Exit.inBlock,Exit.then])
    refine bodyPost_ret (v:=.tuple #[.agg #[.int .i64 v.number,.slice ab' v.bytes.length cb',.slice ai' v.items.length ci'],.int .i64 (q' : Int),.int .i64 0]) ?_ rfl ?_
    ·simp [results,Tryz.results127,go_sem,z0,z1,z2]
    ·exact sret_ok (X:=w0.heap.size) (v:=v) (cs:=[.int .i64 v.number,.slice ab' v.bytes.length cb',.slice ai' v.items.length ci']) rfl HB7.out.below (HOW.out.mono fun b _ (hb : _ ≤ b) => Nat.le_trans HWS.out hb) (Nat.lt_trans HBE.out.n2 HBE.out.le) hZ1 _ _ _
theorem sread11_all (a ab : Option Addr) (rs : List RuleV) (cap cb : Nat) (L : List UInt8) (hall : allV (kindI rs) rs) (hl : L.length ≤ 1048576) : ∀ n,SReadC11 a ab rs cap cb L n
 | 0 => fun _ _ _ _ h => by omega
 | n + 1 => fun k p w hk hkn hp hrd hs => by
  have hits:=sitems11_step a ab rs cap cb L n hall (sread11_all a ab rs cap cb L hall hl n)
  have hkk:=kindI_known (allV_kind hall hk)
  rcases (by omega : rs[k].kind = 1 ∨ rs[k].kind = 2 ∨ rs[k].kind = 3 ∨ rs[k].kind = 4 ∨ rs[k].kind = 5 ∨ rs[k].kind = 6 ∨ rs[k].kind = 7 ∨ rs[k].kind = 8 ∨ rs[k].kind = 9 ∨ rs[k].kind = 10) with h | h | h | h | h | h | h | h | h | h
  ·exact sread_J0 1 (by simp) a ab rs cap cb L n k p w hall hits hk hkn h hl hp hrd hs
  ·exact sread_J0 2 (by simp) a ab rs cap cb L n k p w hall hits hk hkn h hl hp hrd hs
  ·exact sread_J0 3 (by simp) a ab rs cap cb L n k p w hall hits hk hkn h hl hp hrd hs
  ·exact sread_4 a ab rs cap cb L n k p w hall hits hk hkn h hl hp hrd hs
  ·exact sread_5 a ab rs cap cb L n k p w hall hits hk hkn h hl hp hrd hs
  ·exact sread_J0 6 (by simp) a ab rs cap cb L n k p w hall hits hk hkn h hl hp hrd hs
  ·exact sread_J0 7 (by simp) a ab rs cap cb L n k p w hall hits hk hkn h hl hp hrd hs
  ·exact sread_J0 8 (by simp) a ab rs cap cb L n k p w hall hits hk hkn h hl hp hrd hs
  ·exact sread_J0 9 (by simp) a ab rs cap cb L n k p w hall hits hk hkn h hl hp hrd hs
  ·exact sread_10 a ab rs cap cb L n k p w hall hits hk hkn h hl hp hrd hs
end Go.Proofs.YtefkhknfjohnaaaGreatDoor
