/- The model's l11Choice, l11Option, l11Checked. -/
import Derived.Test.YtfmnjclnhppghaaGreatEK
import Derived.Test.YtfmnjclnhppghaaGreatESItems11
set_option maxRecDepth 100000
set_option maxHeartbeats 8000000
namespace Go.Proofs.YtfmnjclnhppghaaGreat
open Go Go.RowKit
theorem sreadI_small (B : List UInt8) (l : Bool) (k : Nat) (h : B.length ≤ k) (hk : k ≤ 4) : readI B l < 256 ^ k:=by
 unfold readI
 rw [if_neg (by omega)]
 have e : (orderB B l).length = B.length:=by unfold orderB; split <;> simp
 have h3:=readB_lt (orderB B l) 0
 rw [e] at h3
 have h4 : 256 ^ B.length ≤ 256 ^ k:=Nat.pow_le_pow_right (by omega) h
 omega
theorem sint_nat {r : RuleV} {L : List UInt8} {p q : Nat} {x : Int} (h4 : r.size ≤ 4) (h : gotInt r L p = .ok x q) : ∃ xn : Nat,x = (xn : Int) ∧ xn ≤ 4294967295:=by
 unfold gotInt at h
 split at h
 ·cases h
 ·injection h with h1 h2
  have hl : ((L.drop p).take r.size.toNat).length ≤ r.size.toNat:=by rw [List.length_take]; omega
  have:=sreadI_small _ r.little 4 (Nat.le_trans hl (by omega)) (by omega)
  exact ⟨_,h1.symm,by omega⟩
theorem sint_bad {r : RuleV} {L : List UInt8} {p q c : Nat} (h : gotInt r L p = .bad q c) : q = p ∧ c = 1:=by
 unfold gotInt at h
 split at h
 ·injection h with h1 h2; exact ⟨h1.symm,h2.symm⟩
 ·cases h
theorem OwnV.renum {f : Nat → Prop} {n : Nat} {x : Int} {bs : List UInt8} {l : List ValueV} {u s1 s2 : Value} {w : World} (h : OwnV f (n + 1) (.mk 0 bs l) [u,s1,s2] w) : OwnV f (n + 1) (.mk x bs l) [.int .i64 x,s1,s2] w:=by
 obtain ⟨a1,c1,a2,c2,e,h1,h2,h3⟩:=h
 injection e with e0 e
 injection e with e1 e
 injection e with e2 e
 exact ⟨a1,c1,a2,c2,by rw [e1,e2]; rfl,h1,h2,h3⟩
theorem sret_ok {h q Z X : Nat} {v : ValueV} {cs : List Value} {w W : World} {x : Int} (hx : x = (q : Int)) (hb : Below w.heap.size w W) (ho : OwnV (fun b => X ≤ b) h v cs W) (hX : Z < X) (hZ : w.heap.size ≤ Z) (u0 u1 u2 : Value) :
  SGot h (.ok v q) w (.returned (.tuple #[.agg cs.toArray,.int .i64 x,.int .i64 0])) (((W.setCell ⟨Z,0,none⟩ u0).setCell ⟨Z,1,none⟩ u1).setCell ⟨Z,2,none⟩ u2) :=
 sgot_ok hx (OwnV.set3 ho (fun b hb => by omega) _ _ _ |>.mono fun b _ (hb : X ≤ b) => by show w.heap.size ≤ b; omega) (below3 hb hZ _ _ _)
structure Beg (dc rc : List Value) (w : World) (N1 N2 : Nat) (W : World) : Prop where
 d : CellsAt w.heap.size dc W
 r : CellsAt N1 rc W
 z : CellsAt N2 [.int .i64 0,.slice none 0 0,.slice none 0 0] W
 below : Below w.heap.size w W
 n1 : w.heap.size < N1
 n2 : N1 < N2
 le : N2 < W.heap.size
theorem Beg.later {dc rc : List Value} {w W W' : World} {N1 N2 : Nat} (h : Beg dc rc w N1 N2 W) (hb : Below W.heap.size W W') : Beg dc rc w N1 N2 W' :=
 ⟨h.d.below hb,h.r.below hb,h.z.below hb,h.below.trans (hb.mono h.below.size),h.n1,h.n2,Nat.lt_of_lt_of_le h.le hb.size⟩
theorem beg_new (d0 r0 r1 r2 r3 r4 r5 r6 r7 : Value) (w : World) : Beg [d0] [r0,r1,r2,r3,r4,r5,r6,r7] w (w.heap.size + 1) (w.heap.size + 2) (((w.alloc (.cells #[d0] 26)).alloc (.cells #[r0,r1,r2,r3,r4,r5,r6,r7] 47)).alloc (.cells #[.int .i64 0,.slice none 0 0,.slice none 0 0] 29)):=by
 refine ⟨?_,?_,?_,(((Below.refl _ _).alloc (Nat.le_refl _) _).alloc (by simp) _).alloc (by simp; omega) _,by omega,by omega,by simp⟩
 ·exact ((CellsAt.new w _ _).below ((Below.refl _ _).alloc (Nat.le_refl _) _)).below ((Below.refl _ _).alloc (Nat.le_refl _) _)
 ·have h1:=CellsAt.new (w.alloc (.cells #[d0] 26)) [r0,r1,r2,r3,r4,r5,r6,r7] 47
  rw [World.size_alloc] at h1
  exact h1.below ((Below.refl _ _).alloc (Nat.le_refl _) _)
 ·have h1:=CellsAt.new ((w.alloc (.cells #[d0] 26)).alloc (.cells #[r0,r1,r2,r3,r4,r5,r6,r7] 47)) [.int .i64 0,.slice none 0 0,.slice none 0 0] 29
  rw [World.size_alloc,World.size_alloc] at h1
  exact h1
theorem schoice_spec (a ab : Option Addr) (rs : List RuleV) (cap cb : Nat) (L : List UInt8) (n k p : Nat) (cs : List Value) (w : World) (hall : allV (kindI rs) rs) (hits : SItemsC11 a ab rs cap cb L n) (hk : k < rs.length) (hkn : k < n + 1) (hkd : rs[k].kind = 7) (hl : L.length ≤ 1048576) (hp : p ≤ L.length) (hrd : RdR a rs w) (hs : SrcB ab L cb w) (hir : IsRule rs[k] cs w) :
  Calls Tryz.prog 92 #[.agg #[.slice a rs.length cap],.agg cs.toArray,.slice ab L.length cb,.int .i64 (p : Int)] w (SGot (n + 1) (parseB rs L (n + 1) (k : Int) p) w):=by
 have hki:=allV_kind hall hk
 have hitk : ∀ (x : Int) (c : Nat),(rs[k].kind = 7 → 0 ≤ itemR rs[k] x 0) → ∀ i,i < c → ∃ m : Nat,itemR rs[k] x i = (m : Int) ∧ m < rs.length ∧ m < n:=fun x c h7 i hi => by
  have h0 : 0 ≤ itemR rs[k] x i:=items_there hall hk (m:=c) hi (by rcases (by omega : rs[k].kind = 7 ∨ rs[k].kind = 8 ∨ rs[k].kind = 9) with h | h | h; exact .inr (.inr (.inl ⟨h,h7 h⟩)); exact .inr (.inr (.inr (.inl h))); exact .inr (.inr (.inr (.inr h))))
  obtain ⟨q,hq,hqk⟩:=items_kid hall hk h0
  exact ⟨q,hq,by omega,by omega⟩
 rw [parseB,ruleAt_at hk]
 obtain ⟨hm1,m,hm,hmk⟩:=kid_int hall hk (by omega)
 have hmr : m < rs.length:=by omega
 have hkl : 0 < rs[k].kids.length:=by have:=(kindI_7 hki hkd).1; omega
 rw [if_neg (by omega),if_neg (by omega),if_neg (by omega),if_neg (by omega),if_neg (by omega),if_neg (by omega),if_neg (by omega)]
 rw [hm] at hm1 ⊢
 rw [ruleAt_at hmr] at hm1 ⊢
 have hsz:=kindI_size (allV_kind hall hmr) hm1
 obtain ⟨hd,hhd⟩ : ∃ hd,hd = rs[m]:=⟨_,rfl⟩
 rw [← hhd] at hsz ⊢
 obtain ⟨r,hr⟩ : ∃ r,r = rs[k]:=⟨_,rfl⟩
 have HFINE : Hid (∀ (x : Int) (c q : Nat),(rs[k].kind = 7 → 0 ≤ itemR rs[k] x 0) → q ≤ L.length → Fine L q (gotItems (parseB rs L n) rs[k] x c [] q)):=fun x c q h7 hq => gotItems_fine c [] q (fun i hi p hp => by
  obtain ⟨m,hm,hmr,hmn⟩:=hitk x c h7 i hi
  rw [List.length_nil,Nat.zero_add,hm]
  exact parse_fine hall L n m hmr hmn p hp) hq
 rw [← hr] at HFINE hki hitk hkd hir ⊢
 have hir2:=hir
 obtain ⟨a4,c4,a5,c5,a6,c6,a7,c7,rfl,-,-,-,r7⟩:=hir2
 obtain ⟨w0,hw0⟩ : ∃ w0,w0 = ((w.alloc (.cells #[.slice a rs.length cap] 26)).alloc (.cells #[.string r.name,.int .i64 r.kind,.int .i64 r.size,.bool r.little,.slice a4 r.bytes.length c4,.slice a5 r.names.length c5,.slice a6 r.tags.length c6,.slice a7 r.kids.length c7] 47)).alloc (.cells #[.int .i64 0,.slice none 0 0,.slice none 0 0] 29):=⟨_,rfl⟩
 have hbeg : Beg [.slice a rs.length cap] [.string r.name,.int .i64 r.kind,.int .i64 r.size,.bool r.little,.slice a4 r.bytes.length c4,.slice a5 r.names.length c5,.slice a6 r.tags.length c6,.slice a7 r.kids.length c7] w (w.heap.size + 1) (w.heap.size + 2) w0:=by subst hw0; exact beg_new _ _ _ _ _ _ _ _ _ w
 obtain ⟨N1,hN1⟩ : ∃ N1,N1 = w.heap.size + 1:=⟨_,rfl⟩
 obtain ⟨N2,hN2⟩ : ∃ N2,N2 = w.heap.size + 2:=⟨_,rfl⟩
 rw [← hN1,← hN2] at hbeg
 have HBE:=kq hbeg
 have HN1:=kq hN1.symm
 have HN2 : Hid (N1 + 1 = N2):=by show _ = _; omega
 have HIR:=kq hir
 have HKI:=kq hki
 have HRD:=kq hrd
 have HS:=kq hs
 have HW0:=kq hw0
 have HITS : Hid (∀ (x : Int) (c q : Nat) (W : World),c ≤ 40 → (r.kind = 7 → 0 ≤ itemR r x 0) → q ≤ L.length → Below w.heap.size w W → Calls Tryz.prog 91 #[.agg #[.slice a rs.length cap],.agg #[.string r.name,.int .i64 r.kind,.int .i64 r.size,.bool r.little,.slice a4 r.bytes.length c4,.slice a5 r.names.length c5,.slice a6 r.tags.length c6,.slice a7 r.kids.length c7],.int .i64 x,.int .i64 (c : Int),.slice ab L.length cb,.int .i64 (q : Int)] W (SGot (n + 1) ((gotItems (parseB rs L n) r x c [] q).to fun l => .mk 0 [] l) W)):=fun x c q W hc h7 hq hb => hits r _ x c q W HKI.out hc (hitk x c h7) hq (HRD.out.below hb) (HS.out.below hb) (HIR.out.below hb)
 rw [← hr] at hm hkl
 obtain ⟨b7,o7,rfl,hc7⟩:=r7.cellAt hkl
 have hm0 : r.kids[0] = (m : Int):=by rw [← hm,getD_at hkl]
 rw [hm0,Nat.add_zero] at hc7
 have HKC : Hid (w.cell? ⟨b7,o7,none⟩ = some (.int .i64 (m : Int))):=hc7
 have HSW : Hid (∀ W,Below w0.heap.size w0 W → W.cell? ⟨w.heap.size,0,none⟩ = some (.slice a rs.length cap) ∧ W.cell? ⟨N1,7,none⟩ = some (.slice (some ⟨b7,o7,none⟩) r.kids.length c7) ∧ W.cell? ⟨b7,o7,none⟩ = some (.int .i64 (m : Int))):=fun W hb => ⟨((HBE.out.later hb).d 0 _ rfl).1,((HBE.out.later hb).r 7 _ rfl).1,cellK ((HBE.out.later hb).below) (Nat.le_refl _) HKC.out⟩
 have HINT : Hid (∀ W,Below w0.heap.size w0 W → Calls Tryz.prog 87 #[.agg #[.slice a rs.length cap],.int .i64 (m : Int),.slice ab L.length cb,.int .i64 (p : Int)] W (SIntAt (gotInt hd L p) p W)):=fun W hb => by
  have h1:=sint_spec a ab rs cap cb m p L W hmr (by rw [← hhd]; omega) (by rw [← hhd]; omega) hl hp (HRD.out.below (HBE.out.later hb).below) (HS.out.below (HBE.out.later hb).below)
  rw [← hhd] at h1
  exact h1
 have hfine:=gotInt_fine hd L p hp
 have HKD:=kq hkd
 have HB0 : Hid (Below w0.heap.size w0 w0.drew):=below_drewN (Below.refl _ _) 1
 have hkl1 : (0 : Int) < (r.kids.length : Int):=by omega
 cases hg : gotInt hd L p with
 | bad q c =>
  obtain ⟨rfl,rfl⟩:=sint_bad hg
  rw [hg] at HINT
  simp only
  clear hbeg hN1 hN2 hir hki hrd hs hw0 hits hitk hall hr r7 hg hhd hsz hm hm0 hmr hmk hm1 hc7 hkd hfine
  go_enter Tryz.func92,Tryz.ntmps92
  go_upto_region 1 with fail
  rw [← HW0.out,HN1.out]
  try rw [HN2.out]
  clear HW0
  go_region_held3 (fun W => W.cell? ⟨w.heap.size,0,none⟩ = some (.slice a rs.length cap) ∧ W.cell? ⟨N1,7,none⟩ = some (.slice (some ⟨b7,o7,none⟩) r.kids.length c7) ∧ W.cell? ⟨b7,o7,none⟩ = some (.int .i64 (m : Int))) (exact HSW.out _ HB0.out) (first | (go_at_call 87; refine (HINT.out _ HB0.out).mono ?_; rintro e w5 ⟨rfl,hb5⟩; have hb5':=HB0.out.trans (hb5.mono HB0.out.size); clear hb5; replace HB0:=kq hb5'))
  have HB5:=kq (HBE.out.later HB0.out)
  obtain ⟨z0,f0⟩:=HB5.out.z 0 _ rfl
  obtain ⟨z1,f1⟩:=HB5.out.z 1 _ rfl
  obtain ⟨z2,f2⟩:=HB5.out.z 2 _ rfl
  clear HSW HINT HB0 HBE
  go_wp2
  (try simp only [Exit.inBlock,Exit.then])
  refine bodyPost_ret (v:=.tuple #[.agg #[.int .i64 0,.slice none 0 0,.slice none 0 0],.int .i64 (q : Int),.int .i64 1]) ?_ rfl ?_
  ·simp [results,Tryz.results92,go_sem,z0,z1,z2]
  ·exact sgot_bad (c:=1) rfl (below3 HB5.out.below (by have h1:=HB5.out.n1; have h2:=HB5.out.n2; omega) _ _ _)
 | ok x q =>
  obtain ⟨xn,rfl,hxb⟩:=sint_nat hsz.2 hg
  rw [hg] at HINT hfine
  obtain ⟨hq1,hq⟩:=hfine
  simp only
  rw [if_pos hkd]
  have HIT5 : Hid (∀ W,Below w.heap.size w W → Calls Tryz.prog 121 #[.agg #[.string r.name,.int .i64 r.kind,.int .i64 r.size,.bool r.little,.slice a4 r.bytes.length c4,.slice a5 r.names.length c5,.slice a6 r.tags.length c6,.slice (some ⟨b7,o7,none⟩) r.kids.length c7],.int .i64 (xn : Int),.int .i64 0] W fun e w' => e = .returned (.int .i64 (itemR r (xn : Int) 0)) ∧ Below W.heap.size W w'):=fun W hb => item_spec rs r _ xn 0 W (by omega) HKI.out (HIR.out.below hb)
  have HITN : Hid (∀ W,Below w.heap.size w W → 0 ≤ itemR r (xn : Int) 0 → Calls Tryz.prog 91 #[.agg #[.slice a rs.length cap],.agg #[.string r.name,.int .i64 r.kind,.int .i64 r.size,.bool r.little,.slice a4 r.bytes.length c4,.slice a5 r.names.length c5,.slice a6 r.tags.length c6,.slice (some ⟨b7,o7,none⟩) r.kids.length c7],.int .i64 (xn : Int),.int .i64 1,.slice ab L.length cb,.int .i64 (q : Int)] W (SGot (n + 1) ((gotItems (parseB rs L n) r (xn : Int) 1 [] q).to fun l => .mk 0 [] l) W)):=fun W hb h0 => HITS.out (xn : Int) 1 q W (by omega) (fun _ => h0) hq hb
  have x0 : (0 : Int) ≤ (xn : Int):=by omega
  obtain ⟨K,hK⟩ : ∃ K,K = itemR r (xn : Int) 0:=⟨_,rfl⟩
  have HK:=kq hK
  rw [← hK] at HIT5 HITN ⊢
  clear hbeg hN1 hN2 hir hki hrd hs hw0 hits hitk hall hr r7 hg hhd hsz hm hm0 hmr hmk hm1 hc7 hkd hK HITS
  go_enter Tryz.func92,Tryz.ntmps92
  go_upto_region 1 with fail
  rw [← HW0.out,HN1.out]
  try rw [HN2.out]
  clear HW0
  go_region_held3 (fun W => W.cell? ⟨w.heap.size,0,none⟩ = some (.slice a rs.length cap) ∧ W.cell? ⟨N1,7,none⟩ = some (.slice (some ⟨b7,o7,none⟩) r.kids.length c7) ∧ W.cell? ⟨b7,o7,none⟩ = some (.int .i64 (m : Int))) (exact HSW.out _ HB0.out) (first | (go_at_call 87; refine (HINT.out _ HB0.out).mono ?_; rintro e w5 ⟨rfl,hb5⟩; have hb5':=HB0.out.trans (hb5.mono HB0.out.size); clear hb5; replace HB0:=kq hb5'))
  have HB5:=kq (HBE.out.later HB0.out)
  clear HSW HINT HB0 HBE
  go_upto_region 4 with fail
  obtain ⟨y0,-⟩:=HB5.out.r 0 _ rfl
  obtain ⟨y1,-⟩:=HB5.out.r 1 _ rfl
  obtain ⟨y2,-⟩:=HB5.out.r 2 _ rfl
  obtain ⟨y3,-⟩:=HB5.out.r 3 _ rfl
  obtain ⟨y4,-⟩:=HB5.out.r 4 _ rfl
  obtain ⟨y5,-⟩:=HB5.out.r 5 _ rfl
  obtain ⟨y6,-⟩:=HB5.out.r 6 _ rfl
  obtain ⟨y7,-⟩:=HB5.out.r 7 _ rfl
  by_cases hk0 : K < 0
  ·go_upto_region 5 with (go_at_call 121; refine (HIT5.out _ HB5.out.below).mono ?_; rintro e w6 ⟨rfl,hb6⟩)
   have HB6:=kq (HB5.out.later hb6)
   obtain ⟨z0,f0⟩:=HB6.out.z 0 _ rfl
   obtain ⟨z1,f1⟩:=HB6.out.z 1 _ rfl
   obtain ⟨z2,f2⟩:=HB6.out.z 2 _ rfl
   clear HB5 hb6 y0 y1 y2 y3 y4 y5 y6 y7
   go_wp2
   (try simp only [Exit.inBlock,Exit.then])
   refine bodyPost_ret (v:=.tuple #[.agg #[.int .i64 0,.slice none 0 0,.slice none 0 0],.int .i64 (p : Int),.int .i64 3]) ?_ rfl ?_
   ·simp [results,Tryz.results92,go_sem,z0,z1,z2]
   ·exact sgot_bad (c:=3) rfl (below3 HB6.out.below (by have h1:=HB6.out.n1; have h2:=HB6.out.n2; omega) _ _ _)
  ·go_upto_region 6 with (go_at_call 121; refine (HIT5.out _ HB5.out.below).mono ?_; rintro e w6 ⟨rfl,hb6⟩)
   have HB6:=kq (HB5.out.later hb6)
   clear HB5 hb6 y0 y1 y2 y3 y4 y5 y6 y7
   obtain ⟨d0,-⟩:=HB6.out.d 0 _ rfl
   obtain ⟨y0,-⟩:=HB6.out.r 0 _ rfl
   obtain ⟨y1,-⟩:=HB6.out.r 1 _ rfl
   obtain ⟨y2,-⟩:=HB6.out.r 2 _ rfl
   obtain ⟨y3,-⟩:=HB6.out.r 3 _ rfl
   obtain ⟨y4,-⟩:=HB6.out.r 4 _ rfl
   obtain ⟨y5,-⟩:=HB6.out.r 5 _ rfl
   obtain ⟨y6,-⟩:=HB6.out.r 6 _ rfl
   obtain ⟨y7,-⟩:=HB6.out.r 7 _ rfl
   have HIN : Hid (Calls _ _ _ _ _):=HITN.out _ HB6.out.below (by omega)
   have hfi:=HFINE.out (xn : Int) 1 q (fun _ => by rw [← HK.out]; omega) hq
   have hZ2 : w.heap.size ≤ N2:=by have h1:=HB6.out.n1; have h2:=HB6.out.n2; omega
   cases hgi : gotItems (parseB rs L n) r (xn : Int) 1 [] q with
   | bad q' c' =>
    have HGI:=kq hgi
    rw [hgi] at HIN hfi
    obtain ⟨_,hc1,hc2⟩:=hfi
    have hc0 : ¬ (c' : Int) = 0:=by omega
    clear hgi HITN HIT5 HFINE
    go_upto_region 7 with (go_at_call 91; refine HIN.out.mono ?_; rintro e w7 ⟨rfl,hb7⟩; have HB7:=kq (HB6.out.later hb7); clear hb7)
    have zA0 : ∀ o,(w7.alloc o).cell? ⟨N2,0,none⟩ = some (.int .i64 0):=fun o => (HB7.out.z.below ((Below.refl _ _).alloc (Nat.le_refl _) o) 0 _ rfl).1
    have fA0 : ∀ o,(w7.alloc o).frozen? ⟨N2,0,none⟩ = false:=fun o => (HB7.out.z.below ((Below.refl _ _).alloc (Nat.le_refl _) o) 0 _ rfl).2
    have zA1 : ∀ o,(w7.alloc o).cell? ⟨N2,1,none⟩ = some (.slice none 0 0):=fun o => (HB7.out.z.below ((Below.refl _ _).alloc (Nat.le_refl _) o) 1 _ rfl).1
    have fA1 : ∀ o,(w7.alloc o).frozen? ⟨N2,1,none⟩ = false:=fun o => (HB7.out.z.below ((Below.refl _ _).alloc (Nat.le_refl _) o) 1 _ rfl).2
    have zA2 : ∀ o,(w7.alloc o).cell? ⟨N2,2,none⟩ = some (.slice none 0 0):=fun o => (HB7.out.z.below ((Below.refl _ _).alloc (Nat.le_refl _) o) 2 _ rfl).1
    have fA2 : ∀ o,(w7.alloc o).frozen? ⟨N2,2,none⟩ = false:=fun o => (HB7.out.z.below ((Below.refl _ _).alloc (Nat.le_refl _) o) 2 _ rfl).2
    clear HIN d0 y0 y1 y2 y3 y4 y5 y6 y7
    go_wp2
    (try simp only [Exit.inBlock,Exit.then])
    refine bodyPost_ret (v:=.tuple #[.agg #[.int .i64 0,.slice none 0 0,.slice none 0 0],.int .i64 (q' : Int),.int .i64 (c' : Int)]) ?_ rfl ?_
    ·simp [results,Tryz.results92,go_sem,zA0,zA1,zA2]
    ·rw [HGI.out]; exact sgot_bad rfl (below3 (HB7.out.later ((Below.refl _ _).alloc (Nat.le_refl _) _)).below hZ2 _ _ _)
   | ok l q' =>
    have HGI:=kq hgi
    rw [hgi] at HIN hfi
    clear hgi HITN HIT5 HFINE
    go_upto_region 7 with (go_at_call 91; refine HIN.out.mono ?_; rintro e w7 ⟨⟨cs',rfl,hown⟩,hb7⟩; obtain ⟨ab',cb',ai',ci',rfl⟩:=hown.cells; have HB7:=kq (HB6.out.later hb7); have HOW:=kq hown; clear hown hb7)
    simp only [ValueV.number,ValueV.bytes,ValueV.items,List.length_nil] at HOW ⊢
    have zA0 : ∀ o,(w7.alloc o).cell? ⟨N2,0,none⟩ = some (.int .i64 0):=fun o => (HB7.out.z.below ((Below.refl _ _).alloc (Nat.le_refl _) o) 0 _ rfl).1
    have fA0 : ∀ o,(w7.alloc o).frozen? ⟨N2,0,none⟩ = false:=fun o => (HB7.out.z.below ((Below.refl _ _).alloc (Nat.le_refl _) o) 0 _ rfl).2
    have zA1 : ∀ o,(w7.alloc o).cell? ⟨N2,1,none⟩ = some (.slice none 0 0):=fun o => (HB7.out.z.below ((Below.refl _ _).alloc (Nat.le_refl _) o) 1 _ rfl).1
    have fA1 : ∀ o,(w7.alloc o).frozen? ⟨N2,1,none⟩ = false:=fun o => (HB7.out.z.below ((Below.refl _ _).alloc (Nat.le_refl _) o) 1 _ rfl).2
    have zA2 : ∀ o,(w7.alloc o).cell? ⟨N2,2,none⟩ = some (.slice none 0 0):=fun o => (HB7.out.z.below ((Below.refl _ _).alloc (Nat.le_refl _) o) 2 _ rfl).1
    have fA2 : ∀ o,(w7.alloc o).frozen? ⟨N2,2,none⟩ = false:=fun o => (HB7.out.z.below ((Below.refl _ _).alloc (Nat.le_refl _) o) 2 _ rfl).2
    clear HIN d0 y0 y1 y2 y3 y4 y5 y6 y7
    go_wp2
    (try simp only [Exit.inBlock,Exit.then])
    refine bodyPost_ret (v:=.tuple #[.agg #[.int .i64 (xn : Int),.slice ab' 0 cb',.slice ai' l.length ci'],.int .i64 (q' : Int),.int .i64 0]) ?_ rfl ?_
    ·simp [results,Tryz.results92,go_sem,zA0,zA1,zA2]
    ·have hbA : Below w7.heap.size w7 (w7.alloc (.cells #[.int .i64 (xn : Int),.slice ab' 0 cb',.slice ai' l.length ci'] 29)):=(Below.refl _ _).alloc (Nat.le_refl _) _
     rw [HGI.out]
     exact sret_ok (X:=w6.heap.size) (v:=.mk (xn : Int) [] l) (cs:=[.int .i64 (xn : Int),.slice ab' 0 cb',.slice ai' l.length ci']) rfl (HB7.out.later hbA).below (HOW.out.renum.below hbA fun b _ hb => hb) HB6.out.le hZ2 _ _ _
theorem soption_spec (a ab : Option Addr) (rs : List RuleV) (cap cb : Nat) (L : List UInt8) (n k p : Nat) (cs : List Value) (w : World) (hall : allV (kindI rs) rs) (hits : SItemsC11 a ab rs cap cb L n) (hk : k < rs.length) (hkn : k < n + 1) (hkd : rs[k].kind = 8) (hl : L.length ≤ 1048576) (hp : p ≤ L.length) (hrd : RdR a rs w) (hs : SrcB ab L cb w) (hir : IsRule rs[k] cs w) :
  Calls Tryz.prog 93 #[.agg #[.slice a rs.length cap],.agg cs.toArray,.slice ab L.length cb,.int .i64 (p : Int)] w (SGot (n + 1) (parseB rs L (n + 1) (k : Int) p) w):=by
 have hki:=allV_kind hall hk
 have hitk : ∀ (x : Int) (c : Nat),(rs[k].kind = 7 → 0 ≤ itemR rs[k] x 0) → ∀ i,i < c → ∃ m : Nat,itemR rs[k] x i = (m : Int) ∧ m < rs.length ∧ m < n:=fun x c h7 i hi => by
  have h0 : 0 ≤ itemR rs[k] x i:=items_there hall hk (m:=c) hi (by rcases (by omega : rs[k].kind = 7 ∨ rs[k].kind = 8 ∨ rs[k].kind = 9) with h | h | h; exact .inr (.inr (.inl ⟨h,h7 h⟩)); exact .inr (.inr (.inr (.inl h))); exact .inr (.inr (.inr (.inr h))))
  obtain ⟨q,hq,hqk⟩:=items_kid hall hk h0
  exact ⟨q,hq,by omega,by omega⟩
 rw [parseB,ruleAt_at hk]
 rw [if_neg (by omega),if_neg (by omega),if_neg (by omega),if_neg (by omega),if_neg (by omega),if_pos hkd]
 obtain ⟨r,hr⟩ : ∃ r,r = rs[k]:=⟨_,rfl⟩
 have HFINE : Hid (∀ (x : Int) (c q : Nat),(rs[k].kind = 7 → 0 ≤ itemR rs[k] x 0) → q ≤ L.length → Fine L q (gotItems (parseB rs L n) rs[k] x c [] q)):=fun x c q h7 hq => gotItems_fine c [] q (fun i hi p hp => by
  obtain ⟨m,hm,hmr,hmn⟩:=hitk x c h7 i hi
  rw [List.length_nil,Nat.zero_add,hm]
  exact parse_fine hall L n m hmr hmn p hp) hq
 rw [← hr] at HFINE hki hitk hkd hir ⊢
 have hir2:=hir
 obtain ⟨a4,c4,a5,c5,a6,c6,a7,c7,rfl,-,-,-,r7⟩:=hir2
 obtain ⟨w0,hw0⟩ : ∃ w0,w0 = ((w.alloc (.cells #[.slice a rs.length cap] 26)).alloc (.cells #[.string r.name,.int .i64 r.kind,.int .i64 r.size,.bool r.little,.slice a4 r.bytes.length c4,.slice a5 r.names.length c5,.slice a6 r.tags.length c6,.slice a7 r.kids.length c7] 47)).alloc (.cells #[.int .i64 0,.slice none 0 0,.slice none 0 0] 29):=⟨_,rfl⟩
 have hbeg : Beg [.slice a rs.length cap] [.string r.name,.int .i64 r.kind,.int .i64 r.size,.bool r.little,.slice a4 r.bytes.length c4,.slice a5 r.names.length c5,.slice a6 r.tags.length c6,.slice a7 r.kids.length c7] w (w.heap.size + 1) (w.heap.size + 2) w0:=by subst hw0; exact beg_new _ _ _ _ _ _ _ _ _ w
 obtain ⟨N1,hN1⟩ : ∃ N1,N1 = w.heap.size + 1:=⟨_,rfl⟩
 obtain ⟨N2,hN2⟩ : ∃ N2,N2 = w.heap.size + 2:=⟨_,rfl⟩
 rw [← hN1,← hN2] at hbeg
 have HBE:=kq hbeg
 have HN1:=kq hN1.symm
 have HN2 : Hid (N1 + 1 = N2):=by show _ = _; omega
 have HIR:=kq hir
 have HKI:=kq hki
 have HRD:=kq hrd
 have HS:=kq hs
 have HW0:=kq hw0
 have HITS : Hid (∀ (x : Int) (c q : Nat) (W : World),c ≤ 40 → (r.kind = 7 → 0 ≤ itemR r x 0) → q ≤ L.length → Below w.heap.size w W → Calls Tryz.prog 91 #[.agg #[.slice a rs.length cap],.agg #[.string r.name,.int .i64 r.kind,.int .i64 r.size,.bool r.little,.slice a4 r.bytes.length c4,.slice a5 r.names.length c5,.slice a6 r.tags.length c6,.slice a7 r.kids.length c7],.int .i64 x,.int .i64 (c : Int),.slice ab L.length cb,.int .i64 (q : Int)] W (SGot (n + 1) ((gotItems (parseB rs L n) r x c [] q).to fun l => .mk 0 [] l) W)):=fun x c q W hc h7 hq hb => hits r _ x c q W HKI.out hc (hitk x c h7) hq (HRD.out.below hb) (HS.out.below hb) (HIR.out.below hb)
 have p0 : (0 : Int) ≤ (p : Int):=by omega
 have hZ2 : w.heap.size ≤ N2:=by omega
 by_cases hlt : p < L.length
 ·obtain ⟨bm,om,rfl,hcm0⟩:=HS.out.1 p hlt
  obtain ⟨c,hc⟩ : ∃ c,c = L[p]:=⟨_,rfl⟩
  rw [← hc] at hcm0
  have hcm:=cellK HBE.out.below (Nat.le_refl _) hcm0
  rw [List.getElem?_eq_getElem hlt,← hc]
  simp only
  have k1 : ¬ (p : Int) ≥ (L.length : Int):=by omega
  have k2 : (p : Int) < (L.length : Int):=by omega
  have HKD:=kq hkd
  by_cases hf : 1 < c.toNat
  ·rw [if_pos hf]
   have k3 : (c.toNat : Int) > 1:=by omega
   clear hbeg hN1 hN2 hir hki hrd hs hw0 hits hitk hall hr r7 hkd hc hcm0 HITS HFINE
   go_enter Tryz.func93,Tryz.ntmps93
   go_upto_region 1 with fail
   rw [← HW0.out,HN1.out]
   try rw [HN2.out]
   clear HW0
   obtain ⟨z0,f0⟩:=HBE.out.z 0 _ rfl
   obtain ⟨z1,f1⟩:=HBE.out.z 1 _ rfl
   obtain ⟨z2,f2⟩:=HBE.out.z 2 _ rfl
   go_wp2
   (try simp only [Exit.inBlock,Exit.then])
   refine bodyPost_ret (v:=.tuple #[.agg #[.int .i64 0,.slice none 0 0,.slice none 0 0],.int .i64 (p : Int),.int .i64 4]) ?_ rfl ?_
   ·simp [results,Tryz.results93,go_sem,z0,z1,z2]
   ·exact sgot_bad (c:=4) rfl (below3 HBE.out.below hZ2 _ _ _)
  ·rw [if_neg hf]
   have k3 : ¬ (c.toNat : Int) > 1:=by omega
   have hwr : IntKind.i64.wrap ((p : Int) + 1) = (p : Int) + 1:=by rw [IntKind.wrap_i64]; omega
   have hwc : IntKind.i64.wrap (c.toNat : Int) = (c.toNat : Int):=by rw [IntKind.wrap_i64]; omega
   have HITN : Hid (∀ W,Below w.heap.size w W → Calls Tryz.prog 91 #[.agg #[.slice a rs.length cap],.agg #[.string r.name,.int .i64 r.kind,.int .i64 r.size,.bool r.little,.slice a4 r.bytes.length c4,.slice a5 r.names.length c5,.slice a6 r.tags.length c6,.slice a7 r.kids.length c7],.int .i64 0,.int .i64 (c.toNat : Int),.slice (some ⟨bm,om,none⟩) L.length cb,.int .i64 ((p : Int) + 1)] W (SGot (n + 1) ((gotItems (parseB rs L n) r 0 c.toNat [] (p + 1)).to fun l => .mk 0 [] l) W)):=fun W hb => HITS.out 0 c.toNat (p + 1) W (by omega) (fun h => absurd h (by omega)) (by omega) hb
   have hfi:=HFINE.out 0 c.toNat (p + 1) (fun h => absurd h (by omega)) (by omega)
   have HSW : Hid (∀ W,CellsAt w.heap.size [.slice a rs.length cap] W → CellsAt N1 [.string r.name,.int .i64 r.kind,.int .i64 r.size,.bool r.little,.slice a4 r.bytes.length c4,.slice a5 r.names.length c5,.slice a6 r.tags.length c6,.slice a7 r.kids.length c7] W → W.cell? ⟨bm,om + p,none⟩ = some (.int .u8 (c.toNat : Int)) → W.cell? ⟨w.heap.size,0,none⟩ = some (.slice a rs.length cap) ∧ W.cell? ⟨N1,0,none⟩ = some (.string r.name) ∧ W.cell? ⟨N1,1,none⟩ = some (.int .i64 r.kind) ∧ W.cell? ⟨N1,2,none⟩ = some (.int .i64 r.size) ∧ W.cell? ⟨N1,3,none⟩ = some (.bool r.little) ∧ W.cell? ⟨N1,4,none⟩ = some (.slice a4 r.bytes.length c4) ∧ W.cell? ⟨N1,5,none⟩ = some (.slice a5 r.names.length c5) ∧ W.cell? ⟨N1,6,none⟩ = some (.slice a6 r.tags.length c6) ∧ W.cell? ⟨N1,7,none⟩ = some (.slice a7 r.kids.length c7) ∧ W.cell? ⟨bm,om + p,none⟩ = some (.int .u8 (c.toNat : Int))):=fun W hd hr hc => ⟨(hd 0 _ rfl).1,(hr 0 _ rfl).1,(hr 1 _ rfl).1,(hr 2 _ rfl).1,(hr 3 _ rfl).1,(hr 4 _ rfl).1,(hr 5 _ rfl).1,(hr 6 _ rfl).1,(hr 7 _ rfl).1,hc⟩
   have HCM : Hid (w.cell? ⟨bm,om + p,none⟩ = some (.int .u8 (c.toNat : Int))):=hcm0
   have hbl:=cell_lt hcm0
   have HSB : Hid (∀ W,Beg [.slice a rs.length cap] [.string r.name,.int .i64 r.kind,.int .i64 r.size,.bool r.little,.slice a4 r.bytes.length c4,.slice a5 r.names.length c5,.slice a6 r.tags.length c6,.slice a7 r.kids.length c7] w N1 N2 W → W.cell? ⟨w.heap.size,0,none⟩ = some (.slice a rs.length cap) ∧ W.cell? ⟨N1,0,none⟩ = some (.string r.name) ∧ W.cell? ⟨N1,1,none⟩ = some (.int .i64 r.kind) ∧ W.cell? ⟨N1,2,none⟩ = some (.int .i64 r.size) ∧ W.cell? ⟨N1,3,none⟩ = some (.bool r.little) ∧ W.cell? ⟨N1,4,none⟩ = some (.slice a4 r.bytes.length c4) ∧ W.cell? ⟨N1,5,none⟩ = some (.slice a5 r.names.length c5) ∧ W.cell? ⟨N1,6,none⟩ = some (.slice a6 r.tags.length c6) ∧ W.cell? ⟨N1,7,none⟩ = some (.slice a7 r.kids.length c7) ∧ W.cell? ⟨bm,om + p,none⟩ = some (.int .u8 (c.toNat : Int))):=fun W hb => HSW.out W hb.d hb.r (cellK hb.below (Nat.le_refl _) HCM.out)
   have HSZ : Hid (∀ W,Beg [.slice a rs.length cap] [.string r.name,.int .i64 r.kind,.int .i64 r.size,.bool r.little,.slice a4 r.bytes.length c4,.slice a5 r.names.length c5,.slice a6 r.tags.length c6,.slice a7 r.kids.length c7] w N1 N2 W → ∀ u0 u1 u2 : Value,(fun W => W.cell? ⟨w.heap.size,0,none⟩ = some (.slice a rs.length cap) ∧ W.cell? ⟨N1,0,none⟩ = some (.string r.name) ∧ W.cell? ⟨N1,1,none⟩ = some (.int .i64 r.kind) ∧ W.cell? ⟨N1,2,none⟩ = some (.int .i64 r.size) ∧ W.cell? ⟨N1,3,none⟩ = some (.bool r.little) ∧ W.cell? ⟨N1,4,none⟩ = some (.slice a4 r.bytes.length c4) ∧ W.cell? ⟨N1,5,none⟩ = some (.slice a5 r.names.length c5) ∧ W.cell? ⟨N1,6,none⟩ = some (.slice a6 r.tags.length c6) ∧ W.cell? ⟨N1,7,none⟩ = some (.slice a7 r.kids.length c7) ∧ W.cell? ⟨bm,om + p,none⟩ = some (.int .u8 (c.toNat : Int))) (((W.setCell ⟨N2,0,none⟩ u0).setCell ⟨N2,1,none⟩ u1).setCell ⟨N2,2,none⟩ u2)):=fun W hb u0 u1 u2 => by
    have hg : W.grownBy (((W.setCell ⟨N2,0,none⟩ u0).setCell ⟨N2,1,none⟩ u1).setCell ⟨N2,2,none⟩ u2) (some N2):=grown_set (grown_set (grown_set (grown_refl W _) 0 _) 1 _) 2 _
    have h1:=hb.n1
    have h2:=hb.n2
    exact HSW.out _ (hb.d.grown hg fun e => by injection e with e; omega) (hb.r.grown hg fun e => by injection e with e; omega) (cellK (below3 hb.below (by omega) _ _ _) (Nat.le_refl _) HCM.out)
   have HBB : Hid (Beg [.slice a rs.length cap] [.string r.name,.int .i64 r.kind,.int .i64 r.size,.bool r.little,.slice a4 r.bytes.length c4,.slice a5 r.names.length c5,.slice a6 r.tags.length c6,.slice a7 r.kids.length c7] w N1 N2 w0.drew):=HBE.out.later (below_drewN (Below.refl _ _) 1)
   cases hgi : gotItems (parseB rs L n) r 0 c.toNat [] (p + 1) with
   | bad q' c' =>
    rw [hgi] at HITN hfi
    clear hbeg hN1 hN2 hir hki hrd hs hw0 hits hitk hall hr r7 hkd hc hcm0 hcm HITS HFINE hgi hfi hf
    go_enter Tryz.func93,Tryz.ntmps93
    go_upto_region 1 with fail
    rw [← HW0.out,HN1.out]
    try rw [HN2.out]
    clear HW0
    obtain ⟨_,_,_,_,_,_,_,_,_,hcm⟩:=HSB.out _ HBE.out
    go_upto_region 5 with fail
    clear hcm
    go_region_held3 (fun W => W.cell? ⟨w.heap.size,0,none⟩ = some (.slice a rs.length cap) ∧ W.cell? ⟨N1,0,none⟩ = some (.string r.name) ∧ W.cell? ⟨N1,1,none⟩ = some (.int .i64 r.kind) ∧ W.cell? ⟨N1,2,none⟩ = some (.int .i64 r.size) ∧ W.cell? ⟨N1,3,none⟩ = some (.bool r.little) ∧ W.cell? ⟨N1,4,none⟩ = some (.slice a4 r.bytes.length c4) ∧ W.cell? ⟨N1,5,none⟩ = some (.slice a5 r.names.length c5) ∧ W.cell? ⟨N1,6,none⟩ = some (.slice a6 r.tags.length c6) ∧ W.cell? ⟨N1,7,none⟩ = some (.slice a7 r.kids.length c7) ∧ W.cell? ⟨bm,om + p,none⟩ = some (.int .u8 (c.toNat : Int))) (first | exact HSB.out _ HBB.out | exact HSZ.out _ HBB.out _ _ _) (first | (go_at_call 91; refine (HITN.out _ HBB.out.below).mono ?_; rintro e w7 ⟨rfl,hb7⟩; have hb7':=HBB.out.later hb7; clear hb7; replace HBB:=kq hb7'; obtain ⟨z0,f0⟩:=HBB.out.z 0 _ rfl; obtain ⟨z1,f1⟩:=HBB.out.z 1 _ rfl; obtain ⟨z2,f2⟩:=HBB.out.z 2 _ rfl))
    all_goals go_wp2
    (try simp only [Exit.inBlock,Exit.then])
    refine bodyPost_ret (v:=.tuple #[.agg #[.int .i64 0,.slice none 0 0,.slice none 0 0],.int .i64 (q' : Int),.int .i64 (c' : Int)]) ?_ rfl ?_
    ·simp [results,Tryz.results93,go_sem,z0,z1,z2]
    ·exact sgot_bad rfl (below3 HBB.out.below hZ2 _ _ _)
   | ok l q' =>
    rw [hgi] at HITN hfi
    clear hbeg hN1 hN2 hir hki hrd hs hw0 hits hitk hall hr r7 hkd hc hcm0 hcm HITS HFINE hgi hfi hf
    go_enter Tryz.func93,Tryz.ntmps93
    go_upto_region 1 with fail
    rw [← HW0.out,HN1.out]
    try rw [HN2.out]
    clear HW0
    obtain ⟨_,_,_,_,_,_,_,_,_,hcm⟩:=HSB.out _ HBE.out
    go_upto_region 5 with fail
    clear hcm
    go_region_held3 (fun W => W.cell? ⟨w.heap.size,0,none⟩ = some (.slice a rs.length cap) ∧ W.cell? ⟨N1,0,none⟩ = some (.string r.name) ∧ W.cell? ⟨N1,1,none⟩ = some (.int .i64 r.kind) ∧ W.cell? ⟨N1,2,none⟩ = some (.int .i64 r.size) ∧ W.cell? ⟨N1,3,none⟩ = some (.bool r.little) ∧ W.cell? ⟨N1,4,none⟩ = some (.slice a4 r.bytes.length c4) ∧ W.cell? ⟨N1,5,none⟩ = some (.slice a5 r.names.length c5) ∧ W.cell? ⟨N1,6,none⟩ = some (.slice a6 r.tags.length c6) ∧ W.cell? ⟨N1,7,none⟩ = some (.slice a7 r.kids.length c7) ∧ W.cell? ⟨bm,om + p,none⟩ = some (.int .u8 (c.toNat : Int))) (first | exact HSB.out _ HBB.out | exact HSZ.out _ HBB.out _ _ _) (first | (go_at_call 91; refine (HITN.out _ HBB.out.below).mono ?_; rintro e w7 ⟨⟨cs',rfl,hown⟩,hb7⟩; obtain ⟨ab',cb',ai',ci',rfl⟩:=hown.cells; have hb7':=HBB.out.later hb7; have HOW:=kq hown; have HLE:=kq HBB.out.le; clear hb7 hown; replace HBB:=kq hb7'; obtain ⟨z0,f0⟩:=HBB.out.z 0 _ rfl; obtain ⟨z1,f1⟩:=HBB.out.z 1 _ rfl; obtain ⟨z2,f2⟩:=HBB.out.z 2 _ rfl))
    simp only [ValueV.number,ValueV.bytes,ValueV.items,List.length_nil] at HOW ⊢
    go_wp2
    (try simp only [Exit.inBlock,Exit.then])
    refine bodyPost_ret (v:=.tuple #[.agg #[.int .i64 0,.slice ab' 0 cb',.slice ai' l.length ci'],.int .i64 (q' : Int),.int .i64 0]) ?_ rfl ?_
    ·simp [results,Tryz.results93,go_sem,z0,z1,z2]
    ·exact sret_ok (X:=w0.heap.size) (v:=.mk 0 [] l) (cs:=[.int .i64 0,.slice ab' 0 cb',.slice ai' l.length ci']) rfl HBB.out.below HOW.out HLE.out hZ2 _ _ _
 ·rw [List.getElem?_eq_none (by omega)]
  simp only
  have k1 : (p : Int) ≥ (L.length : Int):=by omega
  clear hbeg hN1 hN2 hir hki hrd hs hw0 hits hitk hall hr r7 hkd HITS HFINE
  go_enter Tryz.func93,Tryz.ntmps93
  go_upto_region 1 with fail
  rw [← HW0.out,HN1.out]
  try rw [HN2.out]
  clear HW0
  obtain ⟨z0,f0⟩:=HBE.out.z 0 _ rfl
  obtain ⟨z1,f1⟩:=HBE.out.z 1 _ rfl
  obtain ⟨z2,f2⟩:=HBE.out.z 2 _ rfl
  go_wp2
  (try simp only [Exit.inBlock,Exit.then])
  refine bodyPost_ret (v:=.tuple #[.agg #[.int .i64 0,.slice none 0 0,.slice none 0 0],.int .i64 (p : Int),.int .i64 1]) ?_ rfl ?_
  ·simp [results,Tryz.results93,go_sem,z0,z1,z2]
  ·exact sgot_bad (c:=1) rfl (below3 HBE.out.below hZ2 _ _ _)

theorem schecked_spec (a ab : Option Addr) (rs : List RuleV) (cap cb : Nat) (L : List UInt8) (n k p : Nat) (cs : List Value) (w : World) (hall : allV (kindI rs) rs) (hits : SItemsC11 a ab rs cap cb L n) (hk : k < rs.length) (hkn : k < n + 1) (hkd : rs[k].kind = 9) (hl : L.length ≤ 1048576) (hp : p ≤ L.length) (hrd : RdR a rs w) (hs : SrcB ab L cb w) (hir : IsRule rs[k] cs w) :
  Calls Tryz.prog 94 #[.agg #[.slice a rs.length cap],.agg cs.toArray,.slice ab L.length cb,.int .i64 (p : Int)] w (SGot (n + 1) (parseB rs L (n + 1) (k : Int) p) w):=by
 have hki:=allV_kind hall hk
 have hitk : ∀ (x : Int) (c : Nat),(rs[k].kind = 7 → 0 ≤ itemR rs[k] x 0) → ∀ i,i < c → ∃ m : Nat,itemR rs[k] x i = (m : Int) ∧ m < rs.length ∧ m < n:=fun x c h7 i hi => by
  have h0 : 0 ≤ itemR rs[k] x i:=items_there hall hk (m:=c) hi (by rcases (by omega : rs[k].kind = 7 ∨ rs[k].kind = 8 ∨ rs[k].kind = 9) with h | h | h; exact .inr (.inr (.inl ⟨h,h7 h⟩)); exact .inr (.inr (.inr (.inl h))); exact .inr (.inr (.inr (.inr h))))
  obtain ⟨q,hq,hqk⟩:=items_kid hall hk h0
  exact ⟨q,hq,by omega,by omega⟩
 rw [parseB,ruleAt_at hk]
 rw [if_neg (by omega),if_neg (by omega),if_neg (by omega),if_neg (by omega),if_neg (by omega),if_neg (by omega),if_pos hkd]
 obtain ⟨r,hr⟩ : ∃ r,r = rs[k]:=⟨_,rfl⟩
 have HFINE : Hid (∀ (x : Int) (c q : Nat),(rs[k].kind = 7 → 0 ≤ itemR rs[k] x 0) → q ≤ L.length → Fine L q (gotItems (parseB rs L n) rs[k] x c [] q)):=fun x c q h7 hq => gotItems_fine c [] q (fun i hi p hp => by
  obtain ⟨m,hm,hmr,hmn⟩:=hitk x c h7 i hi
  rw [List.length_nil,Nat.zero_add,hm]
  exact parse_fine hall L n m hmr hmn p hp) hq
 rw [← hr] at HFINE hki hitk hkd hir ⊢
 have hir2:=hir
 obtain ⟨a4,c4,a5,c5,a6,c6,a7,c7,rfl,-,-,-,r7⟩:=hir2
 obtain ⟨w0,hw0⟩ : ∃ w0,w0 = ((w.alloc (.cells #[.slice a rs.length cap] 26)).alloc (.cells #[.string r.name,.int .i64 r.kind,.int .i64 r.size,.bool r.little,.slice a4 r.bytes.length c4,.slice a5 r.names.length c5,.slice a6 r.tags.length c6,.slice a7 r.kids.length c7] 47)).alloc (.cells #[.int .i64 0,.slice none 0 0,.slice none 0 0] 29):=⟨_,rfl⟩
 have hbeg : Beg [.slice a rs.length cap] [.string r.name,.int .i64 r.kind,.int .i64 r.size,.bool r.little,.slice a4 r.bytes.length c4,.slice a5 r.names.length c5,.slice a6 r.tags.length c6,.slice a7 r.kids.length c7] w (w.heap.size + 1) (w.heap.size + 2) w0:=by subst hw0; exact beg_new _ _ _ _ _ _ _ _ _ w
 obtain ⟨N1,hN1⟩ : ∃ N1,N1 = w.heap.size + 1:=⟨_,rfl⟩
 obtain ⟨N2,hN2⟩ : ∃ N2,N2 = w.heap.size + 2:=⟨_,rfl⟩
 rw [← hN1,← hN2] at hbeg
 have HBE:=kq hbeg
 have HN1:=kq hN1.symm
 have HN2 : Hid (N1 + 1 = N2):=by show _ = _; omega
 have HIR:=kq hir
 have HKI:=kq hki
 have HRD:=kq hrd
 have HS:=kq hs
 have HW0:=kq hw0
 have HITS : Hid (∀ (x : Int) (c q : Nat) (W : World),c ≤ 40 → (r.kind = 7 → 0 ≤ itemR r x 0) → q ≤ L.length → Below w.heap.size w W → Calls Tryz.prog 91 #[.agg #[.slice a rs.length cap],.agg #[.string r.name,.int .i64 r.kind,.int .i64 r.size,.bool r.little,.slice a4 r.bytes.length c4,.slice a5 r.names.length c5,.slice a6 r.tags.length c6,.slice a7 r.kids.length c7],.int .i64 x,.int .i64 (c : Int),.slice ab L.length cb,.int .i64 (q : Int)] W (SGot (n + 1) ((gotItems (parseB rs L n) r x c [] q).to fun l => .mk 0 [] l) W)):=fun x c q W hc h7 hq hb => hits r _ x c q W HKI.out hc (hitk x c h7) hq (HRD.out.below hb) (HS.out.below hb) (HIR.out.below hb)
 have p0 : (0 : Int) ≤ (p : Int):=by omega
 have hZ2 : w.heap.size ≤ N2:=by omega
 have HITN : Hid (∀ W,Below w.heap.size w W → Calls Tryz.prog 91 #[.agg #[.slice a rs.length cap],.agg #[.string r.name,.int .i64 r.kind,.int .i64 r.size,.bool r.little,.slice a4 r.bytes.length c4,.slice a5 r.names.length c5,.slice a6 r.tags.length c6,.slice a7 r.kids.length c7],.int .i64 0,.int .i64 1,.slice ab L.length cb,.int .i64 (p : Int)] W (SGot (n + 1) ((gotItems (parseB rs L n) r 0 1 [] p).to fun l => .mk 0 [] l) W)):=fun W hb => HITS.out 0 1 p W (by omega) (fun h => absurd h (by omega)) hp hb
 have hfi:=HFINE.out 0 1 p (fun h => absurd h (by omega)) hp
 obtain ⟨d0,-⟩:=HBE.out.d 0 _ rfl
 obtain ⟨y0,-⟩:=HBE.out.r 0 _ rfl
 obtain ⟨y1,-⟩:=HBE.out.r 1 _ rfl
 obtain ⟨y2,-⟩:=HBE.out.r 2 _ rfl
 obtain ⟨y3,-⟩:=HBE.out.r 3 _ rfl
 obtain ⟨y4,-⟩:=HBE.out.r 4 _ rfl
 obtain ⟨y5,-⟩:=HBE.out.r 5 _ rfl
 obtain ⟨y6,-⟩:=HBE.out.r 6 _ rfl
 obtain ⟨y7,-⟩:=HBE.out.r 7 _ rfl
 cases hgi : gotItems (parseB rs L n) r 0 1 [] p with
 | bad q' c' =>
  rw [hgi] at HITN hfi
  obtain ⟨_,hc1,hc2⟩:=hfi
  have hc0 : ¬ (c' : Int) = 0:=by omega
  have HGS : Hid (gotSum L p (.bad q' c') = .bad q' c'):=rfl
  clear hbeg hN1 hN2 hir hki hrd hs hw0 hits hitk hall hr r7 hkd HITS HFINE hgi
  go_enter Tryz.func94,Tryz.ntmps94
  go_upto_region 1 with fail
  rw [← HW0.out,HN1.out]
  try rw [HN2.out]
  clear HW0
  go_upto_region 2 with (go_at_call 91; refine (HITN.out _ HBE.out.below).mono ?_; rintro e w7 ⟨rfl,hb7⟩; have HB7:=kq (HBE.out.later hb7); clear hb7)
  have zA0 : ∀ o,(w7.alloc o).cell? ⟨N2,0,none⟩ = some (.int .i64 0):=fun o => (HB7.out.z.below ((Below.refl _ _).alloc (Nat.le_refl _) o) 0 _ rfl).1
  have fA0 : ∀ o,(w7.alloc o).frozen? ⟨N2,0,none⟩ = false:=fun o => (HB7.out.z.below ((Below.refl _ _).alloc (Nat.le_refl _) o) 0 _ rfl).2
  have zA1 : ∀ o,(w7.alloc o).cell? ⟨N2,1,none⟩ = some (.slice none 0 0):=fun o => (HB7.out.z.below ((Below.refl _ _).alloc (Nat.le_refl _) o) 1 _ rfl).1
  have fA1 : ∀ o,(w7.alloc o).frozen? ⟨N2,1,none⟩ = false:=fun o => (HB7.out.z.below ((Below.refl _ _).alloc (Nat.le_refl _) o) 1 _ rfl).2
  have zA2 : ∀ o,(w7.alloc o).cell? ⟨N2,2,none⟩ = some (.slice none 0 0):=fun o => (HB7.out.z.below ((Below.refl _ _).alloc (Nat.le_refl _) o) 2 _ rfl).1
  have fA2 : ∀ o,(w7.alloc o).frozen? ⟨N2,2,none⟩ = false:=fun o => (HB7.out.z.below ((Below.refl _ _).alloc (Nat.le_refl _) o) 2 _ rfl).2
  clear HITN HBE d0 y0 y1 y2 y3 y4 y5 y6 y7
  go_wp2
  (try simp only [Exit.inBlock,Exit.then])
  refine bodyPost_ret (v:=.tuple #[.agg #[.int .i64 0,.slice none 0 0,.slice none 0 0],.int .i64 (q' : Int),.int .i64 (c' : Int)]) ?_ rfl ?_
  ·simp [results,Tryz.results94,go_sem,zA0,zA1,zA2]
  ·exact sgot_bad rfl (below3 (HB7.out.later ((Below.refl _ _).alloc (Nat.le_refl _) _)).below hZ2 _ _ _)
 | ok l q' =>
  rw [hgi] at HITN hfi
  obtain ⟨hq1,hq2⟩:=hfi
  by_cases hlt : q' < L.length
  ·obtain ⟨bm,om,rfl,hcm0⟩:=HS.out.1 q' hlt
   obtain ⟨c,hc⟩ : ∃ c,c = L[q']:=⟨_,rfl⟩
   rw [← hc] at hcm0
   have HCM : Hid (w.cell? ⟨bm,om + q',none⟩ = some (.int .u8 (c.toNat : Int))):=hcm0
   have hge : L[q']? = some c:=by rw [List.getElem?_eq_getElem hlt,← hc]
   rw [gotSum_some hge]
   obtain ⟨A,C,hsl,hA⟩:=cut_two (some ⟨bm,om,none⟩) L cb p q' w hq1 (by omega) HS.out
   have hlen : ((L.drop p).take (q' - p)).length = q' - p:=by rw [List.length_take,List.length_drop]; omega
   obtain ⟨bs,hbs⟩ : ∃ bs,bs = (L.drop p).take (q' - p):=⟨_,rfl⟩
   rw [← hbs] at hlen hA ⊢
   have HSUM : Hid (∀ W,Below w.heap.size w W → Calls Tryz.prog 123 #[.slice A (q' - p : Nat) C] W fun e w' => e = .returned (.int .i64 (sumB bs 0 : Nat)) ∧ W = w'):=fun W hb => by
    have h1:=sum_spec A bs C W (by omega) (hA _ (HS.out.below hb)).1
    rw [hlen] at h1
    exact h1
   have k1 : ¬ (q' : Int) ≥ (L.length : Int):=by omega
   have k2 : (q' : Int) < (L.length : Int):=by omega
   have k3 : (0 : Int) ≤ (q' : Int):=by omega
   have k4 : (p : Int) ≤ (q' : Int):=by omega
   have hwc : IntKind.i64.wrap (c.toNat : Int) = (c.toNat : Int):=by have:=c.toNat_lt; rw [IntKind.wrap_i64]; omega
   have hwr : IntKind.i64.wrap ((q' : Int) + 1) = (q' : Int) + 1:=by rw [IntKind.wrap_i64]; omega
   obtain ⟨S,hS⟩ : ∃ S,S = sumB bs 0:=⟨_,rfl⟩
   rw [← hS] at HSUM ⊢
   by_cases hsum : c.toNat = S
   ·rw [if_pos hsum]
    have e3 : ((c.toNat : Int) != (S : Int)) = false:=by rw [hsum]; simp
    clear hbeg hN1 hN2 hir hki hrd hs hw0 hits hitk hall hr r7 hkd HITS HFINE hgi hcm0 hc hge hA hlen hbs hsum hS
    go_enter Tryz.func94,Tryz.ntmps94
    go_upto_region 1 with fail
    rw [← HW0.out,HN1.out]
    try rw [HN2.out]
    clear HW0
    go_upto_region 2 with (go_at_call 91; refine (HITN.out _ HBE.out.below).mono ?_; rintro e w7 ⟨⟨cs',rfl,hown⟩,hb7⟩; obtain ⟨ab',cb',ai',ci',rfl⟩:=hown.cells; have HB7:=kq (HBE.out.later hb7); have HOW:=kq hown; have HLE:=kq HBE.out.le; clear hown hb7)
    simp only [ValueV.number,ValueV.bytes,ValueV.items,List.length_nil] at HOW ⊢
    obtain ⟨w8,hw8⟩ : ∃ w8,w8 = w7.alloc (.cells #[.int .i64 0,.slice ab' 0 cb',.slice ai' l.length ci'] 29):=⟨_,rfl⟩
    have hbA:=zb1 hw8
    have hvc:=zk1 hw8
    have HB8:=kq (HB7.out.later hbA)
    have HOW8 : Hid (OwnV (fun b => w0.heap.size ≤ b) (n + 1) (.mk 0 [] l) [.int .i64 0,.slice ab' 0 cb',.slice ai' l.length ci'] w8):=HOW.out.below hbA fun b _ hb => hb
    obtain ⟨v0,-⟩:=hvc 0 _ rfl
    obtain ⟨v1,-⟩:=hvc 1 _ rfl
    obtain ⟨v2,-⟩:=hvc 2 _ rfl
    rw [← hw8]
    obtain ⟨z0,f0⟩:=HB8.out.z 0 _ rfl
    obtain ⟨z1,f1⟩:=HB8.out.z 1 _ rfl
    obtain ⟨z2,f2⟩:=HB8.out.z 2 _ rfl
    have hcm:=cellK HB8.out.below (Nat.le_refl _) HCM.out
    clear HITN HBE HB7 HOW hw8 hbA hvc d0 y0 y1 y2 y3 y4 y5 y6 y7
    go_upto_region 6 with fail
    go_quiet ((go_at_call 123; with_reducible exact quiet_base (HSUM.out _ (below_drewN HB8.out.below _))))
    go_wp2
    (try simp only [Exit.inBlock,Exit.then])
    refine bodyPost_ret (v:=.tuple #[.agg #[.int .i64 0,.slice ab' 0 cb',.slice ai' l.length ci'],.int .i64 ((q' : Int) + 1),.int .i64 0]) ?_ rfl ?_
    ·simp [results,Tryz.results94,go_sem,z0,z1,z2]
    ·exact sret_ok (X:=w0.heap.size) (v:=.mk 0 [] l) (cs:=[.int .i64 0,.slice ab' 0 cb',.slice ai' l.length ci']) (Int.natCast_add q' 1).symm (below_drewN HB8.out.below _) (HOW8.out.below (below_drewN (Below.refl _ _) _) fun b _ hb => hb) HLE.out hZ2 _ _ _
   ·rw [if_neg hsum]
    have e3 : ((c.toNat : Int) != (S : Int)) = true:=by rw [bne_iff_ne]; omega
    clear hbeg hN1 hN2 hir hki hrd hs hw0 hits hitk hall hr r7 hkd HITS HFINE hgi hcm0 hc hge hA hlen hbs hsum hS
    go_enter Tryz.func94,Tryz.ntmps94
    go_upto_region 1 with fail
    rw [← HW0.out,HN1.out]
    try rw [HN2.out]
    clear HW0
    go_upto_region 2 with (go_at_call 91; refine (HITN.out _ HBE.out.below).mono ?_; rintro e w7 ⟨⟨cs',rfl,hown⟩,hb7⟩; obtain ⟨ab',cb',ai',ci',rfl⟩:=hown.cells; have HB7:=kq (HBE.out.later hb7); have HOW:=kq hown; have HLE:=kq HBE.out.le; clear hown hb7)
    simp only [ValueV.number,ValueV.bytes,ValueV.items,List.length_nil] at HOW ⊢
    obtain ⟨w8,hw8⟩ : ∃ w8,w8 = w7.alloc (.cells #[.int .i64 0,.slice ab' 0 cb',.slice ai' l.length ci'] 29):=⟨_,rfl⟩
    have hbA:=zb1 hw8
    have hvc:=zk1 hw8
    have HB8:=kq (HB7.out.later hbA)
    have HOW8 : Hid (OwnV (fun b => w0.heap.size ≤ b) (n + 1) (.mk 0 [] l) [.int .i64 0,.slice ab' 0 cb',.slice ai' l.length ci'] w8):=HOW.out.below hbA fun b _ hb => hb
    obtain ⟨v0,-⟩:=hvc 0 _ rfl
    obtain ⟨v1,-⟩:=hvc 1 _ rfl
    obtain ⟨v2,-⟩:=hvc 2 _ rfl
    rw [← hw8]
    obtain ⟨z0,f0⟩:=HB8.out.z 0 _ rfl
    obtain ⟨z1,f1⟩:=HB8.out.z 1 _ rfl
    obtain ⟨z2,f2⟩:=HB8.out.z 2 _ rfl
    have hcm:=cellK HB8.out.below (Nat.le_refl _) HCM.out
    clear HITN HBE HB7 HOW hw8 hbA hvc d0 y0 y1 y2 y3 y4 y5 y6 y7
    go_upto_region 6 with fail
    go_quiet ((go_at_call 123; with_reducible exact quiet_base (HSUM.out _ (below_drewN HB8.out.below _))))
    go_wp2
    (try simp only [Exit.inBlock,Exit.then])
    refine bodyPost_ret (v:=.tuple #[.agg #[.int .i64 0,.slice none 0 0,.slice none 0 0],.int .i64 (q' : Int),.int .i64 5]) ?_ rfl ?_
    ·simp [results,Tryz.results94,go_sem,z0,z1,z2]
    ·exact sgot_bad (c:=5) rfl (below3 (below_drewN HB8.out.below _) hZ2 _ _ _)
  ·have hge : L[q']? = none:=List.getElem?_eq_none (by omega)
   rw [gotSum_none hge]
   have k1 : (q' : Int) ≥ (L.length : Int):=by omega
   clear hbeg hN1 hN2 hir hki hrd hs hw0 hits hitk hall hr r7 hkd HITS HFINE hgi hge
   go_enter Tryz.func94,Tryz.ntmps94
   go_upto_region 1 with fail
   rw [← HW0.out,HN1.out]
   try rw [HN2.out]
   clear HW0
   go_upto_region 2 with (go_at_call 91; refine (HITN.out _ HBE.out.below).mono ?_; rintro e w7 ⟨⟨cs',rfl,hown⟩,hb7⟩; obtain ⟨ab',cb',ai',ci',rfl⟩:=hown.cells; have HB7:=kq (HBE.out.later hb7); clear hown hb7)
   simp only [ValueV.number,ValueV.bytes,ValueV.items,List.length_nil]
   have zA0 : ∀ o,(w7.alloc o).cell? ⟨N2,0,none⟩ = some (.int .i64 0):=fun o => (HB7.out.z.below ((Below.refl _ _).alloc (Nat.le_refl _) o) 0 _ rfl).1
   have fA0 : ∀ o,(w7.alloc o).frozen? ⟨N2,0,none⟩ = false:=fun o => (HB7.out.z.below ((Below.refl _ _).alloc (Nat.le_refl _) o) 0 _ rfl).2
   have zA1 : ∀ o,(w7.alloc o).cell? ⟨N2,1,none⟩ = some (.slice none 0 0):=fun o => (HB7.out.z.below ((Below.refl _ _).alloc (Nat.le_refl _) o) 1 _ rfl).1
   have fA1 : ∀ o,(w7.alloc o).frozen? ⟨N2,1,none⟩ = false:=fun o => (HB7.out.z.below ((Below.refl _ _).alloc (Nat.le_refl _) o) 1 _ rfl).2
   have zA2 : ∀ o,(w7.alloc o).cell? ⟨N2,2,none⟩ = some (.slice none 0 0):=fun o => (HB7.out.z.below ((Below.refl _ _).alloc (Nat.le_refl _) o) 2 _ rfl).1
   have fA2 : ∀ o,(w7.alloc o).frozen? ⟨N2,2,none⟩ = false:=fun o => (HB7.out.z.below ((Below.refl _ _).alloc (Nat.le_refl _) o) 2 _ rfl).2
   clear HITN HBE d0 y0 y1 y2 y3 y4 y5 y6 y7
   go_wp2
   (try simp only [Exit.inBlock,Exit.then])
   refine bodyPost_ret (v:=.tuple #[.agg #[.int .i64 0,.slice none 0 0,.slice none 0 0],.int .i64 (q' : Int),.int .i64 1]) ?_ rfl ?_
   ·simp [results,Tryz.results94,go_sem,zA0,zA1,zA2]
   ·exact sgot_bad (c:=1) rfl (below3 (HB7.out.later ((Below.refl _ _).alloc (Nat.le_refl _) _)).below hZ2 _ _ _)

end Go.Proofs.YtfmnjclnhppghaaGreat
