/- The contract of the model's l9Default and of DefaultValue. -/
import Derived.Test.YtfmnjclnhppghaaGreatEK
import Derived.Test.YtfmnjclnhppghaaGreatEM1
import Derived.Test.YtfmnjclnhppghaaGreatEQV
import Derived.Test.YtfmnjclnhppghaaGreatEGBase
import Derived.Test.YtfmnjclnhppghaaGreatEQL
import Derived.Deep.RegionLaw
import Derived.Deep.CutRange
import Derived.IntWalk
import Derived.WalkSmall
set_option maxRecDepth 100000
set_option maxHeartbeats 8000000
namespace Go.Proofs.YtfmnjclnhppghaaGreat
open Go Go.RowKit
structure SdSt (dcs rcs : List Value) (B : Nat) (w W : World) : Prop where
 d : CellsAt w.heap.size dcs W
 z : CellsAt (w.heap.size + 1) [.int .i64 0,.slice none 0 0,.slice none 0 0] W
 r : CellsAt B rcs W
 below : Below w.heap.size w W
 hB : w.heap.size + 1 < B ∧ B < W.heap.size
theorem SdSt.later {dcs rcs : List Value} {B : Nat} {w W W' : World} (h : SdSt dcs rcs B w W) (hb : Below W.heap.size W W') : SdSt dcs rcs B w W' :=
 ⟨h.d.below hb,h.z.below hb,h.r.below hb,h.below.trans (hb.mono h.below.size),h.hB.1,Nat.lt_of_lt_of_le h.hB.2 hb.size⟩
theorem SdSt.fin {dcs rcs : List Value} {B n : Nat} {w W : World} {v : ValueV} {cs : List Value} (h : SdSt dcs rcs B w W) (ho : OwnV (fun b => B < b) n v cs W) (u0 u1 u2 : Value) :
  let W':=((W.setCell ⟨w.heap.size + 1,0,none⟩ u0).setCell ⟨w.heap.size + 1,1,none⟩ u1).setCell ⟨w.heap.size + 1,2,none⟩ u2
  OwnV (fun b => w.heap.size ≤ b) n v cs W' ∧ Below w.heap.size w W':=by
 have h1:=h.hB.1
 have hgs : W.grownBy (((W.setCell ⟨w.heap.size + 1,0,none⟩ u0).setCell ⟨w.heap.size + 1,1,none⟩ u1).setCell ⟨w.heap.size + 1,2,none⟩ u2) (some (w.heap.size + 1)):=grown_set (grown_set (grown_set (grown_refl W _) 0 _) 1 _) 2 _
 exact ⟨ho.grown hgs fun b _ hb => ⟨by omega,fun e => by injection e with e; omega⟩,((h.below.setCell (p:=⟨w.heap.size + 1,0,none⟩) (by show w.heap.size ≤ w.heap.size + 1; omega) _).setCell (p:=⟨w.heap.size + 1,1,none⟩) (by show w.heap.size ≤ w.heap.size + 1; omega) _).setCell (p:=⟨w.heap.size + 1,2,none⟩) (by show w.heap.size ≤ w.heap.size + 1; omega) _⟩
structure SdLp (n : Nat) (dcs rcs : List Value) (B N : Nat) (V : Value) (ys : List ValueV) (w W : World) : Prop where
 st : SdSt dcs rcs B w W
 v : CellsAt N [.int .i64 0,.slice none 0 0,V] W
 row : RowV n (N + 1) V ys W
 hN : B < N ∧ N < W.heap.size
theorem SdLp.later {n : Nat} {dcs rcs : List Value} {B N : Nat} {V : Value} {ys : List ValueV} {w W W' : World} (h : SdLp n dcs rcs B N V ys w W) (hb : Below W.heap.size W W') : SdLp n dcs rcs B N V ys w W' :=
 ⟨h.st.later hb,h.v.below hb,h.row.below hb,h.hN.1,Nat.lt_of_lt_of_le h.hN.2 hb.size⟩
theorem SdLp.cellN {n : Nat} {dcs rcs : List Value} {B N : Nat} {V : Value} {ys : List ValueV} {w W W' : World} (h : SdLp n dcs rcs B N V ys w W) (hg : W.grownBy W' V.ownBlock) : CellsAt N [.int .i64 0,.slice none 0 0,V] W' :=
 h.v.grown hg fun e => by have:=(h.row.own N e.symm).1; omega
theorem SdLp.push {n : Nat} {dcs rcs : List Value} {B N : Nat} {V V' : Value} {ys : List ValueV} {y : ValueV} {w W W' : World} (h : SdLp n dcs rcs B N V ys w W) (hg : W.grownBy W' V.ownBlock) (hrow : RowV n (N + 1) V' (ys ++ [y]) W') :
  SdLp n dcs rcs B N V' (ys ++ [y]) w (W'.setCell ⟨N,2,none⟩ V'):=by
 have hown:=fun g e => (h.row.own g e).1
 have h1:=h.st.hB.1
 have h2:=h.hN.1
 have h3:=h.hN.2
 have hq:=(h.cellN hg).set 2 V' (by simp)
 simp only [List.set] at hq
 have hs:=hg.size
 have hgs : W'.grownBy (W'.setCell ⟨N,2,none⟩ V') (some N):=grown_set (grown_refl W' N) 2 V'
 refine ⟨⟨(h.st.d.grown hg fun e => ?_).far (by omega),(h.st.z.grown hg fun e => ?_).far (by omega),(h.st.r.grown hg fun e => ?_).far (by omega),?_,h1,?_⟩,hq,?_,h2,by simp; omega⟩
 ·have:=hown _ e.symm; omega
 ·have:=hown _ e.symm; omega
 ·have:=hown _ e.symm; omega
 ·exact (h.st.below.grown hg h.st.below.size fun k e => by have:=hown k e; omega).setCell (p:=⟨N,2,none⟩) (by show w.heap.size ≤ N; omega) _
 ·have:=h.st.hB.2; simp; omega
 ·exact hrow.grown hgs fun k e => by injection e with e; omega
def SDefC (rs : List RuleV) (n : Nat) : Prop:=∀ (a : Option Addr) (cap k : Nat) (w : World),k < rs.length → k < n → RdR a rs w →
 Calls Tryz.prog 62 #[.agg #[.slice a rs.length cap],.int .i64 (k : Int)] w fun e w' => ∃ cs,e = .returned (.agg cs.toArray) ∧ OwnV (fun b => w.heap.size ≤ b) n (defV rs n (k : Int)) cs w' ∧ Below w.heap.size w w'
theorem zero_own (f : Nat → Prop) (n : Nat) (w : World) : OwnV f (n + 1) (.mk 0 [] []) [.int .i64 0,.slice none 0 0,.slice none 0 0] w :=
 ⟨none,0,none,0,rfl,⟨(fun j h => by simp [ValueV.bytes] at h),(fun _ => rfl)⟩,(fun b off e => by cases e),(fun j h => by simp [ValueV.items] at h)⟩
theorem items_own {n N : Nat} {V : Value} {ys : List ValueV} {w : World} (h : RowV n N V ys w) : ∃ a c,V = .slice a ys.length c ∧ OwnV (fun b => N ≤ b) (n + 1) (.mk 0 [] ys) [.int .i64 0,.slice none 0 0,.slice a ys.length c] w:=by
 obtain ⟨a,cap,rfl,hit⟩:=h.items
 exact ⟨a,cap,rfl,none,0,a,cap,rfl,⟨(fun j h => by simp [ValueV.bytes] at h),(fun _ => rfl)⟩,(fun b off e => by cases e),(fun j hj => by
  obtain ⟨b,off,cs',e,hB,ho,hc⟩:=hit j hj
  exact ⟨b,off,cs',e,hB,ho,hc⟩)⟩
theorem sdef_1 {rs : List RuleV} (_hn : rs.length ≤ 24) (hall : allV (kindI rs) rs) (n : Nat) (ih : SDefC rs n) (a : Option Addr) (cap k : Nat) (w : World) (hk : k < rs.length) (_hkn : k < n + 1) (hR : RdR a rs w) (hkd : rs[k].kind = 1) :
  Calls Tryz.prog 62 #[.agg #[.slice a rs.length cap],.int .i64 (k : Int)] w fun e w' => ∃ cs,e = .returned (.agg cs.toArray) ∧ OwnV (fun b => w.heap.size ≤ b) (n + 1) (defV rs (n + 1) (k : Int)) cs w' ∧ Below w.heap.size w w':=by
 have HRD:=kq hR
 have HKI:=kq (allV_kind hall hk)
 have HKS : Hid (∀ x ∈ rs[k].kids,∃ m : Nat,x = (m : Int) ∧ m < k):=fun x hx => by have h1:=allV_kids hall hk x hx; exact ⟨x.toNat,by omega,by omega⟩
 have HDV:=kq (defV_eq rs n hk)
 have HIH:=kq ih
 obtain ⟨b0,off,a4,c4,a5,c5,a6,c6,a7,c7,rfl,⟨d0,d1,d2,d3,d4,d5,d6,d7⟩,r4,r5,r6,r7⟩:=hR.at k hk
 obtain ⟨r,hr⟩ : ∃ r,r = rs[k]:=⟨_,rfl⟩
 rw [← hr] at hkd d0 d1 d2 d3 d4 d5 d6 d7 r4 r5 r6 r7 HKI HKS HDV
 clear hr
 rw [hkd] at d1
 have HKD:=kq hkd
 rw [HDV.out]
 clear HDV
 have HV : Hid (ValueV.mk (defNum r) (defBytes r) ((defKids r).map (defV rs n)) = .mk 0 [] []):=by show _ = _; simp [defNum,defBytes,defKids,HKD.out]
 rw [HV.out]
 obtain ⟨w0,hw0⟩ : ∃ w0,w0 = (w.alloc (.cells #[.slice (some ⟨b0,off,none⟩) rs.length cap] 26)).alloc (.cells #[.int .i64 0,.slice none 0 0,.slice none 0 0] 29):=⟨_,rfl⟩
 have hB0:=zb2 hw0
 have hX:=zk2 hw0
 have hZ:=zk3 hw0
 have hs0 : w0.heap.size = w.heap.size + 2:=by subst hw0; simp
 obtain ⟨w1,hw1⟩ : ∃ w1,w1 = w0.alloc (.cells #[.string r.name,.int .i64 1,.int .i64 r.size,.bool r.little,.slice a4 r.bytes.length c4,.slice a5 r.names.length c5,.slice a6 r.tags.length c6,.slice a7 r.kids.length c7] 47):=⟨_,rfl⟩
 have hB1:=zb1 hw1
 have hC1:=zk1 hw1
 have hs1 : w1.heap.size = w0.heap.size + 1:=by subst hw1; rw [World.size_alloc]
 have bx:=(hX 0 _ rfl).1
 have e0:=(hB0.cell (cell_lt d0)).trans d0
 have e1:=(hB0.cell (cell_lt d1)).trans d1
 have e2:=(hB0.cell (cell_lt d2)).trans d2
 have e3:=(hB0.cell (cell_lt d3)).trans d3
 have e4:=(hB0.cell (cell_lt d4)).trans d4
 have e5:=(hB0.cell (cell_lt d5)).trans d5
 have e6:=(hB0.cell (cell_lt d6)).trans d6
 have e7:=(hB0.cell (cell_lt d7)).trans d7
 have HST : Hid (SdSt [.slice (some ⟨b0,off,none⟩) rs.length cap] [.string r.name,.int .i64 1,.int .i64 r.size,.bool r.little,.slice a4 r.bytes.length c4,.slice a5 r.names.length c5,.slice a6 r.tags.length c6,.slice a7 r.kids.length c7] w0.heap.size w w1):=⟨hX.below hB1,hZ.below hB1,hC1,hB0.trans (hB1.mono hB0.size),by omega,by omega⟩
 have HR6:=kq r6
 have HR7:=kq r7
 have hW0:=kq hw0
 have hW1:=kq hw1
 have k0 : (0 : Int) ≤ (k : Int):=by omega
 have k1 : (k : Int) < (rs.length : Int):=by omega
 have hBz : w.heap.size + 2 ≤ w0.heap.size ∧ w0.heap.size < w1.heap.size:=⟨by omega,by omega⟩
 have HSZ:=kq hBz
 clear hw0 hw1 hB0 hB1 hX hZ hC1 hs0 hs1 hBz d0 d1 d2 d3 d4 d5 d6 d7 r4 r5 r6 r7 hR ih hkd
 go_enter Tryz.func62,Tryz.ntmps62
 go_upto_region 1 with fail
 rw [← hW0.out]
 go_upto_region 2 with fail
 rw [← hW1.out]
 clear bx e0 e1 e2 e3 e4 e5 e6 e7 hW0 hW1
 generalize w0.heap.size = B at HST HSZ ⊢
 have hBz : w.heap.size + 2 ≤ B ∧ B < w1.heap.size:=HSZ.out
 obtain ⟨hB2,hw1s⟩:=hBz
 clear HSZ w0
 have y1:=(HST.out.r 1 _ rfl).1
 obtain ⟨z0,t0⟩:=HST.out.z 0 _ rfl
 obtain ⟨z1,t1⟩:=HST.out.z 1 _ rfl
 obtain ⟨z2,t2⟩:=HST.out.z 2 _ rfl
 have HFI:=kq (HST.out.fin (zero_own (fun b => B < b) n w1))
 clear HST
 go_wp2
 (try simp only [Exit.inBlock,Exit.then])
 refine bodyPost_ret (v:=.agg #[.int .i64 0,.slice none 0 0,.slice none 0 0]) ?_ rfl ?_
 ·simp [results,Tryz.results62,go_sem,z0,z1,z2]
 ·obtain ⟨h1,h2⟩:=HFI.out _ _ _
  exact ⟨_,rfl,h1,h2⟩
theorem sdef_2 {rs : List RuleV} (_hn : rs.length ≤ 24) (hall : allV (kindI rs) rs) (n : Nat) (ih : SDefC rs n) (a : Option Addr) (cap k : Nat) (w : World) (hk : k < rs.length) (_hkn : k < n + 1) (hR : RdR a rs w) (hkd : rs[k].kind = 2) :
  Calls Tryz.prog 62 #[.agg #[.slice a rs.length cap],.int .i64 (k : Int)] w fun e w' => ∃ cs,e = .returned (.agg cs.toArray) ∧ OwnV (fun b => w.heap.size ≤ b) (n + 1) (defV rs (n + 1) (k : Int)) cs w' ∧ Below w.heap.size w w':=by
 have HRD:=kq hR
 have HKI:=kq (allV_kind hall hk)
 have HKS : Hid (∀ x ∈ rs[k].kids,∃ m : Nat,x = (m : Int) ∧ m < k):=fun x hx => by have h1:=allV_kids hall hk x hx; exact ⟨x.toNat,by omega,by omega⟩
 have HDV:=kq (defV_eq rs n hk)
 have HIH:=kq ih
 obtain ⟨b0,off,a4,c4,a5,c5,a6,c6,a7,c7,rfl,⟨d0,d1,d2,d3,d4,d5,d6,d7⟩,r4,r5,r6,r7⟩:=hR.at k hk
 obtain ⟨r,hr⟩ : ∃ r,r = rs[k]:=⟨_,rfl⟩
 rw [← hr] at hkd d0 d1 d2 d3 d4 d5 d6 d7 r4 r5 r6 r7 HKI HKS HDV
 clear hr
 rw [hkd] at d1
 have HKD:=kq hkd
 rw [HDV.out]
 clear HDV
 have HV : Hid (ValueV.mk (defNum r) (defBytes r) ((defKids r).map (defV rs n)) = .mk 0 [] []):=by show _ = _; simp [defNum,defBytes,defKids,HKD.out]
 rw [HV.out]
 obtain ⟨w0,hw0⟩ : ∃ w0,w0 = (w.alloc (.cells #[.slice (some ⟨b0,off,none⟩) rs.length cap] 26)).alloc (.cells #[.int .i64 0,.slice none 0 0,.slice none 0 0] 29):=⟨_,rfl⟩
 have hB0:=zb2 hw0
 have hX:=zk2 hw0
 have hZ:=zk3 hw0
 have hs0 : w0.heap.size = w.heap.size + 2:=by subst hw0; simp
 obtain ⟨w1,hw1⟩ : ∃ w1,w1 = w0.alloc (.cells #[.string r.name,.int .i64 2,.int .i64 r.size,.bool r.little,.slice a4 r.bytes.length c4,.slice a5 r.names.length c5,.slice a6 r.tags.length c6,.slice a7 r.kids.length c7] 47):=⟨_,rfl⟩
 have hB1:=zb1 hw1
 have hC1:=zk1 hw1
 have hs1 : w1.heap.size = w0.heap.size + 1:=by subst hw1; rw [World.size_alloc]
 have bx:=(hX 0 _ rfl).1
 have e0:=(hB0.cell (cell_lt d0)).trans d0
 have e1:=(hB0.cell (cell_lt d1)).trans d1
 have e2:=(hB0.cell (cell_lt d2)).trans d2
 have e3:=(hB0.cell (cell_lt d3)).trans d3
 have e4:=(hB0.cell (cell_lt d4)).trans d4
 have e5:=(hB0.cell (cell_lt d5)).trans d5
 have e6:=(hB0.cell (cell_lt d6)).trans d6
 have e7:=(hB0.cell (cell_lt d7)).trans d7
 have HST : Hid (SdSt [.slice (some ⟨b0,off,none⟩) rs.length cap] [.string r.name,.int .i64 2,.int .i64 r.size,.bool r.little,.slice a4 r.bytes.length c4,.slice a5 r.names.length c5,.slice a6 r.tags.length c6,.slice a7 r.kids.length c7] w0.heap.size w w1):=⟨hX.below hB1,hZ.below hB1,hC1,hB0.trans (hB1.mono hB0.size),by omega,by omega⟩
 have HR6:=kq r6
 have HR7:=kq r7
 have hW0:=kq hw0
 have hW1:=kq hw1
 have k0 : (0 : Int) ≤ (k : Int):=by omega
 have k1 : (k : Int) < (rs.length : Int):=by omega
 have hBz : w.heap.size + 2 ≤ w0.heap.size ∧ w0.heap.size < w1.heap.size:=⟨by omega,by omega⟩
 have HSZ:=kq hBz
 clear hw0 hw1 hB0 hB1 hX hZ hC1 hs0 hs1 hBz d0 d1 d2 d3 d4 d5 d6 d7 r4 r5 r6 r7 hR ih hkd
 go_enter Tryz.func62,Tryz.ntmps62
 go_upto_region 1 with fail
 rw [← hW0.out]
 go_upto_region 2 with fail
 rw [← hW1.out]
 clear bx e0 e1 e2 e3 e4 e5 e6 e7 hW0 hW1
 generalize w0.heap.size = B at HST HSZ ⊢
 have hBz : w.heap.size + 2 ≤ B ∧ B < w1.heap.size:=HSZ.out
 obtain ⟨hB2,hw1s⟩:=hBz
 clear HSZ w0
 have y1:=(HST.out.r 1 _ rfl).1
 obtain ⟨z0,t0⟩:=HST.out.z 0 _ rfl
 obtain ⟨z1,t1⟩:=HST.out.z 1 _ rfl
 obtain ⟨z2,t2⟩:=HST.out.z 2 _ rfl
 have HFI:=kq (HST.out.fin (zero_own (fun b => B < b) n w1))
 clear HST
 go_wp2
 (try simp only [Exit.inBlock,Exit.then])
 refine bodyPost_ret (v:=.agg #[.int .i64 0,.slice none 0 0,.slice none 0 0]) ?_ rfl ?_
 ·simp [results,Tryz.results62,go_sem,z0,z1,z2]
 ·obtain ⟨h1,h2⟩:=HFI.out _ _ _
  exact ⟨_,rfl,h1,h2⟩
theorem sdef_3 {rs : List RuleV} (_hn : rs.length ≤ 24) (hall : allV (kindI rs) rs) (n : Nat) (ih : SDefC rs n) (a : Option Addr) (cap k : Nat) (w : World) (hk : k < rs.length) (_hkn : k < n + 1) (hR : RdR a rs w) (hkd : rs[k].kind = 3) :
  Calls Tryz.prog 62 #[.agg #[.slice a rs.length cap],.int .i64 (k : Int)] w fun e w' => ∃ cs,e = .returned (.agg cs.toArray) ∧ OwnV (fun b => w.heap.size ≤ b) (n + 1) (defV rs (n + 1) (k : Int)) cs w' ∧ Below w.heap.size w w':=by
 have HRD:=kq hR
 have HKI:=kq (allV_kind hall hk)
 have HKS : Hid (∀ x ∈ rs[k].kids,∃ m : Nat,x = (m : Int) ∧ m < k):=fun x hx => by have h1:=allV_kids hall hk x hx; exact ⟨x.toNat,by omega,by omega⟩
 have HDV:=kq (defV_eq rs n hk)
 have HIH:=kq ih
 obtain ⟨b0,off,a4,c4,a5,c5,a6,c6,a7,c7,rfl,⟨d0,d1,d2,d3,d4,d5,d6,d7⟩,r4,r5,r6,r7⟩:=hR.at k hk
 obtain ⟨r,hr⟩ : ∃ r,r = rs[k]:=⟨_,rfl⟩
 rw [← hr] at hkd d0 d1 d2 d3 d4 d5 d6 d7 r4 r5 r6 r7 HKI HKS HDV
 clear hr
 rw [hkd] at d1
 have HKD:=kq hkd
 rw [HDV.out]
 clear HDV
 obtain ⟨sz,hsz⟩ : ∃ sz : Nat,r.size = (sz : Int):=⟨r.size.toNat,by have:=kindI_3 HKI.out HKD.out; omega⟩
 have hszl : sz ≤ 400:=by have:=kindI_3 HKI.out HKD.out; omega
 have HV : Hid (ValueV.mk (defNum r) (defBytes r) ((defKids r).map (defV rs n)) = .mk 0 (List.replicate sz 0) []):=by show _ = _; simp [defNum,defBytes,defKids,HKD.out,hsz]
 have HS3:=kq hsz
 clear hsz
 rw [HV.out]
 obtain ⟨w0,hw0⟩ : ∃ w0,w0 = (w.alloc (.cells #[.slice (some ⟨b0,off,none⟩) rs.length cap] 26)).alloc (.cells #[.int .i64 0,.slice none 0 0,.slice none 0 0] 29):=⟨_,rfl⟩
 have hB0:=zb2 hw0
 have hX:=zk2 hw0
 have hZ:=zk3 hw0
 have hs0 : w0.heap.size = w.heap.size + 2:=by subst hw0; simp
 obtain ⟨w1,hw1⟩ : ∃ w1,w1 = w0.alloc (.cells #[.string r.name,.int .i64 3,.int .i64 r.size,.bool r.little,.slice a4 r.bytes.length c4,.slice a5 r.names.length c5,.slice a6 r.tags.length c6,.slice a7 r.kids.length c7] 47):=⟨_,rfl⟩
 have hB1:=zb1 hw1
 have hC1:=zk1 hw1
 have hs1 : w1.heap.size = w0.heap.size + 1:=by subst hw1; rw [World.size_alloc]
 have bx:=(hX 0 _ rfl).1
 have e0:=(hB0.cell (cell_lt d0)).trans d0
 have e1:=(hB0.cell (cell_lt d1)).trans d1
 have e2:=(hB0.cell (cell_lt d2)).trans d2
 have e3:=(hB0.cell (cell_lt d3)).trans d3
 have e4:=(hB0.cell (cell_lt d4)).trans d4
 have e5:=(hB0.cell (cell_lt d5)).trans d5
 have e6:=(hB0.cell (cell_lt d6)).trans d6
 have e7:=(hB0.cell (cell_lt d7)).trans d7
 have HST : Hid (SdSt [.slice (some ⟨b0,off,none⟩) rs.length cap] [.string r.name,.int .i64 3,.int .i64 r.size,.bool r.little,.slice a4 r.bytes.length c4,.slice a5 r.names.length c5,.slice a6 r.tags.length c6,.slice a7 r.kids.length c7] w0.heap.size w w1):=⟨hX.below hB1,hZ.below hB1,hC1,hB0.trans (hB1.mono hB0.size),by omega,by omega⟩
 have HR6:=kq r6
 have HR7:=kq r7
 have hW0:=kq hw0
 have hW1:=kq hw1
 have k0 : (0 : Int) ≤ (k : Int):=by omega
 have k1 : (k : Int) < (rs.length : Int):=by omega
 have hBz : w.heap.size + 2 ≤ w0.heap.size ∧ w0.heap.size < w1.heap.size:=⟨by omega,by omega⟩
 have HSZ:=kq hBz
 clear hw0 hw1 hB0 hB1 hX hZ hC1 hs0 hs1 hBz d0 d1 d2 d3 d4 d5 d6 d7 r4 r5 r6 r7 hR ih hkd
 go_enter Tryz.func62,Tryz.ntmps62
 go_upto_region 1 with fail
 rw [← hW0.out]
 go_upto_region 2 with fail
 rw [← hW1.out]
 clear bx e0 e1 e2 e3 e4 e5 e6 e7 hW0 hW1
 generalize w0.heap.size = B at HST HSZ ⊢
 have hBz : w.heap.size + 2 ≤ B ∧ B < w1.heap.size:=HSZ.out
 obtain ⟨hB2,hw1s⟩:=hBz
 clear HSZ w0
 have y1:=(HST.out.r 1 _ rfl).1
 have y2:=(HST.out.r 2 _ rfl).1
 rw [HS3.out] at y2
 obtain ⟨w2,hw2⟩ : ∃ w2,w2 = w1.alloc (.cells (madeCells #[.int .u8 0] sz) 5):=⟨_,rfl⟩
 have hb2:=zb1 hw2
 have hmk:=make_bytesD sz (by omega) w1
 have hby:=made_byt sz w1
 rw [← hw2] at hmk hby
 obtain ⟨b1,hbt,_,hb1⟩:=hby
 have HO : Hid (OwnV (fun b => B < b) (n + 1) (.mk 0 (List.replicate sz 0) []) [.int .i64 0,.slice (some ⟨w1.heap.size,0,none⟩) sz sz,.slice none 0 0] w2):=by
  refine ⟨some ⟨w1.heap.size,0,none⟩,sz,none,0,by simp [ValueV.bytes,ValueV.items,ValueV.number],⟨?_,fun e => by cases e⟩,(fun b off e _ => by injection e with e; injection e with e; omega),(fun j h => by simp [ValueV.items] at h)⟩
  exact hbt.rd
 have HST2:=kq (HST.out.later hb2)
 obtain ⟨z0,t0⟩:=HST2.out.z 0 _ rfl
 obtain ⟨z1,t1⟩:=HST2.out.z 1 _ rfl
 obtain ⟨z2,t2⟩:=HST2.out.z 2 _ rfl
 have HFI:=kq (HST2.out.fin HO.out)
 have hW2:=kq hw2
 clear HST HST2 HO hbt hb1 hb2 hw2
 go_wp2
 (try simp only [Exit.inBlock,Exit.then])
 refine bodyPost_ret (v:=.agg #[.int .i64 0,.slice (some ⟨w1.heap.size,0,none⟩) sz sz,.slice none 0 0]) ?_ rfl ?_
 ·simp [results,Tryz.results62,go_sem,z0,z1,z2]
 ·obtain ⟨h1,h2⟩:=HFI.out _ _ _
  exact ⟨_,rfl,h1,h2⟩
theorem sdef_4 {rs : List RuleV} (_hn : rs.length ≤ 24) (hall : allV (kindI rs) rs) (n : Nat) (ih : SDefC rs n) (a : Option Addr) (cap k : Nat) (w : World) (hk : k < rs.length) (_hkn : k < n + 1) (hR : RdR a rs w) (hkd : rs[k].kind = 4) :
  Calls Tryz.prog 62 #[.agg #[.slice a rs.length cap],.int .i64 (k : Int)] w fun e w' => ∃ cs,e = .returned (.agg cs.toArray) ∧ OwnV (fun b => w.heap.size ≤ b) (n + 1) (defV rs (n + 1) (k : Int)) cs w' ∧ Below w.heap.size w w':=by
 have HRD:=kq hR
 have HKI:=kq (allV_kind hall hk)
 have HKS : Hid (∀ x ∈ rs[k].kids,∃ m : Nat,x = (m : Int) ∧ m < k):=fun x hx => by have h1:=allV_kids hall hk x hx; exact ⟨x.toNat,by omega,by omega⟩
 have HDV:=kq (defV_eq rs n hk)
 have HIH:=kq ih
 obtain ⟨b0,off,a4,c4,a5,c5,a6,c6,a7,c7,rfl,⟨d0,d1,d2,d3,d4,d5,d6,d7⟩,r4,r5,r6,r7⟩:=hR.at k hk
 obtain ⟨r,hr⟩ : ∃ r,r = rs[k]:=⟨_,rfl⟩
 rw [← hr] at hkd d0 d1 d2 d3 d4 d5 d6 d7 r4 r5 r6 r7 HKI HKS HDV
 clear hr
 rw [hkd] at d1
 have HKD:=kq hkd
 rw [HDV.out]
 clear HDV
 have HV : Hid (ValueV.mk (defNum r) (defBytes r) ((defKids r).map (defV rs n)) = .mk 0 [] []):=by show _ = _; simp [defNum,defBytes,defKids,HKD.out]
 rw [HV.out]
 obtain ⟨w0,hw0⟩ : ∃ w0,w0 = (w.alloc (.cells #[.slice (some ⟨b0,off,none⟩) rs.length cap] 26)).alloc (.cells #[.int .i64 0,.slice none 0 0,.slice none 0 0] 29):=⟨_,rfl⟩
 have hB0:=zb2 hw0
 have hX:=zk2 hw0
 have hZ:=zk3 hw0
 have hs0 : w0.heap.size = w.heap.size + 2:=by subst hw0; simp
 obtain ⟨w1,hw1⟩ : ∃ w1,w1 = w0.alloc (.cells #[.string r.name,.int .i64 4,.int .i64 r.size,.bool r.little,.slice a4 r.bytes.length c4,.slice a5 r.names.length c5,.slice a6 r.tags.length c6,.slice a7 r.kids.length c7] 47):=⟨_,rfl⟩
 have hB1:=zb1 hw1
 have hC1:=zk1 hw1
 have hs1 : w1.heap.size = w0.heap.size + 1:=by subst hw1; rw [World.size_alloc]
 have bx:=(hX 0 _ rfl).1
 have e0:=(hB0.cell (cell_lt d0)).trans d0
 have e1:=(hB0.cell (cell_lt d1)).trans d1
 have e2:=(hB0.cell (cell_lt d2)).trans d2
 have e3:=(hB0.cell (cell_lt d3)).trans d3
 have e4:=(hB0.cell (cell_lt d4)).trans d4
 have e5:=(hB0.cell (cell_lt d5)).trans d5
 have e6:=(hB0.cell (cell_lt d6)).trans d6
 have e7:=(hB0.cell (cell_lt d7)).trans d7
 have HST : Hid (SdSt [.slice (some ⟨b0,off,none⟩) rs.length cap] [.string r.name,.int .i64 4,.int .i64 r.size,.bool r.little,.slice a4 r.bytes.length c4,.slice a5 r.names.length c5,.slice a6 r.tags.length c6,.slice a7 r.kids.length c7] w0.heap.size w w1):=⟨hX.below hB1,hZ.below hB1,hC1,hB0.trans (hB1.mono hB0.size),by omega,by omega⟩
 have HR6:=kq r6
 have HR7:=kq r7
 have hW0:=kq hw0
 have hW1:=kq hw1
 have k0 : (0 : Int) ≤ (k : Int):=by omega
 have k1 : (k : Int) < (rs.length : Int):=by omega
 have hBz : w.heap.size + 2 ≤ w0.heap.size ∧ w0.heap.size < w1.heap.size:=⟨by omega,by omega⟩
 have HSZ:=kq hBz
 clear hw0 hw1 hB0 hB1 hX hZ hC1 hs0 hs1 hBz d0 d1 d2 d3 d4 d5 d6 d7 r4 r5 r6 r7 hR ih hkd
 go_enter Tryz.func62,Tryz.ntmps62
 go_upto_region 1 with fail
 rw [← hW0.out]
 go_upto_region 2 with fail
 rw [← hW1.out]
 clear bx e0 e1 e2 e3 e4 e5 e6 e7 hW0 hW1
 generalize w0.heap.size = B at HST HSZ ⊢
 have hBz : w.heap.size + 2 ≤ B ∧ B < w1.heap.size:=HSZ.out
 obtain ⟨hB2,hw1s⟩:=hBz
 clear HSZ w0
 have y1:=(HST.out.r 1 _ rfl).1
 obtain ⟨z0,t0⟩:=HST.out.z 0 _ rfl
 obtain ⟨z1,t1⟩:=HST.out.z 1 _ rfl
 obtain ⟨z2,t2⟩:=HST.out.z 2 _ rfl
 have HFI:=kq (HST.out.fin (zero_own (fun b => B < b) n w1))
 clear HST
 go_wp2
 (try simp only [Exit.inBlock,Exit.then])
 refine bodyPost_ret (v:=.agg #[.int .i64 0,.slice none 0 0,.slice none 0 0]) ?_ rfl ?_
 ·simp [results,Tryz.results62,go_sem,z0,z1,z2]
 ·obtain ⟨h1,h2⟩:=HFI.out _ _ _
  exact ⟨_,rfl,h1,h2⟩
theorem sdef_5 {rs : List RuleV} (_hn : rs.length ≤ 24) (hall : allV (kindI rs) rs) (n : Nat) (ih : SDefC rs n) (a : Option Addr) (cap k : Nat) (w : World) (hk : k < rs.length) (_hkn : k < n + 1) (hR : RdR a rs w) (hkd : rs[k].kind = 5) :
  Calls Tryz.prog 62 #[.agg #[.slice a rs.length cap],.int .i64 (k : Int)] w fun e w' => ∃ cs,e = .returned (.agg cs.toArray) ∧ OwnV (fun b => w.heap.size ≤ b) (n + 1) (defV rs (n + 1) (k : Int)) cs w' ∧ Below w.heap.size w w':=by
 have HRD:=kq hR
 have HKI:=kq (allV_kind hall hk)
 have HKS : Hid (∀ x ∈ rs[k].kids,∃ m : Nat,x = (m : Int) ∧ m < k):=fun x hx => by have h1:=allV_kids hall hk x hx; exact ⟨x.toNat,by omega,by omega⟩
 have HDV:=kq (defV_eq rs n hk)
 have HIH:=kq ih
 obtain ⟨b0,off,a4,c4,a5,c5,a6,c6,a7,c7,rfl,⟨d0,d1,d2,d3,d4,d5,d6,d7⟩,r4,r5,r6,r7⟩:=hR.at k hk
 obtain ⟨r,hr⟩ : ∃ r,r = rs[k]:=⟨_,rfl⟩
 rw [← hr] at hkd d0 d1 d2 d3 d4 d5 d6 d7 r4 r5 r6 r7 HKI HKS HDV
 clear hr
 rw [hkd] at d1
 have HKD:=kq hkd
 rw [HDV.out]
 clear HDV
 have HV : Hid (ValueV.mk (defNum r) (defBytes r) ((defKids r).map (defV rs n)) = .mk 0 [] []):=by show _ = _; simp [defNum,defBytes,defKids,HKD.out]
 rw [HV.out]
 obtain ⟨w0,hw0⟩ : ∃ w0,w0 = (w.alloc (.cells #[.slice (some ⟨b0,off,none⟩) rs.length cap] 26)).alloc (.cells #[.int .i64 0,.slice none 0 0,.slice none 0 0] 29):=⟨_,rfl⟩
 have hB0:=zb2 hw0
 have hX:=zk2 hw0
 have hZ:=zk3 hw0
 have hs0 : w0.heap.size = w.heap.size + 2:=by subst hw0; simp
 obtain ⟨w1,hw1⟩ : ∃ w1,w1 = w0.alloc (.cells #[.string r.name,.int .i64 5,.int .i64 r.size,.bool r.little,.slice a4 r.bytes.length c4,.slice a5 r.names.length c5,.slice a6 r.tags.length c6,.slice a7 r.kids.length c7] 47):=⟨_,rfl⟩
 have hB1:=zb1 hw1
 have hC1:=zk1 hw1
 have hs1 : w1.heap.size = w0.heap.size + 1:=by subst hw1; rw [World.size_alloc]
 have bx:=(hX 0 _ rfl).1
 have e0:=(hB0.cell (cell_lt d0)).trans d0
 have e1:=(hB0.cell (cell_lt d1)).trans d1
 have e2:=(hB0.cell (cell_lt d2)).trans d2
 have e3:=(hB0.cell (cell_lt d3)).trans d3
 have e4:=(hB0.cell (cell_lt d4)).trans d4
 have e5:=(hB0.cell (cell_lt d5)).trans d5
 have e6:=(hB0.cell (cell_lt d6)).trans d6
 have e7:=(hB0.cell (cell_lt d7)).trans d7
 have HST : Hid (SdSt [.slice (some ⟨b0,off,none⟩) rs.length cap] [.string r.name,.int .i64 5,.int .i64 r.size,.bool r.little,.slice a4 r.bytes.length c4,.slice a5 r.names.length c5,.slice a6 r.tags.length c6,.slice a7 r.kids.length c7] w0.heap.size w w1):=⟨hX.below hB1,hZ.below hB1,hC1,hB0.trans (hB1.mono hB0.size),by omega,by omega⟩
 have HR6:=kq r6
 have HR7:=kq r7
 have hW0:=kq hw0
 have hW1:=kq hw1
 have k0 : (0 : Int) ≤ (k : Int):=by omega
 have k1 : (k : Int) < (rs.length : Int):=by omega
 have hBz : w.heap.size + 2 ≤ w0.heap.size ∧ w0.heap.size < w1.heap.size:=⟨by omega,by omega⟩
 have HSZ:=kq hBz
 clear hw0 hw1 hB0 hB1 hX hZ hC1 hs0 hs1 hBz d0 d1 d2 d3 d4 d5 d6 d7 r4 r5 r6 r7 hR ih hkd
 go_enter Tryz.func62,Tryz.ntmps62
 go_upto_region 1 with fail
 rw [← hW0.out]
 go_upto_region 2 with fail
 rw [← hW1.out]
 clear bx e0 e1 e2 e3 e4 e5 e6 e7 hW0 hW1
 generalize w0.heap.size = B at HST HSZ ⊢
 have hBz : w.heap.size + 2 ≤ B ∧ B < w1.heap.size:=HSZ.out
 obtain ⟨hB2,hw1s⟩:=hBz
 clear HSZ w0
 have y1:=(HST.out.r 1 _ rfl).1
 obtain ⟨z0,t0⟩:=HST.out.z 0 _ rfl
 obtain ⟨z1,t1⟩:=HST.out.z 1 _ rfl
 obtain ⟨z2,t2⟩:=HST.out.z 2 _ rfl
 have HFI:=kq (HST.out.fin (zero_own (fun b => B < b) n w1))
 clear HST
 go_wp2
 (try simp only [Exit.inBlock,Exit.then])
 refine bodyPost_ret (v:=.agg #[.int .i64 0,.slice none 0 0,.slice none 0 0]) ?_ rfl ?_
 ·simp [results,Tryz.results62,go_sem,z0,z1,z2]
 ·obtain ⟨h1,h2⟩:=HFI.out _ _ _
  exact ⟨_,rfl,h1,h2⟩
theorem sdef_8 {rs : List RuleV} (_hn : rs.length ≤ 24) (hall : allV (kindI rs) rs) (n : Nat) (ih : SDefC rs n) (a : Option Addr) (cap k : Nat) (w : World) (hk : k < rs.length) (_hkn : k < n + 1) (hR : RdR a rs w) (hkd : rs[k].kind = 8) :
  Calls Tryz.prog 62 #[.agg #[.slice a rs.length cap],.int .i64 (k : Int)] w fun e w' => ∃ cs,e = .returned (.agg cs.toArray) ∧ OwnV (fun b => w.heap.size ≤ b) (n + 1) (defV rs (n + 1) (k : Int)) cs w' ∧ Below w.heap.size w w':=by
 have HRD:=kq hR
 have HKI:=kq (allV_kind hall hk)
 have HKS : Hid (∀ x ∈ rs[k].kids,∃ m : Nat,x = (m : Int) ∧ m < k):=fun x hx => by have h1:=allV_kids hall hk x hx; exact ⟨x.toNat,by omega,by omega⟩
 have HDV:=kq (defV_eq rs n hk)
 have HIH:=kq ih
 obtain ⟨b0,off,a4,c4,a5,c5,a6,c6,a7,c7,rfl,⟨d0,d1,d2,d3,d4,d5,d6,d7⟩,r4,r5,r6,r7⟩:=hR.at k hk
 obtain ⟨r,hr⟩ : ∃ r,r = rs[k]:=⟨_,rfl⟩
 rw [← hr] at hkd d0 d1 d2 d3 d4 d5 d6 d7 r4 r5 r6 r7 HKI HKS HDV
 clear hr
 rw [hkd] at d1
 have HKD:=kq hkd
 rw [HDV.out]
 clear HDV
 have HV : Hid (ValueV.mk (defNum r) (defBytes r) ((defKids r).map (defV rs n)) = .mk 0 [] []):=by show _ = _; simp [defNum,defBytes,defKids,HKD.out]
 rw [HV.out]
 obtain ⟨w0,hw0⟩ : ∃ w0,w0 = (w.alloc (.cells #[.slice (some ⟨b0,off,none⟩) rs.length cap] 26)).alloc (.cells #[.int .i64 0,.slice none 0 0,.slice none 0 0] 29):=⟨_,rfl⟩
 have hB0:=zb2 hw0
 have hX:=zk2 hw0
 have hZ:=zk3 hw0
 have hs0 : w0.heap.size = w.heap.size + 2:=by subst hw0; simp
 obtain ⟨w1,hw1⟩ : ∃ w1,w1 = w0.alloc (.cells #[.string r.name,.int .i64 8,.int .i64 r.size,.bool r.little,.slice a4 r.bytes.length c4,.slice a5 r.names.length c5,.slice a6 r.tags.length c6,.slice a7 r.kids.length c7] 47):=⟨_,rfl⟩
 have hB1:=zb1 hw1
 have hC1:=zk1 hw1
 have hs1 : w1.heap.size = w0.heap.size + 1:=by subst hw1; rw [World.size_alloc]
 have bx:=(hX 0 _ rfl).1
 have e0:=(hB0.cell (cell_lt d0)).trans d0
 have e1:=(hB0.cell (cell_lt d1)).trans d1
 have e2:=(hB0.cell (cell_lt d2)).trans d2
 have e3:=(hB0.cell (cell_lt d3)).trans d3
 have e4:=(hB0.cell (cell_lt d4)).trans d4
 have e5:=(hB0.cell (cell_lt d5)).trans d5
 have e6:=(hB0.cell (cell_lt d6)).trans d6
 have e7:=(hB0.cell (cell_lt d7)).trans d7
 have HST : Hid (SdSt [.slice (some ⟨b0,off,none⟩) rs.length cap] [.string r.name,.int .i64 8,.int .i64 r.size,.bool r.little,.slice a4 r.bytes.length c4,.slice a5 r.names.length c5,.slice a6 r.tags.length c6,.slice a7 r.kids.length c7] w0.heap.size w w1):=⟨hX.below hB1,hZ.below hB1,hC1,hB0.trans (hB1.mono hB0.size),by omega,by omega⟩
 have HR6:=kq r6
 have HR7:=kq r7
 have hW0:=kq hw0
 have hW1:=kq hw1
 have k0 : (0 : Int) ≤ (k : Int):=by omega
 have k1 : (k : Int) < (rs.length : Int):=by omega
 have hBz : w.heap.size + 2 ≤ w0.heap.size ∧ w0.heap.size < w1.heap.size:=⟨by omega,by omega⟩
 have HSZ:=kq hBz
 clear hw0 hw1 hB0 hB1 hX hZ hC1 hs0 hs1 hBz d0 d1 d2 d3 d4 d5 d6 d7 r4 r5 r6 r7 hR ih hkd
 go_enter Tryz.func62,Tryz.ntmps62
 go_upto_region 1 with fail
 rw [← hW0.out]
 go_upto_region 2 with fail
 rw [← hW1.out]
 clear bx e0 e1 e2 e3 e4 e5 e6 e7 hW0 hW1
 generalize w0.heap.size = B at HST HSZ ⊢
 have hBz : w.heap.size + 2 ≤ B ∧ B < w1.heap.size:=HSZ.out
 obtain ⟨hB2,hw1s⟩:=hBz
 clear HSZ w0
 have y1:=(HST.out.r 1 _ rfl).1
 obtain ⟨z0,t0⟩:=HST.out.z 0 _ rfl
 obtain ⟨z1,t1⟩:=HST.out.z 1 _ rfl
 obtain ⟨z2,t2⟩:=HST.out.z 2 _ rfl
 have HFI:=kq (HST.out.fin (zero_own (fun b => B < b) n w1))
 clear HST
 go_wp2
 (try simp only [Exit.inBlock,Exit.then])
 refine bodyPost_ret (v:=.agg #[.int .i64 0,.slice none 0 0,.slice none 0 0]) ?_ rfl ?_
 ·simp [results,Tryz.results62,go_sem,z0,z1,z2]
 ·obtain ⟨h1,h2⟩:=HFI.out _ _ _
  exact ⟨_,rfl,h1,h2⟩
theorem sdef_10 {rs : List RuleV} (_hn : rs.length ≤ 24) (hall : allV (kindI rs) rs) (n : Nat) (ih : SDefC rs n) (a : Option Addr) (cap k : Nat) (w : World) (hk : k < rs.length) (_hkn : k < n + 1) (hR : RdR a rs w) (hkd : rs[k].kind = 10) :
  Calls Tryz.prog 62 #[.agg #[.slice a rs.length cap],.int .i64 (k : Int)] w fun e w' => ∃ cs,e = .returned (.agg cs.toArray) ∧ OwnV (fun b => w.heap.size ≤ b) (n + 1) (defV rs (n + 1) (k : Int)) cs w' ∧ Below w.heap.size w w':=by
 have HRD:=kq hR
 have HKI:=kq (allV_kind hall hk)
 have HKS : Hid (∀ x ∈ rs[k].kids,∃ m : Nat,x = (m : Int) ∧ m < k):=fun x hx => by have h1:=allV_kids hall hk x hx; exact ⟨x.toNat,by omega,by omega⟩
 have HDV:=kq (defV_eq rs n hk)
 have HIH:=kq ih
 obtain ⟨b0,off,a4,c4,a5,c5,a6,c6,a7,c7,rfl,⟨d0,d1,d2,d3,d4,d5,d6,d7⟩,r4,r5,r6,r7⟩:=hR.at k hk
 obtain ⟨r,hr⟩ : ∃ r,r = rs[k]:=⟨_,rfl⟩
 rw [← hr] at hkd d0 d1 d2 d3 d4 d5 d6 d7 r4 r5 r6 r7 HKI HKS HDV
 clear hr
 rw [hkd] at d1
 have HKD:=kq hkd
 rw [HDV.out]
 clear HDV
 have HV : Hid (ValueV.mk (defNum r) (defBytes r) ((defKids r).map (defV rs n)) = .mk 0 [] []):=by show _ = _; simp [defNum,defBytes,defKids,HKD.out]
 rw [HV.out]
 obtain ⟨w0,hw0⟩ : ∃ w0,w0 = (w.alloc (.cells #[.slice (some ⟨b0,off,none⟩) rs.length cap] 26)).alloc (.cells #[.int .i64 0,.slice none 0 0,.slice none 0 0] 29):=⟨_,rfl⟩
 have hB0:=zb2 hw0
 have hX:=zk2 hw0
 have hZ:=zk3 hw0
 have hs0 : w0.heap.size = w.heap.size + 2:=by subst hw0; simp
 obtain ⟨w1,hw1⟩ : ∃ w1,w1 = w0.alloc (.cells #[.string r.name,.int .i64 10,.int .i64 r.size,.bool r.little,.slice a4 r.bytes.length c4,.slice a5 r.names.length c5,.slice a6 r.tags.length c6,.slice a7 r.kids.length c7] 47):=⟨_,rfl⟩
 have hB1:=zb1 hw1
 have hC1:=zk1 hw1
 have hs1 : w1.heap.size = w0.heap.size + 1:=by subst hw1; rw [World.size_alloc]
 have bx:=(hX 0 _ rfl).1
 have e0:=(hB0.cell (cell_lt d0)).trans d0
 have e1:=(hB0.cell (cell_lt d1)).trans d1
 have e2:=(hB0.cell (cell_lt d2)).trans d2
 have e3:=(hB0.cell (cell_lt d3)).trans d3
 have e4:=(hB0.cell (cell_lt d4)).trans d4
 have e5:=(hB0.cell (cell_lt d5)).trans d5
 have e6:=(hB0.cell (cell_lt d6)).trans d6
 have e7:=(hB0.cell (cell_lt d7)).trans d7
 have HST : Hid (SdSt [.slice (some ⟨b0,off,none⟩) rs.length cap] [.string r.name,.int .i64 10,.int .i64 r.size,.bool r.little,.slice a4 r.bytes.length c4,.slice a5 r.names.length c5,.slice a6 r.tags.length c6,.slice a7 r.kids.length c7] w0.heap.size w w1):=⟨hX.below hB1,hZ.below hB1,hC1,hB0.trans (hB1.mono hB0.size),by omega,by omega⟩
 have HR6:=kq r6
 have HR7:=kq r7
 have hW0:=kq hw0
 have hW1:=kq hw1
 have k0 : (0 : Int) ≤ (k : Int):=by omega
 have k1 : (k : Int) < (rs.length : Int):=by omega
 have hBz : w.heap.size + 2 ≤ w0.heap.size ∧ w0.heap.size < w1.heap.size:=⟨by omega,by omega⟩
 have HSZ:=kq hBz
 clear hw0 hw1 hB0 hB1 hX hZ hC1 hs0 hs1 hBz d0 d1 d2 d3 d4 d5 d6 d7 r4 r5 r6 r7 hR ih hkd
 go_enter Tryz.func62,Tryz.ntmps62
 go_upto_region 1 with fail
 rw [← hW0.out]
 go_upto_region 2 with fail
 rw [← hW1.out]
 clear bx e0 e1 e2 e3 e4 e5 e6 e7 hW0 hW1
 generalize w0.heap.size = B at HST HSZ ⊢
 have hBz : w.heap.size + 2 ≤ B ∧ B < w1.heap.size:=HSZ.out
 obtain ⟨hB2,hw1s⟩:=hBz
 clear HSZ w0
 have y1:=(HST.out.r 1 _ rfl).1
 obtain ⟨z0,t0⟩:=HST.out.z 0 _ rfl
 obtain ⟨z1,t1⟩:=HST.out.z 1 _ rfl
 obtain ⟨z2,t2⟩:=HST.out.z 2 _ rfl
 have HFI:=kq (HST.out.fin (zero_own (fun b => B < b) n w1))
 clear HST
 go_wp2
 (try simp only [Exit.inBlock,Exit.then])
 refine bodyPost_ret (v:=.agg #[.int .i64 0,.slice none 0 0,.slice none 0 0]) ?_ rfl ?_
 ·simp [results,Tryz.results62,go_sem,z0,z1,z2]
 ·obtain ⟨h1,h2⟩:=HFI.out _ _ _
  exact ⟨_,rfl,h1,h2⟩
end Go.Proofs.YtfmnjclnhppghaaGreat
