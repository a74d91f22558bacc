/- The model's l11Integer. -/
import Derived.Test.YtfmnjclnhppghaaGreatEK
import Derived.Test.YtfmnjclnhppghaaGreatEM7
import Derived.Test.YtfmnjclnhppghaaGreatEQV
import Derived.Test.YtfmnjclnhppghaaGreatEM2
import Derived.Test.YtfmnjclnhppghaaGreatESTerm
import Derived.BigQuiet
import Derived.Deep.RegionHeld3
import Derived.Deep.CutRange
import Derived.Test.YtfmnjclnhppghaaGreatEQE
import Derived.StillTailTactics
set_option maxRecDepth 100000
set_option maxHeartbeats 4000000
namespace Go.Proofs.YtfmnjclnhppghaaGreat
open Go Go.RowKit
theorem quiet_base {P : Program} {f : FuncId} {args : Array Value} {w : World} {n : Nat} {v : Value} (h : Calls P f args (w.drewN n) fun e w' => e = .returned v ∧ w.drewN n = w') : Calls P f args (w.drewN n) fun e w'' => e = .returned v ∧ ∃ m,w'' = w.drewN m :=
 h.mono fun _ _ ⟨he,hm⟩ => ⟨he,n,hm.symm⟩
def SIntAt (g : Got Int) (p : Nat) (w : World) (e : Ending) (w' : World) : Prop :=
 (match g with
  | .ok x q => e = .returned (.tuple #[.int .i64 x,.int .i64 (q : Int),.bool true])
  | .bad _ _ => e = .returned (.tuple #[.int .i64 0,.int .i64 (p : Int),.bool false])) ∧ Below w.heap.size w w'
theorem sint_ok {x z : Int} {q p : Nat} {w w' : World} (h : z = (q : Int)) (hb : Below w.heap.size w w') : SIntAt (.ok x q) p w (.returned (.tuple #[.int .i64 x,.int .i64 z,.bool true])) w':=by
 subst h
 exact ⟨rfl,hb⟩
theorem sint_spec (a ab : Option Addr) (rs : List RuleV) (cap cb m p : Nat) (L : List UInt8) (w : World) (hm : m < rs.length) (h0 : 0 ≤ rs[m].size) (h4 : rs[m].size ≤ 4) (hl : L.length ≤ 1048576) (hp : p ≤ L.length) (hrd : RdR a rs w) (hs : SrcB ab L cb w) :
  Calls Tryz.prog 87 #[.agg #[.slice a rs.length cap],.int .i64 (m : Int),.slice ab L.length cb,.int .i64 (p : Int)] w (SIntAt (gotInt rs[m] L p) p w):=by
 obtain ⟨b0,off,a4,c4,a5,c5,a6,c6,a7,c7,rfl,⟨d0,d1,d2,d3,d4,d5,d6,d7⟩,-,-,-,-⟩:=hrd.at m hm
 obtain ⟨r,hr⟩ : ∃ r,r = rs[m]:=⟨_,rfl⟩
 rw [← hr] at h0 h4 d0 d1 d2 d3 d4 d5 d6 d7 ⊢
 clear hr
 obtain ⟨wd,hwd⟩ : ∃ wd,wd = w.alloc (.cells #[.slice (some ⟨b0,off,none⟩) rs.length cap] 26):=⟨_,rfl⟩
 have hBd:=zb1 hwd
 have hD:=zk1 hwd
 obtain ⟨w1,hw1⟩ : ∃ w1,w1 = wd.alloc (.cells #[.string r.name,.int .i64 r.kind,.int .i64 r.size,.bool r.little,.slice a4 r.bytes.length c4,.slice a5 r.names.length c5,.slice a6 r.tags.length c6,.slice a7 r.kids.length c7] 47):=⟨_,rfl⟩
 have hb1:=zb1 hw1
 have hC:=zk1 hw1
 have hB1:=hBd.trans (hb1.mono hBd.size)
 have e0:=cellK hBd (Nat.le_refl _) d0
 have e1:=cellK hBd (Nat.le_refl _) d1
 have e2:=cellK hBd (Nat.le_refl _) d2
 have e3:=cellK hBd (Nat.le_refl _) d3
 have e4:=cellK hBd (Nat.le_refl _) d4
 have e5:=cellK hBd (Nat.le_refl _) d5
 have e6:=cellK hBd (Nat.le_refl _) d6
 have e7:=cellK hBd (Nat.le_refl _) d7
 obtain ⟨B,hBB⟩ : ∃ B,B = wd.heap.size:=⟨_,rfl⟩
 rw [← hBB] at hC
 obtain ⟨zz,hzz⟩ : ∃ zz : Nat,r.size = (zz : Int):=⟨r.size.toNat,by omega⟩
 have hzt : r.size.toNat = zz:=by omega
 have hzb : zz ≤ 4:=by omega
 have hgi : gotInt r L p = if L.length < p + zz then .bad p 1 else .ok (readI ((L.drop p).take zz) r.little : Int) (p + zz):=by unfold gotInt; rw [hzt]
 rw [hgi]
 have k2:=(hC 2 _ rfl).1
 have k3:=(hC 3 _ rfl).1
 rw [hzz] at k2
 have HZZ:=kq hzz
 have HB1:=kq hB1
 have HWD:=kq hwd
 have HW1:=kq hw1
 have HBB:=kq hBB
 have bx:=(hD 0 _ rfl).1
 have m0 : (0 : Int) ≤ (m : Int):=by omega
 have m1 : (m : Int) < (rs.length : Int):=by omega
 have hs1:=hs.below hB1
 clear hgi hzt h0 h4 hBd hD hb1 hC hB1 hwd hw1 hBB hzz d0 d1 d2 d3 d4 d5 d6 d7 hrd hs
 by_cases hf : L.length < p + zz
 ·have g1 : (L.length : Int) - (p : Int) < (zz : Int):=by omega
  rw [if_pos hf]
  go_enter Tryz.func87,Tryz.ntmps87
  go_upto_region 1 with fail
  rw [← HWD.out]
  clear HWD
  go_upto_region 2 with fail
  rw [← HW1.out,← HBB.out]
  clear HW1 HBB e0 e1 e2 e3 e4 e5 e6 e7
  go_wp2
  go_ret3
  exact ⟨rfl,HB1.out⟩
 ·have g1 : ¬ ((L.length : Int) - (p : Int) < (zz : Int)):=by omega
  rw [if_neg hf]
  obtain ⟨A,C,hsl,hA⟩:=cut_two ab L cb p (p + zz) w1 (by omega) (by omega) hs1
  rw [Nat.add_sub_cancel_left] at hsl hA
  have hlen : ((L.drop p).take zz).length = zz:=by rw [List.length_take,List.length_drop]; omega
  obtain ⟨bs,hbs⟩ : ∃ bs,bs = (L.drop p).take zz:=⟨_,rfl⟩
  rw [← hbs] at hlen hA ⊢
  have HRI : Hid (∀ n,Calls Tryz.prog 18 #[.slice A zz C,.bool r.little] (w1.drewN n) fun e w' => e = .returned (.int .i64 (readI bs r.little : Nat)) ∧ w1.drewN n = w'):=fun n => by
   have h1:=read_spec A bs C r.little (w1.drewN n) (by omega) (hA _ (hs1.below (below_drewN (Below.refl _ _) n))).1
   rw [hlen] at h1
   exact h1
  have e9 : ((p + zz : Nat) : Int) = (p : Int) + (zz : Int):=Int.natCast_add p zz
  rw [e9] at hsl
  have HE : Hid ((p : Int) + (zz : Int) = ((p + zz : Nat) : Int)):=e9.symm
  clear hbs hA hlen e9
  go_enter Tryz.func87,Tryz.ntmps87
  go_upto_region 1 with fail
  rw [← HWD.out]
  clear HWD
  go_upto_region 2 with fail
  rw [← HW1.out,← HBB.out]
  clear HW1 HBB e0 e1 e2 e3 e4 e5 e6 e7
  go_wp2
  go_quiet ((go_at_call 18; with_reducible exact quiet_base (HRI.out _)))
  go_wp2
  go_ret3
  exact sint_ok HE.out (below_drewN HB1.out _)
end Go.Proofs.YtfmnjclnhppghaaGreat
/- The model's l11Bytes and l11Const. -/
namespace Go.Proofs.YtfmnjclnhppghaaGreat
open Go Go.RowKit
def SGot (h : Nat) (g : Got ValueV) (w : World) (e : Ending) (w' : World) : Prop :=
 (match g with
  | .ok v q => ∃ cs,e = .returned (.tuple #[.agg cs.toArray,.int .i64 (q : Int),.int .i64 0]) ∧ OwnV (fun b => w.heap.size ≤ b) h v cs w'
  | .bad q c => e = .returned (.tuple #[.agg #[.int .i64 0,.slice none 0 0,.slice none 0 0],.int .i64 (q : Int),.int .i64 (c : Int)])) ∧ Below w.heap.size w w'
theorem sgot_bad {h q c : Nat} {x : Int} {w w' : World} (hx : x = (q : Int)) (hb : Below w.heap.size w w') : SGot h (.bad q c) w (.returned (.tuple #[.agg #[.int .i64 0,.slice none 0 0,.slice none 0 0],.int .i64 x,.int .i64 (c : Int)])) w':=by
 subst hx
 exact ⟨rfl,hb⟩
theorem sgot_ok {h q : Nat} {x : Int} {v : ValueV} {cs : List Value} {w w' : World} (hx : x = (q : Int)) (ho : OwnV (fun b => w.heap.size ≤ b) h v cs w') (hb : Below w.heap.size w w') : SGot h (.ok v q) w (.returned (.tuple #[.agg cs.toArray,.int .i64 x,.int .i64 0])) w':=by
 subst hx
 exact ⟨⟨cs,rfl,ho⟩,hb⟩
theorem below3 {B Z : Nat} {w W : World} (h : Below B w W) (hZ : B ≤ Z) (u0 u1 u2 : Value) : Below B w (((W.setCell ⟨Z,0,none⟩ u0).setCell ⟨Z,1,none⟩ u1).setCell ⟨Z,2,none⟩ u2) :=
 ((h.setCell (p:=⟨Z,0,none⟩) hZ _).setCell (p:=⟨Z,1,none⟩) hZ _).setCell (p:=⟨Z,2,none⟩) hZ _
theorem OwnV.set3 {f : Nat → Prop} {n Z : Nat} {v : ValueV} {cs : List Value} {W : World} (h : OwnV f n v cs W) (hf : ∀ b,f b → b ≠ Z) (u0 u1 u2 : Value) : OwnV f n v cs (((W.setCell ⟨Z,0,none⟩ u0).setCell ⟨Z,1,none⟩ u1).setCell ⟨Z,2,none⟩ u2) :=
 h.grown (grown_set (grown_set (grown_set (grown_refl W Z) 0 _) 1 _) 2 _) fun b _ hb => ⟨hb,fun e => by injection e with e; exact hf b hb e⟩
theorem OwnV.leaf {f : Nat → Prop} {n : Nat} {num : Int} {bs : List UInt8} {a1 : Option Addr} {c1 : Nat} {W : World} (hrd : RdN a1 bs c1 W) (hbl : ∀ b off,a1 = some ⟨b,off,none⟩ → bs.length ≠ 0 → f b) : OwnV f (n + 1) (.mk num bs []) [.int .i64 num,.slice a1 bs.length c1,.slice none 0 0] W :=
 ⟨a1,c1,none,0,rfl,hrd,hbl,fun j hj => by simp [ValueV.items] at hj⟩
theorem ownB_more {B B' : Nat} {v : Value} {bs : List UInt8} {w : World} (h : OwnB B v bs w) (hB : B' ≤ B) : OwnB B' v bs w:=by
 refine ⟨h.1,?_⟩
 rcases h.2 with h | ⟨g,cap,cur,e,hb',rest⟩
 ·exact .inl h
 ·exact .inr ⟨g,cap,cur,e,by omega,rest⟩
theorem RdN.nil0 (w : World) : RdN none [] 0 w:=⟨fun j h => by simp at h,fun _ => rfl⟩
theorem sbytes_spec (ab : Option Addr) (cb p k h : Nat) (L : List UInt8) (w : World) (hl : L.length ≤ 1048576) (hp : p ≤ L.length) (hk : k ≤ 4294967296) (hs : SrcB ab L cb w) :
  Calls Tryz.prog 89 #[.slice ab L.length cb,.int .i64 (p : Int),.int .i64 (k : Int)] w (SGot (h + 1) (gotBytes L p k) w):=by
 obtain ⟨w1,hw1⟩ : ∃ w1,w1 = w.alloc (.cells #[.int .i64 0,.slice none 0 0,.slice none 0 0] 29):=⟨_,rfl⟩
 have hB:=zb1 hw1
 have hZ:=zk1 hw1
 have hz1 : w1.heap.size = w.heap.size + 1:=by subst hw1; simp
 have HW:=kq hw1
 have HB:=kq hB
 have HZ:=kq hZ
 have hs1:=hs.below hB
 unfold gotBytes
 by_cases hf : L.length < p + k
 ·rw [if_pos hf]
  have g1 : (L.length : Int) - (p : Int) < (k : Int):=by omega
  clear hw1 hB hZ hs hs1 hz1
  go_enter Tryz.func89,Tryz.ntmps89
  go_upto_region 1 with fail
  rw [← HW.out]
  clear HW
  obtain ⟨z0,t0⟩:=HZ.out 0 _ rfl
  obtain ⟨z1,t1⟩:=HZ.out 1 _ rfl
  obtain ⟨z2,t2⟩:=HZ.out 2 _ rfl
  go_wp2
  (try simp only [Exit.inBlock,Exit.then])
  refine bodyPost_ret (v:=.tuple #[.agg #[.int .i64 0,.slice none 0 0,.slice none 0 0],.int .i64 (p : Int),.int .i64 1]) ?_ rfl ?_
  ·simp [results,Tryz.results89,go_sem,z0,z1,z2]
  ·exact sgot_bad (c:=1) rfl (below3 HB.out (Nat.le_refl _) _ _ _)
 ·rw [if_neg hf]
  have g1 : ¬ ((L.length : Int) - (p : Int) < (k : Int)):=by omega
  obtain ⟨A,C,hsl,hA⟩:=cut_two ab L cb p (p + k) w1 (by omega) (by omega) hs1
  rw [Nat.add_sub_cancel_left] at hsl hA
  have hlen : ((L.drop p).take k).length = k:=by rw [List.length_take,List.length_drop]; omega
  obtain ⟨bs,hbs⟩ : ∃ bs,bs = (L.drop p).take k:=⟨_,rfl⟩
  rw [← hbs] at hlen hA ⊢
  have hb2 : Below w1.heap.size w1 (w1.alloc (.cells #[] 5)):=(Below.refl _ _).alloc (Nat.le_refl _) _
  have HOWN : Hid (OwnB w1.heap.size (.slice (some ⟨w1.heap.size,0,none⟩) 0 0) [] (w1.alloc (.cells #[] 5))):=OwnB.start w1
  have HSRC : Hid (Src1 A bs C (w1.alloc (.cells #[] 5))):=⟨(hA _ (hs1.below hb2)).1,(hA _ (hs1.below hb2)).2.2⟩
  have HB2:=kq hb2
  have HZ2:=kq (HZ.out.below hb2)
  have HZ1:=kq hz1
  have hbk : bs.length ≤ 1048576:=by omega
  have hpk : (p : Int) + (bs.length : Int) ≤ 1048576:=by omega
  clear hw1 hB hZ hs hs1 hz1 hbs hA hb2
  subst hlen
  have e9 : ((p + bs.length : Nat) : Int) = (p : Int) + (bs.length : Int):=Int.natCast_add p bs.length
  have HE : Hid ((p : Int) + (bs.length : Int) = ((p + bs.length : Nat) : Int)):=e9.symm
  rw [e9] at hsl
  clear e9
  go_enter Tryz.func89,Tryz.ntmps89
  go_upto_region 1 with fail
  rw [← HW.out]
  clear HW
  go_wp2_with (at_builtin; refine wp_app rfl _ _ rfl w1.heap.size (.slice (some ⟨w1.heap.size,0,none⟩) 0 0) [] bs A C _ rfl rfl HOWN.out HSRC.out (by simp; omega) (by simp) ?_)
  intro v' w3 hown3 hg3
  have HB3:=kq (app_frame (HB.out.trans (HB2.out.mono HB.out.size)) (by have:=HZ1.out; simp; omega) (B:=w.heap.size) (v:=.slice (some ⟨w1.heap.size,0,none⟩) 0 0) (acc:=[]) (by exact ownB_more HOWN.out (by have:=HZ1.out; omega)) hg3)
  have HZ3 : Hid (CellsAt w.heap.size [.int .i64 0,.slice none 0 0,.slice none 0 0] w3):=HZ2.out.grown hg3 (by simp [Value.ownBlock]; have:=HZ1.out; omega)
  obtain ⟨a3,c3,rfl,hrow3⟩:=hown3.row
  have HROW:=kq hrow3
  obtain ⟨z0,t0⟩:=HZ3.out 0 _ rfl
  obtain ⟨z1,t1⟩:=HZ3.out 1 _ rfl
  obtain ⟨z2,t2⟩:=HZ3.out 2 _ rfl
  clear hown3 hg3 hrow3
  go_wp2
  (try simp only [Exit.inBlock,Exit.then])
  refine bodyPost_ret (v:=.tuple #[.agg #[.int .i64 0,.slice a3 bs.length c3,.slice none 0 0],.int .i64 ((p : Int) + (bs.length : Int)),.int .i64 0]) ?_ rfl ?_
  ·simp [results,Tryz.results89,go_sem,z0,z1,z2]
  ·have hZ1:=HZ1.out
   refine sgot_ok (cs:=[.int .i64 0,.slice a3 bs.length c3,.slice none 0 0]) HE.out (OwnV.set3 (f:=fun b => w1.heap.size ≤ b) (OwnV.leaf ⟨HROW.out.rd,HROW.out.2.2⟩ fun b off e hn => ?_) (fun b hb => by omega) _ _ _ |>.mono fun b _ hb => by omega) (below3 HB3.out (Nat.le_refl _) _ _ _)
   rcases HROW.out.1 with h1 | ⟨b',off',ha,hB',_⟩
   ·rw [h1] at hn; exact absurd rfl hn
   ·rw [e] at ha
    injection ha with ha
    injection ha with e1
    omega
end Go.Proofs.YtfmnjclnhppghaaGreat
/- The model's l11Const. -/
namespace Go.Proofs.YtfmnjclnhppghaaGreat
open Go Go.RowKit
theorem sconst_more {p i : Nat} {want M : List UInt8} (h : i < want.length) (h2 : i < M.length) (he : M[i] = want[i]) : gotConst p (want.drop i) (M.drop i) i = gotConst p (want.drop (i + 1)) (M.drop (i + 1)) (i + 1):=by
 rw [List.drop_eq_getElem_cons h,List.drop_eq_getElem_cons h2,gotConst,if_pos he]
theorem sconst_diff {p i : Nat} {want M : List UInt8} (h : i < want.length) (h2 : i < M.length) (he : ¬ M[i] = want[i]) : gotConst p (want.drop i) (M.drop i) i = .bad (p + i) 2:=by
 rw [List.drop_eq_getElem_cons h,List.drop_eq_getElem_cons h2,gotConst,if_neg he]
theorem sconst_short {p i : Nat} {want M : List UInt8} (h : i < want.length) (h2 : M.length ≤ i) : gotConst p (want.drop i) (M.drop i) i = .bad p 1:=by
 rw [List.drop_eq_getElem_cons h,List.drop_eq_nil_of_le h2,gotConst]
theorem sconst_end {p i : Nat} {want M : List UInt8} (h : want.length ≤ i) : gotConst p (want.drop i) (M.drop i) i = .ok (.mk 0 [] []) (p + i):=by
 rw [List.drop_eq_nil_of_le h,gotConst]
theorem sconst_spec (ab : Option Addr) (cb p h : Nat) (L : List UInt8) (r : RuleV) (cs : List Value) (w : World) (hl : L.length ≤ 1048576) (hp : p ≤ L.length) (hs : SrcB ab L cb w) (hir : IsRule r cs w) (hwl : r.bytes.length ≤ 1048576) :
  Calls Tryz.prog 88 #[.agg cs.toArray,.slice ab L.length cb,.int .i64 (p : Int)] w (SGot (h + 1) (gotConst p r.bytes (L.drop p) 0) w):=by
 obtain ⟨a4,c4,a5,c5,a6,c6,a7,c7,rfl,r4,-,-,-⟩:=hir
 obtain ⟨w1,hw1⟩ : ∃ w1,w1 = (w.alloc (.cells #[.string r.name,.int .i64 r.kind,.int .i64 r.size,.bool r.little,.slice a4 r.bytes.length c4,.slice a5 r.names.length c5,.slice a6 r.tags.length c6,.slice a7 r.kids.length c7] 47)).alloc (.cells #[.int .i64 0,.slice none 0 0,.slice none 0 0] 29):=⟨_,rfl⟩
 have hB:=zb2 hw1
 have hC:=zk2 hw1
 have hZ:=zk3 hw1
 obtain ⟨M,hM⟩ : ∃ M,M = L.drop p:=⟨_,rfl⟩
 have hml : M.length = L.length - p:=by rw [hM,List.length_drop]
 have hMi : ∀ i (h : i < M.length) (h2 : p + i < L.length),M[i] = L[p + i]:=fun i h h2 => by subst hM; rw [List.getElem_drop]
 rw [← hM]
 obtain ⟨G,hG⟩ : ∃ G,G = gotConst p r.bytes M 0:=⟨_,rfl⟩
 rw [← hG]
 have HG : Hid (G = gotConst p (r.bytes.drop 0) (M.drop 0) 0):=by show _ = _; rw [List.drop_zero,List.drop_zero]; exact hG
 have HS:=kq (hs.below hB)
 have HR4:=kq (r4.below hB)
 have HMI:=kq hMi
 have HML:=kq hml
 have HB:=kq hB
 have HC:=kq hC
 have HZ:=kq hZ
 have HW:=kq hw1
 have hmb : M.length ≤ 1048576:=by omega
 have hpb : (p : Int) ≤ 1048576:=by omega
 obtain ⟨N,hN⟩ : ∃ N,N = w.heap.size + 1:=⟨_,rfl⟩
 rw [← hN] at HZ
 have HNW : Hid (w.heap.size ≤ N):=by show _ ≤ _; omega
 have HN:=kq hN.symm
 clear hs hM hMi hG hml hB hC hZ hw1 r4 hN
 go_enter Tryz.func88,Tryz.ntmps88
 go_upto_region 1 with fail
 rw [← HW.out,HN.out]
 clear HW HN
 go_wp2
 go_loopw [9] (fun iv W => ∃ i : Nat,i ≤ r.bytes.length ∧ i ≤ M.length ∧ iv = .int .i64 (i : Int) ∧ Hid (G = gotConst p (r.bytes.drop i) (M.drop i) i) ∧ Hid (Below w1.heap.size w1 W)) (fun iv _ => r.bytes.length - (intOf iv).toNat)
 case atStart => exact ⟨0,by omega,by omega,rfl,HG,Below.refl _ _⟩
 case round =>
  clear HG
  obtain ⟨i,hiw,him,rfl,HG,HBW⟩:=hrel
  have i0 : (0 : Int) ≤ (i : Int):=by omega
  have y4:=(HC.out.below HBW.out 4 _ rfl).1
  have HZW:=kq (HZ.out.below HBW.out)
  have HFB:=kq (HB.out.trans (HBW.out.mono HB.out.size))
  by_cases hlt : i < r.bytes.length
  ·have i1 : (i : Int) < (r.bytes.length : Int):=by omega
   obtain ⟨bw,ow,rfl,hcw0⟩:=HR4.out i hlt
   obtain ⟨y,hy⟩ : ∃ y,y = r.bytes[i]:=⟨_,rfl⟩
   have hcw : wr.cell? ⟨bw,ow + i,none⟩ = some (.int .u8 (y.toNat : Int)):=by rw [hy]; exact cellK HBW.out (Nat.le_refl _) hcw0
   have HY:=kq hy
   clear hcw0 hy
   by_cases hm : i < M.length
   ·have hpi : p + i < L.length:=by have:=HML.out; omega
    have k1 : ¬ ((p : Int) + (i : Int) ≥ (L.length : Int)):=by omega
    have k2 : (p : Int) + (i : Int) < (L.length : Int):=by omega
    have k3 : (0 : Int) ≤ (p : Int) + (i : Int):=by omega
    obtain ⟨bm,om,rfl,hcm0⟩:=HS.out.1 (p + i) hpi
    obtain ⟨z,hz⟩ : ∃ z,z = M[i]:=⟨_,rfl⟩
    have hcm : wr.cell? ⟨bm,om + (p + i),none⟩ = some (.int .u8 (z.toNat : Int)):=by rw [hz,HMI.out i hm hpi]; exact cellK HBW.out (Nat.le_refl _) hcm0
    have HZZ:=kq hz
    obtain ⟨pi,hpie⟩ : ∃ pi,pi = p + i:=⟨_,rfl⟩
    have hpii : (p : Int) + (i : Int) = (pi : Int):=by omega
    rw [← hpie] at hcm
    have HPI:=kq hpie
    rw [hpii] at k1 k2 k3
    clear hcm0 hz hpi hpie
    by_cases he : z = y
    ·have e3 : ((z.toNat : Int) != (y.toNat : Int)) = false:=by rw [he]; simp
     have HNX : Hid (G = gotConst p (r.bytes.drop (i + 1)) (M.drop (i + 1)) (i + 1)):=by
      show _ = _
      rw [HG.out]
      exact sconst_more hlt hm (by rw [← HZZ.out,← HY.out]; exact he)
     clear he HG HZW HFB
     go_wp2
     go_quiet (fail)
     go_wp2
     go_roundw
     case rel => exact ⟨i + 1,by omega,by omega,by go_num,HNX,below_drewN HBW.out _⟩
     case measure => simp [intOf]; omega
    ·have e3 : ((z.toNat : Int) != (y.toNat : Int)) = true:=by
      rw [bne_iff_ne]
      intro h
      exact he (UInt8.toNat_inj.1 (by omega))
     have HNX : Hid (G = .bad (p + i) 2):=by
      show _ = _
      rw [HG.out]
      exact sconst_diff hlt hm (by rw [← HZZ.out,← HY.out]; exact he)
     obtain ⟨z0,t0⟩:=HZW.out 0 _ rfl
     obtain ⟨z1,t1⟩:=HZW.out 1 _ rfl
     obtain ⟨z2,t2⟩:=HZW.out 2 _ rfl
     clear he HG
     go_wp2
     go_quiet (fail)
     go_wp2
     (try simp only [Exit.inBlock,Exit.then])
     refine bodyPost_ret (v:=.tuple #[.agg #[.int .i64 0,.slice none 0 0,.slice none 0 0],.int .i64 (pi : Int),.int .i64 2]) ?_ rfl ?_
     ·simp [results,Tryz.results88,go_sem,z0,z1,z2]
     ·(rw [HNX.out]; exact sgot_bad (c:=2) (by rw [HPI.out]) (below3 (below_drewN HFB.out _) HNW.out _ _ _))
   ·have k1 : (p : Int) + (i : Int) ≥ (L.length : Int):=by have:=HML.out; omega
    have HNX : Hid (G = .bad p 1):=by
     show _ = _
     rw [HG.out]
     exact sconst_short hlt (by omega)
    obtain ⟨z0,t0⟩:=HZW.out 0 _ rfl
    obtain ⟨z1,t1⟩:=HZW.out 1 _ rfl
    obtain ⟨z2,t2⟩:=HZW.out 2 _ rfl
    clear HG
    go_wp2
    (try simp only [Exit.inBlock,Exit.then])
    refine bodyPost_ret (v:=.tuple #[.agg #[.int .i64 0,.slice none 0 0,.slice none 0 0],.int .i64 (p : Int),.int .i64 1]) ?_ rfl ?_
    ·simp [results,Tryz.results88,go_sem,z0,z1,z2]
    ·(rw [HNX.out]; exact sgot_bad (c:=1) rfl (below3 HFB.out HNW.out _ _ _))
  ·have i1 : ¬ (i : Int) < (r.bytes.length : Int):=by omega
   have HNX : Hid (G = .ok (.mk 0 [] []) (p + r.bytes.length)):=by
    show _ = _
    rw [HG.out,sconst_end (by omega)]
    congr 1
    omega
   have hpl : (p : Int) + (r.bytes.length : Int) ≤ 2097152:=by omega
   clear HG
   have hwr : IntKind.i64.wrap ((p : Int) + (r.bytes.length : Int)) = (p : Int) + (r.bytes.length : Int):=by rw [IntKind.wrap_i64]; omega
   obtain ⟨z0,t0⟩:=HZW.out 0 _ rfl
   obtain ⟨z1,t1⟩:=HZW.out 1 _ rfl
   obtain ⟨z2,t2⟩:=HZW.out 2 _ rfl
   have hdw : Below wr.heap.size wr wr.drew:=below_drewN (Below.refl _ wr) 1
   have HFD:=kq (HFB.out.trans (hdw.mono HFB.out.size))
   clear hdw HBW HZW HFB
   go_upto_region 8 with fail
   go_region
   all_goals go_wp2
   (try simp only [Exit.inBlock,Exit.then])
   all_goals refine bodyPost_ret (v:=.tuple #[.agg #[.int .i64 0,.slice none 0 0,.slice none 0 0],.int .i64 ((p : Int) + (r.bytes.length : Int)),.int .i64 0]) ?_ rfl ?_
   all_goals first | (simp [results,Tryz.results88,go_sem,z0,z1,z2]; done) | skip
   all_goals (rw [HNX.out]; exact sgot_ok (cs:=[.int .i64 0,.slice none 0 0,.slice none 0 0]) (Int.natCast_add _ _).symm (OwnV.leaf (RdN.nil0 _) (fun b off e => by cases e)) (below3 HFD.out HNW.out _ _ _))
end Go.Proofs.YtfmnjclnhppghaaGreat
