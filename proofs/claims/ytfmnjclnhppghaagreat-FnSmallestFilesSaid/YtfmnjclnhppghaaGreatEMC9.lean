/- The contract of the model's l9Default: kind 9. -/
import Derived.Test.YtfmnjclnhppghaaGreatEK
import Derived.Test.YtfmnjclnhppghaaGreatESDefV
import Derived.Deep.RegionLaw
import Derived.Deep.CutRange
import Derived.IntWalk
import Derived.WalkSmall
import Derived.Test.YtfmnjclnhppghaaGreatEQL
set_option maxRecDepth 100000
set_option maxHeartbeats 8000000
namespace Go.Proofs.YtfmnjclnhppghaaGreat
open Go Go.RowKit
theorem sdef_9 {rs : List RuleV} (_hn : rs.length ≤ 24) (hall : allV (kindI rs) rs) (n : Nat) (ih : SDefC rs n) (a : Option Addr) (cap k : Nat) (w : World) (hk : k < rs.length) (_hkn : k < n + 1) (hR : RdR a rs w) (hkd : rs[k].kind = 9) :
  Calls Tryz.prog 62 #[.agg #[.slice a rs.length cap],.int .i64 (k : Int)] w fun e w' => ∃ cs,e = .returned (.agg cs.toArray) ∧ OwnV (fun b => w.heap.size ≤ b) (n + 1) (defV rs (n + 1) (k : Int)) cs w' ∧ Below w.heap.size w w':=by
 have HRD:=kq hR
 have HKI:=kq (allV_kind hall hk)
 have HKS : Hid (∀ x ∈ rs[k].kids,∃ m : Nat,x = (m : Int) ∧ m < k):=fun x hx => by have h1:=allV_kids hall hk x hx; exact ⟨x.toNat,by omega,by omega⟩
 have HDV:=kq (defV_eq rs n hk)
 have HIH:=kq ih
 obtain ⟨b0,off,a4,c4,a5,c5,a6,c6,a7,c7,rfl,⟨d0,d1,d2,d3,d4,d5,d6,d7⟩,r4,r5,r6,r7⟩:=hR.at k hk
 obtain ⟨r,hr⟩ : ∃ r,r = rs[k]:=⟨_,rfl⟩
 rw [← hr] at hkd d0 d1 d2 d3 d4 d5 d6 d7 r4 r5 r6 r7 HKI HKS HDV
 clear hr
 rw [hkd] at d1
 have HKD:=kq hkd
 rw [HDV.out]
 clear HDV
 have HV : Hid (ValueV.mk (defNum r) (defBytes r) ((defKids r).map (defV rs n)) = .mk 0 [] (r.kids.map (defV rs n))):=by show _ = _; simp [defNum,defBytes,defKids,HKD.out]
 rw [HV.out]
 obtain ⟨w0,hw0⟩ : ∃ w0,w0 = (w.alloc (.cells #[.slice (some ⟨b0,off,none⟩) rs.length cap] 26)).alloc (.cells #[.int .i64 0,.slice none 0 0,.slice none 0 0] 29):=⟨_,rfl⟩
 have hB0:=zb2 hw0
 have hX:=zk2 hw0
 have hZ:=zk3 hw0
 have hs0 : w0.heap.size = w.heap.size + 2:=by subst hw0; simp
 obtain ⟨w1,hw1⟩ : ∃ w1,w1 = w0.alloc (.cells #[.string r.name,.int .i64 9,.int .i64 r.size,.bool r.little,.slice a4 r.bytes.length c4,.slice a5 r.names.length c5,.slice a6 r.tags.length c6,.slice a7 r.kids.length c7] 47):=⟨_,rfl⟩
 have hB1:=zb1 hw1
 have hC1:=zk1 hw1
 have hs1 : w1.heap.size = w0.heap.size + 1:=by subst hw1; rw [World.size_alloc]
 have bx:=(hX 0 _ rfl).1
 have e0:=(hB0.cell (cell_lt d0)).trans d0
 have e1:=(hB0.cell (cell_lt d1)).trans d1
 have e2:=(hB0.cell (cell_lt d2)).trans d2
 have e3:=(hB0.cell (cell_lt d3)).trans d3
 have e4:=(hB0.cell (cell_lt d4)).trans d4
 have e5:=(hB0.cell (cell_lt d5)).trans d5
 have e6:=(hB0.cell (cell_lt d6)).trans d6
 have e7:=(hB0.cell (cell_lt d7)).trans d7
 have HST : Hid (SdSt [.slice (some ⟨b0,off,none⟩) rs.length cap] [.string r.name,.int .i64 9,.int .i64 r.size,.bool r.little,.slice a4 r.bytes.length c4,.slice a5 r.names.length c5,.slice a6 r.tags.length c6,.slice a7 r.kids.length c7] w0.heap.size w w1):=⟨hX.below hB1,hZ.below hB1,hC1,hB0.trans (hB1.mono hB0.size),by omega,by omega⟩
 have HR6:=kq r6
 have HR7:=kq r7
 have hW0:=kq hw0
 have hW1:=kq hw1
 have k0 : (0 : Int) ≤ (k : Int):=by omega
 have k1 : (k : Int) < (rs.length : Int):=by omega
 have hBz : w.heap.size + 2 ≤ w0.heap.size ∧ w0.heap.size < w1.heap.size:=⟨by omega,by omega⟩
 have HSZ:=kq hBz
 clear hw0 hw1 hB0 hB1 hX hZ hC1 hs0 hs1 hBz d0 d1 d2 d3 d4 d5 d6 d7 r4 r5 r6 r7 hR ih hkd
 go_enter Tryz.func62,Tryz.ntmps62
 go_upto_region 1 with fail
 rw [← hW0.out]
 go_upto_region 2 with fail
 rw [← hW1.out]
 clear bx e0 e1 e2 e3 e4 e5 e6 e7 hW0 hW1
 generalize w0.heap.size = B at HST HSZ ⊢
 have hBz : w.heap.size + 2 ≤ B ∧ B < w1.heap.size:=HSZ.out
 obtain ⟨hB2,hw1s⟩:=hBz
 clear HSZ w0
 have y1:=(HST.out.r 1 _ rfl).1
 obtain ⟨w2,hw2⟩ : ∃ w2,w2 = w1.alloc (.cells #[.int .i64 0,.slice none 0 0,.slice none 0 0] 29):=⟨_,rfl⟩
 have hb2:=zb1 hw2
 have HLP : Hid (SdLp n [.slice (some ⟨b0,off,none⟩) rs.length cap] [.string r.name,.int .i64 9,.int .i64 r.size,.bool r.little,.slice a4 r.bytes.length c4,.slice a5 r.names.length c5,.slice a6 r.tags.length c6,.slice a7 r.kids.length c7] B w1.heap.size (.slice none 0 0) ((defKids r).take 0 |>.map (defV rs n)) w w2):=by
  have h1:=HST.out.later hb2
  have h2:=HST.out.hB
  refine ⟨h1,?_,RowV.start _ _ _,h2.2,?_⟩
  ·subst hw2; exact CellsAt.new w1 _ _
  ·subst hw2; rw [World.size_alloc]; omega
 have hkl : (defKids r) = r.kids:=by unfold defKids; simp [HKD.out]
 have hk8 : r.kids.length ≤ 8:=by have h:=defKids_len HKI.out; rw [hkl] at h; exact h
 have hW2:=kq hw2
 clear hb2 hw2 hkl HST
 go_upto_region 10 with fail
 rw [← hW2.out]
 clear hW2 y1
 generalize w1.heap.size = N at HLP hw1s ⊢
 go_wp2
 go_loopw [7] (fun i W => ∃ (q : Nat) (V : Value),q ≤ r.kids.length ∧ i = .int .i64 q ∧ Hid (SdLp n [.slice (some ⟨b0,off,none⟩) rs.length cap] [.string r.name,.int .i64 9,.int .i64 r.size,.bool r.little,.slice a4 r.bytes.length c4,.slice a5 r.names.length c5,.slice a6 r.tags.length c6,.slice a7 r.kids.length c7] B N V ((r.kids.take q).map (defV rs n)) w W)) (fun i _ => r.kids.length - (intOf i).toNat)
 case atStart => exact ⟨0,_,Nat.zero_le _,rfl,HLP⟩
 case round =>
  clear HLP
  obtain ⟨q,V,hqn,rfl,HLP⟩:=hrel
  have q0 : (0 : Int) ≤ (q : Int):=by omega
  have y7:=(HLP.out.st.r 7 _ rfl).1
  by_cases hlt : q < r.kids.length
  ·have q1 : (q : Int) < (r.kids.length : Int):=by omega
   obtain ⟨xv,cv,hV⟩:=HLP.out.row.slice
   have hl : ((r.kids.take q).map (defV rs n)).length = q:=by simp; omega
   rw [hl] at hV
   subst hV
   obtain ⟨b7,o7,h7,hc7⟩:=HR7.out q hlt
   obtain ⟨m,hm,hmk⟩:=HKS.out _ (List.getElem_mem hlt)
   subst h7
   rw [hm] at hc7
   have hD : Below wr.heap.size wr wr.drew:=below_drewN (Below.refl _ _) 1
   replace HLP:=kq (HLP.out.later hD)
   have q7:=(HLP.out.st.below.cell (cell_lt hc7)).trans hc7
   have HRW:=kq (HRD.out.below HLP.out.st.below)
   have HOB : Hid (∀ g,(Value.slice xv q cv).ownBlock = some g → g < wr.heap.size):=fun g e => (HLP.out.row.own g e).2
   have bx:=(HLP.out.st.d 0 _ rfl).1
   have o2:=(HLP.out.v 2 _ rfl).1
   have y7:=(HLP.out.st.r 7 _ rfl).1
   have HMV : Hid ((r.kids.take (q + 1)).map (defV rs n) = (r.kids.take q).map (defV rs n) ++ [defV rs n (m : Int)]):=by show _ = _; rw [List.take_succ_eq_append_getElem hlt,List.map_append,List.map_singleton,hm]
   have HL:=kq hl
   have hNw : N < wr.heap.size:=HLP.out.hN.2
   have HYL : Hid (((r.kids.take q).map (defV rs n) ++ [defV rs n (m : Int)]).length = q + 1):=by show _ = _; rw [List.length_append,hl]; rfl
   clear hc7 hD hl hm
   go_upto_region 13 with fail
   go_region_law (first | (go_simp; go_at_call 62; refine (HIH.out _ cap m wr.drew (by omega) (by omega) HRW.out).mono ?_; rintro e w6 ⟨cy,rfl,hown,hb6⟩; obtain ⟨xab,xcb,xai,xci,rfl⟩:=hown.cells; have HOY : Hid (OwnV (fun b => N + 1 ≤ b ∧ some b ≠ (Value.slice xv q cv).ownBlock) n (defV rs n (m : Int)) [.int .i64 (defV rs n (m : Int)).number,.slice xab (defV rs n (m : Int)).bytes.length xcb,.slice xai (defV rs n (m : Int)).items.length xci] w6):=(hown.mono (fun b _ h => by have h8 : wr.heap.size ≤ b:=h; exact ⟨by omega,fun e => by have:=HOB.out b e.symm; omega⟩)); replace HLP:=kq (HLP.out.later hb6); have o2b:=(HLP.out.v 2 _ rfl).1; have o2c:=(HLP.out.v.below ((Below.refl w6.heap.size w6).alloc (Nat.le_refl _) (.cells #[.int .i64 (defV rs n (m : Int)).number,.slice xab (defV rs n (m : Int)).bytes.length xcb,.slice xai (defV rs n (m : Int)).items.length xci] 29)) 2 _ rfl).1; have h6s : N + 1 ≤ w6.heap.size:=HLP.out.hN.2; clear hown hb6) | (refine step_pushV rfl (.tmp 47) (.tmp 55) rfl n (N + 1) (.slice xv q cv) ((r.kids.take q).map (defV rs n)) (defV rs n (m : Int)) _ w6 (by simp [Act.eval]) (by simp [Act.eval]) HLP.out.row HOY.out (by have:=HL.out; omega) h6s ?_; intro v' w7 hrow hg; have HR9:=kq hrow; have HG7:=kq hg; obtain ⟨o2d,p2d⟩:=(HLP.out.cellN hg) 2 _ rfl; obtain ⟨xn,cn,hxn⟩:=hrow.slice; rw [HYL.out] at hxn; subst hxn; clear hrow hg))
   all_goals (have HS9:=kq (HLP.out.push HG7.out HR9.out); rw [← HMV.out] at HS9; clear HLP HR9 HG7 HOY HOB o2d p2d bx o2 y7 q7 HRW HMV)
   all_goals go_wp2
   all_goals go_roundw
   all_goals first | (simp [intOf]; omega) | exact ⟨q + 1,_,by omega,by go_num,HS9⟩
  ·have q1 : ¬ (q : Int) < (r.kids.length : Int):=by omega
   obtain rfl : q = r.kids.length:=by omega
   obtain ⟨xv,cv,hV,ho⟩:=items_own HLP.out.row
   have hl : ((r.kids.take r.kids.length).map (defV rs n)).length = r.kids.length:=by simp
   rw [hl] at hV ho
   subst hV
   rw [List.take_length] at ho
   have HFI:=kq (HLP.out.st.fin (ho.mono fun b _ h => by have:=HLP.out.hN.1; have h9 : N + 1 ≤ b:=h; show B < b; omega))
   obtain ⟨z0,t0⟩:=HLP.out.st.z 0 _ rfl
   obtain ⟨z1,t1⟩:=HLP.out.st.z 1 _ rfl
   obtain ⟨z2,t2⟩:=HLP.out.st.z 2 _ rfl
   have o0:=(HLP.out.v 0 _ rfl).1
   have o1:=(HLP.out.v 1 _ rfl).1
   have o2:=(HLP.out.v 2 _ rfl).1
   clear HLP hl ho
   go_wp2
   (try simp only [Exit.inBlock,Exit.then])
   refine bodyPost_ret (v:=.agg #[.int .i64 0,.slice none 0 0,.slice xv r.kids.length cv]) ?_ rfl ?_
   ·simp [results,Tryz.results62,go_sem,z0,z1,z2]
   ·obtain ⟨h1,h2⟩:=HFI.out _ _ _
    exact ⟨_,rfl,h1,h2⟩
/- The contract of the model's l9Default at every height. -/
end Go.Proofs.YtfmnjclnhppghaaGreat
