/- The contract of the model's l9Default: kind 7. -/
import Derived.Test.YtfmnjclnhppghaaGreatEK
import Derived.Test.YtfmnjclnhppghaaGreatESDefV
import Derived.Deep.RegionLaw
import Derived.Deep.CutRange
import Derived.IntWalk
import Derived.WalkSmall
import Derived.Test.YtfmnjclnhppghaaGreatEQL
set_option maxRecDepth 100000
set_option maxHeartbeats 8000000
namespace Go.Proofs.YtfmnjclnhppghaaGreat
open Go Go.RowKit
theorem sdef_7 {rs : List RuleV} (_hn : rs.length ≤ 24) (hall : allV (kindI rs) rs) (n : Nat) (ih : SDefC rs n) (a : Option Addr) (cap k : Nat) (w : World) (hk : k < rs.length) (_hkn : k < n + 1) (hR : RdR a rs w) (hkd : rs[k].kind = 7) :
  Calls Tryz.prog 62 #[.agg #[.slice a rs.length cap],.int .i64 (k : Int)] w fun e w' => ∃ cs,e = .returned (.agg cs.toArray) ∧ OwnV (fun b => w.heap.size ≤ b) (n + 1) (defV rs (n + 1) (k : Int)) cs w' ∧ Below w.heap.size w w':=by
 have HRD:=kq hR
 have HKI:=kq (allV_kind hall hk)
 have HKS : Hid (∀ x ∈ rs[k].kids,∃ m : Nat,x = (m : Int) ∧ m < k):=fun x hx => by have h1:=allV_kids hall hk x hx; exact ⟨x.toNat,by omega,by omega⟩
 have HDV:=kq (defV_eq rs n hk)
 have HIH:=kq ih
 obtain ⟨b0,off,a4,c4,a5,c5,a6,c6,a7,c7,rfl,⟨d0,d1,d2,d3,d4,d5,d6,d7⟩,r4,r5,r6,r7⟩:=hR.at k hk
 obtain ⟨r,hr⟩ : ∃ r,r = rs[k]:=⟨_,rfl⟩
 rw [← hr] at hkd d0 d1 d2 d3 d4 d5 d6 d7 r4 r5 r6 r7 HKI HKS HDV
 clear hr
 rw [hkd] at d1
 have HKD:=kq hkd
 rw [HDV.out]
 clear HDV
 have hl:=kindI_7 HKI.out HKD.out
 obtain ⟨m,hm,hmk⟩:=HKS.out (r.kids.getD 1 0) (getD_mem (by omega))
 obtain ⟨b7,o7,h7,hc7⟩:=r7 1 (by omega)
 subst h7
 obtain ⟨b6,o6,h6,hc6⟩:=r6 0 (by omega)
 simp only [Nat.add_zero] at hc6
 subst h6
 have HMK : Hid (r.kids[1]'(by omega) = (m : Int)):=by show _ = _; have:=hm; rw [List.getD,List.getElem?_eq_getElem (by omega),Option.getD_some] at this; exact this
 rw [HMK.out] at hc7
 obtain ⟨tg,htg⟩ : ∃ tg,tg = r.tags[0]'(by omega):=⟨_,rfl⟩
 rw [← htg] at hc6
 have HV : Hid (ValueV.mk (defNum r) (defBytes r) ((defKids r).map (defV rs n)) = .mk tg [] [defV rs n (m : Int)]):=by
  show _ = _
  have e1 : defNum r = tg:=by unfold defNum; rw [if_pos HKD.out,htg,List.getD,List.getElem?_eq_getElem (by omega),Option.getD_some]
  have e2 : defKids r = [(m : Int)]:=by unfold defKids; rw [if_neg (by have:=HKD.out; omega),if_pos HKD.out,hm]
  have e3 : defBytes r = []:=by unfold defBytes; rw [if_neg (by have:=HKD.out; omega)]
  rw [e1,e2,e3]; rfl
 have HL7:=kq hl
 clear HMK htg hm hl
 rw [HV.out]
 obtain ⟨w0,hw0⟩ : ∃ w0,w0 = (w.alloc (.cells #[.slice (some ⟨b0,off,none⟩) rs.length cap] 26)).alloc (.cells #[.int .i64 0,.slice none 0 0,.slice none 0 0] 29):=⟨_,rfl⟩
 have hB0:=zb2 hw0
 have hX:=zk2 hw0
 have hZ:=zk3 hw0
 have hs0 : w0.heap.size = w.heap.size + 2:=by subst hw0; simp
 obtain ⟨w1,hw1⟩ : ∃ w1,w1 = w0.alloc (.cells #[.string r.name,.int .i64 7,.int .i64 r.size,.bool r.little,.slice a4 r.bytes.length c4,.slice a5 r.names.length c5,.slice (some ⟨b6,o6,none⟩) r.tags.length c6,.slice (some ⟨b7,o7,none⟩) r.kids.length c7] 47):=⟨_,rfl⟩
 have hB1:=zb1 hw1
 have hC1:=zk1 hw1
 have hs1 : w1.heap.size = w0.heap.size + 1:=by subst hw1; rw [World.size_alloc]
 have bx:=(hX 0 _ rfl).1
 have e0:=(hB0.cell (cell_lt d0)).trans d0
 have e1:=(hB0.cell (cell_lt d1)).trans d1
 have e2:=(hB0.cell (cell_lt d2)).trans d2
 have e3:=(hB0.cell (cell_lt d3)).trans d3
 have e4:=(hB0.cell (cell_lt d4)).trans d4
 have e5:=(hB0.cell (cell_lt d5)).trans d5
 have e6:=(hB0.cell (cell_lt d6)).trans d6
 have e7:=(hB0.cell (cell_lt d7)).trans d7
 have HST : Hid (SdSt [.slice (some ⟨b0,off,none⟩) rs.length cap] [.string r.name,.int .i64 7,.int .i64 r.size,.bool r.little,.slice a4 r.bytes.length c4,.slice a5 r.names.length c5,.slice (some ⟨b6,o6,none⟩) r.tags.length c6,.slice (some ⟨b7,o7,none⟩) r.kids.length c7] w0.heap.size w w1):=⟨hX.below hB1,hZ.below hB1,hC1,hB0.trans (hB1.mono hB0.size),by omega,by omega⟩
 have HR6:=kq r6
 have HR7:=kq r7
 have hW0:=kq hw0
 have hW1:=kq hw1
 have k0 : (0 : Int) ≤ (k : Int):=by omega
 have k1 : (k : Int) < (rs.length : Int):=by omega
 have hBz : w.heap.size + 2 ≤ w0.heap.size ∧ w0.heap.size < w1.heap.size:=⟨by omega,by omega⟩
 have HSZ:=kq hBz
 clear hw0 hw1 hB0 hB1 hX hZ hC1 hs0 hs1 hBz d0 d1 d2 d3 d4 d5 d6 d7 r4 r5 r6 r7 hR ih hkd
 go_enter Tryz.func62,Tryz.ntmps62
 go_upto_region 1 with fail
 rw [← hW0.out]
 go_upto_region 2 with fail
 rw [← hW1.out]
 clear bx e0 e1 e2 e3 e4 e5 e6 e7 hW0 hW1
 generalize w0.heap.size = B at HST HSZ ⊢
 have hBz : w.heap.size + 2 ≤ B ∧ B < w1.heap.size:=HSZ.out
 obtain ⟨hB2,hw1s⟩:=hBz
 clear HSZ w0
 have y1:=(HST.out.r 1 _ rfl).1
 have hl:=HL7.out
 have g7 : (1 : Int) < (r.kids.length : Int):=by omega
 have g7n : 1 < r.kids.length:=by omega
 have g6 : (0 : Int) < (r.tags.length : Int):=by omega
 have g6n : 0 < r.tags.length:=by omega
 clear hl HV
 have HB1:=kq HST.out.below
 have hD : Below w1.heap.size w1 w1.drew:=below_drewN (Below.refl _ _) 1
 have q7:=((HB1.out.trans (hD.mono HB1.out.size)).cell (cell_lt hc7)).trans hc7
 have q6:=((HB1.out.trans (hD.mono HB1.out.size)).cell (cell_lt hc6)).trans hc6
 replace HST:=kq (HST.out.later hD)
 have bx:=(HST.out.d 0 _ rfl).1
 have y6:=(HST.out.r 6 _ rfl).1
 have y7:=(HST.out.r 7 _ rfl).1
 have HRW:=kq (HRD.out.below HST.out.below)
 have HC6:=kq hc6
 have HC7:=kq hc7
 clear hc6 hc7 hD
 go_upto_region 6 with fail
 go_region_law (first | (go_simp; go_at_call 62; refine (HIH.out _ cap m w1.drew (by omega) (by omega) HRW.out).mono ?_; rintro e w6 ⟨cy,rfl,hown,hb6⟩; obtain ⟨xab,xcb,xai,xci,rfl⟩:=hown.cells; replace HST:=kq (HST.out.later hb6); have HB6 : Hid (w1.heap.size ≤ w6.heap.size):=hb6.size; have HOY:=kq hown; have y6b:=(HST.out.r 6 _ rfl).1; have q6b:=(HST.out.below.cell (cell_lt HC6.out)).trans HC6.out; have hA : Below w6.heap.size w6 (w6.alloc (.cells #[.int .i64 (defV rs n (m : Int)).number,.slice xab (defV rs n (m : Int)).bytes.length xcb,.slice xai (defV rs n (m : Int)).items.length xci] 29)):=(Below.refl _ _).alloc (Nat.le_refl _) _; have y6c:=((HST.out.later hA).r 6 _ rfl).1; have q6c:=((HST.out.later hA).below.cell (cell_lt HC6.out)).trans HC6.out; have HS7:=kq (HST.out.later hA); have HAX:=kq hA; obtain ⟨z0,t0⟩:=HS7.out.z 0 _ rfl; obtain ⟨z1,t1⟩:=HS7.out.z 1 _ rfl; obtain ⟨z2,t2⟩:=HS7.out.z 2 _ rfl; clear hown hb6 hA))
 all_goals (have HO9 : Hid (OwnV (fun b => B < b) (n + 1) (.mk tg [] [defV rs n (m : Int)]) [.int .i64 tg,.slice none 0 0,.slice (some ⟨w6.heap.size,0,none⟩) 1 1] (w6.alloc (.cells #[.int .i64 (defV rs n (m : Int)).number,.slice xab (defV rs n (m : Int)).bytes.length xcb,.slice xai (defV rs n (m : Int)).items.length xci] 29))):=(by
  have hBw : B < w6.heap.size:=HST.out.hB.2
  have hww:=HB6.out
  refine ⟨none,0,some ⟨w6.heap.size,0,none⟩,1,rfl,⟨(fun j h => by simp [ValueV.bytes] at h),(fun _ => rfl)⟩,(fun b off e => by cases e),(fun j h => ?_)⟩
  obtain rfl : j = 0:=by simp [ValueV.items] at h; omega
  refine ⟨_,_,_,rfl,hBw,HOY.out.below HAX.out (fun b _ h => by have h8 : w1.drew.heap.size ≤ b:=h; have h9 : w1.drew.heap.size = w1.heap.size:=rfl; show B < b; omega),(fun i u hu => ?_)⟩
  have:=(CellsAt.new w6 _ 29 i u hu).1
  simpa using this))
 all_goals (have HFI:=kq (HS7.out.fin HO9.out); clear HST HS7 HO9 HOY HAX HIH HRW)
 all_goals go_wp2
 all_goals (try simp only [Exit.inBlock,Exit.then])
 all_goals (refine bodyPost_ret (v:=.agg #[.int .i64 tg,.slice none 0 0,.slice (some ⟨w6.heap.size,0,none⟩) 1 1]) ?_ rfl ?_)
 all_goals first | (simp [results,Tryz.results62,go_sem,z0,z1,z2]; done) | (obtain ⟨h1,h2⟩:=HFI.out _ _ _; exact ⟨_,rfl,h1,h2⟩)
/- The contract of the model's l9Default: kind 9. -/
end Go.Proofs.YtfmnjclnhppghaaGreat
