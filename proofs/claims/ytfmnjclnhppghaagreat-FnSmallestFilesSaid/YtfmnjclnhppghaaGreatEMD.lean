/- The contract of the model's l7Mins: -/
import Derived.Test.YtfmnjclnhppghaaGreatEK
import Derived.Test.YtfmnjclnhppghaaGreatEQL
import Derived.Test.YtfmnjclnhppghaaGreatEGPu
import Derived.Deep.CutRange
import Derived.Deep.CutBlock
import Derived.Deep.RegionHeld3
import Derived.IntWalk
import Derived.Test.YtfmnjclnhppghaaGreatEGDI
import Derived.Test.YtfmnjclnhppghaaGreatEM1
set_option maxRecDepth 100000
namespace Go.Proofs.YtfmnjclnhppghaaGreat
open Go Go.RowKit
set_option maxHeartbeats 8000000 in
theorem mins_spec (a : Option Addr) (rs : List RuleV) (cap : Nat) (w : World) (hn : rs.length ≤ 24) (hv : allV (kindI rs) rs) (h : RdR a rs w) :
  Calls Tryz.prog 64 #[.agg #[.slice a rs.length cap]] w (IntsOut (tabTo minStep rs rs.length) w):=by
 obtain ⟨w0,hw0⟩ : ∃ w0,w0 = w.alloc (.cells #[.slice a rs.length cap] 26):=⟨_,rfl⟩
 have hB0:=zb1 hw0
 have hX0:=zk1 hw0
 have HB0:=kq hB0
 have HX0:=kq hX0
 have HR:=kq (h.below hB0)
 have hs0 : Hid (w0.heap.size = w.heap.size + 1):=by subst hw0; exact World.size_alloc _ _
 have hW:=kq hw0
 have HV:=kq hv
 clear h hB0 hX0 hw0 hv
 go_enter Tryz.func64,Tryz.ntmps64
 go_wp2
 rw [← hW.out]
 go_loopw [3,4] (fun v i W => ∃ (k : Nat) (zs : List Int) (v0 : Value),k ≤ rs.length ∧ i = .int .i64 k ∧ v0 = v ∧ Hid (W.ownsRow w0.heap.size 3 1 v0 zs.length (zs.map (Value.int .i64))) ∧ Hid (zs = tabTo minStep rs k) ∧ Hid (Below w0.heap.size w0 W)) (fun _ i _ => rs.length - (intOf i).toNat)
 case atStart =>
  refine ⟨0,[],_,Nat.zero_le _,rfl,rfl,?_,rfl,(Below.refl _ _).alloc (Nat.le_refl _) _⟩
  have hz : w0.heap.size = w.heap.size + 1:=hs0.out
  rw [← hz]
  exact World.ownsRow_made w0 #[] 0 (Nat.le_refl _) (Nat.zero_le _) rfl
 case round =>
  obtain ⟨k,zs,v0,hk,rfl,rfl,ho,hin,hbw⟩:=hrel
  have k0 : (0 : Int) ≤ (k : Int):=by omega
  have bx:=(HX0.out.below hbw.out 0 _ rfl).1
  by_cases hlt : k < rs.length
  case pos =>
   have k1 : (k : Int) < (rs.length : Int):=by omega
   have HZL : Hid (zs.length = k):=by show _ = _; rw [hin.out,tabTo_length _ _ _ hk]
   have hz24 : zs.length ≤ 24:=by have:=HZL.out; omega
   have HKI : Hid (kindI rs rs[k] = true):=allV_kind HV.out hlt
   have HKD:=kq (allV_kids HV.out hlt)
   have HIB : Hid (InB 401 zs):=by have:=mins_b HV.out k hk; rw [← hin.out] at this; exact this
   obtain ⟨b,off,a4,c4,a5,c5,a6,c6,a7,c7,rfl,⟨d0,d1,d2,d3,d4,d5,d6,d7⟩,r4,r5,r6,r7⟩:=(HR.out.below hbw.out).at k hlt
   have HNX : Hid (zs ++ [minStep zs rs[k]] = tabTo minStep rs (k + 1)):=by show _ = _; rw [tabTo_next hlt,← hin.out]
   have hof:=minOf_b HKI.out HIB.out
   obtain ⟨r,hr⟩ : ∃ r,r = rs[k]:=⟨_,rfl⟩
   rw [← hr] at d0 d1 d2 d3 d4 d5 d6 d7 r4 r5 r6 r7 HKI HKD HNX hof
   clear hr
   obtain ⟨w2,hw2⟩ : ∃ w2,w2 = wr.alloc (.cells #[.string r.name,.int .i64 r.kind,.int .i64 r.size,.bool r.little,.slice a4 r.bytes.length c4,.slice a5 r.names.length c5,.slice a6 r.tags.length c6,.slice a7 r.kids.length c7] 47):=⟨_,rfl⟩
   have hb2:=zb1 hw2
   have HC:=kq (zk1 hw2)
   have HX2:=kq ((HX0.out.below hbw.out).below hb2)
   have HB2:=kq (hbw.out.trans (hb2.mono hbw.out.size))
   have HR7:=kq (r7.below hb2)
   have HRE:=kq ((HR.out.below hbw.out).below hb2)
   have HO2:=kq (own_below ho.out hb2)
   obtain ⟨xo,co,hvo,hrow⟩:=own_row (f:=Value.int .i64) HO2.out
   subst hvo
   have HOR:=kq hrow.rd
   have hW2:=kq hw2
   clear hrow hb2 hw2 r4 r5 r6 r7 ho HX0 HR
   go_upto_block 2 with fail
   rw [← hW2.out]
   clear hW2 d0 d1 d2 d3 d4 d5 d6 d7 bx
   go_cut [6] from 10 to 112 (fun n W => ∃ z : Int,n = .int .i64 z ∧ Hid (min 401 z = min 401 (minOf zs r)) ∧ Hid (Below w2.heap.size w2 W))
   case first =>
    have HBR:=kq (Below.refl w2.heap.size w2)
    have hkn:=kindI_known HKI.out
    rcases (by omega : r.kind = 1 ∨ r.kind = 2 ∨ r.kind = 3 ∨ r.kind = 4 ∨ r.kind = 5 ∨ r.kind = 6 ∨ r.kind = 7 ∨ r.kind = 8 ∨ r.kind = 9 ∨ r.kind = 10) with hk | hk | hk | hk | hk | hk | hk | hk | hk | hk
    ·have c2:=(HC.out 2 _ rfl).1
     have HZ : Hid (r.size = minOf zs r):=by show _ = _; unfold minOf; simp [hk]
     rw [hk]
     go_wp2
     go_meet
     exact ⟨r.size,rfl,congrArg (min 401) HZ.out,HBR⟩
    ·have c4:=(HC.out 4 _ rfl).1
     have HZ : Hid ((r.bytes.length : Int) = minOf zs r):=by show _ = _; unfold minOf; simp [hk]
     rw [hk]
     go_wp2
     go_meet
     exact ⟨(r.bytes.length : Int),rfl,congrArg (min 401) HZ.out,HBR⟩
    ·have c2:=(HC.out 2 _ rfl).1
     have HZ : Hid (r.size = minOf zs r):=by show _ = _; unfold minOf; simp [hk]
     rw [hk]
     go_wp2
     go_meet
     exact ⟨r.size,rfl,congrArg (min 401) HZ.out,HBR⟩
    ·have hl:=kq (kindI_4 HKI.out hk)
     have h0 : 0 < r.kids.length:=by have:=hl.out; omega
     have g0 : (0 : Int) < (r.kids.length : Int):=by omega
     obtain ⟨m0,hm0,hmk0⟩:=kid_nat HKD.out (j:=0) h0
     obtain ⟨b0,o0,ha0,hc0⟩:=HR7.out.cellAt (j:=0) h0
     rw [hm0] at hc0
     obtain ⟨p0,q0,hp0,hq0⟩:=HOR.out.cellAt (j:=m0) (by have:=HZL.out; omega)
     have ht0:=tabAt_in (t:=zs) (k:=m0) (by have:=HZL.out; omega)
     have hi0:=HIB.out (m0 : Int)
     rw [ht0] at hi0
     have n0 : (0 : Int) ≤ (m0 : Int):=by omega
     have l0 : (m0 : Int) < (zs.length : Int):=by have:=HZL.out; omega
     subst ha0 hp0
     simp only [Nat.add_zero] at hc0
     have HK : Hid (tabAt zs (r.kids.getD 0 0) = zs[m0]'(by have:=HZL.out; omega)):=by show _ = _; rw [getD_at h0,hm0,ht0]
     clear ht0 hm0
     generalize zs[m0]'(by have:=HZL.out; omega) = y at hq0 hi0 HK
     have HZ : Hid (y = minOf zs r):=by show _ = _; unfold minOf; rw [HK.out]; simp [hk]
     have c7:=(HC.out 7 _ rfl).1
     rw [hk]
     go_wp2
     go_meet
     exact ⟨y,rfl,congrArg (min 401) HZ.out,HBR⟩
    ·have hl:=kq (kindI_5 HKI.out hk)
     have h0 : 0 < r.kids.length:=by have:=hl.out; omega
     have g0 : (0 : Int) < (r.kids.length : Int):=by omega
     obtain ⟨m0,hm0,hmk0⟩:=kid_nat HKD.out (j:=0) h0
     obtain ⟨b0,o0,ha0,hc0⟩:=HR7.out.cellAt (j:=0) h0
     rw [hm0] at hc0
     obtain ⟨p0,q0,hp0,hq0⟩:=HOR.out.cellAt (j:=m0) (by have:=HZL.out; omega)
     have ht0:=tabAt_in (t:=zs) (k:=m0) (by have:=HZL.out; omega)
     have hi0:=HIB.out (m0 : Int)
     rw [ht0] at hi0
     have n0 : (0 : Int) ≤ (m0 : Int):=by omega
     have l0 : (m0 : Int) < (zs.length : Int):=by have:=HZL.out; omega
     subst ha0 hp0
     simp only [Nat.add_zero] at hc0
     have HK : Hid (tabAt zs (r.kids.getD 0 0) = zs[m0]'(by have:=HZL.out; omega)):=by show _ = _; rw [getD_at h0,hm0,ht0]
     clear ht0 hm0
     generalize zs[m0]'(by have:=HZL.out; omega) = y at hq0 hi0 HK
     have HZ : Hid (y = minOf zs r):=by show _ = _; unfold minOf; rw [HK.out]; simp [hk]
     have c7:=(HC.out 7 _ rfl).1
     rw [hk]
     go_wp2
     go_meet
     exact ⟨y,rfl,congrArg (min 401) HZ.out,HBR⟩
    ·have hl:=kq (kindI_6 HKI.out hk)
     have hk8 : r.kids.length ≤ 8:=by have:=hl.out; omega
     have c7:=(HC.out 7 _ rfl).1
     have HF : Hid (∀ z,z = sumT zs r.kids → z = minOf zs r):=fun z hz => by rw [hz]; unfold minOf; simp [hk]
     rw [hk]
     go_wp2
     go_loop [6,7] (fun n i => ∃ (j : Nat) (z : Int),j ≤ r.kids.length ∧ i = .int .i64 j ∧ n = .int .i64 z ∧ Hid (z = sumT zs (r.kids.take j)) ∧ 0 ≤ z ∧ z ≤ 401 * (j : Int)) (fun _ i => r.kids.length - (intOf i).toNat)
     case atStart => exact ⟨0,0,Nat.zero_le _,rfl,rfl,rfl,by omega,by omega⟩
     case round =>
      obtain ⟨j,z,hjl,rfl,rfl,hz,hz0,hz1⟩:=hrel
      have j0 : (0 : Int) ≤ (j : Int):=by omega
      by_cases hj : j < r.kids.length
      ·have j1 : (j : Int) < (r.kids.length : Int):=by omega
       obtain ⟨m,hm,hmk⟩:=kid_nat HKD.out (j:=j) hj
       obtain ⟨b7,o7,ha7,hc7⟩:=HR7.out.cellAt (j:=j) hj
       have hnx:=kq (sumT_next (t:=zs) hj)
       rw [hm] at hc7 hnx
       obtain ⟨po,qo,hpo,hqo⟩:=HOR.out.cellAt (j:=m) (by have:=HZL.out; omega)
       have hto:=tabAt_in (t:=zs) (k:=m) (by have:=HZL.out; omega)
       rw [hto] at hnx
       have hio:=HIB.out (m : Int)
       rw [hto] at hio
       clear hto hm
       generalize zs[m]'(by have:=HZL.out; omega) = y at hqo hio hnx
       have n0 : (0 : Int) ≤ (m : Int):=by omega
       have l0 : (m : Int) < (zs.length : Int):=by have:=HZL.out; omega
       subst ha7 hpo
       have b0 : -9223372036854775808 ≤ z + y:=by omega
       have b1 : z + y ≤ 9223372036854775807:=by omega
       go_wp2
       go_round
       case rel => exact ⟨j + 1,z + y,by omega,by go_num,by go_num,by show _ = _; rw [hnx.out,← hz.out],by omega,by omega⟩
       case measure => simp [intOf]; omega
      ·have j1 : ¬ (j : Int) < (r.kids.length : Int):=by omega
       have hzz : Hid (z = sumT zs r.kids):=by have:=hz.out; rw [List.take_of_length_le (by omega)] at this; exact this
       have HZ:=kq (HF.out z hzz.out)
       go_wp2
       go_meet
       exact ⟨z,rfl,congrArg (min 401) HZ.out,HBR⟩
    ·have hl:=kq (kindI_7 HKI.out hk)
     have hk9 : r.kids.length ≤ 9:=by have:=hl.out; omega
     have hk2 : 2 ≤ r.kids.length:=by have:=hl.out; omega
     have c7:=(HC.out 7 _ rfl).1
     obtain ⟨m0,hm0,hmk0⟩:=kid_nat HKD.out (j:=0) (by omega)
     obtain ⟨b0,o0,ha0,hc0⟩:=HR7.out.cellAt (j:=0) (by omega)
     rw [hm0] at hc0
     obtain ⟨p0,q0,hp0,hq0⟩:=HOR.out.cellAt (j:=m0) (by have:=HZL.out; omega)
     have ht0:=tabAt_in (t:=zs) (k:=m0) (by have:=HZL.out; omega)
     have hi0:=HIB.out (m0 : Int)
     rw [ht0] at hi0
     have n0 : (0 : Int) ≤ (m0 : Int):=by omega
     have l0 : (m0 : Int) < (zs.length : Int):=by have:=HZL.out; omega
     subst ha0 hp0
     simp only [Nat.add_zero] at hc0
     have HK : Hid (tabAt zs (r.kids.getD 0 0) = zs[m0]'(by have:=HZL.out; omega)):=by show _ = _; rw [getD_at (by omega),hm0,ht0]
     clear ht0 hm0
     generalize zs[m0]'(by have:=HZL.out; omega) = y0 at hq0 hi0 HK
     obtain ⟨m1,hm1,hmk1⟩:=kid_nat HKD.out (j:=1) (by omega)
     obtain ⟨b1,o1,ha1,hc1⟩:=HR7.out.cellAt (j:=1) (by omega)
     rw [hm1] at hc1
     obtain ⟨p1,q1,hp1,hq1⟩:=HOR.out.cellAt (j:=m1) (by have:=HZL.out; omega)
     have ht1:=tabAt_in (t:=zs) (k:=m1) (by have:=HZL.out; omega)
     have hi1:=HIB.out (m1 : Int)
     rw [ht1] at hi1
     have n1 : (0 : Int) ≤ (m1 : Int):=by omega
     have l1 : (m1 : Int) < (zs.length : Int):=by have:=HZL.out; omega
     cases ha1
     cases hp1
     have HK1 : Hid (tabAt zs (r.kids.getD 1 0) = zs[m1]'(by have:=HZL.out; omega)):=by show _ = _; rw [getD_at (by omega),hm1,ht1]
     clear ht1 hm1
     generalize zs[m1]'(by have:=HZL.out; omega) = y1 at hq1 hi1 HK1
     have g0 : (0 : Int) < (r.kids.length : Int):=by omega
     have g1 : (1 : Int) < (r.kids.length : Int):=by omega
     have HF : Hid (∀ z,z = leastT zs (r.kids.drop 2) y1 → z + y0 = minOf zs r):=fun z hz => by rw [hz]; unfold minOf; rw [HK.out,HK1.out]; simp [hk]; omega
     rw [hk]
     go_wp2
     go_loop [6,8] (fun n i => ∃ (q : Nat) (z : Int),2 ≤ q ∧ q ≤ r.kids.length ∧ i = .int .i64 (q : Int) ∧ n = .int .i64 z ∧ Hid (z = leastT zs ((r.kids.drop 2).take (q - 2)) y1) ∧ 0 ≤ z ∧ z ≤ 401) (fun _ i => r.kids.length - (intOf i).toNat)
     case atStart => exact ⟨2,y1,Nat.le_refl _,by omega,rfl,rfl,rfl,by omega,by omega⟩
     case round =>
      obtain ⟨q,z,hqd,hql,rfl,rfl,hz,hz0,hz1⟩:=hrel
      have j0 : (0 : Int) ≤ (q : Int):=by omega
      by_cases hj : q < r.kids.length
      ·have j1 : (q : Int) < (r.kids.length : Int):=by omega
       have hjd : q - 2 < (r.kids.drop 2).length:=by rw [List.length_drop]; omega
       have HE : Hid ((r.kids.drop 2)[q - 2] = r.kids[q]):=by show _ = _; rw [List.getElem_drop]; congr 1; omega
       obtain ⟨m,hm,hmk⟩:=kid_nat HKD.out (j:=q) hj
       obtain ⟨b7,o7,ha7,hc7⟩:=HR7.out.cellAt (j:=q) hj
       have hnx:=kq (leastT_next (t:=zs) (ks:=r.kids.drop 2) (m:=y1) hjd)
       rw [HE.out] at hnx
       rw [hm] at hc7 hnx
       obtain ⟨po,qo,hpo,hqo⟩:=HOR.out.cellAt (j:=m) (by have:=HZL.out; omega)
       have hto:=tabAt_in (t:=zs) (k:=m) (by have:=HZL.out; omega)
       rw [hto] at hnx
       have hio:=HIB.out (m : Int)
       rw [hto] at hio
       clear hto hm
       generalize zs[m]'(by have:=HZL.out; omega) = y at hqo hio hnx
       have n0 : (0 : Int) ≤ (m : Int):=by omega
       have l0 : (m : Int) < (zs.length : Int):=by have:=HZL.out; omega
       cases ha7
       cases hpo
       go_wp2_with (go_at_call 107; refine (min_spec z y _).mono ?_; rintro e wx ⟨rfl,rfl⟩)
       go_round
       case rel => exact ⟨q + 1,min z y,by omega,by omega,by go_num,rfl,by show _ = _; rw [show q + 1 - 2 = q - 2 + 1 from by omega,hnx.out,← hz.out],by omega,by omega⟩
       case measure => simp [intOf]; omega
      ·have j1 : ¬ (q : Int) < (r.kids.length : Int):=by omega
       have hzz : Hid (z = leastT zs (r.kids.drop 2) y1):=by have:=hz.out; rw [List.take_of_length_le (by rw [List.length_drop]; omega)] at this; exact this
       have HZ:=kq (HF.out z hzz.out)
       go_wp2
       go_meet
       exact ⟨z + y0,rfl,congrArg (min 401) HZ.out,HBR⟩
    ·have HZ : Hid (1 = minOf zs r):=by show _ = _; unfold minOf; simp [hk]
     rw [hk]
     go_wp2
     go_meet
     exact ⟨1,rfl,congrArg (min 401) HZ.out,HBR⟩
    ·have hl:=kq (kindI_9 HKI.out hk)
     have h0 : 0 < r.kids.length:=by have:=hl.out; omega
     have g0 : (0 : Int) < (r.kids.length : Int):=by omega
     obtain ⟨m0,hm0,hmk0⟩:=kid_nat HKD.out (j:=0) h0
     obtain ⟨b0,o0,ha0,hc0⟩:=HR7.out.cellAt (j:=0) h0
     rw [hm0] at hc0
     obtain ⟨p0,q0,hp0,hq0⟩:=HOR.out.cellAt (j:=m0) (by have:=HZL.out; omega)
     have ht0:=tabAt_in (t:=zs) (k:=m0) (by have:=HZL.out; omega)
     have hi0:=HIB.out (m0 : Int)
     rw [ht0] at hi0
     have n0 : (0 : Int) ≤ (m0 : Int):=by omega
     have l0 : (m0 : Int) < (zs.length : Int):=by have:=HZL.out; omega
     subst ha0 hp0
     simp only [Nat.add_zero] at hc0
     have HK : Hid (tabAt zs (r.kids.getD 0 0) = zs[m0]'(by have:=HZL.out; omega)):=by show _ = _; rw [getD_at h0,hm0,ht0]
     clear ht0 hm0
     generalize zs[m0]'(by have:=HZL.out; omega) = y at hq0 hi0 HK
     have HZ : Hid (y + 1 = minOf zs r):=by show _ = _; unfold minOf; rw [HK.out]; simp [hk]
     have c7:=(HC.out 7 _ rfl).1
     rw [hk]
     go_wp2
     go_meet
     exact ⟨y + 1,rfl,congrArg (min 401) HZ.out,HBR⟩
    ·have HZ : Hid (1 = minOf zs r):=by show _ = _; unfold minOf; simp [hk]
     rw [hk]
     go_wp2
     go_meet
     exact ⟨1,rfl,congrArg (min 401) HZ.out,HBR⟩
   case rest =>
    obtain ⟨z,rfl,hz,hbc⟩:=hcut
    have HO3:=kq (own_below HO2.out hbc.out)
    have HB3:=kq (HB2.out.trans (hbc.out.mono HB2.out.size))
    have hst : Hid (min 401 z = minStep zs r):=by show _ = _; rw [hz.out]; rfl
    go_wp2_with fail
    refine (min_spec 401 z _).mono ?_
    rintro e wx ⟨rfl,rfl⟩
    rw [hst.out]
    generalize minStep zs r = y at HNX
    clear hst hz hbc
    go_wp2_with (at_builtin; refine wp_pushF (f:=Value.int .i64) 45 3 (.int .i64 0) 8 Tryz.underlying45 infoInt rfl rfl (.tmp 108) (.tmp 111) rfl w0.heap.size (.slice xo zs.length co) zs y rfl wc (by simp [Act.eval]) (by simp [Act.eval]) HO3.out (by unfold maxLen; omega) (by omega) HB3.out.size ?_)
    intro v' w' hown hgrow _
    have ho2 : Hid (w'.ownsRow w0.heap.size 3 1 v' (zs ++ [y]).length ((zs ++ [y]).map (Value.int .i64))):=by show World.ownsRow _ _ _ _ _ _ _; simpa using hown
    have hb4:=kq (HB3.out.grown hgrow HB3.out.size fun g hg => (World.ownsRow.lt HO3.out g hg).1)
    clear hown hgrow
    go_wp2
    go_roundw
    case rel => exact ⟨k + 1,zs ++ [y],v',by omega,by go_num,rfl,ho2,HNX,hb4⟩
    case measure => simp [intOf]; omega
  case neg =>
   have k1 : ¬ (k : Int) < (rs.length : Int):=by omega
   obtain rfl : k = rs.length:=by omega
   obtain ⟨x,c,rfl,hrow⟩:=own_row (f:=Value.int .i64) ho.out
   have HROW:=kq (hrow.more (B':=w.heap.size) (by have:=hs0.out; omega))
   rw [hin.out] at HROW
   have hll : Hid (zs.length = (tabTo minStep rs rs.length).length):=by show _ = _; rw [← hin.out]
   have HBW:=kq (HB0.out.trans (hbw.out.mono HB0.out.size))
   clear hrow ho
   go_wp2
   go_ret
   simp only [hll.out]
   exact ⟨x,c,rfl,HROW.out,HBW.out⟩
end Go.Proofs.YtfmnjclnhppghaaGreat
/- The contract of the model's l7Maxs: the table of the greatest lengths of all rules. -/
namespace Go.Proofs.YtfmnjclnhppghaaGreat
open Go Go.RowKit
end Go.Proofs.YtfmnjclnhppghaaGreat
/- Contracts of the model's MinSize,MaxSize,IsFixedSize. -/
namespace Go.Proofs.YtfmnjclnhppghaaGreat
open Go Go.RowKit
theorem minsize_spec (a : Option Addr) (rs : List RuleV) (cap : Nat) (k : Int) (w : World) (hl : rs.length ≤ 1048576) (hs : ∀ r ∈ rs,Short r) (hp : ∀ r ∈ rs,Spelt r) (h : RdC a rs w) :
  Calls Tryz.prog 23 #[.agg #[.slice a rs.length cap],.int .i64 k] w fun e w' => e = .returned (.int .i64 (sizeD minStep rs k)) ∧ Below w.heap.size w w':=by
 obtain ⟨w0,hw0⟩ : ∃ w0,w0 = w.alloc (.cells #[.slice a rs.length cap] 26):=⟨_,rfl⟩
 have hB0:=zb1 hw0
 have hX0:=zk1 hw0
 have bx:=(hX0 0 _ rfl).1
 have HX:=kq hX0
 have HB:=kq hB0
 have HC:=kq (h.below hB0)
 have HS:=kq hs
 have HP:=kq hp
 have hW:=kq hw0
 clear h hB0 hX0 hs hp hw0
 obtain ⟨b,hb⟩ : ∃ b,b = okAt rs k:=⟨_,rfl⟩
 have HO:=kq hb
 clear hb
 go_enter Tryz.func23,Tryz.ntmps23
 go_wp2_with fail
 rw [← hW.out]
 clear hW
 refine (l7_spec a rs cap k _ hl HS.out HP.out HC.out).mono ?_
 rintro e w1 ⟨rfl,hb1⟩
 rw [← HO.out]
 replace HX:=kq (HX.out.below hb1)
 replace HC:=kq (HC.out.below hb1)
 replace HB:=kq (HB.out.trans (hb1.mono HB.out.size))
 clear hb1 bx
 have bx:=(HX.out 0 _ rfl).1
 cases b with
 | false =>
  have hr:=kq (sizeD_no (f:=minStep) HO.out.symm)
  go_wp2
  go_ret
  exact ⟨ret_int hr.out.symm,HB.out⟩
 | true =>
  have hr:=kq (sizeD_yes (f:=minStep) HO.out.symm)
  obtain ⟨⟨k0,k1⟩,hn,hv⟩:=okAt_yes HO.out.symm
  have hn24:=hn.2
  obtain ⟨m,rfl⟩ : ∃ m : Nat,k = (m : Int):=⟨k.toNat,by omega⟩
  have hm : m < rs.length:=by omega
  have HV:=kq hv
  clear hv hn HO
  go_wp2_with fail
  refine (mins_spec a rs cap _ hn24 HV.out HC.out.rd).mono ?_
  rintro e w2 ⟨xt,ct,rfl,hrow,hb2⟩
  replace HB:=kq (HB.out.trans (hb2.mono HB.out.size))
  have hlt : m < (tabTo minStep rs rs.length).length:=by rw [tabTo_length _ _ _ (Nat.le_refl _)]; exact hm
  obtain ⟨bt,ot,rfl,hct⟩:=hrow.rd.cellAt hlt
  have hv2 : Hid (sizeD minStep rs (m : Int) = (tabTo minStep rs rs.length)[m]):=by show _ = _; rw [hr.out]; unfold sizeAt; rw [tabAt_in hlt]
  have l1 : (m : Int) < ((tabTo minStep rs rs.length).length : Int):=by omega
  clear hb2 hrow hr bx HX HC HV HS HP
  generalize (tabTo minStep rs rs.length)[m] = y at hct hv2
  generalize (tabTo minStep rs rs.length).length = n at l1
  clear hlt
  go_wp2
  go_ret
  exact ⟨ret_int hv2.out.symm,HB.out⟩
end Go.Proofs.YtfmnjclnhppghaaGreat
