/- The contract of the model's l11Print. -/
import Derived.Test.YtefkhknfjohnaaaGreatDoorEK
import Derived.Test.YtefkhknfjohnaaaGreatDoorEPW
import Derived.Test.YtefkhknfjohnaaaGreatDoorEPE
import Derived.Test.YtefkhknfjohnaaaGreatDoorEGD
import Derived.Test.YtefkhknfjohnaaaGreatDoorEGPu
import Derived.Test.YtefkhknfjohnaaaGreatDoorEGEnd
import Derived.Test.YtefkhknfjohnaaaGreatDoorEGNam
import Derived.Deep.RegionHeld3
set_option maxRecDepth 100000
set_option maxHeartbeats 16000000
namespace Go.Proofs.YtefkhknfjohnaaaGreatDoor
open Go Go.RowKit
def PrintE (a : Option Addr) (rs : List RuleV) (cap n : Nat) : Prop :=
 ∀ (v : ValueV) (vs : List Value) (k : Nat) (w : World),k < rs.length → RdR a rs w → IsVal n v vs w → validV rs (k : Int) v = true → plen rs (k : Int) v ≤ 1099511627776 →
  Calls Tryz.prog 131 #[.agg #[.slice a rs.length cap],.int .i64 (k : Int),.agg vs.toArray] w (OwnOut (encV rs (k : Int) v) w)
theorem printe_step (a : Option Addr) (rs : List RuleV) (cap n : Nat) (_hl : rs.length ≤ 1048576) (hall : allV (kindI rs) rs) (ih : PrintE a rs cap n) : PrintE a rs cap (n + 1):=by
 intro v vs k w hk hrd hv hval hpl
 have HPE : Hid (plen rs (k : Int) v = headLen rs rs[k] v.bytes + plens rs rs[k] v.number 0 v.items):=by show _ = _; rw [plen_eq,ruleAt_at hk]
 have HIK : Hid (∀ q (h : q < v.items.length),∃ m : Nat,itemR rs[k] v.number q = (m : Int) ∧ m < k ∧ validV rs (m : Int) v.items[q] = true):=(items_of hall hk hval).2
 have HOB : Hid (ownB rs rs[k] v = true):=(items_of hall hk hval).1
 have HI8 : Hid (rs[k].kind = 4 ∨ rs[k].kind = 5 ∨ rs[k].kind = 7 → (ruleAt rs (rs[k].kids.getD 0 0)).kind = 1 ∧ ∃ m : Nat,rs[k].kids.getD 0 0 = (m : Int) ∧ m < k):=fun h => kid_int hall hk h
 have HEV : Hid (encV rs (k : Int) v = wrapE rs rs[k] v.number v.bytes v.items.length (encs rs rs[k] v.number 0 v.items)):=by show _ = _; rw [encV_eq,ruleAt_at hk]
 have HEL:=kq (encV_length hall k hk v hval)
 obtain ⟨L,hL⟩ : ∃ L,L = plen rs (k : Int) v:=⟨_,rfl⟩
 obtain ⟨E,hE⟩ : ∃ E,E = encV rs (k : Int) v:=⟨_,rfl⟩
 rw [← hL] at HPE hpl HEL
 rw [← hE] at HEV HEL ⊢
 clear hL hE hval
 obtain ⟨ab,cb,ai,ci,rfl,hb,hit⟩:=hv
 obtain ⟨w0,hw0⟩ : ∃ w0,w0 = (w.alloc (.cells #[.slice a rs.length cap] 26)).alloc (.cells #[.int .i64 v.number,.slice ab v.bytes.length cb,.slice ai v.items.length ci] 48):=⟨_,rfl⟩
 have hB:=zb2 hw0
 have hD:=zk2 hw0
 have hVC:=zk3 hw0
 have HIT : Hid (∀ j (h : j < v.items.length),∃ b off cs',ai = some ⟨b,off,none⟩ ∧ IsVal n v.items[j] cs' w0 ∧ ∀ i u,cs'[i]? = some u → w0.cell? ⟨b,off + j * 3 + i,none⟩ = some u):=fun j hj => by obtain ⟨b,off,cs',e,h3,h4⟩:=hit j hj; exact ⟨b,off,cs',e,h3.below hB,fun i u hi => (hB.cell (cell_lt (h4 i u hi))).trans (h4 i u hi)⟩
 have hIV : IsVal (n + 1) v [.int .i64 v.number,.slice ab v.bytes.length cb,.slice ai v.items.length ci] w0:=⟨ab,cb,ai,ci,rfl,hb.below hB,HIT.out⟩
 obtain ⟨b0,off,a4,c4,a5,c5,a6,c6,a7,c7,rfl,⟨d0,d1,d2,d3,d4,d5,d6,d7⟩,r4,r5,r6,r7⟩:=(hrd.below hB).at k hk
 have HKI:=kq (allV_kind hall hk)
 obtain ⟨r,hr⟩ : ∃ r,r = rs[k]:=⟨_,rfl⟩
 rw [← hr] at HPE HIK HOB HI8 HEV d0 d1 d2 d3 d4 d5 d6 d7 r4 r5 r6 r7 HKI
 clear hr
 obtain ⟨w2,hw2⟩ : ∃ w2,w2 = w0.alloc (.cells #[.string r.name,.int .i64 r.kind,.int .i64 r.size,.bool r.little,.slice a4 r.bytes.length c4,.slice a5 r.names.length c5,.slice a6 r.tags.length c6,.slice a7 r.kids.length c7] 63):=⟨_,rfl⟩
 have hb2:=zb1 hw2
 have HC:=kq (zk1 hw2)
 have HD:=kq (hD.below hb2)
 have HVC:=kq (hVC.below hb2)
 have HIV:=kq (hIV.below hb2)
 have HIS : Hid (IsRule r [.string r.name,.int .i64 r.kind,.int .i64 r.size,.bool r.little,.slice a4 r.bytes.length c4,.slice a5 r.names.length c5,.slice a6 r.tags.length c6,.slice a7 r.kids.length c7] w2):=⟨a4,c4,a5,c5,a6,c6,a7,c7,rfl,r4.below hb2,r5.below hb2,r6.below hb2,r7.below hb2⟩
 have HRD:=kq ((hrd.below hB).below hb2)
 replace HIT : Hid (∀ j (h : j < v.items.length),∃ b off cs',ai = some ⟨b,off,none⟩ ∧ IsVal n v.items[j] cs' w2 ∧ ∀ i u,cs'[i]? = some u → w2.cell? ⟨b,off + j * 3 + i,none⟩ = some u):=fun j hj => by obtain ⟨b,off,cs',e,h3,h4⟩:=HIT.out j hj; exact ⟨b,off,cs',e,h3.below hb2,fun i u hi => (hb2.cell (cell_lt (h4 i u hi))).trans (h4 i u hi)⟩
 have HB:=kq (hB.trans (hb2.mono hB.size))
 have HIH:=kq ih
 have HALL:=kq hall
 have hW:=kq hw0
 have hW2:=kq hw2
 have bx:=(hD 0 _ rfl).1
 have k0 : (0 : Int) ≤ (k : Int):=by omega
 have k1 : (k : Int) < (rs.length : Int):=by omega
 have HVB:=kq ((hb.below hB).below hb2)
 have HR4:=kq (r4.below hb2)
 have HR7:=kq (r7.below hb2)
 clear hB hD hVC hIV hb2 hw0 hw2 hb hit hrd ih hall r4 r5 r6 r7
 go_enter Tryz.func131,Tryz.ntmps131
 go_upto_region 1 with fail
 rw [← hW.out]
 clear hW
 go_upto_region 2 with fail
 rw [← hW2.out]
 clear hW2 bx d0 d1 d2 d3 d4 d5 d6 d7
 obtain ⟨T,hT⟩ : ∃ T,T = plens rs r v.number 0 v.items:=⟨_,rfl⟩
 rw [← hT] at HPE
 have hil:=own_len HKI.out HOB.out
 have H0:=kq (OwnB.start w2)
 have HT0 : Hid (([] : List UInt8).length + plens rs r v.number 0 (v.items.drop 0) = T):=by show _ = _; rw [hT]; simp
 have hTL : T ≤ 1099511627776:=by have:=HPE.out; omega
 have HTD:=kq hT
 clear hT
 obtain ⟨I,hI⟩ : ∃ I,I = encs rs r v.number 0 v.items:=⟨_,rfl⟩
 rw [← hI] at HEV
 have HI0 : Hid (([] : List UInt8) ++ encs rs r v.number 0 (v.items.drop 0) = I):=by show _ = _; rw [hI]; simp
 clear hI
 go_wp2
 go_loopw [8,9] (fun z i W => ∃ (q : Nat) (acc : List UInt8),q ≤ v.items.length ∧ i = .int .i64 q ∧ Hid (OwnB w2.heap.size z acc W) ∧ Hid (acc.length + plens rs r v.number q (v.items.drop q) = T) ∧ Hid (acc ++ encs rs r v.number q (v.items.drop q) = I) ∧ Hid (Below w2.heap.size w2 W)) (fun _ i _ => v.items.length - (intOf i).toNat)
 case atStart => exact ⟨0,[],Nat.zero_le _,rfl,H0.out,HT0.out,HI0.out,(Below.refl _ _).alloc (Nat.le_refl _) _⟩
 case round =>
  obtain ⟨q,acc,hql,rfl,how,htl,hel,hbw⟩:=hrel
  have q0 : (0 : Int) ≤ (q : Int):=by omega
  have z2:=(HVC.out.below hbw.out 2 _ rfl).1
  have HBW:=kq (HB.out.trans (hbw.out.mono HB.out.size))
  by_cases hlt : q < v.items.length
  ·have q1 : (q : Int) < (v.items.length : Int):=by omega
   obtain ⟨m,hm,hmk,hvi⟩:=HIK.out q hlt
   have hnx:=kq (plens_next (rs:=rs) (r:=r) (x:=v.number) hlt)
   have hne:=kq (encs_next (rs:=rs) (r:=r) (x:=v.number) hlt)
   obtain ⟨bi,oi,cs',hai,hiv,hcc⟩:=HIT.out q hlt
   subst hai
   obtain ⟨ab',cb',ai',ci',rfl⟩:=hiv.cells
   rw [hm] at hnx hne
   have hmr : m < rs.length:=by omega
   have HM:=kq hm
   have HIV:=kq hiv
   have HVI:=kq hvi
   obtain ⟨it,hitt⟩ : ∃ it,it = v.items[q]:=⟨_,rfl⟩
   rw [← hitt] at hnx hne HIV HVI hcc hiv
   have x0:=hcc 0 _ rfl
   have x1:=hcc 1 _ rfl
   have x2:=hcc 2 _ rfl
   simp only [Nat.add_zero] at x0
   have HLI : Hid (plen rs (m : Int) it ≤ 1099511627776):=by show _ ≤ _; have h1:=hnx.out; have h2:=htl.out; omega
   have HLT : Hid (acc.length + plen rs (m : Int) it ≤ 1099511627776):=by show _ ≤ _; have h1:=hnx.out; have h2:=htl.out; omega
   obtain ⟨bs2,hbs2⟩ : ∃ bs2,bs2 = encV rs (m : Int) it:=⟨_,rfl⟩
   have HL2 : Hid (bs2.length = plen rs (m : Int) it):=by show _ = _; rw [hbs2]; exact encV_length HALL.out m hmr it HVI.out
   have HCI : Hid (∀ cs W,RdR (some ⟨b0,off,none⟩) rs W → IsVal n it cs W → Calls Tryz.prog 131 #[.agg #[.slice (some ⟨b0,off,none⟩) rs.length cap],.int .i64 (m : Int),.agg cs.toArray] W (OwnOut bs2 W)):=fun cs W h1 h2 => by rw [hbs2]; exact HIH.out it cs m W hmr h1 h2 HVI.out HLI.out
   rw [← hbs2] at hne
   clear hm hiv hcc hitt hvi hbs2
   have HSW : Hid (∀ W,Below w2.heap.size w2 W → W.cell? ⟨w.heap.size,0,none⟩ = some (.slice (some ⟨b0,off,none⟩) rs.length cap) ∧ W.cell? ⟨w0.heap.size,0,none⟩ = some (.string r.name) ∧ W.cell? ⟨w0.heap.size,1,none⟩ = some (.int .i64 r.kind) ∧ W.cell? ⟨w0.heap.size,2,none⟩ = some (.int .i64 r.size) ∧ W.cell? ⟨w0.heap.size,3,none⟩ = some (.bool r.little) ∧ W.cell? ⟨w0.heap.size,4,none⟩ = some (.slice a4 r.bytes.length c4) ∧ W.cell? ⟨w0.heap.size,5,none⟩ = some (.slice a5 r.names.length c5) ∧ W.cell? ⟨w0.heap.size,6,none⟩ = some (.slice a6 r.tags.length c6) ∧ W.cell? ⟨w0.heap.size,7,none⟩ = some (.slice a7 r.kids.length c7) ∧ W.cell? ⟨w.heap.size + 1,0,none⟩ = some (.int .i64 v.number) ∧ W.cell? ⟨w.heap.size + 1,1,none⟩ = some (.slice ab v.bytes.length cb) ∧ W.cell? ⟨w.heap.size + 1,2,none⟩ = some (.slice (some ⟨bi,oi,none⟩) v.items.length ci) ∧ W.cell? ⟨bi,oi + q * 3,none⟩ = some (.int .i64 it.number) ∧ W.cell? ⟨bi,oi + q * 3 + 1,none⟩ = some (.slice ab' it.bytes.length cb') ∧ W.cell? ⟨bi,oi + q * 3 + 2,none⟩ = some (.slice ai' it.items.length ci')):=fun W hW => ⟨(HD.out.below hW 0 _ rfl).1,(HC.out.below hW 0 _ rfl).1,(HC.out.below hW 1 _ rfl).1,(HC.out.below hW 2 _ rfl).1,(HC.out.below hW 3 _ rfl).1,(HC.out.below hW 4 _ rfl).1,(HC.out.below hW 5 _ rfl).1,(HC.out.below hW 6 _ rfl).1,(HC.out.below hW 7 _ rfl).1,(HVC.out.below hW 0 _ rfl).1,(HVC.out.below hW 1 _ rfl).1,(HVC.out.below hW 2 _ rfl).1,cell_keep hW x0,cell_keep hW x1,cell_keep hW x2⟩
   clear x0 x1 x2
   have HW0 : Hid (Below w2.heap.size w2 wr.drew):=below_drewN hbw.out 1
   have HOW : Hid (OwnB w2.heap.size u8 acc wr.drew):=own_below how.out (below_drewN (Below.refl _ wr) 1)
   go_upto_region 6 with fail
   clear z2
   go_region_held3 (fun W => W.cell? ⟨w.heap.size,0,none⟩ = some (.slice (some ⟨b0,off,none⟩) rs.length cap) ∧ W.cell? ⟨w0.heap.size,0,none⟩ = some (.string r.name) ∧ W.cell? ⟨w0.heap.size,1,none⟩ = some (.int .i64 r.kind) ∧ W.cell? ⟨w0.heap.size,2,none⟩ = some (.int .i64 r.size) ∧ W.cell? ⟨w0.heap.size,3,none⟩ = some (.bool r.little) ∧ W.cell? ⟨w0.heap.size,4,none⟩ = some (.slice a4 r.bytes.length c4) ∧ W.cell? ⟨w0.heap.size,5,none⟩ = some (.slice a5 r.names.length c5) ∧ W.cell? ⟨w0.heap.size,6,none⟩ = some (.slice a6 r.tags.length c6) ∧ W.cell? ⟨w0.heap.size,7,none⟩ = some (.slice a7 r.kids.length c7) ∧ W.cell? ⟨w.heap.size + 1,0,none⟩ = some (.int .i64 v.number) ∧ W.cell? ⟨w.heap.size + 1,1,none⟩ = some (.slice ab v.bytes.length cb) ∧ W.cell? ⟨w.heap.size + 1,2,none⟩ = some (.slice (some ⟨bi,oi,none⟩) v.items.length ci) ∧ W.cell? ⟨bi,oi + q * 3,none⟩ = some (.int .i64 it.number) ∧ W.cell? ⟨bi,oi + q * 3 + 1,none⟩ = some (.slice ab' it.bytes.length cb') ∧ W.cell? ⟨bi,oi + q * 3 + 2,none⟩ = some (.slice ai' it.items.length ci')) (exact HSW.out _ HW0.out) (first | (go_at_call 138; refine (item_spec rs r _ v.number q _ (by omega) HKI.out (HIS.out.below HW0.out)).mono ?_; rintro e w5 ⟨rfl,hb5⟩; rw [HM.out]; replace HOW:=kq (own_below HOW.out hb5); replace HW0:=kq (HW0.out.trans (hb5.mono HW0.out.size)); clear hb5) | (go_at_call 131; refine (HCI.out _ _ (HRD.out.below HW0.out) (HIV.out.below HW0.out)).mono ?_; rintro e w6 ⟨zz,rfl,ho2,hb6⟩; obtain ⟨a2,k2,rfl,hrow2⟩:=ho2.row; replace HOW:=kq (own_below HOW.out hb6); replace HW0:=kq (HW0.out.trans (hb6.mono HW0.out.size)); have HR2:=kq hrow2; clear hb6 ho2 hrow2) | (refine step_app rfl (.tmp 24) (.tmp 36) rfl w2.heap.size u8 acc bs2 a2 k2 (by simp [Act.eval]) (by simp [Act.eval]) HOW.out ⟨HR2.out.rd,HR2.out.2.2⟩ (by rw [HL2.out]; exact HLT.out) HW0.out.size ?_; intro v3 w7 ho3 hg3; have HO3:=kq ho3; replace HW0:=kq (app_frame HW0.out HW0.out.size HOW.out hg3); clear ho3 hg3))
   have HTN : Hid ((acc ++ bs2).length + plens rs r v.number (q + 1) (v.items.drop (q + 1)) = T):=by show _ = _; have h1:=hnx.out; have h2:=htl.out; have h3:=HL2.out; rw [List.length_append]; omega
   have HEN : Hid ((acc ++ bs2) ++ encs rs r v.number (q + 1) (v.items.drop (q + 1)) = I):=by show _ = _; rw [List.append_assoc,← hne.out]; exact hel.out
   go_wp2
   go_roundw
   case rel => exact ⟨q + 1,acc ++ bs2,by omega,by go_num,HO3.out,HTN.out,HEN.out,HW0.out⟩
   case measure => simp [intOf]; omega
  ·have q1 : ¬ (q : Int) < (v.items.length : Int):=by omega
   have HTE : Hid (acc.length = T):=by show _ = _; have h1:=htl.out; rw [List.drop_of_length_le (by omega),plens] at h1; omega
   have y1:=(HC.out.below hbw.out 1 _ rfl).1
   have HAE : Hid (acc = I):=by show _ = _; have h1:=hel.out; rw [List.drop_of_length_le (by omega),encs,List.append_nil] at h1; exact h1
   obtain rfl : acc = I:=HAE.out
   have HOZ : Hid (OwnB w.heap.size u8 acc wr):=how.out.more HB.out.size
   have hkn:=kindI_known HKI.out
   rcases (by omega : r.kind = 1 ∨ r.kind = 2 ∨ r.kind = 3 ∨ r.kind = 4 ∨ r.kind = 5 ∨ r.kind = 6 ∨ r.kind = 7 ∨ r.kind = 8 ∨ r.kind = 9 ∨ r.kind = 10) with hkd | hkd | hkd | hkd | hkd | hkd | hkd | hkd | hkd | hkd
   ·have HK:=kq hkd
    rw [hkd] at y1
    clear hkd hkn
    have y0:=(HC.out.below hbw.out 0 _ rfl).1
    have y2:=(HC.out.below hbw.out 2 _ rfl).1
    have y3:=(HC.out.below hbw.out 3 _ rfl).1
    have y4:=(HC.out.below hbw.out 4 _ rfl).1
    have y5:=(HC.out.below hbw.out 5 _ rfl).1
    have y6:=(HC.out.below hbw.out 6 _ rfl).1
    have y7:=(HC.out.below hbw.out 7 _ rfl).1
    have z0:=(HVC.out.below hbw.out 0 _ rfl).1
    have HBS : Hid (E = encI r.little v.number r.size):=by show _ = _; rw [HEV.out,wrap_1 HK.out]
    have HCL:=kq (int8_spec r [.string r.name,.int .i64 r.kind,.int .i64 r.size,.bool r.little,.slice a4 r.bytes.length c4,.slice a5 r.names.length c5,.slice a6 r.tags.length c6,.slice a7 r.kids.length c7] v.number wr (HIS.out.below hbw.out))
    rw [← HBS.out,HK.out] at HCL
    clear HBS
    go_wp2_with fail
    refine HCL.out.mono ?_
    rintro e w5 ⟨z5,rfl,ho5,hb5⟩
    have HO5:=kq (ho5.more HBW.out.size)
    have HB5:=kq (HBW.out.trans (hb5.mono HBW.out.size))
    clear ho5 hb5
    go_wp2
    go_ret
    exact ⟨z5,rfl,HO5.out,HB5.out⟩
   ·have HK:=kq hkd
    rw [hkd] at y1
    clear hkd hkn
    have y4:=(HC.out.below hbw.out 4 _ rfl).1
    have HLX : Hid (r.bytes = E):=by show _ = _; rw [HEV.out,wrap_2 HK.out]
    have HLE : Hid (r.bytes.length = L):=by show _ = _; rw [HLX.out]; exact HEL.out
    have HSR : Hid (Src1 a4 r.bytes c4 wr):=src_of (HR4.out.below hbw.out) (by have:=kindI_2 HKI.out HK.out; omega)
    have HOA:=kq (OwnB.start wr)
    have HBA:=kq ((Below.refl wr.heap.size wr).alloc (Nat.le_refl _) (.cells #[] 5))
    have y4b:=(HC.out.below (hbw.out.trans (HBA.out.mono hbw.out.size)) 4 _ rfl).1
    go_wp2_with (at_builtin; refine wp_app rfl _ _ rfl wr.heap.size (.slice (some ⟨wr.heap.size,0,none⟩) 0 0) [] r.bytes a4 c4 _ rfl rfl HOA.out (HSR.out.below HBA.out) (by have:=HLE.out; simp; omega) HBA.out.size ?_)
    intro v5 w5 ho5 hg5
    (try rw [List.nil_append] at ho5)
    have HB5:=kq (HBW.out.trans ((app_frame HBA.out HBA.out.size HOA.out hg5).mono HBW.out.size))
    have HO5:=kq (ho5.more HBW.out.size)
    clear ho5 hg5
    go_wp2
    go_ret
    exact ⟨v5,rfl,by rw [← HLX.out]; exact HO5.out,HB5.out⟩
   ·have HK:=kq hkd
    rw [hkd] at y1
    clear hkd hkn
    have z1:=(HVC.out.below hbw.out 1 _ rfl).1
    have HLX : Hid (v.bytes = E):=by show _ = _; rw [HEV.out,wrap_3 HK.out]
    have HLE : Hid (v.bytes.length = L):=by show _ = _; rw [HLX.out]; exact HEL.out
    have HSR : Hid (Src1 ab v.bytes cb wr):=HVB.out.below hbw.out
    have HOA:=kq (OwnB.start wr)
    have HBA:=kq ((Below.refl wr.heap.size wr).alloc (Nat.le_refl _) (.cells #[] 5))
    have z1b:=(HVC.out.below (hbw.out.trans (HBA.out.mono hbw.out.size)) 1 _ rfl).1
    go_wp2_with (at_builtin; refine wp_app rfl _ _ rfl wr.heap.size (.slice (some ⟨wr.heap.size,0,none⟩) 0 0) [] v.bytes ab cb _ rfl rfl HOA.out (HSR.out.below HBA.out) (by have:=HLE.out; simp; omega) HBA.out.size ?_)
    intro v5 w5 ho5 hg5
    (try rw [List.nil_append] at ho5)
    have HB5:=kq (HBW.out.trans ((app_frame HBA.out HBA.out.size HOA.out hg5).mono HBW.out.size))
    have HO5:=kq (ho5.more HBW.out.size)
    clear ho5 hg5
    go_wp2
    go_ret
    exact ⟨v5,rfl,by rw [← HLX.out]; exact HO5.out,HB5.out⟩
   ·have HK:=kq hkd
    rw [hkd] at y1
    clear hkd hkn
    have hkl : 0 < r.kids.length:=by have:=kindI_4 HKI.out HK.out; omega
    obtain ⟨hk1,m,hm,hmk⟩:=HI8.out (by rw [HK.out]; omega)
    have hmr : m < rs.length:=by omega
    rw [hm,ruleAt_at hmr] at hk1
    have HLX : Hid ((encI rs[m].little ((v.bytes.length : Nat) : Int) rs[m].size ++ v.bytes) = E):=by show _ = _; rw [HEV.out,wrap_4 hmr hm HK.out]
    have HLE : Hid ((encI rs[m].little ((v.bytes.length : Nat) : Int) rs[m].size ++ v.bytes).length = L):=by show _ = _; rw [HLX.out]; exact HEL.out
    obtain ⟨b7,o7,hx7,hk7⟩:=HR7.out.cellAt hkl
    rw [show r.kids[0] = (m : Int) from (getD_at hkl).symm.trans hm] at hk7
    simp only [Nat.add_zero] at hk7
    subst hx7
    obtain ⟨b0',off',e4,f4,e5,f5,e6,f6,e7,f7,hab,⟨g0,g1,g2,g3,g4,g5,g6,g7⟩,s4,s5,s6,s7⟩:=HRD.out.at m hmr
    cases hab
    have HIS2 : Hid (IsRule rs[m] [.string rs[m].name,.int .i64 rs[m].kind,.int .i64 rs[m].size,.bool rs[m].little,.slice e4 rs[m].bytes.length f4,.slice e5 rs[m].names.length f5,.slice e6 rs[m].tags.length f6,.slice e7 rs[m].kids.length f7] w2):=⟨e4,f4,e5,f5,e6,f6,e7,f7,rfl,s4,s5,s6,s7⟩
    clear s4 s5 s6 s7 hm hk1
    generalize rs[m] = r2 at *
    obtain ⟨bs,hbs⟩ : ∃ bs,bs = encI r2.little ((v.bytes.length : Nat) : Int) r2.size:=⟨_,rfl⟩
    rw [← hbs] at HLE HLX
    have HBS:=kq hbs
    clear hbs
    have HSW : Hid (∀ W,Below w2.heap.size w2 W → W.cell? ⟨w.heap.size,0,none⟩ = some (.slice (some ⟨b0,off,none⟩) rs.length cap) ∧ W.cell? ⟨w0.heap.size,0,none⟩ = some (.string r.name) ∧ W.cell? ⟨w0.heap.size,1,none⟩ = some (.int .i64 4) ∧ W.cell? ⟨w0.heap.size,2,none⟩ = some (.int .i64 r.size) ∧ W.cell? ⟨w0.heap.size,3,none⟩ = some (.bool r.little) ∧ W.cell? ⟨w0.heap.size,4,none⟩ = some (.slice a4 r.bytes.length c4) ∧ W.cell? ⟨w0.heap.size,5,none⟩ = some (.slice a5 r.names.length c5) ∧ W.cell? ⟨w0.heap.size,6,none⟩ = some (.slice a6 r.tags.length c6) ∧ W.cell? ⟨w0.heap.size,7,none⟩ = some (.slice (some ⟨b7,o7,none⟩) r.kids.length c7) ∧ W.cell? ⟨w.heap.size + 1,0,none⟩ = some (.int .i64 v.number) ∧ W.cell? ⟨w.heap.size + 1,1,none⟩ = some (.slice ab v.bytes.length cb) ∧ W.cell? ⟨w.heap.size + 1,2,none⟩ = some (.slice ai v.items.length ci) ∧ W.cell? ⟨b7,o7,none⟩ = some (.int .i64 m) ∧ W.cell? ⟨b0,off + m * 8,none⟩ = some (.string r2.name) ∧ W.cell? ⟨b0,off + m * 8 + 1,none⟩ = some (.int .i64 r2.kind) ∧ W.cell? ⟨b0,off + m * 8 + 2,none⟩ = some (.int .i64 r2.size) ∧ W.cell? ⟨b0,off + m * 8 + 3,none⟩ = some (.bool r2.little) ∧ W.cell? ⟨b0,off + m * 8 + 4,none⟩ = some (.slice e4 r2.bytes.length f4) ∧ W.cell? ⟨b0,off + m * 8 + 5,none⟩ = some (.slice e5 r2.names.length f5) ∧ W.cell? ⟨b0,off + m * 8 + 6,none⟩ = some (.slice e6 r2.tags.length f6) ∧ W.cell? ⟨b0,off + m * 8 + 7,none⟩ = some (.slice e7 r2.kids.length f7)):=fun W hW => ⟨(HD.out.below hW 0 _ rfl).1,(HC.out.below hW 0 _ rfl).1,(by rw [← HK.out]; exact (HC.out.below hW 1 _ rfl).1),(HC.out.below hW 2 _ rfl).1,(HC.out.below hW 3 _ rfl).1,(HC.out.below hW 4 _ rfl).1,(HC.out.below hW 5 _ rfl).1,(HC.out.below hW 6 _ rfl).1,(HC.out.below hW 7 _ rfl).1,(HVC.out.below hW 0 _ rfl).1,(HVC.out.below hW 1 _ rfl).1,(HVC.out.below hW 2 _ rfl).1,cell_keep hW hk7,cell_keep hW g0,cell_keep hW g1,cell_keep hW g2,cell_keep hW g3,cell_keep hW g4,cell_keep hW g5,cell_keep hW g6,cell_keep hW g7⟩
    clear hk7 g0 g1 g2 g3 g4 g5 g6 g7
    have HW1 : Hid (Below wr.heap.size wr wr.drew):=below_drewN (Below.refl _ wr) 1
    have m0 : (0 : Int) ≤ (m : Int):=by omega
    have m1 : (m : Int) < (rs.length : Int):=by omega
    have kl0 : (0 : Int) < (r.kids.length : Int):=by omega
    go_upto_region 13 with fail
    clear y1 z2
    go_region_held3 (fun W => W.cell? ⟨w.heap.size,0,none⟩ = some (.slice (some ⟨b0,off,none⟩) rs.length cap) ∧ W.cell? ⟨w0.heap.size,0,none⟩ = some (.string r.name) ∧ W.cell? ⟨w0.heap.size,1,none⟩ = some (.int .i64 4) ∧ W.cell? ⟨w0.heap.size,2,none⟩ = some (.int .i64 r.size) ∧ W.cell? ⟨w0.heap.size,3,none⟩ = some (.bool r.little) ∧ W.cell? ⟨w0.heap.size,4,none⟩ = some (.slice a4 r.bytes.length c4) ∧ W.cell? ⟨w0.heap.size,5,none⟩ = some (.slice a5 r.names.length c5) ∧ W.cell? ⟨w0.heap.size,6,none⟩ = some (.slice a6 r.tags.length c6) ∧ W.cell? ⟨w0.heap.size,7,none⟩ = some (.slice (some ⟨b7,o7,none⟩) r.kids.length c7) ∧ W.cell? ⟨w.heap.size + 1,0,none⟩ = some (.int .i64 v.number) ∧ W.cell? ⟨w.heap.size + 1,1,none⟩ = some (.slice ab v.bytes.length cb) ∧ W.cell? ⟨w.heap.size + 1,2,none⟩ = some (.slice ai v.items.length ci) ∧ W.cell? ⟨b7,o7,none⟩ = some (.int .i64 m) ∧ W.cell? ⟨b0,off + m * 8,none⟩ = some (.string r2.name) ∧ W.cell? ⟨b0,off + m * 8 + 1,none⟩ = some (.int .i64 r2.kind) ∧ W.cell? ⟨b0,off + m * 8 + 2,none⟩ = some (.int .i64 r2.size) ∧ W.cell? ⟨b0,off + m * 8 + 3,none⟩ = some (.bool r2.little) ∧ W.cell? ⟨b0,off + m * 8 + 4,none⟩ = some (.slice e4 r2.bytes.length f4) ∧ W.cell? ⟨b0,off + m * 8 + 5,none⟩ = some (.slice e5 r2.names.length f5) ∧ W.cell? ⟨b0,off + m * 8 + 6,none⟩ = some (.slice e6 r2.tags.length f6) ∧ W.cell? ⟨b0,off + m * 8 + 7,none⟩ = some (.slice e7 r2.kids.length f7)) (exact HSW.out _ (hbw.out.trans (HW1.out.mono hbw.out.size))) (first | (go_at_call 187; refine (int8_spec r2 _ ((v.bytes.length : Nat) : Int) _ (HIS2.out.below (hbw.out.trans (HW1.out.mono hbw.out.size)))).mono ?_; rintro e w5 ⟨zz,rfl,ho5,hb5⟩; rw [← HBS.out] at ho5; have HO5:=kq (ho5.more HW1.out.size); replace HW1:=kq (HW1.out.trans (hb5.mono HW1.out.size)); clear ho5 hb5) | (refine step_app rfl (.tmp 65) (.tmp 67) rfl wr.heap.size zz bs v.bytes ab cb (by simp [Act.eval]) (by simp [Act.eval]) HO5.out (HVB.out.below (hbw.out.trans (HW1.out.mono hbw.out.size))) (by have:=HLE.out; rw [List.length_append] at this; omega) HW1.out.size ?_; intro v3 w7 ho3 hg3; have HO3:=kq (ho3.more HBW.out.size); replace HW1:=kq (app_frame HW1.out HW1.out.size HO5.out hg3); clear ho3 hg3))
    have HBF:=kq (HBW.out.trans (HW1.out.mono HBW.out.size))
    go_wp2
    go_ret
    exact ⟨v3,rfl,by rw [← HLX.out]; exact HO3.out,HBF.out⟩
   ·have HK:=kq hkd
    rw [hkd] at y1
    clear hkd hkn
    have hkl : 0 < r.kids.length:=by have:=kindI_5 HKI.out HK.out; omega
    obtain ⟨hk1,m,hm,hmk⟩:=HI8.out (by rw [HK.out]; omega)
    have hmr : m < rs.length:=by omega
    rw [hm,ruleAt_at hmr] at hk1
    obtain ⟨a9,c9,rfl,hrow9⟩:=how.out.row
    have HR9:=kq hrow9
    clear hrow9
    have HLX : Hid ((encI rs[m].little ((v.items.length : Nat) : Int) rs[m].size ++ acc) = E):=by show _ = _; rw [HEV.out,wrap_5 hmr hm HK.out]
    have HLE : Hid ((encI rs[m].little ((v.items.length : Nat) : Int) rs[m].size ++ acc).length = L):=by show _ = _; rw [HLX.out]; exact HEL.out
    obtain ⟨b7,o7,hx7,hk7⟩:=HR7.out.cellAt hkl
    rw [show r.kids[0] = (m : Int) from (getD_at hkl).symm.trans hm] at hk7
    simp only [Nat.add_zero] at hk7
    subst hx7
    obtain ⟨b0',off',e4,f4,e5,f5,e6,f6,e7,f7,hab,⟨g0,g1,g2,g3,g4,g5,g6,g7⟩,s4,s5,s6,s7⟩:=HRD.out.at m hmr
    cases hab
    have HIS2 : Hid (IsRule rs[m] [.string rs[m].name,.int .i64 rs[m].kind,.int .i64 rs[m].size,.bool rs[m].little,.slice e4 rs[m].bytes.length f4,.slice e5 rs[m].names.length f5,.slice e6 rs[m].tags.length f6,.slice e7 rs[m].kids.length f7] w2):=⟨e4,f4,e5,f5,e6,f6,e7,f7,rfl,s4,s5,s6,s7⟩
    clear s4 s5 s6 s7 hm hk1
    generalize rs[m] = r2 at *
    obtain ⟨bs,hbs⟩ : ∃ bs,bs = encI r2.little ((v.items.length : Nat) : Int) r2.size:=⟨_,rfl⟩
    rw [← hbs] at HLE HLX
    have HBS:=kq hbs
    clear hbs
    have HSW : Hid (∀ W,Below w2.heap.size w2 W → W.cell? ⟨w.heap.size,0,none⟩ = some (.slice (some ⟨b0,off,none⟩) rs.length cap) ∧ W.cell? ⟨w0.heap.size,0,none⟩ = some (.string r.name) ∧ W.cell? ⟨w0.heap.size,1,none⟩ = some (.int .i64 5) ∧ W.cell? ⟨w0.heap.size,2,none⟩ = some (.int .i64 r.size) ∧ W.cell? ⟨w0.heap.size,3,none⟩ = some (.bool r.little) ∧ W.cell? ⟨w0.heap.size,4,none⟩ = some (.slice a4 r.bytes.length c4) ∧ W.cell? ⟨w0.heap.size,5,none⟩ = some (.slice a5 r.names.length c5) ∧ W.cell? ⟨w0.heap.size,6,none⟩ = some (.slice a6 r.tags.length c6) ∧ W.cell? ⟨w0.heap.size,7,none⟩ = some (.slice (some ⟨b7,o7,none⟩) r.kids.length c7) ∧ W.cell? ⟨w.heap.size + 1,0,none⟩ = some (.int .i64 v.number) ∧ W.cell? ⟨w.heap.size + 1,1,none⟩ = some (.slice ab v.bytes.length cb) ∧ W.cell? ⟨w.heap.size + 1,2,none⟩ = some (.slice ai v.items.length ci) ∧ W.cell? ⟨b7,o7,none⟩ = some (.int .i64 m) ∧ W.cell? ⟨b0,off + m * 8,none⟩ = some (.string r2.name) ∧ W.cell? ⟨b0,off + m * 8 + 1,none⟩ = some (.int .i64 r2.kind) ∧ W.cell? ⟨b0,off + m * 8 + 2,none⟩ = some (.int .i64 r2.size) ∧ W.cell? ⟨b0,off + m * 8 + 3,none⟩ = some (.bool r2.little) ∧ W.cell? ⟨b0,off + m * 8 + 4,none⟩ = some (.slice e4 r2.bytes.length f4) ∧ W.cell? ⟨b0,off + m * 8 + 5,none⟩ = some (.slice e5 r2.names.length f5) ∧ W.cell? ⟨b0,off + m * 8 + 6,none⟩ = some (.slice e6 r2.tags.length f6) ∧ W.cell? ⟨b0,off + m * 8 + 7,none⟩ = some (.slice e7 r2.kids.length f7)):=fun W hW => ⟨(HD.out.below hW 0 _ rfl).1,(HC.out.below hW 0 _ rfl).1,(by rw [← HK.out]; exact (HC.out.below hW 1 _ rfl).1),(HC.out.below hW 2 _ rfl).1,(HC.out.below hW 3 _ rfl).1,(HC.out.below hW 4 _ rfl).1,(HC.out.below hW 5 _ rfl).1,(HC.out.below hW 6 _ rfl).1,(HC.out.below hW 7 _ rfl).1,(HVC.out.below hW 0 _ rfl).1,(HVC.out.below hW 1 _ rfl).1,(HVC.out.below hW 2 _ rfl).1,cell_keep hW hk7,cell_keep hW g0,cell_keep hW g1,cell_keep hW g2,cell_keep hW g3,cell_keep hW g4,cell_keep hW g5,cell_keep hW g6,cell_keep hW g7⟩
    clear hk7 g0 g1 g2 g3 g4 g5 g6 g7
    have HW1 : Hid (Below wr.heap.size wr wr.drew):=below_drewN (Below.refl _ wr) 1
    have m0 : (0 : Int) ≤ (m : Int):=by omega
    have m1 : (m : Int) < (rs.length : Int):=by omega
    have kl0 : (0 : Int) < (r.kids.length : Int):=by omega
    go_upto_region 15 with fail
    clear y1 z2
    go_region_held3 (fun W => W.cell? ⟨w.heap.size,0,none⟩ = some (.slice (some ⟨b0,off,none⟩) rs.length cap) ∧ W.cell? ⟨w0.heap.size,0,none⟩ = some (.string r.name) ∧ W.cell? ⟨w0.heap.size,1,none⟩ = some (.int .i64 5) ∧ W.cell? ⟨w0.heap.size,2,none⟩ = some (.int .i64 r.size) ∧ W.cell? ⟨w0.heap.size,3,none⟩ = some (.bool r.little) ∧ W.cell? ⟨w0.heap.size,4,none⟩ = some (.slice a4 r.bytes.length c4) ∧ W.cell? ⟨w0.heap.size,5,none⟩ = some (.slice a5 r.names.length c5) ∧ W.cell? ⟨w0.heap.size,6,none⟩ = some (.slice a6 r.tags.length c6) ∧ W.cell? ⟨w0.heap.size,7,none⟩ = some (.slice (some ⟨b7,o7,none⟩) r.kids.length c7) ∧ W.cell? ⟨w.heap.size + 1,0,none⟩ = some (.int .i64 v.number) ∧ W.cell? ⟨w.heap.size + 1,1,none⟩ = some (.slice ab v.bytes.length cb) ∧ W.cell? ⟨w.heap.size + 1,2,none⟩ = some (.slice ai v.items.length ci) ∧ W.cell? ⟨b7,o7,none⟩ = some (.int .i64 m) ∧ W.cell? ⟨b0,off + m * 8,none⟩ = some (.string r2.name) ∧ W.cell? ⟨b0,off + m * 8 + 1,none⟩ = some (.int .i64 r2.kind) ∧ W.cell? ⟨b0,off + m * 8 + 2,none⟩ = some (.int .i64 r2.size) ∧ W.cell? ⟨b0,off + m * 8 + 3,none⟩ = some (.bool r2.little) ∧ W.cell? ⟨b0,off + m * 8 + 4,none⟩ = some (.slice e4 r2.bytes.length f4) ∧ W.cell? ⟨b0,off + m * 8 + 5,none⟩ = some (.slice e5 r2.names.length f5) ∧ W.cell? ⟨b0,off + m * 8 + 6,none⟩ = some (.slice e6 r2.tags.length f6) ∧ W.cell? ⟨b0,off + m * 8 + 7,none⟩ = some (.slice e7 r2.kids.length f7)) (exact HSW.out _ (hbw.out.trans (HW1.out.mono hbw.out.size))) (first | (go_at_call 187; refine (int8_spec r2 _ ((v.items.length : Nat) : Int) _ (HIS2.out.below (hbw.out.trans (HW1.out.mono hbw.out.size)))).mono ?_; rintro e w5 ⟨zz,rfl,ho5,hb5⟩; rw [← HBS.out] at ho5; have HO5:=kq (ho5.more HW1.out.size); replace HW1:=kq (HW1.out.trans (hb5.mono HW1.out.size)); clear ho5 hb5) | (refine step_app rfl (.tmp 82) (.tmp 83) rfl wr.heap.size zz bs acc a9 c9 (by simp [Act.eval]) (by simp [Act.eval]) HO5.out ((HR9.out.below HW1.out).src) (by have:=HLE.out; rw [List.length_append] at this; omega) HW1.out.size ?_; intro v3 w7 ho3 hg3; have HO3:=kq (ho3.more HBW.out.size); replace HW1:=kq (app_frame HW1.out HW1.out.size HO5.out hg3); clear ho3 hg3))
    have HBF:=kq (HBW.out.trans (HW1.out.mono HBW.out.size))
    go_wp2
    go_ret
    exact ⟨v3,rfl,by rw [← HLX.out]; exact HO3.out,HBF.out⟩
   ·have HK:=kq hkd
    rw [hkd] at y1
    clear hkd hkn
    have HLX : Hid (acc = E):=by show _ = _; rw [HEV.out,wrap_6 HK.out]
    go_wp2
    go_ret
    exact ⟨u8,rfl,by rw [← HLX.out]; exact HOZ.out,HBW.out⟩
   ·have HK:=kq hkd
    rw [hkd] at y1
    clear hkd hkn
    have hkl : 0 < r.kids.length:=by have:=kindI_7 HKI.out HK.out; omega
    obtain ⟨hk1,m,hm,hmk⟩:=HI8.out (by rw [HK.out]; omega)
    have hmr : m < rs.length:=by omega
    rw [hm,ruleAt_at hmr] at hk1
    obtain ⟨a9,c9,rfl,hrow9⟩:=how.out.row
    have HR9:=kq hrow9
    clear hrow9
    have HLX : Hid ((encI rs[m].little v.number rs[m].size ++ acc) = E):=by show _ = _; rw [HEV.out,wrap_7 hmr hm HK.out]
    have HLE : Hid ((encI rs[m].little v.number rs[m].size ++ acc).length = L):=by show _ = _; rw [HLX.out]; exact HEL.out
    obtain ⟨b7,o7,hx7,hk7⟩:=HR7.out.cellAt hkl
    rw [show r.kids[0] = (m : Int) from (getD_at hkl).symm.trans hm] at hk7
    simp only [Nat.add_zero] at hk7
    subst hx7
    obtain ⟨b0',off',e4,f4,e5,f5,e6,f6,e7,f7,hab,⟨g0,g1,g2,g3,g4,g5,g6,g7⟩,s4,s5,s6,s7⟩:=HRD.out.at m hmr
    cases hab
    have HIS2 : Hid (IsRule rs[m] [.string rs[m].name,.int .i64 rs[m].kind,.int .i64 rs[m].size,.bool rs[m].little,.slice e4 rs[m].bytes.length f4,.slice e5 rs[m].names.length f5,.slice e6 rs[m].tags.length f6,.slice e7 rs[m].kids.length f7] w2):=⟨e4,f4,e5,f5,e6,f6,e7,f7,rfl,s4,s5,s6,s7⟩
    clear s4 s5 s6 s7 hm hk1
    generalize rs[m] = r2 at *
    obtain ⟨bs,hbs⟩ : ∃ bs,bs = encI r2.little v.number r2.size:=⟨_,rfl⟩
    rw [← hbs] at HLE HLX
    have HBS:=kq hbs
    clear hbs
    have HSW : Hid (∀ W,Below w2.heap.size w2 W → W.cell? ⟨w.heap.size,0,none⟩ = some (.slice (some ⟨b0,off,none⟩) rs.length cap) ∧ W.cell? ⟨w0.heap.size,0,none⟩ = some (.string r.name) ∧ W.cell? ⟨w0.heap.size,1,none⟩ = some (.int .i64 7) ∧ W.cell? ⟨w0.heap.size,2,none⟩ = some (.int .i64 r.size) ∧ W.cell? ⟨w0.heap.size,3,none⟩ = some (.bool r.little) ∧ W.cell? ⟨w0.heap.size,4,none⟩ = some (.slice a4 r.bytes.length c4) ∧ W.cell? ⟨w0.heap.size,5,none⟩ = some (.slice a5 r.names.length c5) ∧ W.cell? ⟨w0.heap.size,6,none⟩ = some (.slice a6 r.tags.length c6) ∧ W.cell? ⟨w0.heap.size,7,none⟩ = some (.slice (some ⟨b7,o7,none⟩) r.kids.length c7) ∧ W.cell? ⟨w.heap.size + 1,0,none⟩ = some (.int .i64 v.number) ∧ W.cell? ⟨w.heap.size + 1,1,none⟩ = some (.slice ab v.bytes.length cb) ∧ W.cell? ⟨w.heap.size + 1,2,none⟩ = some (.slice ai v.items.length ci) ∧ W.cell? ⟨b7,o7,none⟩ = some (.int .i64 m) ∧ W.cell? ⟨b0,off + m * 8,none⟩ = some (.string r2.name) ∧ W.cell? ⟨b0,off + m * 8 + 1,none⟩ = some (.int .i64 r2.kind) ∧ W.cell? ⟨b0,off + m * 8 + 2,none⟩ = some (.int .i64 r2.size) ∧ W.cell? ⟨b0,off + m * 8 + 3,none⟩ = some (.bool r2.little) ∧ W.cell? ⟨b0,off + m * 8 + 4,none⟩ = some (.slice e4 r2.bytes.length f4) ∧ W.cell? ⟨b0,off + m * 8 + 5,none⟩ = some (.slice e5 r2.names.length f5) ∧ W.cell? ⟨b0,off + m * 8 + 6,none⟩ = some (.slice e6 r2.tags.length f6) ∧ W.cell? ⟨b0,off + m * 8 + 7,none⟩ = some (.slice e7 r2.kids.length f7)):=fun W hW => ⟨(HD.out.below hW 0 _ rfl).1,(HC.out.below hW 0 _ rfl).1,(by rw [← HK.out]; exact (HC.out.below hW 1 _ rfl).1),(HC.out.below hW 2 _ rfl).1,(HC.out.below hW 3 _ rfl).1,(HC.out.below hW 4 _ rfl).1,(HC.out.below hW 5 _ rfl).1,(HC.out.below hW 6 _ rfl).1,(HC.out.below hW 7 _ rfl).1,(HVC.out.below hW 0 _ rfl).1,(HVC.out.below hW 1 _ rfl).1,(HVC.out.below hW 2 _ rfl).1,cell_keep hW hk7,cell_keep hW g0,cell_keep hW g1,cell_keep hW g2,cell_keep hW g3,cell_keep hW g4,cell_keep hW g5,cell_keep hW g6,cell_keep hW g7⟩
    clear hk7 g0 g1 g2 g3 g4 g5 g6 g7
    have HW1 : Hid (Below wr.heap.size wr wr.drew):=below_drewN (Below.refl _ wr) 1
    have m0 : (0 : Int) ≤ (m : Int):=by omega
    have m1 : (m : Int) < (rs.length : Int):=by omega
    have kl0 : (0 : Int) < (r.kids.length : Int):=by omega
    go_upto_region 17 with fail
    clear y1 z2
    go_region_held3 (fun W => W.cell? ⟨w.heap.size,0,none⟩ = some (.slice (some ⟨b0,off,none⟩) rs.length cap) ∧ W.cell? ⟨w0.heap.size,0,none⟩ = some (.string r.name) ∧ W.cell? ⟨w0.heap.size,1,none⟩ = some (.int .i64 7) ∧ W.cell? ⟨w0.heap.size,2,none⟩ = some (.int .i64 r.size) ∧ W.cell? ⟨w0.heap.size,3,none⟩ = some (.bool r.little) ∧ W.cell? ⟨w0.heap.size,4,none⟩ = some (.slice a4 r.bytes.length c4) ∧ W.cell? ⟨w0.heap.size,5,none⟩ = some (.slice a5 r.names.length c5) ∧ W.cell? ⟨w0.heap.size,6,none⟩ = some (.slice a6 r.tags.length c6) ∧ W.cell? ⟨w0.heap.size,7,none⟩ = some (.slice (some ⟨b7,o7,none⟩) r.kids.length c7) ∧ W.cell? ⟨w.heap.size + 1,0,none⟩ = some (.int .i64 v.number) ∧ W.cell? ⟨w.heap.size + 1,1,none⟩ = some (.slice ab v.bytes.length cb) ∧ W.cell? ⟨w.heap.size + 1,2,none⟩ = some (.slice ai v.items.length ci) ∧ W.cell? ⟨b7,o7,none⟩ = some (.int .i64 m) ∧ W.cell? ⟨b0,off + m * 8,none⟩ = some (.string r2.name) ∧ W.cell? ⟨b0,off + m * 8 + 1,none⟩ = some (.int .i64 r2.kind) ∧ W.cell? ⟨b0,off + m * 8 + 2,none⟩ = some (.int .i64 r2.size) ∧ W.cell? ⟨b0,off + m * 8 + 3,none⟩ = some (.bool r2.little) ∧ W.cell? ⟨b0,off + m * 8 + 4,none⟩ = some (.slice e4 r2.bytes.length f4) ∧ W.cell? ⟨b0,off + m * 8 + 5,none⟩ = some (.slice e5 r2.names.length f5) ∧ W.cell? ⟨b0,off + m * 8 + 6,none⟩ = some (.slice e6 r2.tags.length f6) ∧ W.cell? ⟨b0,off + m * 8 + 7,none⟩ = some (.slice e7 r2.kids.length f7)) (exact HSW.out _ (hbw.out.trans (HW1.out.mono hbw.out.size))) (first | (go_at_call 187; refine (int8_spec r2 _ v.number _ (HIS2.out.below (hbw.out.trans (HW1.out.mono hbw.out.size)))).mono ?_; rintro e w5 ⟨zz,rfl,ho5,hb5⟩; rw [← HBS.out] at ho5; have HO5:=kq (ho5.more HW1.out.size); replace HW1:=kq (HW1.out.trans (hb5.mono HW1.out.size)); clear ho5 hb5) | (refine step_app rfl (.tmp 97) (.tmp 98) rfl wr.heap.size zz bs acc a9 c9 (by simp [Act.eval]) (by simp [Act.eval]) HO5.out ((HR9.out.below HW1.out).src) (by have:=HLE.out; rw [List.length_append] at this; omega) HW1.out.size ?_; intro v3 w7 ho3 hg3; have HO3:=kq (ho3.more HBW.out.size); replace HW1:=kq (app_frame HW1.out HW1.out.size HO5.out hg3); clear ho3 hg3))
    have HBF:=kq (HBW.out.trans (HW1.out.mono HBW.out.size))
    go_wp2
    go_ret
    exact ⟨v3,rfl,by rw [← HLX.out]; exact HO3.out,HBF.out⟩
   ·have HK:=kq hkd
    rw [hkd] at y1
    clear hkd hkn
    obtain ⟨a9,c9,hu9,hrow9⟩:=how.out.row
    subst hu9
    have HR9:=kq hrow9
    clear hrow9
    obtain ⟨x8,hxe⟩ : ∃ x8,x8 = UInt8.ofNat v.items.length:=⟨_,rfl⟩
    have hx8 : Value.int .u8 ((v.items.length : Nat) : Int) = bv x8:=by rw [hxe]; exact bv_of v.items.length _ (by omega)
    have HOA:=kq (own_one wr _ x8 hx8)
    clear hx8
    have HBA:=kq ((Below.refl wr.heap.size wr).alloc (Nat.le_refl _) (.cells #[.int .u8 ((v.items.length : Nat) : Int)] 5))
    have HLX : Hid ([x8] ++ acc = E):=by show _ = _; rw [HEV.out,wrap_8 HK.out,hxe]
    clear hxe
    have HLE : Hid (([x8] ++ acc).length = L):=by show _ = _; rw [HLX.out]; exact HEL.out
    go_wp2_with (at_builtin; refine wp_app rfl _ _ rfl wr.heap.size (.slice (some ⟨wr.heap.size,0,none⟩) 1 1) [x8] acc a9 c9 _ rfl rfl HOA.out ((HR9.out.below HBA.out).src) (by have:=HLE.out; rw [List.length_append] at this; omega) HBA.out.size ?_)
    intro v5 w5 ho5 hg5
    have HB5:=kq (HBW.out.trans ((app_frame HBA.out HBA.out.size HOA.out hg5).mono HBW.out.size))
    have HO5:=kq (ho5.more HBW.out.size)
    clear ho5 hg5
    go_wp2
    go_ret
    exact ⟨v5,rfl,by rw [← HLX.out]; exact HO5.out,HB5.out⟩
   ·have HK:=kq hkd
    rw [hkd] at y1
    clear hkd hkn
    obtain ⟨a9,c9,hu9,hrow9⟩:=how.out.row
    subst hu9
    have HR9:=kq hrow9
    clear hrow9
    have hal : acc.length ≤ 1099511627776:=by have:=HTE.out; omega
    go_wp2_with fail
    refine (sum_spec a9 acc c9 _ hal (HR9.out.rd)).mono ?_
    rintro e w5 ⟨rfl,rfl⟩
    have hsb:=sumB_lt acc 0 (by omega)
    obtain ⟨sb,hsbe⟩ : ∃ sb,sb = sumB acc 0:=⟨_,rfl⟩
    rw [← hsbe] at hsb ⊢
    obtain ⟨x9,hxe⟩ : ∃ x9,x9 = UInt8.ofNat sb:=⟨_,rfl⟩
    have hx9 : Value.int .u8 (sb : Int) = bv x9:=by rw [hxe]; exact bv_of sb _ (by omega)
    have HLX : Hid (acc ++ [x9] = E):=by show _ = _; rw [HEV.out,wrap_9 HK.out,hxe,hsbe]
    clear hxe hsbe
    have hsb0 : (0 : Int) ≤ (sb : Int):=by omega
    have hsb1 : (sb : Int) ≤ 255:=by omega
    have HBA:=kq ((Below.refl wr.heap.size wr).alloc (Nat.le_refl _) (.cells #[.int .u8 (sb : Int)] 5))
    have HSR : Hid (Src1 (some ⟨wr.heap.size,0,none⟩) [x9] 1 (wr.alloc (.cells #[.int .u8 (sb : Int)] 5))):=by obtain ⟨a',c',e,h⟩:=(own_one wr _ x9 hx9).row; cases e; exact h.src
    clear hx9
    have HOD:=kq (own_below how.out HBA.out)
    have HBD:=kq (hbw.out.trans (HBA.out.mono hbw.out.size))
    have HLE : Hid ((acc ++ [x9]).length = L):=by show _ = _; rw [HLX.out]; exact HEL.out
    go_wp2_with (at_builtin; refine wp_app rfl _ _ rfl w2.heap.size (.slice a9 acc.length c9) acc [x9] (some ⟨wr.heap.size,0,none⟩) 1 _ rfl rfl HOD.out HSR.out (by have:=HLE.out; rw [List.length_append] at this; omega) HBD.out.size ?_)
    intro v5 w5 ho5 hg5
    have HB5:=kq (HB.out.trans ((app_frame HBD.out HBD.out.size HOD.out hg5).mono HB.out.size))
    have HO5:=kq (ho5.more HB.out.size)
    clear ho5 hg5
    go_wp2
    go_ret
    exact ⟨v5,rfl,by rw [← HLX.out]; exact HO5.out,HB5.out⟩
   ·have HK:=kq hkd
    rw [hkd] at y1
    clear hkd hkn
    have hrl:=kindI_10 HKI.out HK.out
    obtain ⟨b4,o4,h4,hc4⟩:=HR4.out 0 (by omega)
    subst h4
    simp only [Nat.add_zero] at hc4
    have HTB : Hid (r.bytes.getD 0 0 = r.bytes[0]):=by show _ = _; simp [List.getD,List.getElem?_eq_getElem (show 0 < r.bytes.length by omega)]
    have HLL : Hid (L = T + escLen r.bytes[0] v.bytes + 1):=by show _ = _; rw [HPE.out]; simp [headLen,HK.out]; rw [← HTB.out]; simp; omega
    have HEX : Hid (E = acc ++ escB r.bytes[0] v.bytes ++ [r.bytes[0]]):=by show _ = _; rw [HEV.out,wrap_10 HK.out,HTB.out]
    generalize r.bytes[0] = tb at hc4 HLL HTB HEX
    have HSZ : Hid (T + escLen tb v.bytes + 1 ≤ 1099511627776):=by show _ ≤ _; have:=HLL.out; omega
    have hbl : v.bytes.length ≤ 400:=by have h:=HOB.out; simp [ownB,HK.out] at h; omega
    obtain ⟨tn,htn⟩ : ∃ tn : Int,tn = (tb.toNat : Int):=⟨_,rfl⟩
    rw [← htn] at hc4
    have HTNN:=kq htn
    have HTV : Hid (Value.int .u8 tn = bv tb):=by show _ = _; rw [htn]; rfl
    have HC4:=kq hc4
    clear htn hc4
    have HS0 : Hid (acc.length + escLen tb (v.bytes.drop 0) = T + escLen tb v.bytes):=by show _ = _; rw [HTE.out]; rfl
    have HX0 : Hid (acc ++ escB tb (v.bytes.drop 0) = acc ++ escB tb v.bytes):=rfl
    have rl0 : (0 : Int) < (r.bytes.length : Int):=by omega
    have z1:=(HVC.out.below hbw.out 1 _ rfl).1
    go_wp2
    go_loopw [8,10] (fun z i W => ∃ (j : Nat) (ac : List UInt8),j ≤ v.bytes.length ∧ i = .int .i64 j ∧ Hid (OwnB w2.heap.size z ac W) ∧ Hid (ac.length + escLen tb (v.bytes.drop j) = T + escLen tb v.bytes) ∧ Hid (ac ++ escB tb (v.bytes.drop j) = acc ++ escB tb v.bytes) ∧ Hid (Below w2.heap.size w2 W)) (fun _ i _ => v.bytes.length - (intOf i).toNat)
    case atStart => exact ⟨0,acc,Nat.zero_le _,rfl,how.out,HS0.out,HX0.out,hbw.out⟩
    case round =>
     obtain ⟨j,ac,hjl,rfl,ho2,hlen,hesc,hb2⟩:=hrel
     have j0 : (0 : Int) ≤ (j : Int):=by omega
     clear z1 z2 y1
     have z1:=(HVC.out.below hb2.out 1 _ rfl).1
     by_cases hjt : j < v.bytes.length
     ·have j1 : (j : Int) < (v.bytes.length : Int):=by omega
      obtain ⟨bb,ob,hab,hcb⟩:=HVB.out.1 j hjt
      subst hab
      have HNX:=kq (esc_next (t:=tb) hjt)
      have HNB:=kq (escB_next (t:=tb) hjt)
      generalize v.bytes[j] = xb at hcb HNX HNB
      obtain ⟨xn,hxn⟩ : ∃ xn : Int,xn = (xb.toNat : Int):=⟨_,rfl⟩
      rw [← hxn] at hcb
      have HXN : Hid (Value.int .u8 xn = bv xb):=by show _ = _; rw [hxn]; rfl
      have HXV:=kq hxn
      have HSW : Hid (∀ W,Below w2.heap.size w2 W → W.cell? ⟨w.heap.size + 1,1,none⟩ = some (.slice (some ⟨bb,ob,none⟩) v.bytes.length cb) ∧ W.cell? ⟨bb,ob + j,none⟩ = some (.int .u8 xn) ∧ W.cell? ⟨w0.heap.size,4,none⟩ = some (.slice (some ⟨b4,o4,none⟩) r.bytes.length c4) ∧ W.cell? ⟨b4,o4,none⟩ = some (.int .u8 tn)):=fun W hW => ⟨(HVC.out.below hW 1 _ rfl).1,cell_keep hW hcb,(HC.out.below hW 4 _ rfl).1,cell_keep hW HC4.out⟩
      clear hcb hxn
      have HO2 : Hid (OwnB w2.heap.size u8 ac wr.drew):=own_below ho2.out (below_drewN (Below.refl _ wr) 1)
      have HB2 : Hid (Below w2.heap.size w2 wr.drew):=below_drewN hb2.out 1
      by_cases hx1 : xn = tn
      ·have HEQ : Hid (xb = tb):=byte_inj (by rw [← HXV.out,← HTNN.out]; exact hx1)
       replace HNX : Hid (escLen tb (v.bytes.drop j) = 2 + escLen tb (v.bytes.drop (j + 1))):=by show _ = _; rw [HNX.out,if_pos (.inl HEQ.out)]
       replace HNB : Hid (escB tb (v.bytes.drop j) = [92,xb] ++ escB tb (v.bytes.drop (j + 1))):=by show _ = _; rw [HNB.out,if_pos (.inl HEQ.out)]
       subst hx1
       have HLB : Hid ((ac ++ [xb] ++ [xb]).length ≤ 1099511627776):=by show _ ≤ _; have h1:=hlen.out; have h2:=HNX.out; have h3:=HSZ.out; simp only [List.length_append,List.length_singleton]; omega
       go_upto_region 26 with fail
       clear z1
       refine wp_region_held_drew (S:=(fun W => W.cell? ⟨w.heap.size + 1,1,none⟩ = some (.slice (some ⟨bb,ob,none⟩) v.bytes.length cb) ∧ W.cell? ⟨bb,ob + j,none⟩ = some (.int .u8 xn) ∧ W.cell? ⟨w0.heap.size,4,none⟩ = some (.slice (some ⟨b4,o4,none⟩) r.bytes.length c4) ∧ W.cell? ⟨b4,o4,none⟩ = some (.int .u8 xn))) (by kernel_rfl) ?_ (fun hHeld => ?_)
       ·(try dsimp only); exact HSW.out _ (below_drewN hb2.out 1)
       refine tq 0 (h:=?_)
       refine tq 1 (h:=?_)
       refine tq 2 (h:=?_)
       refine tq 3 (h:=?_)
       refine tq 4 (h:=?_)
       refine tq 5 (h:=?_)
       refine tq 6 (h:=?_)
       refine tq 7 (h:=?_)
       refine tq 8 (h:=?_)
       refine tq 9 (h:=?_)
       refine tq 10 (h:=?_)
       refine tq 11 (v:=undef) (hy:=Or.inr ⟨by rfl,rfl⟩) (h:=?_)
       refine tq 12 (v:=undef) (hy:=Or.inr ⟨by rfl,rfl⟩) (h:=?_)
       refine tq 13 (v:=undef) (hy:=Or.inr ⟨by rfl,rfl⟩) (h:=?_)
       refine tq 14 (v:=undef) (hy:=Or.inr ⟨by rfl,rfl⟩) (h:=?_)
       refine tq 15 (v:=undef) (hy:=Or.inr ⟨by rfl,rfl⟩) (h:=?_)
       refine tq 16 (v:=undef) (hy:=Or.inr ⟨by rfl,rfl⟩) (h:=?_)
       refine tq 17 (h:=?_)
       refine wpAnyH_done (by kernel_rfl) ?_ _
       have HBA:=kq ((Below.refl wr.drew.heap.size wr.drew).alloc (Nat.le_refl _) (.cells #[.int .u8 92] 5))
       have HSR : Hid (Src1 (some ⟨wr.drew.heap.size,0,none⟩) [92] 1 (wr.drew.alloc (.cells #[.int .u8 92] 5))):=by obtain ⟨a',c',e,h⟩:=(own_one wr.drew _ 92 rfl).row; cases e; exact h.src
       have HOD:=kq (own_below HO2.out HBA.out)
       have HBD:=kq (HB2.out.trans (HBA.out.mono HB2.out.size))
       go_wp2_with (at_builtin; refine wp_app rfl _ _ rfl w2.heap.size u8 ac [92] (some ⟨wr.drew.heap.size,0,none⟩) 1 _ rfl rfl HOD.out HSR.out (by have:=HLB.out; simp only [List.length_append,List.length_singleton] at this ⊢; omega) HBD.out.size ?_)
       intro v5 w5 ho5 hg5
       have HB_w5:=kq (app_frame HBD.out HBD.out.size HOD.out hg5)
       have HO_w5:=kq ho5
       clear ho5 hg5 HBA HSR HOD HBD
       have c1:=(HSW.out _ HB_w5.out).1
       have c2:=(HSW.out _ HB_w5.out).2.1
       have HBA:=kq ((Below.refl w5.heap.size w5).alloc (Nat.le_refl _) (.cells #[.int .u8 xn] 5))
       have HSR : Hid (Src1 (some ⟨w5.heap.size,0,none⟩) [xb] 1 (w5.alloc (.cells #[.int .u8 xn] 5))):=by obtain ⟨a',c',e,h⟩:=(own_one w5 _ xb HXN.out).row; cases e; exact h.src
       have HOD:=kq (own_below HO_w5.out HBA.out)
       have HBD:=kq (HB_w5.out.trans (HBA.out.mono HB_w5.out.size))
       go_wp2_with (at_builtin; refine wp_app rfl _ _ rfl w2.heap.size v5 (ac ++ [92]) [xb] (some ⟨w5.heap.size,0,none⟩) 1 _ rfl rfl HOD.out HSR.out (by have:=HLB.out; simp only [List.length_append,List.length_singleton] at this ⊢; omega) HBD.out.size ?_)
       intro v6 w6 ho5 hg5
       have HB_w6:=kq (app_frame HBD.out HBD.out.size HOD.out hg5)
       have HO_w6:=kq ho5
       clear ho5 hg5 HBA HSR HOD HBD
       go_wp2
       go_roundw
       case rel => exact ⟨j + 1,_,by omega,by go_num,HO_w6.out,by show _ = _; have h1:=HNX.out; have h2:=hlen.out; simp only [List.length_append,List.length_cons,List.length_nil]; omega,by show _ = _; have h1:=hesc.out; rw [HNB.out] at h1; rw [← h1]; simp,HB_w6.out⟩
       case measure => simp [intOf]; omega
      ·have e1 : (xn == tn) = false:=by simpa using hx1
       have HNE : Hid (¬ xb = tb):=fun h => hx1 (by rw [HXV.out,HTNN.out,h])
       by_cases hx2 : xn = 92
       ·have HEQ : Hid (xb = 92):=byte_inj (by rw [← HXV.out]; exact hx2)
        replace HNX : Hid (escLen tb (v.bytes.drop j) = 2 + escLen tb (v.bytes.drop (j + 1))):=by show _ = _; rw [HNX.out,if_pos (.inr HEQ.out)]
        replace HNB : Hid (escB tb (v.bytes.drop j) = [92,xb] ++ escB tb (v.bytes.drop (j + 1))):=by show _ = _; rw [HNB.out,if_pos (.inr HEQ.out)]
        subst hx2
        have HLB : Hid ((ac ++ [xb] ++ [xb]).length ≤ 1099511627776):=by show _ ≤ _; have h1:=hlen.out; have h2:=HNX.out; have h3:=HSZ.out; simp only [List.length_append,List.length_singleton]; omega
        go_upto_region 26 with fail
        clear z1
        refine wp_region_held_drew (S:=(fun W => W.cell? ⟨w.heap.size + 1,1,none⟩ = some (.slice (some ⟨bb,ob,none⟩) v.bytes.length cb) ∧ W.cell? ⟨bb,ob + j,none⟩ = some (.int .u8 92) ∧ W.cell? ⟨w0.heap.size,4,none⟩ = some (.slice (some ⟨b4,o4,none⟩) r.bytes.length c4) ∧ W.cell? ⟨b4,o4,none⟩ = some (.int .u8 tn))) (by kernel_rfl) ?_ (fun hHeld => ?_)
        ·(try dsimp only); exact HSW.out _ (below_drewN hb2.out 1)
        refine tq 0 (h:=?_)
        refine tq 1 (h:=?_)
        refine tq 2 (h:=?_)
        refine tq 3 (h:=?_)
        refine tq 4 (h:=?_)
        refine tq 5 (h:=?_)
        refine tq 6 (h:=?_)
        refine tq 7 (h:=?_)
        refine tq 8 (h:=?_)
        refine tq 9 (h:=?_)
        refine tq 10 (h:=?_)
        refine tq 11 (h:=?_)
        refine tq 12 (h:=?_)
        refine tq 13 (h:=?_)
        refine tq 14 (h:=?_)
        refine tq 15 (h:=?_)
        refine tq 16 (h:=?_)
        refine tq 17 (h:=?_)
        refine wpAnyH_done (by kernel_rfl) ?_ _
        have HBA:=kq ((Below.refl wr.drew.heap.size wr.drew).alloc (Nat.le_refl _) (.cells #[.int .u8 92] 5))
        have HSR : Hid (Src1 (some ⟨wr.drew.heap.size,0,none⟩) [92] 1 (wr.drew.alloc (.cells #[.int .u8 92] 5))):=by obtain ⟨a',c',e,h⟩:=(own_one wr.drew _ 92 rfl).row; cases e; exact h.src
        have HOD:=kq (own_below HO2.out HBA.out)
        have HBD:=kq (HB2.out.trans (HBA.out.mono HB2.out.size))
        go_wp2_with (at_builtin; refine wp_app rfl _ _ rfl w2.heap.size u8 ac [92] (some ⟨wr.drew.heap.size,0,none⟩) 1 _ rfl rfl HOD.out HSR.out (by have:=HLB.out; simp only [List.length_append,List.length_singleton] at this ⊢; omega) HBD.out.size ?_)
        intro v5 w5 ho5 hg5
        have HB_w5:=kq (app_frame HBD.out HBD.out.size HOD.out hg5)
        have HO_w5:=kq ho5
        clear ho5 hg5 HBA HSR HOD HBD
        have c1:=(HSW.out _ HB_w5.out).1
        have c2:=(HSW.out _ HB_w5.out).2.1
        have HBA:=kq ((Below.refl w5.heap.size w5).alloc (Nat.le_refl _) (.cells #[.int .u8 92] 5))
        have HSR : Hid (Src1 (some ⟨w5.heap.size,0,none⟩) [xb] 1 (w5.alloc (.cells #[.int .u8 92] 5))):=by obtain ⟨a',c',e,h⟩:=(own_one w5 _ xb HXN.out).row; cases e; exact h.src
        have HOD:=kq (own_below HO_w5.out HBA.out)
        have HBD:=kq (HB_w5.out.trans (HBA.out.mono HB_w5.out.size))
        go_wp2_with (at_builtin; refine wp_app rfl _ _ rfl w2.heap.size v5 (ac ++ [92]) [xb] (some ⟨w5.heap.size,0,none⟩) 1 _ rfl rfl HOD.out HSR.out (by have:=HLB.out; simp only [List.length_append,List.length_singleton] at this ⊢; omega) HBD.out.size ?_)
        intro v6 w6 ho5 hg5
        have HB_w6:=kq (app_frame HBD.out HBD.out.size HOD.out hg5)
        have HO_w6:=kq ho5
        clear ho5 hg5 HBA HSR HOD HBD
        go_wp2
        go_roundw
        case rel => exact ⟨j + 1,_,by omega,by go_num,HO_w6.out,by show _ = _; have h1:=HNX.out; have h2:=hlen.out; simp only [List.length_append,List.length_cons,List.length_nil]; omega,by show _ = _; have h1:=hesc.out; rw [HNB.out] at h1; rw [← h1]; simp,HB_w6.out⟩
        case measure => simp [intOf]; omega
       ·have e2 : (xn == 92) = false:=by simpa using hx2
        replace HNX : Hid (escLen tb (v.bytes.drop j) = 1 + escLen tb (v.bytes.drop (j + 1))):=by show _ = _; rw [HNX.out,if_neg (fun h => h.elim HNE.out (fun h => hx2 (by rw [HXV.out,h]; rfl)))]
        replace HNB : Hid (escB tb (v.bytes.drop j) = [xb] ++ escB tb (v.bytes.drop (j + 1))):=by show _ = _; rw [HNB.out,if_neg (fun h => h.elim HNE.out (fun h => hx2 (by rw [HXV.out,h]; rfl)))]
        have HLB : Hid ((ac ++ [xb]).length ≤ 1099511627776):=by show _ ≤ _; have h1:=hlen.out; have h2:=HNX.out; have h3:=HSZ.out; simp only [List.length_append,List.length_singleton]; omega
        go_upto_region 26 with fail
        clear z1
        refine wp_region_held_drew (S:=(fun W => W.cell? ⟨w.heap.size + 1,1,none⟩ = some (.slice (some ⟨bb,ob,none⟩) v.bytes.length cb) ∧ W.cell? ⟨bb,ob + j,none⟩ = some (.int .u8 xn) ∧ W.cell? ⟨w0.heap.size,4,none⟩ = some (.slice (some ⟨b4,o4,none⟩) r.bytes.length c4) ∧ W.cell? ⟨b4,o4,none⟩ = some (.int .u8 tn))) (by kernel_rfl) ?_ (fun hHeld => ?_)
        ·(try dsimp only); exact HSW.out _ (below_drewN hb2.out 1)
        refine tq 0 (h:=?_)
        refine tq 1 (h:=?_)
        refine tq 2 (h:=?_)
        refine tq 3 (h:=?_)
        refine tq 4 (h:=?_)
        refine tq 5 (h:=?_)
        refine tq 6 (h:=?_)
        refine tq 7 (h:=?_)
        refine tq 8 (h:=?_)
        refine tq 9 (h:=?_)
        refine tq 10 (h:=?_)
        refine tq 11 (h:=?_)
        refine tq 12 (h:=?_)
        refine tq 13 (h:=?_)
        refine tq 14 (h:=?_)
        refine tq 15 (h:=?_)
        refine tq 16 (h:=?_)
        refine tq 17 (h:=?_)
        refine wpAnyH_done (by kernel_rfl) ?_ _
        have c1:=(HSW.out _ HB2.out).1
        have c2:=(HSW.out _ HB2.out).2.1
        have HBA:=kq ((Below.refl wr.drew.heap.size wr.drew).alloc (Nat.le_refl _) (.cells #[.int .u8 xn] 5))
        have HSR : Hid (Src1 (some ⟨wr.drew.heap.size,0,none⟩) [xb] 1 (wr.drew.alloc (.cells #[.int .u8 xn] 5))):=by obtain ⟨a',c',e,h⟩:=(own_one wr.drew _ xb HXN.out).row; cases e; exact h.src
        have HOD:=kq (own_below HO2.out HBA.out)
        have HBD:=kq (HB2.out.trans (HBA.out.mono HB2.out.size))
        go_wp2_with (at_builtin; refine wp_app rfl _ _ rfl w2.heap.size u8 ac [xb] (some ⟨wr.drew.heap.size,0,none⟩) 1 _ rfl rfl HOD.out HSR.out (by have:=HLB.out; simp only [List.length_append,List.length_singleton] at this ⊢; omega) HBD.out.size ?_)
        intro v6 w6 ho5 hg5
        have HB_w6:=kq (app_frame HBD.out HBD.out.size HOD.out hg5)
        have HO_w6:=kq ho5
        clear ho5 hg5 HBA HSR HOD HBD
        go_wp2
        go_roundw
        case rel => exact ⟨j + 1,_,by omega,by go_num,HO_w6.out,by show _ = _; have h1:=HNX.out; have h2:=hlen.out; simp only [List.length_append,List.length_cons,List.length_nil]; omega,by show _ = _; have h1:=hesc.out; rw [HNB.out] at h1; rw [← h1]; simp,HB_w6.out⟩
        case measure => simp [intOf]; omega
     ·have j1 : ¬ (j : Int) < (v.bytes.length : Int):=by omega
      have HLX : Hid (ac ++ [tb] = E):=by show _ = _; have h1:=hesc.out; rw [List.drop_of_length_le (by omega),escB,List.append_nil] at h1; rw [HEX.out,h1]
      have HLE : Hid ((ac ++ [tb]).length = L):=by show _ = _; rw [HLX.out]; exact HEL.out
      have HLB : Hid ((ac ++ [tb]).length ≤ 1099511627776):=by show _ ≤ _; rw [HLE.out]; exact hpl
      have y4:=(HC.out.below hb2.out 4 _ rfl).1
      have y4c:=cell_keep hb2.out HC4.out
      have HBA:=kq ((Below.refl wr.heap.size wr).alloc (Nat.le_refl _) (.cells #[.int .u8 tn] 5))
      have HSR : Hid (Src1 (some ⟨wr.heap.size,0,none⟩) [tb] 1 (wr.alloc (.cells #[.int .u8 tn] 5))):=by obtain ⟨a',c',e,h⟩:=(own_one wr _ tb HTV.out).row; cases e; exact h.src
      have HOD:=kq (own_below ho2.out HBA.out)
      have HBD:=kq (hb2.out.trans (HBA.out.mono hb2.out.size))
      go_wp2_with (at_builtin; refine wp_app rfl _ _ rfl w2.heap.size u8 ac [tb] (some ⟨wr.heap.size,0,none⟩) 1 _ rfl rfl HOD.out HSR.out (by have:=HLB.out; simp only [List.length_append,List.length_singleton] at this ⊢; omega) HBD.out.size ?_)
      intro v5 w5 ho5 hg5
      have HB_w5:=kq (app_frame HBD.out HBD.out.size HOD.out hg5)
      have HO_w5:=kq ho5
      clear ho5 hg5 HBA HSR HOD HBD
      have HOF:=kq (HO_w5.out.more HB.out.size)
      have HBF:=kq (HB.out.trans (HB_w5.out.mono HB.out.size))
      go_wp2
      go_ret
      exact ⟨v5,rfl,by rw [← HLX.out]; exact HOF.out,HBF.out⟩
theorem printe_spec (a : Option Addr) (rs : List RuleV) (cap : Nat) (hl : rs.length ≤ 1048576) (hall : allV (kindI rs) rs) : ∀ n,PrintE a rs cap n
 | 0 => fun _ _ _ _ _ _ h => h.elim
 | n + 1 => printe_step a rs cap n hl hall (printe_spec a rs cap hl hall n)
theorem printve_spec (a : Option Addr) (rs : List RuleV) (cap n : Nat) (k : Int) (v : ValueV) (vs : List Value) (w : World) (hl : rs.length ≤ 1048576) (hs : ∀ r ∈ rs,Short r) (hp : ∀ r ∈ rs,Spelt r) (h : RdC a rs w) (hv : IsVal n v vs w) (hpl : fitsV rs k v = true → plen rs k v ≤ 1099511627776) :
  Calls Tryz.prog 81 #[.agg #[.slice a rs.length cap],.int .i64 k,.agg vs.toArray] w (PvE (printB rs k v) (encV rs k v) w):=by
 obtain ⟨ab,cb,ai,ci,rfl⟩:=hv.cells
 obtain ⟨w0,hw0⟩ : ∃ w0,w0 = (w.alloc (.cells #[.slice a rs.length cap] 26)).alloc (.cells #[.int .i64 v.number,.slice ab v.bytes.length cb,.slice ai v.items.length ci] 48):=⟨_,rfl⟩
 have hB:=zb2 hw0
 have hD:=zk2 hw0
 have hVC:=zk3 hw0
 have HC:=kq (h.below hB)
 have HV:=kq (hv.below hB)
 have HD:=kq hD
 have HVC:=kq hVC
 have HB:=kq hB
 have HS:=kq hs
 have HP:=kq hp
 have hW:=kq hw0
 have HPL:=kq hpl
 have bx:=(hD 0 _ rfl).1
 have z0:=(hVC 0 _ rfl).1
 have z1:=(hVC 1 _ rfl).1
 have z2:=(hVC 2 _ rfl).1
 obtain ⟨L,hL⟩ : ∃ L,L = plen rs k v:=⟨_,rfl⟩
 obtain ⟨E,hE⟩ : ∃ E,E = encV rs k v:=⟨_,rfl⟩
 obtain ⟨fb,hfb⟩ : ∃ b,b = fitsV rs k v:=⟨_,rfl⟩
 obtain ⟨pb,hpb⟩ : ∃ b,b = printB rs k v:=⟨_,rfl⟩
 have HPB : Hid (pb = (fb && decide (L ≤ 400))):=by show _ = _; rw [hpb,hfb,hL]; rfl
 rw [← hpb,← hE]
 have HE:=kq hE
 have HF:=kq hfb
 have HL:=kq hL
 clear h hv hB hD hVC hs hp hw0 hfb hpb hL hE hpl
 go_enter Tryz.func81,Tryz.ntmps81
 go_upto_region 1 with fail
 rw [← hW.out]
 clear hW
 go_wp2_with fail
 refine (fits_spec a rs cap n k v _ _ hl HS.out HP.out HC.out HV.out).mono ?_
 rintro e w1 ⟨rfl,hb1⟩
 rw [← HF.out]
 replace HD:=kq (HD.out.below hb1)
 replace HVC:=kq (HVC.out.below hb1)
 replace HC:=kq (HC.out.below hb1)
 replace HV:=kq (HV.out.below hb1)
 replace HB:=kq (HB.out.trans (hb1.mono HB.out.size))
 clear hb1 bx z0 z1 z2
 cases fb with
 | false =>
  obtain rfl : pb = false:=HPB.out
  go_wp2
  go_ret2
  exact pve_none HB.out
 | true =>
  have hok : okAt rs k = true:=by have h1:=HF.out.symm; unfold fitsV at h1; rw [Bool.and_eq_true] at h1; exact h1.1
  have hva : validV rs k v = true:=by have h1:=HF.out.symm; unfold fitsV at h1; rw [Bool.and_eq_true] at h1; exact h1.2
  obtain ⟨⟨k0,k1⟩,hn,hall⟩:=okAt_yes hok
  obtain ⟨m,rfl⟩ : ∃ m : Nat,k = (m : Int):=⟨k.toNat,by omega⟩
  have hm : m < rs.length:=by omega
  have bx:=(HD.out 0 _ rfl).1
  have z0:=(HVC.out 0 _ rfl).1
  have z1:=(HVC.out 1 _ rfl).1
  have z2:=(HVC.out 2 _ rfl).1
  have HCL:=kq (printe_spec a rs cap hl hall n v _ m w1 hm HC.out.rd HV.out hva (HPL.out HF.out.symm))
  rw [← HE.out] at HCL
  have hel : E.length = L:=by rw [HE.out,HL.out]; exact encV_length hall m hm v hva
  have HEL:=kq hel
  clear hel
  clear hok hva hn hall HF
  go_wp2_with fail
  refine HCL.out.mono ?_
  rintro e w2 ⟨z,rfl,ho,hb2⟩
  obtain ⟨az,cz,rfl,hrow⟩:=ho.row
  have HRW:=kq (hrow.more HB.out.size)
  replace HB:=kq (HB.out.trans (hb2.mono HB.out.size))
  clear ho hb2 hrow HCL
  by_cases hle : L ≤ 400
  ·obtain rfl : pb = true:=by rw [HPB.out,decide_eq_true hle]; rfl
   have g1 : ¬ (400 : Int) < (E.length : Int):=by have:=HEL.out; omega
   go_wp2
   go_ret2
   exact ⟨_,E,_,rfl,rfl,HRW.out,HB.out⟩
  ·obtain rfl : pb = false:=by rw [HPB.out,decide_eq_false hle]; rfl
   have g1 : (400 : Int) < (E.length : Int):=by have:=HEL.out; omega
   go_wp2
   go_ret2
   exact pve_none HB.out
theorem printf_spec (a : Option Addr) (rs : List RuleV) (cap n : Nat) (v : ValueV) (vs : List Value) (w : World) (hl : rs.length ≤ 1048576) (hs : ∀ r ∈ rs,Short r) (hp : ∀ r ∈ rs,Spelt r) (h : RdC a rs w) (hv : IsVal n v vs w) (hpl : fitsV rs ((rs.length : Int) - 1) v = true → plen rs ((rs.length : Int) - 1) v ≤ 1099511627776) :
  Calls Tryz.prog 47 #[.agg #[.slice a rs.length cap],.agg vs.toArray] w (PvE (printB rs ((rs.length : Int) - 1) v) (encV rs ((rs.length : Int) - 1) v) w):=by
 have hiv:=hv
 obtain ⟨ab,cb,ai,ci,rfl⟩:=hv.cells
 obtain ⟨w0,hw0⟩ : ∃ w0,w0 = (w.alloc (.cells #[.slice a rs.length cap] 26)).alloc (.cells #[.int .i64 v.number,.slice ab v.bytes.length cb,.slice ai v.items.length ci] 48):=⟨_,rfl⟩
 have hB:=zb2 hw0
 have hD:=zk2 hw0
 have hVC:=zk3 hw0
 have hbd : Below w0.heap.size w0 w0.drew:=below_drewN (Below.refl _ _) 1
 have HD:=kq (hD.below hbd)
 have HVC:=kq (hVC.below hbd)
 have HB:=kq (hB.trans (hbd.mono hB.size))
 have HCW:=kq h
 have hW:=kq hw0
 obtain ⟨k,hk⟩ : ∃ k,k = (rs.length : Int) - 1:=⟨_,rfl⟩
 obtain ⟨E,hE⟩ : ∃ E,E = encV rs k v:=⟨_,rfl⟩
 obtain ⟨pb,hpb⟩ : ∃ b,b = printB rs k v:=⟨_,rfl⟩
 have HCL : Hid (∀ W,Below w.heap.size w W → Calls Tryz.prog 81 #[.agg #[.slice a rs.length cap],.int .i64 k,.agg #[.int .i64 v.number,.slice ab v.bytes.length cb,.slice ai v.items.length ci]] W (PvE pb E W)):=fun W hW => by rw [hE,hpb]; exact printve_spec a rs cap n k v _ W hl hs hp (h.below hW) (hiv.below hW) (by rw [hk]; exact hpl)
 have HRO : Hid (∀ W,Below w.heap.size w W → Calls Tryz.prog 78 #[.agg #[.slice a rs.length cap]] W fun e w' => e = .returned (.int .i64 k) ∧ Below W.heap.size W w'):=fun W hW => by rw [hk]; exact root_spec a rs cap W (by omega) (h.below hW).rd
 rw [← hk,← hE,← hpb]
 clear h hv hiv hB hD hVC hbd hs hp hw0 hE hpb hpl hk
 go_enter Tryz.func47,Tryz.ntmps47
 go_upto_region 1 with fail
 rw [← hW.out]
 clear hW
 go_region_held3 (fun W => W.cell? ⟨w.heap.size,0,none⟩ = some (.slice a rs.length cap) ∧ W.cell? ⟨w.heap.size + 1,0,none⟩ = some (.int .i64 v.number) ∧ W.cell? ⟨w.heap.size + 1,1,none⟩ = some (.slice ab v.bytes.length cb) ∧ W.cell? ⟨w.heap.size + 1,2,none⟩ = some (.slice ai v.items.length ci)) (exact ⟨(HD.out 0 _ rfl).1,(HVC.out 0 _ rfl).1,(HVC.out 1 _ rfl).1,(HVC.out 2 _ rfl).1⟩) (first | (go_at_call 78; refine (HRO.out _ HB.out).mono ?_; rintro e w3 ⟨rfl,hb3⟩; replace HD:=kq (HD.out.below hb3); replace HVC:=kq (HVC.out.below hb3); replace HB:=kq (HB.out.trans (hb3.mono HB.out.size)); clear hb3) | (go_at_call 81; refine (HCL.out _ HB.out).mono ?_; rintro e w4 ⟨az,bs,cz,rfl,hbs,hrow,hb4⟩; have HRW:=kq (hrow.more HB.out.size); have HBS:=kq hbs; replace HD:=kq (HD.out.below hb4); replace HVC:=kq (HVC.out.below hb4); replace HB:=kq (HB.out.trans (hb4.mono HB.out.size)); clear hb4 hrow hbs))
 all_goals (go_wp2; go_ret2; exact ⟨az,bs,cz,rfl,HBS.out,HRW.out,HB.out⟩)
end Go.Proofs.YtefkhknfjohnaaaGreatDoor
