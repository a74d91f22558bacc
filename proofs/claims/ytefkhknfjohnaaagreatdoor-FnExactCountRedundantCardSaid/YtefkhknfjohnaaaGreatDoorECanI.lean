/- The contracts of CanonicalFile, IsCanonical, CountRedundant and SameFile, of the model and of the program. -/
import Derived.Test.YtefkhknfjohnaaaGreatDoorEK
import Derived.Test.YtefkhknfjohnaaaGreatDoorECanP
import Derived.Test.YtefkhknfjohnaaaGreatDoorEPP
import Derived.Test.YtefkhknfjohnaaaGreatDoorEPA
import Derived.Test.YtefkhknfjohnaaaGreatDoorEGSF
import Derived.Test.YtefkhknfjohnaaaGreatDoorEGIF
import Derived.Test.YtefkhknfjohnaaaGreatDoorEGKG
import Derived.Test.YtefkhknfjohnaaaGreatDoorESEqV
import Derived.Test.YtefkhknfjohnaaaGreatDoorEIEqV
import Derived.Deep.RegionHeld3
import Derived.Deep.CutRange
set_option maxRecDepth 100000
set_option maxHeartbeats 8000000
namespace Go.Proofs.YtefkhknfjohnaaaGreatDoor
open Go Go.RowKit
theorem scan_spec (a ab : Option Addr) (rs : List RuleV) (cap cb : Nat) (L : List UInt8) (w : World) (hl : rs.length ≤ 1048576) (hs : ∀ r ∈ rs,Short r) (hsp : ∀ r ∈ rs,Spelt r) (hrd : RdC a rs w) (hsrc : SrcB ab L cb w) (hLb : L.length ≤ 1099511627776) :
  Calls Tryz.prog 19 #[.agg #[.slice a rs.length cap],.slice ab L.length cb] w (PvE (canoB rs L) (canoL rs L) w):=by
 obtain ⟨w0,hw0⟩ : ∃ w0,w0 = w.alloc (.cells #[.slice a rs.length cap] 26):=⟨_,rfl⟩
 have hB:=zb1 hw0
 have hD:=zk1 hw0
 have HB:=kq hB
 have HD:=kq hD
 have HW:=kq hw0
 have HRD:=kq hrd
 have x0:=(hD 0 _ rfl).1
 have HRF:=kq (sreadfile_spec a ab rs cap cb L w0 hl hs hsp (hrd.below hB) (hsrc.below hB) hLb)
 have hcode:=fun q c => fileG_code (rs:=rs) (L:=L) (q:=q) (c:=c)
 have hsz:=fileG_siz rs L
 have HS:=kq hs
 have HSP:=kq hsp
 unfold canoB canoL
 generalize fileG rs L = g at HRF hcode hsz ⊢
 clear hrd hsrc hs hsp hB hD hw0
 cases g with
 | bad q' c' =>
  clear hsz
  obtain ⟨hc1,hc2⟩:=hcode q' c' rfl
  clear hcode
  have hc9 : ((c' : Int) != 0) = true:=by simp; omega
  go_enter Tryz.func19,Tryz.ntmps19
  go_upto_region 1 with fail
  rw [← HW.out]
  clear HW
  go_wp2_with fail
  refine HRF.out.mono ?_
  rintro e w2 ⟨rfl,hb2⟩
  replace HB:=kq (HB.out.trans (hb2.mono HB.out.size))
  clear hb2
  obtain ⟨z,hz⟩ : ∃ z,z = w2.alloc (.cells #[.int .i64 0,.slice none 0 0,.slice none 0 0] 48):=⟨_,rfl⟩
  have hb:=zb1 hz
  have HV:=kq (zk1 hz)
  have HZ:=kq hz
  replace HB:=kq (HB.out.trans (hb.mono HB.out.size))
  clear hb hz
  go_upto_region 2 with fail
  rw [← HZ.out]
  clear HZ
  go_wp2
  go_ret2
  exact pve_none HB.out
 | ok v q' =>
  clear hcode
  simp only
  replace hsz : sizV v ≤ 1048576:=hsz
  obtain ⟨kk,hkk⟩ : ∃ kk,kk = (rs.length : Int) - 1:=⟨_,rfl⟩
  obtain ⟨pb,hpb⟩ : ∃ b,b = printB rs ((rs.length : Int) - 1) v:=⟨_,rfl⟩
  obtain ⟨E,hE⟩ : ∃ E,E = encV rs ((rs.length : Int) - 1) v:=⟨_,rfl⟩
  rw [← hpb,← hE]
  have HPF : Hid (∀ (vs : List Value) (W : World),RdC a rs W → IsVal rs.length v vs W → Calls Tryz.prog 47 #[.agg #[.slice a rs.length cap],.agg vs.toArray] W (PvE pb E W)):=fun vs W h1 h2 => by rw [hpb,hE]; exact printf_spec a rs cap rs.length v vs W hl HS.out HSP.out h1 h2 (plen_fits hsz)
  clear hpb hE hsz hkk
  go_enter Tryz.func19,Tryz.ntmps19
  go_upto_region 1 with fail
  rw [← HW.out]
  clear HW
  go_wp2_with fail
  refine HRF.out.mono ?_
  rintro e w2 ⟨⟨cs',rfl,hown⟩,hb⟩
  obtain ⟨ax,cx,ix,dx,rfl⟩:=hown.cells
  have HIV:=kq hown.is
  replace HB:=kq (HB.out.trans (hb.mono HB.out.size))
  replace HD:=kq (HD.out.below hb)
  clear hb hown HRF x0
  obtain ⟨z,hz⟩ : ∃ z,z = w2.alloc (.cells #[.int .i64 v.number,.slice ax v.bytes.length cx,.slice ix v.items.length dx] 48):=⟨_,rfl⟩
  have hb:=zb1 hz
  have HV:=kq (zk1 hz)
  have HZ:=kq hz
  replace HD:=kq (HD.out.below hb)
  replace HIV:=kq (HIV.out.below hb)
  replace HB:=kq (HB.out.trans (hb.mono HB.out.size))
  clear hb hz
  go_upto_region 2 with fail
  rw [← HZ.out]
  clear HZ
  have x0:=(HD.out 0 _ rfl).1
  have v0:=(HV.out 0 _ rfl).1
  have v1:=(HV.out 1 _ rfl).1
  have v2:=(HV.out 2 _ rfl).1
  go_wp2_with fail
  refine (HPF.out _ _ (HRD.out.below HB.out) HIV.out).mono ?_
  rintro e w3 ⟨az,bs,cz,rfl,hbs,hrow,hb⟩
  have HRW:=kq (hrow.more HB.out.size)
  have HBS:=kq hbs
  replace HB:=kq (HB.out.trans (hb.mono HB.out.size))
  clear hrow hb hbs
  go_wp2
  go_ret2
  exact ⟨az,bs,cz,rfl,HBS.out,HRW.out,HB.out⟩
theorem scanS_spec (a ab : Option Addr) (rs : List RuleV) (cap cb : Nat) (L : List UInt8) (w : World) (hl : rs.length ≤ 1048576) (hs : ∀ r ∈ rs,Short r) (hsp : ∀ r ∈ rs,Spelt r) (hrd : RdC a rs w) (hsrc : SrcB ab L cb w) (hLb : L.length ≤ 1099511627776) :
  Calls Tryz.prog 19 #[.agg #[.slice a rs.length cap],.slice ab L.length cb] w (ByteB (canoS rs L) (canoB rs L) w):=(scan_spec a ab rs cap cb L w hl hs hsp hrd hsrc hLb).mono fun _ _ h => pve_bytes h
theorem siscan_spec (a ab : Option Addr) (rs : List RuleV) (cap cb : Nat) (L : List UInt8) (w : World) (hl : rs.length ≤ 1048576) (hs : ∀ r ∈ rs,Short r) (hsp : ∀ r ∈ rs,Spelt r) (hrd : RdC a rs w) (hsrc : SrcB ab L cb w) (hLb : L.length ≤ 1099511627776) :
  Calls Tryz.prog 27 #[.agg #[.slice a rs.length cap],.slice ab L.length cb] w fun e w' => e = .returned (.bool (iscB rs L)) ∧ Below w.heap.size w w':=by
 obtain ⟨w0,hw0⟩ : ∃ w0,w0 = w.alloc (.cells #[.slice a rs.length cap] 26):=⟨_,rfl⟩
 have hB:=zb1 hw0
 have hD:=zk1 hw0
 have HB:=kq hB
 have HD:=kq hD
 have HW:=kq hw0
 have HRD:=kq hrd
 have x0:=(hD 0 _ rfl).1
 have HC:=kq (scan_spec a ab rs cap cb L w0 hl hs hsp (hrd.below hB) (hsrc.below hB) hLb)
 have HSB:=kq (hsrc.below hB)
 have hcl:=cano_le (rs:=rs) (L:=L)
 unfold iscB
 generalize canoL rs L = E at HC hcl ⊢
 generalize canoB rs L = pb at HC hcl ⊢
 clear hrd hsrc hs hsp hB hD hw0
 cases pb with
 | false =>
  go_enter Tryz.func27,Tryz.ntmps27
  go_upto_region 1 with fail
  rw [← HW.out]
  clear HW
  go_wp2_with fail
  refine HC.out.mono ?_
  rintro e w2 ⟨az,bs,cz,rfl,hbs,hrow,hb⟩
  replace HB:=kq (HB.out.trans (hb.mono HB.out.size))
  clear hrow hb hbs
  go_wp2
  go_ret
  exact ⟨rfl,HB.out⟩
 | true =>
  replace hcl:=hcl rfl
  obtain ⟨rr,hrr⟩ : ∃ rr,rr = (true && decide (E = L)):=⟨_,rfl⟩
  rw [← hrr]
  have HRR:=kq hrr
  clear hrr
  go_enter Tryz.func27,Tryz.ntmps27
  go_upto_region 1 with fail
  rw [← HW.out]
  clear HW
  go_wp2_with fail
  refine HC.out.mono ?_
  rintro e w2 ⟨az,bs,cz,rfl,hbs,hrow,hb⟩
  rw [if_pos rfl] at hbs
  subst hbs
  have HRW:=kq hrow
  replace HSB:=kq (HSB.out.below hb)
  replace HB:=kq (HB.out.trans (hb.mono HB.out.size))
  clear hrow hb
  go_wp2_with fail
  refine (eqb_spec az ab bs L cz cb _ (by omega) HRW.out.rd HSB.out.1).mono ?_
  rintro e w3 ⟨he,nq,rfl⟩
  rw [show decide (bs = L) = rr from by rw [HRR.out]; rfl] at he
  subst he
  have HBZ:=kq (below_drewN HB.out nq)
  go_wp2
  go_ret
  exact ⟨rfl,HBZ.out⟩
theorem sred_spec (a ab : Option Addr) (rs : List RuleV) (cap cb : Nat) (L : List UInt8) (w : World) (hl : rs.length ≤ 1048576) (hs : ∀ r ∈ rs,Short r) (hsp : ∀ r ∈ rs,Spelt r) (hrd : RdC a rs w) (hsrc : SrcB ab L cb w) (hLb : L.length ≤ 1099511627776) :
  Calls Tryz.prog 29 #[.agg #[.slice a rs.length cap],.slice ab L.length cb] w fun e w' => e = .returned (.int .i64 (redN rs L)) ∧ Below w.heap.size w w':=by
 obtain ⟨w0,hw0⟩ : ∃ w0,w0 = w.alloc (.cells #[.slice a rs.length cap] 26):=⟨_,rfl⟩
 have hB:=zb1 hw0
 have hD:=zk1 hw0
 have HB:=kq hB
 have HD:=kq hD
 have HW:=kq hw0
 have HRD:=kq hrd
 have x0:=(hD 0 _ rfl).1
 have HC:=kq (scan_spec a ab rs cap cb L w0 hl hs hsp (hrd.below hB) (hsrc.below hB) hLb)
 have hcl:=cano_le (rs:=rs) (L:=L)
 unfold redN
 generalize canoL rs L = E at HC hcl ⊢
 generalize canoB rs L = pb at HC hcl ⊢
 clear hrd hsrc hs hsp hB hD hw0
 cases pb with
 | false =>
  go_enter Tryz.func29,Tryz.ntmps29
  go_upto_region 1 with fail
  rw [← HW.out]
  clear HW
  go_wp2_with fail
  refine HC.out.mono ?_
  rintro e w2 ⟨az,bs,cz,rfl,hbs,hrow,hb⟩
  replace HB:=kq (HB.out.trans (hb.mono HB.out.size))
  clear hrow hb hbs
  go_wp2
  go_ret
  exact ⟨rfl,HB.out⟩
 | true =>
  replace hcl:=hcl rfl
  go_enter Tryz.func29,Tryz.ntmps29
  go_upto_region 1 with fail
  rw [← HW.out]
  clear HW
  go_wp2_with fail
  refine HC.out.mono ?_
  rintro e w2 ⟨az,bs,cz,rfl,hbs,hrow,hb⟩
  rw [if_pos rfl] at hbs
  subst hbs
  replace HB:=kq (HB.out.trans (hb.mono HB.out.size))
  clear hrow hb
  go_wp2
  go_ret
  exact ⟨by first | rfl | (rw [if_pos rfl]),HB.out⟩
theorem ican_impl (a ab : Option Addr) (rs : List RuleV) (cap cb : Nat) (L : List UInt8) (w : World) (hl : rs.length ≤ 1048576) (hs : ∀ r ∈ rs,Short r) (hsp : ∀ r ∈ rs,Spelt r) (hrd : RdC a rs w) (hsrc : SrcB ab L cb w) (hLb : L.length ≤ 1099511627776) (hg : HandleAt w) :
  Calls Tryz.prog 12 #[.agg #[.slice a rs.length cap],.slice ab L.length cb] w (PvE (canoB rs L) (canoL rs L) w):=by
 obtain ⟨w0,hw0⟩ : ∃ w0,w0 = w.alloc (.cells #[.slice a rs.length cap] 26):=⟨_,rfl⟩
 have hB:=zb1 hw0
 have hD:=zk1 hw0
 have HB:=kq hB
 have HD:=kq hD
 have HW:=kq hw0
 have HRD:=kq hrd
 have x0:=(hD 0 _ rfl).1
 have HRF:=kq (readfile_impl a ab rs cap cb L w0 hl hs hsp (hrd.below hB) (hsrc.below hB) hLb (hg.below hB))
 have hcode:=fun q c => fileG_code (rs:=rs) (L:=L) (q:=q) (c:=c)
 have hsz:=fileG_siz rs L
 have HS:=kq hs
 have HSP:=kq hsp
 unfold canoB canoL
 generalize fileG rs L = g at HRF hcode hsz ⊢
 clear hrd hsrc hs hsp hB hD hw0 hg
 cases g with
 | bad q' c' =>
  clear hsz
  obtain ⟨hc1,hc2⟩:=hcode q' c' rfl
  clear hcode
  have hc9 : ((c' : Int) != 0) = true:=by simp; omega
  go_enter Tryz.func12,Tryz.ntmps12
  go_upto_region 1 with fail
  rw [← HW.out]
  clear HW
  go_wp2_with fail
  refine HRF.out.mono ?_
  rintro e w2 ⟨rfl,hb2⟩
  replace HB:=kq (HB.out.trans (hb2.mono HB.out.size))
  clear hb2
  obtain ⟨z,hz⟩ : ∃ z,z = w2.alloc (.cells #[.int .i64 0,.slice none 0 0,.slice none 0 0] 48):=⟨_,rfl⟩
  have hb:=zb1 hz
  have HV:=kq (zk1 hz)
  have HZ:=kq hz
  replace HB:=kq (HB.out.trans (hb.mono HB.out.size))
  clear hb hz
  go_upto_region 2 with fail
  rw [← HZ.out]
  clear HZ
  go_wp2
  go_ret2
  exact pve_none HB.out
 | ok v q' =>
  clear hcode
  simp only
  replace hsz : sizV v ≤ 1048576:=hsz
  obtain ⟨kk,hkk⟩ : ∃ kk,kk = (rs.length : Int) - 1:=⟨_,rfl⟩
  obtain ⟨pb,hpb⟩ : ∃ b,b = printB rs ((rs.length : Int) - 1) v:=⟨_,rfl⟩
  obtain ⟨E,hE⟩ : ∃ E,E = encV rs ((rs.length : Int) - 1) v:=⟨_,rfl⟩
  rw [← hpb,← hE]
  have HPF : Hid (∀ (vs : List Value) (W : World),RdC a rs W → IsVal rs.length v vs W → Calls Tryz.prog 42 #[.agg #[.slice a rs.length cap],.agg vs.toArray] W (PvE pb E W)):=fun vs W h1 h2 => by rw [hpb,hE]; exact printf_impl a rs cap rs.length v vs W hl HS.out HSP.out h1 h2
  clear hpb hE hsz hkk
  go_enter Tryz.func12,Tryz.ntmps12
  go_upto_region 1 with fail
  rw [← HW.out]
  clear HW
  go_wp2_with fail
  refine HRF.out.mono ?_
  rintro e w2 ⟨⟨bl',cs',rfl,hown,_⟩,hb⟩
  obtain ⟨ax,cx,ix,dx,rfl⟩:=hown.cells
  have HIV:=kq hown.is
  replace HB:=kq (HB.out.trans (hb.mono HB.out.size))
  replace HD:=kq (HD.out.below hb)
  clear hb hown HRF x0
  obtain ⟨z,hz⟩ : ∃ z,z = w2.alloc (.cells #[.int .i64 v.number,.slice ax v.bytes.length cx,.slice ix v.items.length dx] 48):=⟨_,rfl⟩
  have hb:=zb1 hz
  have HV:=kq (zk1 hz)
  have HZ:=kq hz
  replace HD:=kq (HD.out.below hb)
  replace HIV:=kq (HIV.out.below hb)
  replace HB:=kq (HB.out.trans (hb.mono HB.out.size))
  clear hb hz
  go_upto_region 2 with fail
  rw [← HZ.out]
  clear HZ
  have x0:=(HD.out 0 _ rfl).1
  have v0:=(HV.out 0 _ rfl).1
  have v1:=(HV.out 1 _ rfl).1
  have v2:=(HV.out 2 _ rfl).1
  go_wp2_with fail
  refine (HPF.out _ _ (HRD.out.below HB.out) HIV.out).mono ?_
  rintro e w3 ⟨az,bs,cz,rfl,hbs,hrow,hb⟩
  have HRW:=kq (hrow.more HB.out.size)
  have HBS:=kq hbs
  replace HB:=kq (HB.out.trans (hb.mono HB.out.size))
  clear hrow hb hbs
  go_wp2
  go_ret2
  exact ⟨az,bs,cz,rfl,HBS.out,HRW.out,HB.out⟩
theorem icanS_impl (a ab : Option Addr) (rs : List RuleV) (cap cb : Nat) (L : List UInt8) (w : World) (hl : rs.length ≤ 1048576) (hs : ∀ r ∈ rs,Short r) (hsp : ∀ r ∈ rs,Spelt r) (hrd : RdC a rs w) (hsrc : SrcB ab L cb w) (hLb : L.length ≤ 1099511627776) (hg : HandleAt w) :
  Calls Tryz.prog 12 #[.agg #[.slice a rs.length cap],.slice ab L.length cb] w (ByteB (canoS rs L) (canoB rs L) w):=(ican_impl a ab rs cap cb L w hl hs hsp hrd hsrc hLb hg).mono fun _ _ h => pve_bytes h
theorem iiscan_impl (a ab : Option Addr) (rs : List RuleV) (cap cb : Nat) (L : List UInt8) (w : World) (hl : rs.length ≤ 1048576) (hs : ∀ r ∈ rs,Short r) (hsp : ∀ r ∈ rs,Spelt r) (hrd : RdC a rs w) (hsrc : SrcB ab L cb w) (hLb : L.length ≤ 1099511627776) (hg : HandleAt w) :
  Calls Tryz.prog 14 #[.agg #[.slice a rs.length cap],.slice ab L.length cb] w fun e w' => e = .returned (.bool (iscB rs L)) ∧ Below w.heap.size w w':=by
 obtain ⟨w0,hw0⟩ : ∃ w0,w0 = w.alloc (.cells #[.slice a rs.length cap] 26):=⟨_,rfl⟩
 have hB:=zb1 hw0
 have hD:=zk1 hw0
 have HB:=kq hB
 have HD:=kq hD
 have HW:=kq hw0
 have HRD:=kq hrd
 have x0:=(hD 0 _ rfl).1
 have HC:=kq (ican_impl a ab rs cap cb L w0 hl hs hsp (hrd.below hB) (hsrc.below hB) hLb (hg.below hB))
 have HSB:=kq (hsrc.below hB)
 have hcl:=cano_le (rs:=rs) (L:=L)
 unfold iscB
 generalize canoL rs L = E at HC hcl ⊢
 generalize canoB rs L = pb at HC hcl ⊢
 clear hrd hsrc hs hsp hB hD hw0 hg
 cases pb with
 | false =>
  go_enter Tryz.func14,Tryz.ntmps14
  go_upto_region 1 with fail
  rw [← HW.out]
  clear HW
  go_wp2_with fail
  refine HC.out.mono ?_
  rintro e w2 ⟨az,bs,cz,rfl,hbs,hrow,hb⟩
  replace HB:=kq (HB.out.trans (hb.mono HB.out.size))
  clear hrow hb hbs
  go_wp2
  go_ret
  exact ⟨rfl,HB.out⟩
 | true =>
  replace hcl:=hcl rfl
  obtain ⟨rr,hrr⟩ : ∃ rr,rr = (true && decide (E = L)):=⟨_,rfl⟩
  rw [← hrr]
  have HRR:=kq hrr
  clear hrr
  go_enter Tryz.func14,Tryz.ntmps14
  go_upto_region 1 with fail
  rw [← HW.out]
  clear HW
  go_wp2_with fail
  refine HC.out.mono ?_
  rintro e w2 ⟨az,bs,cz,rfl,hbs,hrow,hb⟩
  rw [if_pos rfl] at hbs
  subst hbs
  have HRW:=kq hrow
  replace HSB:=kq (HSB.out.below hb)
  replace HB:=kq (HB.out.trans (hb.mono HB.out.size))
  clear hrow hb
  go_wp2_with fail
  refine (eqb_impl az bs cz ab L cb _ (by omega) HRW.out.rd hLb HSB.out.1).mono ?_
  rintro e w3 ⟨he,hb⟩
  rw [show decide (bs = L) = rr from by rw [HRR.out]; rfl] at he
  subst he
  have HBZ:=kq (HB.out.trans (hb.mono HB.out.size))
  clear hb
  go_wp2
  go_ret
  exact ⟨rfl,HBZ.out⟩
theorem ired_impl (a ab : Option Addr) (rs : List RuleV) (cap cb : Nat) (L : List UInt8) (w : World) (hl : rs.length ≤ 1048576) (hs : ∀ r ∈ rs,Short r) (hsp : ∀ r ∈ rs,Spelt r) (hrd : RdC a rs w) (hsrc : SrcB ab L cb w) (hLb : L.length ≤ 1099511627776) (hg : HandleAt w) :
  Calls Tryz.prog 15 #[.agg #[.slice a rs.length cap],.slice ab L.length cb] w fun e w' => e = .returned (.int .i64 (redN rs L)) ∧ Below w.heap.size w w':=by
 obtain ⟨w0,hw0⟩ : ∃ w0,w0 = w.alloc (.cells #[.slice a rs.length cap] 26):=⟨_,rfl⟩
 have hB:=zb1 hw0
 have hD:=zk1 hw0
 have HB:=kq hB
 have HD:=kq hD
 have HW:=kq hw0
 have HRD:=kq hrd
 have x0:=(hD 0 _ rfl).1
 have HC:=kq (ican_impl a ab rs cap cb L w0 hl hs hsp (hrd.below hB) (hsrc.below hB) hLb (hg.below hB))
 have hcl:=cano_le (rs:=rs) (L:=L)
 unfold redN
 generalize canoL rs L = E at HC hcl ⊢
 generalize canoB rs L = pb at HC hcl ⊢
 clear hrd hsrc hs hsp hB hD hw0 hg
 cases pb with
 | false =>
  go_enter Tryz.func15,Tryz.ntmps15
  go_upto_region 1 with fail
  rw [← HW.out]
  clear HW
  go_wp2_with fail
  refine HC.out.mono ?_
  rintro e w2 ⟨az,bs,cz,rfl,hbs,hrow,hb⟩
  replace HB:=kq (HB.out.trans (hb.mono HB.out.size))
  clear hrow hb hbs
  go_wp2
  go_ret
  exact ⟨rfl,HB.out⟩
 | true =>
  replace hcl:=hcl rfl
  go_enter Tryz.func15,Tryz.ntmps15
  go_upto_region 1 with fail
  rw [← HW.out]
  clear HW
  go_wp2_with fail
  refine HC.out.mono ?_
  rintro e w2 ⟨az,bs,cz,rfl,hbs,hrow,hb⟩
  rw [if_pos rfl] at hbs
  subst hbs
  replace HB:=kq (HB.out.trans (hb.mono HB.out.size))
  clear hrow hb
  go_wp2
  go_ret
  exact ⟨by first | rfl | (rw [if_pos rfl]),HB.out⟩
end Go.Proofs.YtefkhknfjohnaaaGreatDoor
