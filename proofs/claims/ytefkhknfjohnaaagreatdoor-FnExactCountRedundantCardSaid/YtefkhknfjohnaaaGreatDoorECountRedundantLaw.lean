/- It is proved that the law FnExactCountRedundant returns true at every input of its parameter types and leaves its arguments as they were (statement Rows.FnExactCountRedundantCardSaid), under no condition beyond the card's own: the one listed variable, errors.errorType, reads as the library's text lays it. -/
import Derived.Test.YtefkhknfjohnaaaGreatDoorEK
import Derived.Test.YtefkhknfjohnaaaGreatDoorEGKO
import Derived.Test.YtefkhknfjohnaaaGreatDoorEGKG
import Derived.Test.YtefkhknfjohnaaaGreatDoorECanI
import Derived.Test.YtefkhknfjohnaaaGreatDoorCards
import Derived.Test.YtefkhknfjohnaaaGreatDoorTie
import Derived.SevenTiedAt
import Derived.Deep.RegionHeld3
import Derived.Deep.CutRange
set_option maxRecDepth 100000
namespace Go.Proofs.YtefkhknfjohnaaaGreatDoor
open Go Go.ChangeShapes Go.WideShapes Go.ChangeAt Go.RowKit
namespace fnExactCountRedundant
theorem walk_big0 (a0 : Option Addr) (rs0 : List RuleV) (cap0 : Nat) (ab : Option Addr) (bs : List UInt8) (cb : Nat) (w : World) (h : 1048576 < bs.length) :
  Calls Tryz.prog 7 #[.agg #[.slice a0 rs0.length cap0],.slice ab bs.length cb] w fun e w' => e = .returned (.bool true) ∧ Below w.heap.size w w':=by
 have g : (1048576 : Int) < (bs.length : Int):=by omega
 go_enter Tryz.func7,Tryz.ntmps7
 go_wp2
 go_ret
 exact ⟨rfl,(Below.refl _ _).alloc (Nat.le_refl _) _⟩
theorem walk_large (a0 : Option Addr) (rs0 : List RuleV) (cap0 : Nat) (ab : Option Addr) (bs : List UInt8) (cb : Nat) (w : World) (r0 : ArgD a0 rs0 cap0 w) (r2 : Arg ab bs cb w) (hg : HandleAt w) (hbs : bs.length ≤ 1048576) (h : 1048576 < sizeR rs0) :
  Calls Tryz.prog 7 #[.agg #[.slice a0 rs0.length cap0],.slice ab bs.length cb] w fun e w' => e = .returned (.bool true) ∧ Below w.heap.size w w':=by
 have g0 : ¬ (1048576 : Int) < (bs.length : Int):=by omega
 obtain ⟨hrd,hlc,hfit,-⟩:=r0
 obtain ⟨w0,hw0⟩ : ∃ w0,w0 = w.alloc (.cells #[.slice a0 rs0.length cap0] 37):=⟨_,rfl⟩
 have hB0:=zb1 hw0
 have hX0:=zk1 hw0
 have HB:=kq hB0
 have HX:=kq hX0
 have HR0:=kq hrd
 have HF0:=kq hfit
 have HA2:=kq r2.1
 have HG:=kq hg
 have HW0:=kq hw0
 clear hB0 hX0 hrd hfit r2 hg hw0
 go_enter Tryz.func7,Tryz.ntmps7
 go_upto_region 1 with fail
 rw [← HW0.out]
 clear HW0
 have b0:=(HX.out 0 _ rfl).1
 go_wp2_with fail
 refine (sz_descr0 a0 rs0 cap0 _ (by omega) HF0.out (HR0.out.below HB.out)).mono ?_
 rintro e w1 ⟨rfl,hb⟩
 replace HX:=kq (HX.out.below hb)
 replace HB:=kq (HB.out.trans (hb.mono HB.out.size))
 clear hb
 clear b0
 rw [leftN_no h]
 go_wp2
 go_ret
 exact ⟨rfl,HB.out⟩
set_option maxHeartbeats 8000000 in
theorem walk_short (a0 : Option Addr) (rs0 : List RuleV) (cap0 : Nat) (ab : Option Addr) (bs : List UInt8) (cb : Nat) (w : World) (r0 : ArgD a0 rs0 cap0 w) (r2 : Arg ab bs cb w) (hg : HandleAt w) (hbs : bs.length ≤ 1048576) (h : sizeR rs0 ≤ 1048576) :
  Calls Tryz.prog 7 #[.agg #[.slice a0 rs0.length cap0],.slice ab bs.length cb] w fun e w' => e = .returned (.bool true) ∧ Below w.heap.size w w':=by
 have hlen : rs0.length ≤ 1048576:=by unfold sizeR at h; omega
 have HS:=kq (short_of h)
 have HP:=kq (spelt_of h)
 obtain ⟨r,hr⟩ : ∃ r : Int,r = redN rs0 bs:=⟨_,rfl⟩
 have HSP : Hid (∀ (x : Option Addr) (y : Nat) (xab : Option Addr) (yab : Nat) (W : World),RdC x rs0 W → SrcB xab bs yab W → Calls Tryz.prog 29 #[.agg #[.slice x rs0.length y],.slice xab bs.length yab] W (fun e w' => e = .returned (.int .i64 r) ∧ Below W.heap.size W w')):=fun x y xab yab W h1 h2 => by rw [hr]; exact sred_spec x xab rs0 y yab bs W hlen HS.out HP.out h1 h2 (by omega)
 have HIM : Hid (∀ (x : Option Addr) (y : Nat) (xab : Option Addr) (yab : Nat) (W : World),RdC x rs0 W → SrcB xab bs yab W → HandleAt W → Calls Tryz.prog 15 #[.agg #[.slice x rs0.length y],.slice xab bs.length yab] W (fun e w' => e = .returned (.int .i64 r) ∧ Below W.heap.size W w')):=fun x y xab yab W h1 h2 hh => by rw [hr]; exact ired_impl x xab rs0 y yab bs W hlen HS.out HP.out h1 h2 (by omega) hh
 clear hr
 have g0 : ¬ (1048576 : Int) < (bs.length : Int):=by omega
 obtain ⟨hrd,hlc,hfit,-⟩:=r0
 obtain ⟨w0,hw0⟩ : ∃ w0,w0 = w.alloc (.cells #[.slice a0 rs0.length cap0] 37):=⟨_,rfl⟩
 have hB0:=zb1 hw0
 have hX0:=zk1 hw0
 have HB:=kq hB0
 have HX:=kq hX0
 have HR0:=kq hrd
 have HF0:=kq hfit
 have HA2:=kq r2.1
 have HG:=kq hg
 have HW0:=kq hw0
 clear hB0 hX0 hrd hfit r2 hg hw0
 go_enter Tryz.func7,Tryz.ntmps7
 go_upto_region 1 with fail
 rw [← HW0.out]
 clear HW0
 have b0:=(HX.out 0 _ rfl).1
 go_wp2_with fail
 refine (sz_descr0 a0 rs0 cap0 _ (by omega) HF0.out (HR0.out.below HB.out)).mono ?_
 rintro e w1 ⟨rfl,hb⟩
 replace HX:=kq (HX.out.below hb)
 replace HB:=kq (HB.out.trans (hb.mono HB.out.size))
 clear hb
 clear b0
 rw [leftN_yes h]
 obtain ⟨q,hq⟩ : ∃ q,q = 1048576 - sizeR rs0:=⟨_,rfl⟩
 rw [← hq]
 have hq1 : q ≤ 1048576:=by omega
 clear hq h
 have b0:=(HX.out 0 _ rfl).1
 go_wp2_with fail
 refine (to_descr a0 rs0 cap0 _ hlen HS.out (HR0.out.below HB.out)).mono ?_
 rintro e w2 ⟨xs,ys,rfl,ho,hb⟩
 have Hs:=kq ho
 clear b0
 clear ho
 replace HX:=kq (HX.out.below hb)
 replace HB:=kq (HB.out.trans (hb.mono HB.out.size))
 clear hb
 go_wp2_with fail
 refine (to_any ab bs cb _ (by omega) (HA2.out.below HB.out)).mono ?_
 rintro e w3 ⟨zs,ts,rfl,hrow,hb⟩
 have Bs:=kq hrow
 clear hrow
 replace HX:=kq (HX.out.below hb)
 replace Hs:=kq (Hs.out.below hb)
 replace HB:=kq (HB.out.trans (hb.mono HB.out.size))
 clear hb
 go_wp2_with fail
 refine (HSP.out _ _ _ _ _ Hs.out.rdc Bs.out.srcB).mono ?_
 rintro e w4 ⟨rfl,hb⟩
 replace HX:=kq (HX.out.below hb)
 replace Hs:=kq (Hs.out.below hb)
 replace Bs:=kq (Bs.out.below hb)
 replace HB:=kq (HB.out.trans (hb.mono HB.out.size))
 clear hb
 clear Hs Bs HSP
 have b0:=(HX.out 0 _ rfl).1
 go_wp2_with fail
 refine (to_descr a0 rs0 cap0 _ hlen HS.out (HR0.out.below HB.out)).mono ?_
 rintro e v5 ⟨xx,yx,rfl,ho,hb⟩
 have Hx:=kq ho
 clear b0
 clear ho
 have hs5:=kq hb.size
 replace HX:=kq (HX.out.below hb)
 replace HB:=kq (HB.out.trans (hb.mono HB.out.size))
 clear hb
 obtain ⟨zx,hzx⟩ : ∃ z,z = v5.alloc (.cells #[.slice xx rs0.length yx] 26):=⟨_,rfl⟩
 have hb:=zb1 hzx
 have hT:=zk1 hzx
 have Vx:=kq hT
 have hnx : Hid (zx.heap.size = v5.heap.size + 1):=by subst hzx; exact World.size_alloc _ _
 have HZ:=kq hzx
 clear hT hzx
 replace HX:=kq (HX.out.below hb)
 replace Hx:=kq (Hx.out.below hb)
 replace HB:=kq (HB.out.trans (hb.mono HB.out.size))
 clear hb
 go_upto_region 9 with fail
 rw [← HZ.out]
 clear HZ
 go_wp2_with fail
 refine (to_any ab bs cb _ (by omega) (HA2.out.below HB.out)).mono ?_
 rintro e v6 ⟨zx,tx,rfl,hrow,hb⟩
 have Bx:=kq hrow
 have KX:=kq (ko_blk hrow)
 have hs6:=kq hb.size
 clear hrow
 replace HX:=kq (HX.out.below hb)
 replace Hx:=kq (Hx.out.below hb)
 replace Vx:=kq (Vx.out.below hb)
 replace HB:=kq (HB.out.trans (hb.mono HB.out.size))
 clear hb
 have b0:=(Vx.out 0 _ rfl).1
 go_wp2_with fail
 refine (HIM.out _ _ _ _ _ Hx.out.rdc Bx.out.srcB (HG.out.below HB.out)).mono ?_
 rintro e v7 ⟨rfl,hb⟩
 replace HX:=kq (HX.out.below hb)
 replace Hx:=kq (Hx.out.below hb)
 replace Vx:=kq (Vx.out.below hb)
 replace Bx:=kq (Bx.out.below hb)
 replace HB:=kq (HB.out.trans (hb.mono HB.out.size))
 clear hb
 clear b0
 have er : (r != r) = false:=by simp
 go_upto_region 13 with fail
 clear er
 have hb : Below v7.heap.size v7 v7.drew:=below_drewN (Below.refl _ _) 1
 replace HX:=kq (HX.out.below hb)
 replace Hx:=kq (Hx.out.below hb)
 replace Vx:=kq (Vx.out.below hb)
 replace Bx:=kq (Bx.out.below hb)
 replace HB:=kq (HB.out.trans (hb.mono HB.out.size))
 clear hb
 go_region_held3 (fun W => W.cell? ⟨v5.heap.size,0,none⟩ = some (.slice xx rs0.length yx) ∧ W.cell? ⟨w.heap.size,0,none⟩ = some (.slice a0 rs0.length cap0)) (exact ⟨(Vx.out 0 _ rfl).1,(HX.out 0 _ rfl).1⟩) (first | (go_at_call 20; refine (to_descr a0 rs0 cap0 _ hlen HS.out (HR0.out.below HB.out)).mono ?_; rintro e u8 ⟨x8,y8,rfl,ho,hb⟩; have H8:=kq ho; clear ho; replace HX:=kq (HX.out.below hb); replace Hx:=kq (Hx.out.below hb); replace Vx:=kq (Vx.out.below hb); replace Bx:=kq (Bx.out.below hb); replace HB:=kq (HB.out.trans (hb.mono HB.out.size)); clear hb) | (go_at_call 23; refine (eq_descr xx x8 rs0 yx y8 _ hlen HS.out Hx.out.rd H8.out.rd).mono ?_; rintro e u9 ⟨rfl,hb⟩; replace HX:=kq (HX.out.below hb); replace Hx:=kq (Hx.out.below hb); replace Vx:=kq (Vx.out.below hb); replace Bx:=kq (Bx.out.below hb); replace HB:=kq (HB.out.trans (hb.mono HB.out.size)); clear hb))
 clear H8
 go_wp2_with fail
 refine (to_any ab bs cb _ (by omega) (HA2.out.below HB.out)).mono ?_
 rintro e u1 ⟨zq,tq,rfl,hrow,hb⟩
 have Bq:=kq hrow
 clear hrow
 replace HX:=kq (HX.out.below hb)
 replace Hx:=kq (Hx.out.below hb)
 replace Vx:=kq (Vx.out.below hb)
 replace Bx:=kq (Bx.out.below hb)
 replace HB:=kq (HB.out.trans (hb.mono HB.out.size))
 clear hb
 go_wp2_with fail
 refine (eq_any zx zq bs bs tx tq _ (by omega) Bx.out.rd Bq.out.rd).mono ?_
 rintro e u2 ⟨rfl,nq,hq9⟩
 rw [decide_eq_true (rfl : bs = bs)]
 have hb : Below u1.heap.size u1 u2:=by subst hq9; exact below_drewN (Below.refl _ _) nq
 replace HX:=kq (HX.out.below hb)
 replace Hx:=kq (Hx.out.below hb)
 replace Vx:=kq (Vx.out.below hb)
 replace Bx:=kq (Bx.out.below hb)
 replace Bq:=kq (Bq.out.below hb)
 replace HB:=kq (HB.out.trans (hb.mono HB.out.size))
 clear hb
 clear hq9 Bq
 try go_wp2
 go_ret
 exact ⟨rfl,HB.out⟩
theorem walk (a0 : Option Addr) (rs0 : List RuleV) (cap0 : Nat) (ab : Option Addr) (bs : List UInt8) (cb : Nat) (w : World) (r0 : ArgD a0 rs0 cap0 w) (r2 : Arg ab bs cb w) (hg : HandleAt w) :
  Calls Tryz.prog 7 #[.agg #[.slice a0 rs0.length cap0],.slice ab bs.length cb] w fun e w' => e = .returned (.bool true) ∧ Below w.heap.size w w':=by
 by_cases hb0 : 1048576 < bs.length
 ·exact walk_big0 a0 rs0 cap0 ab bs cb w hb0
 by_cases h : 1048576 < sizeR rs0
 ·exact walk_large a0 rs0 cap0 ab bs cb w r0 r2 hg (by omega) h
 exact walk_short a0 rs0 cap0 ab bs cb w r0 r2 hg (by omega) (by omega)
theorem door_met (os : Os) (args : Array Value) : laidMetH Tryz.prog Rows.fnExactCountRedundantRow.laid ((World.doorLaid Tryz.prog 400 os).forCall (fun _ _ => 0) ⟨#[],args,[]⟩).memory:=handle_met os args
theorem of_laid {W : World} (h : laidMetH Tryz.prog Rows.fnExactCountRedundantRow.laid W) : HandleAt W:=handle_of_laid h
theorem lifted (os : Os) (started : os.Started) (H : Type) (enc : TypeId × Value → H) :
  ReturnsInHanded {} Tryz.checked os 7 .any (fun w args => (Rows.fnExactCountRedundantSpec.pre enc Tryz.prog Tryz.f7 [] false w args ∧ laidMetH Tryz.prog Rows.fnExactCountRedundantRow.laid w) ∧ sizedMet enc Tryz.prog Tryz.f7 (OpenSpec.ofChange Rows.fnExactCountRedundantSpec) false w args)
   (Rows.fnExactCountRedundantSpec.post enc Tryz.prog Tryz.f7 false true false false):=by
 refine returnsInHanded_of_change_and (C:=Tryz.checked) (X:=fun w _ => laidMetH Tryz.prog Rows.fnExactCountRedundantRow.laid w) (fun _ _ _ hh h => h.of_heap hh) ownL started (by kernel_rfl) Tryz.func7
  (ChangeSpec.witness_shaped (enc:=enc) (C:=Tryz.checked) (os:=os) (X:=fun w _ => laidMetH Tryz.prog Rows.fnExactCountRedundantRow.laid w) false (World.doorLaid Tryz.prog 400 os) #[.agg #[.slice none 0 0],.slice none 0 0] 8 rfl (World.shaped_of_RefB (by kernel_rfl) (by kernel_rfl)) (by kernel_rfl) (by kernel_rfl) (by kernel_rfl) (door_met os _)) ?_
 intro W base args ds gs before hval0 hW _ _ hL _
 have hval : ∀ (j : Nat) t v,Tryz.f7.params[j]? = some t → args[j]? = some v → Value.okWide Tryz.prog W .any base t v:=hval0
 have hW':=hW
 obtain ⟨p,q,hA0,hV,rfl,hfz,hnd⟩:=hW
 have hA : DataW.TrodAll enc Tryz.prog W 0 (fun _ => true) true Tryz.f7.params.toList args.toList ds p:=hA0
 rw [Tryz.params7] at hA hval
 obtain ⟨v0,vs0,d0,ds0,p0,q0,hargs,rfl,rfl,h0,r0⟩:=trodAll_cons hA
 obtain ⟨v1,vs1,d1,ds1,p1,q1,rfl,rfl,rfl,h1,r1⟩:=trodAll_cons r0
 obtain ⟨rfl,rfl,rfl⟩:=trodAll_nil r1
 obtain rfl : args = #[v0,v1]:=by cases args; simp_all
 obtain ⟨rfl,rfl⟩:=trodVars_none hV
 simp only [List.append_nil] at hW'
 have hlt : ∀ x ∈ p0 ++ p1,x.block < W.heap.size:=fun x hx => hW'.lt x (by simpa using hx)
 obtain ⟨a0,rs0,cap0,rfl,hb0⟩:=descr_arg (hval 0 37 v0 rfl rfl) h0
 have m0 : ∀ (W' : World),Below W.heap.size W W' → DataW.Trod enc Tryz.prog W' 0 (fun b => decide (b < W.heap.size)) true 37 (.agg #[.slice a0 rs0.length cap0]) d0 p0:=fun W' hn => Below.trod laidOut (by kernel_rfl) (of_decide_eq_true (by kernel_rfl)) h0 hn (fun x hx => hlt x (by simp [hx]))
 obtain ⟨a1,len1,cap1,rfl⟩:=okWide_slice Tryz.underlying22 (hval 1 22 v1 rfl rfl)
 obtain ⟨bs1,rfl,hb1⟩:=bytes_arg h1
 have m1 : ∀ (W' : World),Below W.heap.size W W' → DataW.Trod enc Tryz.prog W' 0 (fun b => decide (b < W.heap.size)) true 22 (.slice a1 bs1.length cap1) d1 p1:=fun W' hn => Below.trod laidOut (by kernel_rfl) (of_decide_eq_true (by kernel_rfl)) h1 hn (fun x hx => hlt x (by simp [hx]))
 have hT:=of_laid hL
 clear hA0 hval0
 refine (walk a0 rs0 cap0 a1 bs1 cap1 W hb0 hb1 hT).mono fun e W' ⟨he,hb⟩ => ?_
 subst he
 exact ⟨_,rfl,_,_,_,[],_,[],hW',trodAll_cons_mk (shut_bool Tryz.underlying4 _) trodAll_mk0,(trodAll_cons_mk (m0 _ hb) (trodAll_cons_mk (m1 _ hb) trodAll_mk0)),rfl,hb.frame _,fun h => by cases h⟩
theorem row_holds : Rows.FnExactCountRedundantSaid :=
 OpenClaim.holds_of_wide 7 Tryz.f7 rfl rfl rfl rfl rfl rfl rfl ⟨rfl,rfl,rfl,rfl,rfl⟩ rfl rfl rfl rfl rfl (by kernel_rfl) Tryz.func7 (by kernel_rfl)
  (of_decide_eq_true (by kernel_rfl)) (by unfold Func.isWrapper; first | (rw [if_pos (by decide +kernel)]; kernel_rfl) | (rw [if_neg (by decide +kernel)]; exact ⟨rfl,rfl⟩))
  (fun os started H enc _ => lifted os started H enc)
theorem proved : Rows.FnExactCountRedundantCardSaid :=
 Claim7.holds_tied_plain_at .later [] [.handle] true Rows.fnExactCountRedundantCard.stood.harness Rows.fnExactCountRedundantCard.stood.looks
  row_holds (fun _ h => by cases h) (by kernel_rfl) (fun _ h => by cases h) fnExactCountRedundant_row_tie rfl ⟨rfl,rfl⟩ (by kernel_rfl) rfl
  (fun f fn hf hfn => by
   obtain rfl : f = 7:=Option.some.inj ((show Tryz.prog.funcNamed Rows.fnExactCountRedundantRow.func = some 7 by kernel_rfl).symm.trans hf) |>.symm
   obtain rfl : fn = Tryz.f7:=(Option.some.inj (Tryz.func7.symm.trans hfn)).symm
   exact ⟨by kernel_rfl,fun j t ht => by
    rw [Tryz.params7] at ht
    have hm : t ∈ [37,22]:=by simpa using Array.mem_of_getElem? ht
    have hall : ([37,22].all fun u => !Tryz.prog.wantsStandIn u) = true:=by kernel_rfl
    exact (show Tryz.prog.wantsStandIn t = false by simpa using List.all_eq_true.1 hall t hm)⟩)
  (by kernel_rfl)
end fnExactCountRedundant
#print axioms fnExactCountRedundant.proved
end Go.Proofs.YtefkhknfjohnaaaGreatDoor
