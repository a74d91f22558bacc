/- It is proved that the law FnSmallestFiles returns true at every input of its parameter type and leaves its argument as it was (statement Rows.FnSmallestFilesSaid), with no condition. -/
import Derived.Test.YtfmnjclnhppghaaGreatEK
import Derived.Test.YtfmnjclnhppghaaGreatEFacts
import Derived.Test.YtfmnjclnhppghaaGreatEISmall
import Derived.Test.YtfmnjclnhppghaaGreatEMC
import Derived.Test.YtfmnjclnhppghaaGreatEM8
import Derived.Test.YtfmnjclnhppghaaGreatEQP
import Derived.Test.YtfmnjclnhppghaaGreatEMD
import Derived.Test.YtfmnjclnhppghaaGreatEME
import Derived.Test.YtfmnjclnhppghaaGreatERowK
import Derived.Test.YtfmnjclnhppghaaGreatEM6
import Derived.Test.YtfmnjclnhppghaaGreatEGSz
import Derived.Deep.RegionHeld3
import Derived.Deep.CutRange
import Derived.IntWalk
set_option maxRecDepth 100000
namespace Go.Proofs.YtfmnjclnhppghaaGreat
open Go Go.ChangeShapes Go.WideShapes Go.ChangeAt Go.RowKit
namespace fnSmallestFiles
theorem big_no (a:Option Addr) (n cap:Nat) (w:World) (h:n ≤ 1048576):Calls Tryz.prog 7 #[.slice a n cap] w fun e w' => e = .returned (.bool false) ∧ w = w':=by
 have g:¬ (1048576:Int) < (n:Int):=by omega
 go_enter Tryz.func7,Tryz.ntmps7
 go_wp2
 go_ret
 exact ⟨rfl,rfl⟩
theorem big_yes (a:Option Addr) (n cap:Nat) (w:World) (h:1048576 < n) (_hm:n ≤ 9223372036854775807):Calls Tryz.prog 7 #[.slice a n cap] w fun e w' => e = .returned (.bool true) ∧ w = w':=by
 have g:(1048576:Int) < (n:Int):=by omega
 go_enter Tryz.func7,Tryz.ntmps7
 go_wp2
 go_ret
 exact ⟨rfl,rfl⟩
theorem walk_long (a0:Option Addr) (bs0:List UInt8) (cap0:Nat) (w:World) (h:1048576 < bs0.length) (hm:bs0.length ≤ 9223372036854775807) :
  Calls Tryz.prog 4 #[.slice a0 bs0.length cap0] w fun e w' => e = .returned (.bool true) ∧ Below w.heap.size w w':=by
 go_enter Tryz.func4,Tryz.ntmps4
 go_wp2_with fail
 refine (big_yes a0 bs0.length cap0 w h hm).mono ?_
 rintro e w1 ⟨rfl,rfl⟩
 go_wp2
 go_ret
 exact ⟨rfl,Below.refl _ _⟩
set_option maxHeartbeats 16000000 in
theorem walk_short (a0:Option Addr) (bs0:List UInt8) (cap0:Nat) (w:World) (h:bs0.length ≤ 1048576) (hs:Code a0 bs0.length w) :
  Calls Tryz.prog 4 #[.slice a0 bs0.length cap0] w fun e w' => e = .returned (.bool true) ∧ Below w.heap.size w w':=by
 have HS:=kq hs
 clear hs
 go_enter Tryz.func4,Tryz.ntmps4
 go_wp2_with fail
 refine (big_no a0 bs0.length cap0 w h).mono ?_
 rintro e w1 ⟨rfl,rfl⟩
 go_wp2_with fail
 refine (drawd a0 bs0.length cap0 w (by omega) HS.out).mono ?_
 rintro e w1 ⟨rs,x,cp,rfl,hm,⟨hn1,hn6⟩,-,hrow,hb1⟩
 obtain ⟨z,hz⟩ : ∃ z,z = w1.alloc (.cells #[.slice x rs.length cp] 26):=⟨_,rfl⟩
 have hbz:Below w1.heap.size w1 z:=by subst hz; exact (Below.refl _ _).alloc (Nat.le_refl _) _
 have HX:Hid (CellsAt w1.heap.size [.slice x rs.length cp] z):=by subst hz; exact CellsAt.new w1 _ _
 have HRK:=kq (hrow.rdk.below hbz)
 have HBZ:=kq (hb1.trans (hbz.mono hb1.size))
 have hval:=made_valid hm (by omega)
 have HSH:=kq (made_short hm)
 have HSP:=kq (made_spelt hm (by omega))
 obtain ⟨kk,hkk⟩ : ∃ kk:Nat,kk + 1 = rs.length:=⟨rs.length - 1,by omega⟩
 have hok:okAt rs (kk:Int) = true:=by unfold okAt; rw [decide_eq_true (by omega),descrB_yes ⟨hn1,by omega⟩ hval]; rfl
 have hki:(rs.length:Int) - 1 = (kk:Int):=by omega
 have HSM:Hid (∀ W,Below z.heap.size z W → Calls Tryz.prog 20 #[.agg #[.slice x rs.length cp]] W (PvE (printB rs (kk:Int) (defD rs (kk:Int))) (encV rs (kk:Int) (defD rs (kk:Int))) W)):=fun W hW => by rw [← hki]; exact small_impl x rs cp W (by omega) HSH.out HSP.out (HRK.out.below hW)
 have HSD:Hid (∀ W,Below z.heap.size z W → Calls Tryz.prog 21 #[.agg #[.slice x rs.length cp],.int .i64 (kk:Int)] W fun e w' => ∃ n cs,e = .returned (.agg cs.toArray) ∧ IsVal n (defD rs (kk:Int)) cs w' ∧ Below W.heap.size W w'):=fun W hW => by
  refine (sdefault_spec x rs cp (kk:Int) W (by omega) HSH.out HSP.out (HRK.out.below hW).rdc).mono ?_
  rintro e w' ⟨n,cs,rfl,ho,hb⟩
  exact ⟨n,cs,rfl,ho.is,hb⟩
 have HEL:Hid (∀ W n cs,Below z.heap.size z W → IsVal n (defD rs (kk:Int)) cs W → Calls Tryz.prog 10 #[.agg #[.slice x rs.length cp],.int .i64 (kk:Int),.agg cs.toArray] W fun e w' => e = .returned (.int .i64 (lenE rs (kk:Int) (defD rs (kk:Int)))) ∧ Below W.heap.size W w'):=fun W n cs hW hi => elene_spec x rs cp n (kk:Int) _ cs W (by omega) HSH.out HSP.out (HRK.out.below hW).rdc hi (fun _ => by have:=defD_len hok (by omega); omega)
 have HFI:Hid (∀ W ab cb,Below z.heap.size z W → SrcB ab (encV rs (kk:Int) (defD rs (kk:Int))) cb W → printB rs (kk:Int) (defD rs (kk:Int)) = true → Calls Tryz.prog 22 #[.agg #[.slice x rs.length cp],.slice ab (encV rs (kk:Int) (defD rs (kk:Int))).length cb] W fun e w' => e = .returned (.bool true) ∧ Below W.heap.size W w'):=fun W ab cb hW hsr hp => by
  have hf:=small_file hok hkk hp
  have h1:=sisfile_spec x ab rs cp cb _ W (by omega) HSH.out HSP.out (HRK.out.below hW).rdc hsr (by omega)
  rw [hf.1] at h1
  exact h1
 have HMS:Hid (∀ W,Below z.heap.size z W → Calls Tryz.prog 23 #[.agg #[.slice x rs.length cp],.int .i64 (kk:Int)] W fun e w' => e = .returned (.int .i64 (sizeD minStep rs (kk:Int))) ∧ Below W.heap.size W w'):=fun W hW => minsize_spec x rs cp (kk:Int) W (by omega) HSH.out HSP.out (HRK.out.below hW).rdc
 have HLE:Hid (printB rs (kk:Int) (defD rs (kk:Int)) = false → lenE rs (kk:Int) (defD rs (kk:Int)) = -1):=fun hf => by unfold lenE; rw [hf]; rfl
 have HMN:Hid (printB rs (kk:Int) (defD rs (kk:Int)) = true → sizeD minStep rs (kk:Int) ≤ ((encV rs (kk:Int) (defD rs (kk:Int))).length:Int) ∧ (encV rs (kk:Int) (defD rs (kk:Int))).length ≤ 400):=fun hp => (small_file hok hkk hp).2
 obtain ⟨sz,hsz⟩ : ∃ s,s = sizeD minStep rs (kk:Int):=⟨_,rfl⟩
 obtain ⟨le,hle⟩ : ∃ l,l = lenE rs (kk:Int) (defD rs (kk:Int)):=⟨_,rfl⟩
 obtain ⟨E,hE⟩ : ∃ E,E = encV rs (kk:Int) (defD rs (kk:Int)):=⟨_,rfl⟩
 obtain ⟨pb,hpb⟩ : ∃ b,b = printB rs (kk:Int) (defD rs (kk:Int)):=⟨_,rfl⟩
 rw [← hsz] at HMS HMN
 rw [← hle] at HEL HLE
 rw [← hE] at HSM HFI HMN
 rw [← hpb] at HSM HFI HMN HLE
 obtain ⟨v,hv⟩ : ∃ v,v = defD rs (kk:Int):=⟨_,rfl⟩
 rw [← hv] at HSD HEL
 have hW:=kq hz
 obtain ⟨D,hD⟩ : ∃ D,D = w1.heap.size:=⟨_,rfl⟩
 rw [← hD] at HX
 have HDD:=kq hD
 have HKK:Hid ((rs.length:Int) - 1 = (kk:Int)):=hki
 have HBW:=kq (Below.refl z.heap.size z)
 clear hz hbz hb1 hrow hm HS hD hval hok hsz hle hE hpb hv HRK HSH HSP
 generalize hrl:rs.length = R at hW HX HSM HSD HEL HFI HMS HKK hkk hki hn1 hn6 ⊢
 clear hrl
 have hwk:IntKind.i64.wrap ((R:Int) - 1) = (kk:Int):=by rw [hki]; exact IntWalk.i64_in _ (by omega)
 have hwk2:IntKind.i64.wrap (kk:Int) = (kk:Int):=IntWalk.i64_in _ (by omega)
 go_upto_region 4 with fail
 rw [← hW.out,← HDD.out]
 clear hW HDD
 have bx:=(HX.out 0 _ rfl).1
 go_wp2_with fail
 refine (HSM.out _ HBW.out).mono ?_
 rintro e y1 ⟨az,bs,cz,rfl,hbs,hrow,hb1⟩
 replace HX:=kq (HX.out.below hb1)
 replace HBW:=kq (HBW.out.trans (hb1.mono HBW.out.size))
 have HSR:=kq hrow.srcB
 clear hb1 hrow bx
 cases pb with
 | false =>
  obtain rfl:bs = []:=by rw [hbs]; rfl
  have hle:le = -1:=HLE.out rfl
  subst hle
  clear HFI HMS HMN HLE hbs
  have hd:Below y1.heap.size y1 y1.drew:=below_drewN (Below.refl _ _) 1
  replace HX:=kq (HX.out.below hd)
  replace HBW:=kq (HBW.out.trans (hd.mono HBW.out.size))
  clear hd
  go_upto_region 6 with fail
  refine wp_region_held_drew (S:=(fun W => W.cell? ⟨D,0,none⟩ = some (.slice x R cp))) (by kernel_rfl) ?_ (fun hHeld => ?_)
  ·(try dsimp only); exact (HX.out 0 _ rfl).1
  refine tq 0 (h:=?_)
  refine tq 1 (h:=?_)
  refine tq 2 (h:=?_)
  refine tq 3 (h:=?_)
  refine tq 4 (h:=?_)
  refine tq 5 (h:=?_)
  refine tq 6 (h:=?_)
  refine tq 7 (h:=?_)
  refine tq 8 (h:=?_)
  refine tq 9 (h:=?_)
  refine tq 10 (h:=?_)
  refine tq 11 (h:=?_)
  refine tq 12 (h:=?_)
  refine tq 13 (h:=?_)
  refine wpAnyH_ready (rs:=[14]) (by kernel_rfl) (by simp) ?_
  refine ac (h:=fun K hK => ?_)
  go_simp
  go_at_call 21; refine (HSD.out _ HBW.out).mono ?_; rintro e y5 ⟨n,cs,rfl,hiv,hb5⟩; have HIV:=kq hiv; obtain ⟨ab,cb,ai,ci,rfl⟩:=hiv.cells; replace HX:=kq (HX.out.below hb5); replace HBW:=kq (HBW.out.trans (hb5.mono HBW.out.size)); clear hb5 hiv
  go_wp2_with fail
  refine hK.out _ _ ?_ (fun hHeld => ?_)
  ·(try dsimp only); exact (HX.out 0 _ rfl).1
  clear hK K
  refine wpAnyH_ready (rs:=[15]) (by kernel_rfl) (by simp) ?_
  refine ac (h:=fun K hK => ?_)
  go_simp
  go_at_call 10; refine (HEL.out _ _ _ HBW.out HIV.out).mono ?_; rintro e y6 ⟨rfl,hb6⟩; replace HX:=kq (HX.out.below hb6); replace HBW:=kq (HBW.out.trans (hb6.mono HBW.out.size)); clear hb6
  go_wp2_with fail
  refine hK.out _ _ ?_ (fun hHeld => ?_)
  ·(try dsimp only); exact (HX.out 0 _ rfl).1
  clear hK K
  refine tq 16 (h:=?_)
  refine tq 17 (h:=?_)
  refine tq 18 (h:=?_)
  refine wpAnyH_done (by kernel_rfl) ?_ _
  have HBF:=kq (HBZ.out.trans (HBW.out.mono HBZ.out.size))
  go_wp2
  go_ret
  exact ⟨rfl,HBF.out⟩
 | true =>
  obtain rfl:bs = E:=by rw [hbs]; rfl
  obtain ⟨hmn,h400⟩:=HMN.out rfl
  clear HSD HEL HLE HMN hbs
  have bx:=(HX.out 0 _ rfl).1
  go_wp2_with fail
  refine (HFI.out _ _ _ HBW.out HSR.out (by first | trivial | rfl)).mono ?_
  rintro e y5 ⟨rfl,hb5⟩
  replace HX:=kq (HX.out.below hb5)
  replace HBW:=kq (HBW.out.trans (hb5.mono HBW.out.size))
  clear hb5 bx
  have bx:=(HX.out 0 _ rfl).1
  go_wp2_with fail
  refine (HMS.out _ HBW.out).mono ?_
  rintro e y6 ⟨rfl,hb6⟩
  have HBF:=kq (HBZ.out.trans ((HBW.out.trans (hb6.mono HBW.out.size)).mono HBZ.out.size))
  clear hb6 bx HX HSR HFI HMS
  go_wp2
  go_ret
  exact ⟨rfl,HBF.out⟩
theorem walk (a0:Option Addr) (bs0:List UInt8) (cap0:Nat) (w:World) (r0:Arg a0 bs0 cap0 w) :
  Calls Tryz.prog 4 #[.slice a0 bs0.length cap0] w fun e w' => e = .returned (.bool true) ∧ Below w.heap.size w w':=by
 by_cases h0:1048576 < bs0.length
 ·exact walk_long a0 bs0 cap0 w h0 (by have q1:=r0.2.1; have q2:=r0.2.2.2; omega)
 ·exact walk_short a0 bs0 cap0 w (by omega) r0.code
theorem lifted (os:Os) (started:os.Started) (H:Type) (enc:TypeId × Value → H) :
  ReturnsInHanded {} Tryz.checked os 4 .any (Rows.fnSmallestFilesSpec.pre6 enc Tryz.prog Tryz.f4 Rows.fnSmallestFilesRow.domain false) (Rows.fnSmallestFilesSpec.post enc Tryz.prog Tryz.f4 false true false false):=by
 refine returnsInHanded_of_change (C:=Tryz.checked) own started (by kernel_rfl) Tryz.func4
  (ChangeSpec.witness6 (enc:=enc) (C:=Tryz.checked) false ⟨#[],#[.slice none 0 0],[]⟩ 8 (by kernel_rfl) (by kernel_rfl) (by kernel_rfl) (by kernel_rfl)) ?_
 intro W base args ds gs before hval0 hW hcnd _
 have hval:∀ (j:Nat) t v,Tryz.f4.params[j]? = some t → args[j]? = some v → Value.okWide Tryz.prog W .any base t v:=hval0
 have hW':=hW
 obtain ⟨p,q,hA0,hV,rfl,hfz,hnd⟩:=hW
 have hA:DataW.TrodAll enc Tryz.prog W 0 (fun _ => true) true Tryz.f4.params.toList args.toList ds p:=hA0
 rw [Tryz.params4] at hA hval
 obtain ⟨v0,vs0,d0,ds0,p0,q0,hargs,rfl,rfl,h0,r0⟩:=trodAll_cons hA
 obtain ⟨rfl,rfl,rfl⟩:=trodAll_nil r0
 obtain rfl:args = #[v0]:=by cases args; simp_all
 obtain ⟨rfl,rfl⟩:=trodVars_none hV
 simp only [List.append_nil] at hW'
 have hlt:∀ x ∈ p0,x.block < W.heap.size:=fun x hx => hW'.lt x (by simpa using hx)
 obtain ⟨a0,len0,cap0,rfl⟩:=okWide_slice Tryz.underlying22 (hval 0 22 v0 rfl rfl)
 obtain ⟨bs0,rfl,hb0⟩:=bytes_arg h0
 have m0:∀ (W' : World),Below W.heap.size W W' → DataW.Trod enc Tryz.prog W' 0 (fun b => decide (b < W.heap.size)) true 22 (.slice a0 bs0.length cap0) d0 p0:=fun W' hn => Below.trod laidOut (by kernel_rfl) (of_decide_eq_true (by kernel_rfl)) h0 hn (fun x hx => hlt x (by simp [hx]))
 clear hA0 hval0
 refine (walk a0 bs0 cap0 W hb0).mono fun e W' ⟨he,hb⟩ => ?_
 subst he
 exact ⟨_,rfl,_,_,_,[],_,[],hW',trodAll_cons_mk (shut_bool Tryz.underlying4 _) trodAll_mk0,(trodAll_cons_mk (m0 _ hb) trodAll_mk0),rfl,hb.frame _,fun h => by cases h⟩
theorem closed:joinedFacts Tryz.prog 4 Tryz.f4 Rows.fnSmallestFilesSpec Rows.fnSmallestFilesRow = true:=by
 unfold joinedFacts
 rw [may_enter,lifts_final,make_is]
 kernel_rfl
theorem over:Rows.fnSmallestFilesRow.holds Tryz.pinned (OpenSpec.ofChange Rows.fnSmallestFilesSpec) :=
 OpenClaim.holds_of_wide 4 Tryz.f4 rfl rfl rfl rfl rfl rfl rfl ⟨rfl,rfl,rfl,rfl,rfl⟩ rfl rfl rfl rfl rfl (by kernel_rfl) Tryz.func4 closed
  (of_decide_eq_true (by kernel_rfl)) (by unfold Func.isWrapper; first | (rw [if_pos (by decide +kernel)]; kernel_rfl) | (rw [if_neg (by decide +kernel)]; exact ⟨rfl,rfl⟩))
  (fun os started H enc _ => lifted os started H enc)
theorem proved:Rows.FnSmallestFilesSaid:=over
end fnSmallestFiles
#print axioms fnSmallestFiles.proved
end Go.Proofs.YtfmnjclnhppghaaGreat
