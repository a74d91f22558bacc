/- The contract of the program's SmallestFile. -/
import Derived.Test.YtfmnjclnhppghaaGreatEMB
import Derived.Test.YtfmnjclnhppghaaGreatEM1
import Derived.Test.YtfmnjclnhppghaaGreatEIDefV
import Derived.Test.YtfmnjclnhppghaaGreatEIPrintF
import Derived.Test.YtfmnjclnhppghaaGreatEGDI
import Derived.Deep.RegionHeld3
namespace Go.Proofs.YtfmnjclnhppghaaGreat
open Go Go.RowKit
theorem small_len {rs : List RuleV} {k : Int} (h : 400 < sizeD defStep rs k) : printB rs k (defD rs k) = false:=by
 cases hok : okAt rs k with
 | false => rw [sizeD_no hok] at h; omega
 | true =>
  rw [sizeD_yes hok] at h
  obtain ⟨⟨h0,h1⟩,-,hall⟩:=okAt_yes hok
  obtain ⟨n,rfl⟩ : ∃ n : Nat,k = (n : Int):=⟨k.toNat,by omega⟩
  have hn : n < rs.length:=by omega
  rw [def_len hall n hn] at h
  unfold printB defD
  rw [if_pos hok,Bool.and_eq_false_iff]
  refine .inr (decide_eq_false ?_)
  have e : ((n : Int)).toNat + 1 = n + 1:=by omega
  rw [e]
  omega
set_option maxRecDepth 100000 in
set_option maxHeartbeats 4000000 in
theorem small_impl (a : Option Addr) (rs : List RuleV) (cap : Nat) (w : World) (hl : rs.length ≤ 1048576) (hs : ∀ r ∈ rs,Short r) (hp : ∀ r ∈ rs,Spelt r) (h : RdK a rs w) :
  Calls Tryz.prog 20 #[.agg #[.slice a rs.length cap]] w (PvE (printB rs ((rs.length : Int) - 1) (defD rs ((rs.length : Int) - 1))) (encV rs ((rs.length : Int) - 1) (defD rs ((rs.length : Int) - 1))) w):=by
 obtain ⟨w0,hw0⟩ : ∃ w0,w0 = w.alloc (.cells #[.slice a rs.length cap] 26):=⟨_,rfl⟩
 have hB : Below w.heap.size w w0:=by subst hw0; exact (Below.refl _ _).alloc (Nat.le_refl _) _
 have hD : CellsAt w.heap.size [.slice a rs.length cap] w0:=by subst hw0; exact CellsAt.new w _ _
 have HD:=kq hD
 have HB:=kq hB
 have hW:=kq hw0
 obtain ⟨k,hk⟩ : ∃ k,k = (rs.length : Int) - 1:=⟨_,rfl⟩
 obtain ⟨v,hv⟩ : ∃ v,v = defD rs k:=⟨_,rfl⟩
 obtain ⟨E,hE⟩ : ∃ E,E = encV rs k v:=⟨_,rfl⟩
 obtain ⟨pb,hpb⟩ : ∃ b,b = printB rs k v:=⟨_,rfl⟩
 obtain ⟨sz,hsz⟩ : ∃ z,z = sizeD defStep rs k:=⟨_,rfl⟩
 have HNO : Hid (400 < sz → pb = false):=fun h4 => by rw [hpb,hv]; rw [hsz] at h4; exact small_len h4
 have HRO : Hid (∀ W,Below w.heap.size w W → Calls Tryz.prog 58 #[.agg #[.slice a rs.length cap]] W fun e w' => e = .returned (.int .i64 k) ∧ Below W.heap.size W w'):=fun W hW => by rw [hk]; exact root_impl a rs cap W (by omega) (h.below hW).rd
 have HME : Hid (∀ W,Below w.heap.size w W → Calls Tryz.prog 59 #[.agg #[.slice a rs.length cap],.int .i64 k,.func (.func 60) #[] #[]] W fun e w' => e = .returned (.int .i64 sz) ∧ Below W.heap.size W w'):=fun W hW => by rw [hsz]; exact measure_fst a rs cap k W hl hs hp (h.below hW)
 have HDE : Hid (∀ W,Below w.heap.size w W → Calls Tryz.prog 61 #[.agg #[.slice a rs.length cap],.int .i64 k] W fun e w' => ∃ cs,e = .returned (.agg cs.toArray) ∧ IsVal (k.toNat + 1) v cs w' ∧ Below W.heap.size W w'):=fun W hW => by
  refine (defv_impl a rs cap k W hl hs hp (h.below hW)).mono ?_
  rintro e w' ⟨bl,cs,rfl,ho,-,hb⟩
  exact ⟨cs,rfl,by rw [hv]; exact ho.is,hb⟩
 have HPR : Hid (∀ W n cs,Below w.heap.size w W → IsVal n v cs W → Calls Tryz.prog 29 #[.agg #[.slice a rs.length cap],.agg cs.toArray] W (PvE pb E W)):=fun W n cs hW hi => by rw [hpb,hE,hk]; exact printf_impl a rs cap n v cs W hl hs hp (h.below hW).rdc hi
 rw [← hk,← hv,← hE,← hpb]
 clear h hB hD hs hp hw0 hE hpb hk hv hsz
 have bx:=(HD.out 0 _ rfl).1
 go_enter Tryz.func20,Tryz.ntmps20
 go_upto_region 1 with fail
 rw [← hW.out]
 clear hW
 go_wp2_with fail
 refine (HRO.out _ HB.out).mono ?_
 rintro e w3 ⟨rfl,hb3⟩
 replace HD:=kq (HD.out.below hb3)
 replace HB:=kq (HB.out.trans (hb3.mono HB.out.size))
 clear hb3 bx
 have bx:=(HD.out 0 _ rfl).1
 go_wp2_with fail
 refine (HME.out _ HB.out).mono ?_
 rintro e w4 ⟨rfl,hb4⟩
 replace HD:=kq (HD.out.below hb4)
 replace HB:=kq (HB.out.trans (hb4.mono HB.out.size))
 clear hb4 bx
 by_cases hz : 400 < sz
 ·obtain rfl:=HNO.out hz
  go_wp2
  go_ret2
  exact pve_none HB.out
 ·have hbd : Below w4.heap.size w4 w4.drew:=below_drewN (Below.refl _ _) 1
  replace HD:=kq (HD.out.below hbd)
  replace HB:=kq (HB.out.trans (hbd.mono HB.out.size))
  clear hbd
  go_upto_region 4 with fail
  go_region_held3 (fun W => W.cell? ⟨w.heap.size,0,none⟩ = some (.slice a rs.length cap)) (exact (HD.out 0 _ rfl).1) (first | (go_at_call 61; refine (HDE.out _ HB.out).mono ?_; rintro e w5 ⟨cs,rfl,hiv,hb5⟩; have HIV:=kq hiv; obtain ⟨ab,cb,ai,ci,rfl⟩:=hiv.cells; replace HD:=kq (HD.out.below hb5); replace HB:=kq (HB.out.trans (hb5.mono HB.out.size)); clear hb5 hiv) | (go_at_call 29; refine (HPR.out _ _ _ HB.out HIV.out).mono ?_; rintro e w6 ⟨az,bs,cz,rfl,hbs,hrow,hb6⟩; have HRW:=kq (hrow.more HB.out.size); have HBS:=kq hbs; replace HD:=kq (HD.out.below hb6); replace HB:=kq (HB.out.trans (hb6.mono HB.out.size)); clear hb6 hrow hbs))
  all_goals (go_wp2; go_ret2; exact ⟨az,bs,cz,rfl,HBS.out,HRW.out,HB.out⟩)
end Go.Proofs.YtfmnjclnhppghaaGreat
