/- What reading a whole file gives; an item in a block of its own. -/
import Derived.Test.YtefkhknfjohnaaaGreatDoorEK
import Derived.Test.YtefkhknfjohnaaaGreatDoorEReadG
import Derived.Test.YtefkhknfjohnaaaGreatDoorEGI
import Derived.Test.YtefkhknfjohnaaaGreatDoorEIReadV
import Derived.Test.YtefkhknfjohnaaaGreatDoorEGX
import Derived.Test.YtefkhknfjohnaaaGreatDoorEGDI
set_option maxRecDepth 100000
set_option maxHeartbeats 8000000
namespace Go.Proofs.YtefkhknfjohnaaaGreatDoor
open Go Go.RowKit
noncomputable def fileG (rs : List RuleV) (L : List UInt8) : Got ValueV :=
 match readG rs ((rs.length : Int) - 1) L 0 with
 | .bad q c => .bad q c
 | .ok v q => if q < L.length then .bad q 7 else .ok v q
noncomputable def fileB (rs : List RuleV) (L : List UInt8) : Bool:=match fileG rs L with | .ok _ _ => true | .bad _ _ => false
theorem readG_code {rs : List RuleV} {k x : Int} {L : List UInt8} {q c : Nat} (h : readG rs k L x = .bad q c) : 1 ≤ c ∧ c ≤ 8:=by
 unfold readG at h
 split at h
 ·rename_i hall
  obtain ⟨h1,h2,h3,h4⟩:=hall
  obtain ⟨⟨h0,h0'⟩,-,hv⟩:=okAt_yes h1
  have hf:=parse_fine hv L rs.length k.toNat (by omega) (by omega) x.toNat (by omega)
  rw [show ((k.toNat : Nat) : Int) = k from by omega,h] at hf
  obtain ⟨-,h5,h6⟩:=hf
  omega
 ·injection h with h1 h2
  omega
theorem fileG_code {rs : List RuleV} {L : List UInt8} {q c : Nat} (h : fileG rs L = .bad q c) : 1 ≤ c ∧ c ≤ 8:=by
 unfold fileG at h
 cases hr : readG rs ((rs.length : Int) - 1) L 0 with
 | bad q' c' =>
  rw [hr] at h
  injection h with h1 h2
  subst h2
  exact readG_code hr
 | ok v q' =>
  rw [hr] at h
  simp only at h
  split at h
  ·injection h with h1 h2; omega
  ·cases h
def VAt (wr : World) (cs : List Value) (N : Nat) (W : World) : Prop:=wr.heap.size ≤ N ∧ CellsAt N cs W ∧ Below wr.heap.size wr W
theorem vat_new {wr w6 : World} {cs : List Value} (hb : Below wr.heap.size wr w6) (t : TypeId) : VAt wr cs w6.heap.size (w6.alloc (.cells cs.toArray t)):=by
 have hb2 : Below w6.heap.size w6 (w6.alloc (.cells cs.toArray t)):=(Below.refl _ _).alloc (Nat.le_refl _) _
 exact ⟨hb.size,CellsAt.new w6 cs t,hb.trans (hb2.mono hb.size)⟩
theorem vat_set {N : Nat} {wr w6 : World} {d0 d1 d2 c0 c1 c2 : Value} (hNw : wr.heap.size ≤ N) (hz : CellsAt N [d0,d1,d2] w6) (hb : Below wr.heap.size wr w6) :
  VAt wr [c0,c1,c2] N (((w6.setCell ⟨N,0,none⟩ c0).setCell ⟨N,1,none⟩ c1).setCell ⟨N,2,none⟩ c2):=by
 have hc:=((hz.set 0 c0 (by simp)).set 1 c1 (by simp)).set 2 c2 (by simp)
 simp only [List.set] at hc
 exact ⟨hNw,hc,below3 hb hNw _ _ _⟩
def ErrAt (h : Nat) (g : Got ValueV) (w : World) (e : Ending) (w' : World) : Prop :=
 (match g with
  | .ok v q => ∃ bl cs,e = .returned (.tuple #[.agg cs.toArray,.int .i64 (q : Int),.nilIface]) ∧ OwnT h bl v cs w' ∧ ∀ b ∈ bl,w.heap.size ≤ b
  | .bad q c => ∃ u0 u1 u2 u,e = .returned (.tuple #[.agg #[u0,u1,u2],u,RErr q c]) ∧ u0.oneCell' = true ∧ u1.oneCell' = true ∧ u2.oneCell' = true ∧ u.oneCell' = true) ∧ Below w.heap.size w w'
theorem below3V {B Z : Nat} {w W : World} (h : Below B w W) (hZ : B ≤ Z) (u0 u1 u2 : Value) : Below B w (((W.setCell ⟨Z,0,none⟩ u0).setCell ⟨Z,1,none⟩ u1).setCell ⟨Z,2,none⟩ u2) :=
 ((h.setCell (p:=⟨Z,0,none⟩) hZ _).setCell (p:=⟨Z,1,none⟩) hZ _).setCell (p:=⟨Z,2,none⟩) hZ _
theorem store_one {P : Program} {b i : Nat} {u : Value} (h : u.oneCell' = true) (W : World) (hc : (W.cell? ⟨b,i,none⟩).isSome = true) (hf : W.frozen? ⟨b,i,none⟩ = false) : (store ⟨b,i,none⟩ u).run P W = .ok () (W.setCell ⟨b,i,none⟩ u):=by
 obtain ⟨z,hz⟩:=Option.isSome_iff_exists.1 hc
 rw [run_store P W _ _ _ h]
 simp [hz,hf]
theorem own3 {n Z : Nat} {bl : List Nat} {v : ValueV} {cs : List Value} {W : World} (h : OwnT n bl v cs W) (hf : ∀ b ∈ bl,b ≠ Z) (u0 u1 u2 : Value) : OwnT n bl v cs (((W.setCell ⟨Z,0,none⟩ u0).setCell ⟨Z,1,none⟩ u1).setCell ⟨Z,2,none⟩ u2) :=
 ((h.keep (Only.set (bl:=[Z]) (by simp)) fun b hb e => hf b hb (by simpa using e)).keep (Only.set (bl:=[Z]) (by simp)) fun b hb e => hf b hb (by simpa using e)).keep (Only.set (bl:=[Z]) (by simp)) fun b hb e => hf b hb (by simpa using e)
theorem valat_ok (a ab : Option Addr) (rs : List RuleV) (cap cb p k : Nat) (L : List UInt8) (w : World) (hl : rs.length ≤ 1048576) (hs : ∀ r ∈ rs,Short r) (hsp : ∀ r ∈ rs,Spelt r) (hrd : RdC a rs w) (hsrc : SrcB ab L cb w) (hok : okAt rs (k : Int) = true) (hp : p ≤ L.length) (h400 : L.length ≤ 400) :
  Calls Tryz.prog 73 #[.agg #[.slice a rs.length cap],.int .i64 (k : Int),.slice ab L.length cb,.int .i64 (p : Int)] w (ErrAt rs.length (parseB rs L rs.length (k : Int) p) w):=by
 obtain ⟨⟨-,hk⟩,-,hall⟩:=okAt_yes hok
 have hkl : k < rs.length:=by omega
 have hread:=iread_of w a ab rs cap cb L hall hrd.rd rs.length
 have hdes:=fun W hb => isdescr_impl a rs cap (k : Int) W hl hs hsp (hrd.below hb)
 obtain ⟨wb,hwb⟩ : ∃ wb,wb = (w.alloc (.cells #[.slice a rs.length cap] 26)).alloc (.cells #[.int .i64 0,.slice none 0 0,.slice none 0 0] 48):=⟨_,rfl⟩
 have hB:=zb2 hwb
 have hD:=zk2 hwb
 have hZ:=zk3 hwb
 have hbs : wb.heap.size = w.heap.size + 2:=by subst hwb; simp
 have HDES : Hid (∀ W,Below w.heap.size w W → Calls Tryz.prog 55 #[.agg #[.slice a rs.length cap],.int .i64 (k : Int)] W fun e w' => e = .returned (.bool true) ∧ Below W.heap.size W w'):=fun W hb => by
  have h1:=hdes W hb
  rw [hok] at h1
  exact h1
 have hin : decide ((0 : Int) ≤ (p : Int) ∧ (p : Int) ≤ (L.length : Int)) = true:=decide_eq_true ⟨by omega,by omega⟩
 have hgt : ¬ (400 : Int) < (L.length : Int):=by omega
 have HREAD:=kq hread
 have HB:=kq hB
 have HD:=kq hD
 have HZ:=kq hZ
 have HBS:=kq hbs
 have HW:=kq hwb
 have HSRC:=kq hsrc
 have bx:=(hD 0 _ rfl).1
 obtain ⟨G,hG⟩ : ∃ G,G = parseB rs L rs.length (k : Int) p:=⟨_,rfl⟩
 rw [← hG]
 have HG:=kq hG
 clear hread hdes hB hD hZ hbs hwb hsrc hrd hok hall hk hs hsp hG
 go_enter Tryz.func73,Tryz.ntmps73
 go_upto_region 1 with fail
 rw [← HW.out]
 clear HW
 go_upto_region 3 with (first | (go_at_call 55; refine (HDES.out _ HB.out).mono ?_; rintro e w1 ⟨rfl,hb1⟩) | (go_at_call 123; refine (inI_any _ _ _ true _ hin).mono ?_; rintro e wx ⟨rfl,rfl⟩))
 have HB1:=kq (HB.out.trans (hb1.mono HB.out.size))
 have HD1:=kq (HD.out.below hb1)
 have HZ1:=kq (HZ.out.below hb1)
 have hs1 : w.heap.size + 2 ≤ w1.heap.size:=by have h1:=hb1.size; have h2:=HBS.out; omega
 clear hb1 bx HD HZ HB HDES
 obtain ⟨w2,hw2⟩ : ∃ w2,w2 = w1.alloc (.cells #[.int .i64 0,.slice none 0 0,.slice none 0 0] 48):=⟨_,rfl⟩
 obtain ⟨w3,hw3⟩ : ∃ w3,w3 = w2.alloc (.cells #[.slice a rs.length cap,.slice ab L.length cb,.int .i64 (p : Int)] 155):=⟨_,rfl⟩
 have h12:=zb1 hw2
 have h23:=zb1 hw3
 have h13:=h12.trans (h23.mono h12.size)
 have hs2 : w2.heap.size = w1.heap.size + 1:=by subst hw2; simp
 have hs3 : w3.heap.size = w1.heap.size + 2:=by subst hw3; simp [hs2]
 have hZv : CellsAt w1.heap.size [.int .i64 0,.slice none 0 0,.slice none 0 0] w3:=(by subst hw2; exact CellsAt.new w1 _ _ : CellsAt w1.heap.size [.int .i64 0,.slice none 0 0,.slice none 0 0] w2).below h23
 have hRd : CellsAt w2.heap.size (rdCells a rs.length cap ab L.length cb p) w3:=by subst hw3; exact CellsAt.new w2 _ _
 obtain ⟨Zv,hzv⟩ : ∃ Zv,Zv = w1.heap.size:=⟨_,rfl⟩
 obtain ⟨Rb,hrb⟩ : ∃ Rb,Rb = w2.heap.size:=⟨_,rfl⟩
 rw [← hzv] at hZv
 rw [← hrb] at hRd
 have hPl : PlacedAt Zv 0 [.int .i64 0,.slice none 0 0,.slice none 0 0] w3:=fun i u hu => by rw [Nat.zero_add]; exact hZv i u hu
 have hSite : Site w a ab rs.length cap cb L Rb Zv 0 w3:=⟨HB1.out.trans (h13.mono HB1.out.size),by omega,by omega,by omega,HSRC.out,by omega⟩
 have hcall:=HREAD.out k p Rb Zv 0 w3 hkl hkl hp hSite hRd hPl
 rw [← HG.out] at hcall
 have HZ3:=kq (HZ1.out.below h13)
 have HB3:=kq hSite.below
 have HCALL:=kq hcall
 have HR3:=kq hRd
 have HZV3:=kq hZv
 have HW2:=kq hw2
 have HW3:=kq hw3
 have bx:=(HD1.out 0 _ rfl).1
 have bx2:=(HD1.out.below h12 0 _ rfl).1
 have HZV:=kq hzv
 have HRB:=kq hrb
 have hzr : w.heap.size + 1 < Zv:=by omega
 have hzr2 : Zv < Rb:=by omega
 have HRL : Hid (Zv < w3.heap.size):=by show _ < _; omega
 clear hw2 hw3 h12 h23 h13 hs2 hs3 hZv hRd hPl hSite hcall hzv hrb hs1
 go_upto_region 4 with fail
 rw [← HW2.out,← HZV.out]
 clear HW2 bx
 go_upto_region 5 with fail
 rw [← HW3.out,← HRB.out]
 clear HW3 bx2
 have hT9 : ∀ W,Turn (AtV Rb Zv 0) w3 W → CellsAt (w.heap.size + 1) [.int .i64 0,.slice none 0 0,.slice none 0 0] W ∧ Below w.heap.size w W ∧ (∃ u,W.cell? ⟨Rb,2,none⟩ = some u ∧ u.oneCell' = true) ∧ ∀ i,i < 3 → ∃ u,W.cell? ⟨Zv,i,none⟩ = some u ∧ u.oneCell' = true:=fun W ht => by
  refine ⟨HZ3.out.turn ht fun i _ h => ?_,ht.below HB3.out HB3.out.size fun k i h => ?_,ht.alive Rb 2 _ (HR3.out 2 _ rfl).1 rfl,fun i hi => ?_⟩
  ·rcases h with h | h
   ·have:=h.1; omega
   ·have:=h.1; omega
  ·rcases h with h | h
   ·have:=h.1; omega
   ·have:=h.1; omega
  ·rcases (by omega : i = 0 ∨ i = 1 ∨ i = 2) with rfl | rfl | rfl
   ·exact ht.alive Zv 0 _ (HZV3.out 0 _ rfl).1 rfl
   ·exact ht.alive Zv 1 _ (HZV3.out 1 _ rfl).1 rfl
   ·exact ht.alive Zv 2 _ (HZV3.out 2 _ rfl).1 rfl
 have HT9:=kq hT9
 clear hT9
 cases G with
 | bad q c =>
  go_upto_region 6 with (go_at_call 124; refine HCALL.out.mono ?_; rintro e w5 ⟨⟨he5,cs,hcl,hpl⟩,ht5⟩; unfold RErr at he5; subst he5)
  obtain ⟨hz5,hb5,⟨u,hu,hu1⟩,hal⟩:=HT9.out w5 ht5
  obtain ⟨u0,u1,u2,rfl⟩:=OwnT.at3 hpl hcl
  have o0 : u0.oneCell' = true:=by obtain ⟨x,hx,h1⟩:=hal 0 (by omega); have h2:=(hpl 0 _ rfl).1; rw [Nat.zero_add,hx] at h2; injection h2 with h2; rw [← h2]; exact h1
  have o1 : u1.oneCell' = true:=by obtain ⟨x,hx,h1⟩:=hal 1 (by omega); have h2:=(hpl 1 _ rfl).1; rw [Nat.zero_add,hx] at h2; injection h2 with h2; rw [← h2]; exact h1
  have o2 : u2.oneCell' = true:=by obtain ⟨x,hx,h1⟩:=hal 2 (by omega); have h2:=(hpl 2 _ rfl).1; rw [Nat.zero_add,hx] at h2; injection h2 with h2; rw [← h2]; exact h1
  have v0:=(hpl 0 _ rfl).1
  have v1:=(hpl 1 _ rfl).1
  have v2:=(hpl 2 _ rfl).1
  simp only [Nat.zero_add] at v0 v1 v2
  clear hpl hcl ht5 hal
  obtain ⟨z0,t0⟩:=hz5 0 _ rfl
  obtain ⟨z1,t1⟩:=hz5 1 _ rfl
  obtain ⟨z2,t2⟩:=hz5 2 _ rfl
  have hdw : Below w5.heap.size w5 w5.drew:=below_drewN (Below.refl _ w5) 1
  have HFD:=kq (hb5.trans (hdw.mono hb5.size))
  have HDW:=kq hdw
  clear hz5 hb5 hdw
  obtain ⟨N,hN⟩ : ∃ N,N = w.heap.size + 1:=⟨_,rfl⟩
  have HNW : Hid (w.heap.size ≤ N):=by show _ ≤ _; omega
  have HNZ : Hid (N < Zv):=by show _ < _; omega
  have hNR : ¬ N = Rb:=by omega
  have hNV : ¬ N = Zv:=by omega
  rw [← hN] at z0 z1 z2 t0 t1 t2 ⊢
  clear hN
  have s0:=store_one (P:=Tryz.prog) (b:=N) (i:=0) o0
  have s1:=store_one (P:=Tryz.prog) (b:=N) (i:=1) o1
  have s2:=store_one (P:=Tryz.prog) (b:=N) (i:=2) o2
  go_region
  all_goals go_wp2
  (try simp only [Exit.inBlock,Exit.then])
  all_goals refine bodyPost_ret (v:=.tuple #[.agg #[u0,u1,u2],u,RErr q c]) ?_ rfl ?_
  all_goals first | (simp [results,Tryz.results73,go_sem,z0,z1,z2,RErr]; done) | skip
  all_goals exact ⟨⟨u0,u1,u2,u,rfl,o0,o1,o2,hu1⟩,below3V HFD.out HNW.out _ _ _⟩
 | ok v q =>
  go_upto_region 6 with (go_at_call 124; refine HCALL.out.mono ?_; rintro e w5 ⟨⟨rfl,hr5,bl,cs,ho5,hpl,hbl⟩,ht5⟩)
  obtain ⟨hz5,hb5,-,-⟩:=HT9.out w5 ht5
  have hu:=(hr5 2 _ rfl).1
  obtain ⟨xb,xc,xi,xd,rfl⟩:=ho5.cells
  have v0:=(hpl 0 _ rfl).1
  have v1:=(hpl 1 _ rfl).1
  have v2:=(hpl 2 _ rfl).1
  simp only [Nat.zero_add] at v0 v1 v2
  have HO:=kq ho5
  have HBL : Hid (∀ b ∈ bl,Zv < b):=fun b hb => by have h1:=hbl b hb; have h2:=HRL.out; omega
  clear hpl hr5 ho5 hbl ht5
  obtain ⟨z0,t0⟩:=hz5 0 _ rfl
  obtain ⟨z1,t1⟩:=hz5 1 _ rfl
  obtain ⟨z2,t2⟩:=hz5 2 _ rfl
  have hdw : Below w5.heap.size w5 w5.drew:=below_drewN (Below.refl _ w5) 1
  have HFD:=kq (hb5.trans (hdw.mono hb5.size))
  have HDW:=kq hdw
  clear hz5 hb5 hdw
  obtain ⟨N,hN⟩ : ∃ N,N = w.heap.size + 1:=⟨_,rfl⟩
  have HNW : Hid (w.heap.size ≤ N):=by show _ ≤ _; omega
  have HNZ : Hid (N < Zv):=by show _ < _; omega
  have hNR : ¬ N = Rb:=by omega
  have hNV : ¬ N = Zv:=by omega
  rw [← hN] at z0 z1 z2 t0 t1 t2 ⊢
  clear hN
  go_region
  all_goals go_wp2
  (try simp only [Exit.inBlock,Exit.then])
  all_goals refine bodyPost_ret (v:=.tuple #[.agg #[.int .i64 v.number,.slice xb v.bytes.length xc,.slice xi v.items.length xd],.int .i64 (q : Int),.nilIface]) ?_ rfl ?_
  all_goals first | (simp [results,Tryz.results73,go_sem,z0,z1,z2]; done) | skip
  all_goals exact ⟨⟨bl,[.int .i64 v.number,.slice xb v.bytes.length xc,.slice xi v.items.length xd],rfl,own3 (HO.out.below HDW.out) (fun b hb => by have:=HBL.out b hb; have:=HNZ.out; omega) _ _ _,fun b hb => by have:=HBL.out b hb; have:=HNW.out; have:=HNZ.out; omega⟩,below3V HFD.out HNW.out _ _ _⟩
theorem valat_no (a ab : Option Addr) (rs : List RuleV) (cap cb : Nat) (k x : Int) (L : List UInt8) (w : World) (hl : rs.length ≤ 1048576) (hs : ∀ r ∈ rs,Short r) (hsp : ∀ r ∈ rs,Spelt r) (hrd : RdC a rs w) (hLb : L.length ≤ 1099511627776) (hno : ¬ (okAt rs k = true ∧ 0 ≤ x ∧ x ≤ (L.length : Int) ∧ L.length ≤ 400)) :
  Calls Tryz.prog 73 #[.agg #[.slice a rs.length cap],.int .i64 k,.slice ab L.length cb,.int .i64 x] w (ErrAt rs.length (.bad 0 8) w):=by
 have hdes:=fun W hb => isdescr_impl a rs cap k W hl hs hsp (hrd.below hb)
 obtain ⟨wb,hwb⟩ : ∃ wb,wb = (w.alloc (.cells #[.slice a rs.length cap] 26)).alloc (.cells #[.int .i64 0,.slice none 0 0,.slice none 0 0] 48):=⟨_,rfl⟩
 have hB:=zb2 hwb
 have hD:=zk2 hwb
 have hZ:=zk3 hwb
 have HDES:=kq hdes
 have HB:=kq hB
 have HZ:=kq hZ
 have HW:=kq hwb
 have bx:=(hD 0 _ rfl).1
 clear hdes hB hD hZ hwb hrd hs hsp
 by_cases hok : okAt rs k = true
 ·by_cases hin : 0 ≤ x ∧ x ≤ (L.length : Int)
  ·have hgt : (400 : Int) < (L.length : Int):=by
    rcases Nat.lt_or_ge 400 L.length with h | h
    ·omega
    ·exact absurd ⟨hok,hin.1,hin.2,h⟩ hno
   have hin' : decide ((0 : Int) ≤ x ∧ x ≤ (L.length : Int)) = true:=decide_eq_true hin
   have HOK:=kq hok
   clear hno hok hin
   go_enter Tryz.func73,Tryz.ntmps73
   go_upto_region 1 with fail
   rw [← HW.out]
   clear HW
   go_upto_region 2 with (first | (go_at_call 55; refine (HDES.out _ HB.out).mono ?_; rintro e w1 ⟨rfl,hb1⟩; rw [HOK.out]) | (go_at_call 123; refine (inI_any _ _ _ true _ hin').mono ?_; rintro e wx ⟨rfl,rfl⟩))
   have HB1:=kq (HB.out.trans (hb1.mono HB.out.size))
   obtain ⟨z0,t0⟩:=HZ.out.below hb1 0 _ rfl
   obtain ⟨z1,t1⟩:=HZ.out.below hb1 1 _ rfl
   obtain ⟨z2,t2⟩:=HZ.out.below hb1 2 _ rfl
   clear hb1 bx
   obtain ⟨N,hN⟩ : ∃ N,N = w.heap.size + 1:=⟨_,rfl⟩
   have hNw : w.heap.size ≤ N:=by omega
   rw [← hN] at z0 z1 z2 t0 t1 t2 ⊢
   clear hN
   go_wp2
   (try simp only [Exit.inBlock,Exit.then])
   refine bodyPost_ret (v:=.tuple #[.agg #[.int .i64 0,.slice none 0 0,.slice none 0 0],.int .i64 0,.iface 99 (.agg #[.int .i64 0,.int .i64 8])]) ?_ rfl ?_
   ·simp [results,Tryz.results73,go_sem,z0,z1,z2]
   ·exact ⟨⟨_,_,_,_,rfl,rfl,rfl,rfl,rfl⟩,below3V HB1.out hNw _ _ _⟩
  ·have hin' : decide ((0 : Int) ≤ x ∧ x ≤ (L.length : Int)) = false:=decide_eq_false hin
   have HOK:=kq hok
   clear hno hok hin
   go_enter Tryz.func73,Tryz.ntmps73
   go_upto_region 1 with fail
   rw [← HW.out]
   clear HW
   go_upto_region 2 with (first | (go_at_call 55; refine (HDES.out _ HB.out).mono ?_; rintro e w1 ⟨rfl,hb1⟩; rw [HOK.out]) | (go_at_call 123; refine (inI_any _ _ _ false _ hin').mono ?_; rintro e wx ⟨rfl,rfl⟩))
   have HB1:=kq (HB.out.trans (hb1.mono HB.out.size))
   obtain ⟨z0,t0⟩:=HZ.out.below hb1 0 _ rfl
   obtain ⟨z1,t1⟩:=HZ.out.below hb1 1 _ rfl
   obtain ⟨z2,t2⟩:=HZ.out.below hb1 2 _ rfl
   clear hb1 bx
   obtain ⟨N,hN⟩ : ∃ N,N = w.heap.size + 1:=⟨_,rfl⟩
   have hNw : w.heap.size ≤ N:=by omega
   rw [← hN] at z0 z1 z2 t0 t1 t2 ⊢
   clear hN
   go_wp2
   (try simp only [Exit.inBlock,Exit.then])
   refine bodyPost_ret (v:=.tuple #[.agg #[.int .i64 0,.slice none 0 0,.slice none 0 0],.int .i64 0,.iface 99 (.agg #[.int .i64 0,.int .i64 8])]) ?_ rfl ?_
   ·simp [results,Tryz.results73,go_sem,z0,z1,z2]
   ·exact ⟨⟨_,_,_,_,rfl,rfl,rfl,rfl,rfl⟩,below3V HB1.out hNw _ _ _⟩
 ·have hok' : okAt rs k = false:=by simpa using hok
  have HOK:=kq hok'
  clear hno hok hok'
  go_enter Tryz.func73,Tryz.ntmps73
  go_upto_region 1 with fail
  rw [← HW.out]
  clear HW
  go_upto_region 2 with (go_at_call 55; refine (HDES.out _ HB.out).mono ?_; rintro e w1 ⟨rfl,hb1⟩; rw [HOK.out])
  have HB1:=kq (HB.out.trans (hb1.mono HB.out.size))
  obtain ⟨z0,t0⟩:=HZ.out.below hb1 0 _ rfl
  obtain ⟨z1,t1⟩:=HZ.out.below hb1 1 _ rfl
  obtain ⟨z2,t2⟩:=HZ.out.below hb1 2 _ rfl
  clear hb1 bx
  obtain ⟨N,hN⟩ : ∃ N,N = w.heap.size + 1:=⟨_,rfl⟩
  have hNw : w.heap.size ≤ N:=by omega
  rw [← hN] at z0 z1 z2 t0 t1 t2 ⊢
  clear hN
  go_wp2
  (try simp only [Exit.inBlock,Exit.then])
  refine bodyPost_ret (v:=.tuple #[.agg #[.int .i64 0,.slice none 0 0,.slice none 0 0],.int .i64 0,.iface 99 (.agg #[.int .i64 0,.int .i64 8])]) ?_ rfl ?_
  ·simp [results,Tryz.results73,go_sem,z0,z1,z2]
  ·exact ⟨⟨_,_,_,_,rfl,rfl,rfl,rfl,rfl⟩,below3V HB1.out hNw _ _ _⟩
theorem valat_impl (a ab : Option Addr) (rs : List RuleV) (cap cb : Nat) (k x : Int) (L : List UInt8) (w : World) (hl : rs.length ≤ 1048576) (hs : ∀ r ∈ rs,Short r) (hsp : ∀ r ∈ rs,Spelt r) (hrd : RdC a rs w) (hsrc : SrcB ab L cb w) (hLb : L.length ≤ 1099511627776) :
  Calls Tryz.prog 73 #[.agg #[.slice a rs.length cap],.int .i64 k,.slice ab L.length cb,.int .i64 x] w (ErrAt rs.length (readG rs k L x) w):=by
 unfold readG
 by_cases h : okAt rs k = true ∧ 0 ≤ x ∧ x ≤ (L.length : Int) ∧ L.length ≤ 400
 ·rw [if_pos h]
  obtain ⟨h1,h2,h3,h4⟩:=h
  obtain ⟨⟨h0,-⟩,-,-⟩:=okAt_yes h1
  obtain ⟨kk,rfl⟩ : ∃ kk : Nat,k = (kk : Int):=⟨k.toNat,by omega⟩
  obtain ⟨p,rfl⟩ : ∃ p : Nat,x = (p : Int):=⟨x.toNat,by omega⟩
  rw [Int.toNat_natCast]
  exact valat_ok a ab rs cap cb p kk L w hl hs hsp hrd hsrc h1 (by omega) h4
 ·rw [if_neg h]
  exact valat_no a ab rs cap cb k x L w hl hs hsp hrd hLb h
def HandleAt (w : World) : Prop:=w.cell? ⟨0,0,none⟩ = some (.iface 234 (.agg #[.pointer (some ⟨5,94,none⟩)]))
theorem HandleAt.below {w w' : World} (h : HandleAt w) (hb : Below w.heap.size w w') : HandleAt w':=(hb.cell (p:=⟨0,0,none⟩) (cell_lt h)).trans h
theorem result_ok (num x : Int) (ab ai : Option Addr) (nb cb ni ci : Nat) (w : World) :
  Calls Tryz.prog 75 #[.agg #[.int .i64 num,.slice ab nb cb,.slice ai ni ci],.int .i64 x,.nilIface] w fun e w' => e = .returned (.tuple #[.agg #[.int .i64 num,.slice ab nb cb,.slice ai ni ci],.int .i64 x,.int .i64 0]) ∧ Below w.heap.size w w':=by
 obtain ⟨w1,hw1⟩ : ∃ w1,w1 = ((w.alloc (.cells #[.int .i64 num,.slice ab nb cb,.slice ai ni ci] 48)).alloc (.cells #[.int .i64 0,.slice none 0 0,.slice none 0 0] 48)).alloc (.cells #[.int .i64 0,.int .i64 0] 99):=⟨_,rfl⟩
 have hB : Below w.heap.size w w1:=by subst hw1; exact (((Below.refl _ _).alloc (Nat.le_refl _) _).alloc (by simp) _).alloc (by simp; omega) _
 have hC : CellsAt w.heap.size [.int .i64 num,.slice ab nb cb,.slice ai ni ci] w1:=by subst hw1; exact ((CellsAt.new w _ _).below ((Below.refl _ _).alloc (Nat.le_refl _) _)).below ((Below.refl _ _).alloc (Nat.le_refl _) _)
 have hZ : CellsAt (w.heap.size + 1) [.int .i64 0,.slice none 0 0,.slice none 0 0] w1:=by
  subst hw1
  have h1:=CellsAt.new (w.alloc (.cells #[.int .i64 num,.slice ab nb cb,.slice ai ni ci] 48)) [.int .i64 0,.slice none 0 0,.slice none 0 0] 48
  rw [World.size_alloc] at h1
  exact h1.below ((Below.refl _ _).alloc (Nat.le_refl _) _)
 have HB:=kq hB
 have HW:=kq hw1
 obtain ⟨y0,-⟩:=hC 0 _ rfl
 obtain ⟨y1,-⟩:=hC 1 _ rfl
 obtain ⟨y2,-⟩:=hC 2 _ rfl
 obtain ⟨z0,t0⟩:=hZ 0 _ rfl
 obtain ⟨z1,t1⟩:=hZ 1 _ rfl
 obtain ⟨z2,t2⟩:=hZ 2 _ rfl
 clear hB hw1 hC hZ
 go_enter Tryz.func75,Tryz.ntmps75
 go_upto_region 2 with fail
 rw [← HW.out]
 clear HW
 obtain ⟨N,hN⟩ : ∃ N,N = w.heap.size + 1:=⟨_,rfl⟩
 have hNw : w.heap.size ≤ N:=by omega
 have hNn : ¬ N = w.heap.size:=by omega
 rw [← hN] at z0 z1 z2 t0 t1 t2 ⊢
 clear hN
 go_wp2_with ((go_at_call 125; refine (as_none _ _).mono ?_; rintro e w2 ⟨rfl,rfl⟩))
 try go_wp2
 (try simp only [Exit.inBlock,Exit.then])
 refine bodyPost_ret (v:=.tuple #[.agg #[.int .i64 num,.slice ab nb cb,.slice ai ni ci],.int .i64 x,.int .i64 0]) ?_ rfl ?_
 ·simp [results,Tryz.results75,go_sem,z0,z1,z2]
 ·exact ⟨rfl,below3V HB.out hNw _ _ _⟩
theorem result_bad (u0 u1 u2 u : Value) (q c : Int) (w : World) (hg : HandleAt w) :
  Calls Tryz.prog 75 #[.agg #[u0,u1,u2],u,.iface 99 (.agg #[.int .i64 q,.int .i64 c])] w fun e w' => e = .returned (.tuple #[.agg #[.int .i64 0,.slice none 0 0,.slice none 0 0],.int .i64 q,.int .i64 c]) ∧ Below w.heap.size w w':=by
 obtain ⟨w1,hw1⟩ : ∃ w1,w1 = ((w.alloc (.cells #[u0,u1,u2] 48)).alloc (.cells #[.int .i64 0,.slice none 0 0,.slice none 0 0] 48)).alloc (.cells #[.int .i64 0,.int .i64 0] 99):=⟨_,rfl⟩
 have hB : Below w.heap.size w w1:=by subst hw1; exact (((Below.refl _ _).alloc (Nat.le_refl _) _).alloc (by simp) _).alloc (by simp; omega) _
 have hZ : CellsAt (w.heap.size + 1) [.int .i64 0,.slice none 0 0,.slice none 0 0] w1:=by
  subst hw1
  have h1:=CellsAt.new (w.alloc (.cells #[u0,u1,u2] 48)) [.int .i64 0,.slice none 0 0,.slice none 0 0] 48
  rw [World.size_alloc] at h1
  exact h1.below ((Below.refl _ _).alloc (Nat.le_refl _) _)
 have hF : CellsAt (w.heap.size + 1 + 1) [.int .i64 0,.int .i64 0] w1:=by
  subst hw1
  have h1:=CellsAt.new ((w.alloc (.cells #[u0,u1,u2] 48)).alloc (.cells #[.int .i64 0,.slice none 0 0,.slice none 0 0] 48)) [.int .i64 0,.int .i64 0] 99
  rw [World.size_alloc,World.size_alloc] at h1
  exact h1
 have hg1:=hg.below hB
 obtain ⟨FF,hFF⟩ : ∃ FF,FF = w.heap.size + 1 + 1:=⟨_,rfl⟩
 rw [← hFF] at hF
 obtain ⟨wa,hwa⟩ : ∃ wa,wa = w1.alloc (.cells #[.pointer (some ⟨FF,0,none⟩)] 158):=⟨_,rfl⟩
 have has:=as_hit q c FF w1 hg1 (hF 0 _ rfl) (hF 1 _ rfl)
 have hpost : ∀ w2,(w2 = (((((w1.alloc (.cells #[.pointer (some ⟨FF,0,none⟩)] 158)).alloc (.cells #[.pointer (some ⟨5,158,none⟩),.pointer (some ⟨w1.heap.size,0,none⟩),.int .u64 150] 196)).alloc (.cells #[.pointer (some ⟨5,158,none⟩),.pointer (some ⟨w1.heap.size,0,none⟩),.int .u64 150] 196)).alloc (.cells #[.int .i64 q,.int .i64 c] 99)).setCell ⟨FF,0,none⟩ (.int .i64 q)).setCell ⟨FF,1,none⟩ (.int .i64 c)) →
   Below w.heap.size w w2 ∧ CellsAt (w.heap.size + 1) [.int .i64 0,.slice none 0 0,.slice none 0 0] w2 ∧ CellsAt FF [.int .i64 q,.int .i64 c] w2:=by
  rintro w2 rfl
  have hb4 : Below w1.heap.size w1 ((((w1.alloc (.cells #[.pointer (some ⟨FF,0,none⟩)] 158)).alloc (.cells #[.pointer (some ⟨5,158,none⟩),.pointer (some ⟨w1.heap.size,0,none⟩),.int .u64 150] 196)).alloc (.cells #[.pointer (some ⟨5,158,none⟩),.pointer (some ⟨w1.heap.size,0,none⟩),.int .u64 150] 196)).alloc (.cells #[.int .i64 q,.int .i64 c] 99)) :=
   ((((Below.refl _ w1).alloc (Nat.le_refl _) _).alloc (by simp) _).alloc (by simp; omega) _).alloc (by simp; omega) _
  refine ⟨((hB.trans (hb4.mono hB.size)).setCell (p:=⟨FF,0,none⟩) (by show w.heap.size ≤ FF; omega) _).setCell (p:=⟨FF,1,none⟩) (by show w.heap.size ≤ FF; omega) _,((hZ.below hb4).far (by omega)).far (by omega),?_⟩
  have h1:=((hF.below hb4).set 0 (.int .i64 q) (by simp)).set 1 (.int .i64 c) (by simp)
  exact h1
 have HAS:=kq has
 have HPOST:=kq hpost
 have HW:=kq hw1
 have hNF : ¬ w.heap.size + 1 = FF:=by omega
 have HFF:=kq hFF.symm
 clear hwa has hpost hB hw1 hZ hF hg hg1 hFF
 go_enter Tryz.func75,Tryz.ntmps75
 go_upto_region 2 with fail
 rw [← HW.out,HFF.out]
 clear HW HFF
 go_upto_region 3 with ((go_at_call 125; refine HAS.out.mono ?_; rintro e w2 ⟨rfl,hw2⟩; have HP2:=kq (HPOST.out w2 hw2); clear hw2))
 obtain ⟨hb2,hz2,hf2⟩:=HP2.out
 have HB2:=kq hb2
 obtain ⟨z0,t0⟩:=hz2 0 _ rfl
 obtain ⟨z1,t1⟩:=hz2 1 _ rfl
 obtain ⟨z2,t2⟩:=hz2 2 _ rfl
 have x0:=(hf2 0 _ rfl).1
 have x1:=(hf2 1 _ rfl).1
 obtain ⟨N,hN⟩ : ∃ N,N = w.heap.size + 1:=⟨_,rfl⟩
 have hNw : w.heap.size ≤ N:=by omega
 rw [← hN] at z0 z1 z2 t0 t1 t2 hNF ⊢
 clear hN hb2 hz2 hf2 HP2 HPOST HAS wa
 go_region
 all_goals go_wp2
 (try simp only [Exit.inBlock,Exit.then])
 all_goals refine bodyPost_ret (v:=.tuple #[.agg #[.int .i64 0,.slice none 0 0,.slice none 0 0],.int .i64 q,.int .i64 c]) ?_ rfl ?_
 all_goals first | (simp [results,Tryz.results75,go_sem,z0,z1,z2]; done) | skip
 all_goals exact ⟨rfl,below3V (below_drewN HB2.out 1) hNw _ _ _⟩
end Go.Proofs.YtefkhknfjohnaaaGreatDoor
