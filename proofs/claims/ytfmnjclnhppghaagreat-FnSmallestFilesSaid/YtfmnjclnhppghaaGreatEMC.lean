/- The contract of the model's l9Default. -/
import Derived.Test.YtfmnjclnhppghaaGreatEMC6
import Derived.Test.YtfmnjclnhppghaaGreatEMC7
import Derived.Test.YtfmnjclnhppghaaGreatEMC9
import Derived.Test.YtfmnjclnhppghaaGreatEK
import Derived.Test.YtfmnjclnhppghaaGreatESDefV
import Derived.Deep.RegionLaw
import Derived.Deep.CutRange
import Derived.IntWalk
import Derived.WalkSmall
import Derived.Test.YtfmnjclnhppghaaGreatEQL
set_option maxRecDepth 100000
set_option maxHeartbeats 8000000
namespace Go.Proofs.YtfmnjclnhppghaaGreat
open Go Go.RowKit
theorem sdef_all {rs : List RuleV} (hn : rs.length ≤ 24) (hall : allV (kindI rs) rs) : ∀ n,SDefC rs n
 | 0 => fun _ _ _ _ _ h _ => by omega
 | n + 1 => fun a cap k w hk hkn hR => by
  have ih:=sdef_all hn hall n
  have hkn2:=kindI_known (allV_kind hall hk)
  rcases (by omega : rs[k].kind = 1 ∨ rs[k].kind = 2 ∨ rs[k].kind = 3 ∨ rs[k].kind = 4 ∨ rs[k].kind = 5 ∨ rs[k].kind = 6 ∨ rs[k].kind = 7 ∨ rs[k].kind = 8 ∨ rs[k].kind = 9 ∨ rs[k].kind = 10) with hkd | hkd | hkd | hkd | hkd | hkd | hkd | hkd | hkd | hkd
  ·exact sdef_1 hn hall n ih a cap k w hk hkn hR hkd
  ·exact sdef_2 hn hall n ih a cap k w hk hkn hR hkd
  ·exact sdef_3 hn hall n ih a cap k w hk hkn hR hkd
  ·exact sdef_4 hn hall n ih a cap k w hk hkn hR hkd
  ·exact sdef_5 hn hall n ih a cap k w hk hkn hR hkd
  ·exact sdef_6 hn hall n ih a cap k w hk hkn hR hkd
  ·exact sdef_7 hn hall n ih a cap k w hk hkn hR hkd
  ·exact sdef_8 hn hall n ih a cap k w hk hkn hR hkd
  ·exact sdef_9 hn hall n ih a cap k w hk hkn hR hkd
  ·exact sdef_10 hn hall n ih a cap k w hk hkn hR hkd
/- The contract of the model's DefaultValue. -/
theorem sdefault_spec (a : Option Addr) (rs : List RuleV) (cap : Nat) (k : Int) (w : World) (hl : rs.length ≤ 1048576) (hs : ∀ r ∈ rs,Short r) (hp : ∀ r ∈ rs,Spelt r) (h : RdC a rs w) :
  Calls Tryz.prog 21 #[.agg #[.slice a rs.length cap],.int .i64 k] w fun e w' => ∃ n cs,e = .returned (.agg cs.toArray) ∧ OwnV (fun b => w.heap.size ≤ b) n (defD rs k) cs w' ∧ Below w.heap.size w w':=by
 obtain ⟨w0,hw0⟩ : ∃ w0,w0 = (w.alloc (.cells #[.slice a rs.length cap] 26)).alloc (.cells #[.int .i64 0,.slice none 0 0,.slice none 0 0] 29):=⟨_,rfl⟩
 have hB:=zb2 hw0
 have hD:=zk2 hw0
 have hZ:=zk3 hw0
 have HD:=kq hD
 have HZ:=kq hZ
 have HB:=kq hB
 have hW:=kq hw0
 have hs0 : Hid (w0.heap.size = w.heap.size + 2):=by subst hw0; show _ = _; simp
 have HL7 : Hid (∀ W,Below w.heap.size w W → Calls Tryz.prog 42 #[.agg #[.slice a rs.length cap],.int .i64 k] W fun e w' => e = .returned (.bool (okAt rs k)) ∧ Below W.heap.size W w'):=fun W hW => l7_spec a rs cap k W hl hs hp (h.below hW)
 have HDF : Hid (okAt rs k = true → ∀ W,Below w.heap.size w W → Calls Tryz.prog 62 #[.agg #[.slice a rs.length cap],.int .i64 k] W fun e w' => ∃ cs,e = .returned (.agg cs.toArray) ∧ OwnV (fun b => W.heap.size ≤ b) (k.toNat + 1) (defD rs k) cs w' ∧ Below W.heap.size W w'):=fun hok W hW => by
  obtain ⟨⟨h0,h1⟩,h24,hall⟩:=okAt_yes hok
  obtain ⟨n,rfl⟩ : ∃ n : Nat,k = (n : Int):=⟨k.toNat,by omega⟩
  have e : ((n : Int)).toNat = n:=by omega
  unfold defD
  rw [if_pos hok,e]
  exact sdef_all h24.2 hall (n + 1) a cap n W (by omega) (by omega) (h.below hW).rd
 have HNO : Hid (okAt rs k = false → defD rs k = .mk 0 [] []):=fun hno => by unfold defD; rw [hno]; rfl
 have HFIN : Hid (∀ (W : World) (n : Nat) (cs : List Value) (u0 u1 u2 : Value),Below w.heap.size w W → OwnV (fun b => w.heap.size + 1 < b) n (defD rs k) cs W →
   OwnV (fun b => w.heap.size ≤ b) n (defD rs k) cs (((W.setCell ⟨w.heap.size + 1,0,none⟩ u0).setCell ⟨w.heap.size + 1,1,none⟩ u1).setCell ⟨w.heap.size + 1,2,none⟩ u2) ∧ Below w.heap.size w (((W.setCell ⟨w.heap.size + 1,0,none⟩ u0).setCell ⟨w.heap.size + 1,1,none⟩ u1).setCell ⟨w.heap.size + 1,2,none⟩ u2)):=fun W n cs u0 u1 u2 hbw ho =>
  ⟨ho.grown (grown_set (grown_set (grown_set (grown_refl W (w.heap.size + 1)) 0 u0) 1 u1) 2 u2) fun b _ hb => ⟨by omega,fun e => by injection e with e; omega⟩,((hbw.setCell (p:=⟨w.heap.size + 1,0,none⟩) (by show w.heap.size ≤ w.heap.size + 1; omega) _).setCell (p:=⟨w.heap.size + 1,1,none⟩) (by show w.heap.size ≤ w.heap.size + 1; omega) _).setCell (p:=⟨w.heap.size + 1,2,none⟩) (by show w.heap.size ≤ w.heap.size + 1; omega) _⟩
 clear h hs hp hB hD hZ hw0
 have bx:=(HD.out 0 _ rfl).1
 go_enter Tryz.func21,Tryz.ntmps21
 go_upto_region 1 with fail
 rw [← hW.out]
 clear hW
 go_wp2_with fail
 refine (HL7.out _ HB.out).mono ?_
 rintro e w3 ⟨rfl,hb3⟩
 have hs3 : Hid (w.heap.size + 2 ≤ w3.heap.size):=by show _ ≤ _; have:=hb3.size; have:=hs0.out; omega
 replace HD:=kq (HD.out.below hb3)
 replace HZ:=kq (HZ.out.below hb3)
 replace HB:=kq (HB.out.trans (hb3.mono HB.out.size))
 clear hb3 bx hs0
 have bx:=(HD.out 0 _ rfl).1
 cases hok : okAt rs k with
 | false =>
  have hd:=HNO.out hok
  have HFI:=kq fun u0 u1 u2 => HFIN.out w3 1 [.int .i64 0,.slice none 0 0,.slice none 0 0] u0 u1 u2 HB.out (by rw [hd]; exact zero_own _ 0 w3)
  obtain ⟨z0,t0⟩:=HZ.out 0 _ rfl
  obtain ⟨z1,t1⟩:=HZ.out 1 _ rfl
  obtain ⟨z2,t2⟩:=HZ.out 2 _ rfl
  clear hd HNO HDF HL7 HFIN hok
  go_wp2
  (try simp only [Exit.inBlock,Exit.then])
  refine bodyPost_ret (v:=.agg #[.int .i64 0,.slice none 0 0,.slice none 0 0]) ?_ rfl ?_
  ·simp [results,Tryz.results21,go_sem,z0,z1,z2]
  ·obtain ⟨h1,h2⟩:=HFI.out _ _ _
   exact ⟨_,_,rfl,h1,h2⟩
 | true =>
  have HDF2:=kq (HDF.out hok)
  clear HDF HNO HL7 hok
  go_wp2_with fail
  refine (HDF2.out _ HB.out).mono ?_
  rintro e w4 ⟨cs,rfl,hown,hb4⟩
  obtain ⟨xab,xcb,xai,xci,rfl⟩:=hown.cells
  have HFI:=kq fun u0 u1 u2 => HFIN.out w4 _ _ u0 u1 u2 (HB.out.trans (hb4.mono HB.out.size)) (hown.mono fun b _ h => by have:=hs3.out; have h9 : w3.heap.size ≤ b:=h; show w.heap.size + 1 < b; omega)
  replace HZ:=kq (HZ.out.below hb4)
  obtain ⟨z0,t0⟩:=HZ.out 0 _ rfl
  obtain ⟨z1,t1⟩:=HZ.out 1 _ rfl
  obtain ⟨z2,t2⟩:=HZ.out 2 _ rfl
  clear hb4 hown bx HDF2 HFIN
  go_wp2
  (try simp only [Exit.inBlock,Exit.then])
  refine bodyPost_ret (v:=.agg #[.int .i64 (defD rs k).number,.slice xab (defD rs k).bytes.length xcb,.slice xai (defD rs k).items.length xci]) ?_ rfl ?_
  ·simp [results,Tryz.results21,go_sem,z0,z1,z2]
  ·obtain ⟨h1,h2⟩:=HFI.out _ _ _
   exact ⟨_,_,rfl,h1,h2⟩
end Go.Proofs.YtfmnjclnhppghaaGreat
