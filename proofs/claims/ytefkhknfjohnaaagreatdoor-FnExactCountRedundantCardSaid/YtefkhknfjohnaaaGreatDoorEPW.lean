/- The contract of the model's l9Own. -/
import Derived.Test.YtefkhknfjohnaaaGreatDoorEK
import Derived.Test.YtefkhknfjohnaaaGreatDoorEGI
import Derived.Test.YtefkhknfjohnaaaGreatDoorEGP
import Derived.Test.YtefkhknfjohnaaaGreatDoorEGX
import Derived.Test.YtefkhknfjohnaaaGreatDoorEGDI
import Derived.Deep.RegionHeld3
import Derived.Deep.CutRange
import Derived.IntWalk
import Derived.Test.YtefkhknfjohnaaaGreatDoorEPE
import Derived.Test.YtefkhknfjohnaaaGreatDoorEGV
set_option maxRecDepth 100000
set_option maxHeartbeats 8000000
namespace Go.Proofs.YtefkhknfjohnaaaGreatDoor
open Go Go.RowKit
theorem own_1 (a : Option Addr) (rs : List RuleV) (cap : Nat) (r : RuleV) (cs vs : List Value) (v : ValueV) (n : Nat) (w : World) (_hl : rs.length ≤ 1048576) (hrd : RdR a rs w) (hki : kindI rs r = true) (h : IsRule r cs w) (hv : IsVal (n + 1) v vs w) (hk : r.kind = 1) :
  Calls Tryz.prog 191 #[.agg #[.slice a rs.length cap],.agg cs.toArray,.agg vs.toArray] w fun e w' => e = .returned (.bool (ownB rs r v)) ∧ Below w.heap.size w w':=by
 obtain ⟨a4,c4,a5,c5,a6,c6,a7,c7,rfl,h4,h5,h6,h7⟩:=h
 obtain ⟨ab,cb,ai,ci,rfl,-,-⟩:=hv
 have hres : Hid (ownB rs r v = (decide (0 ≤ v.number ∧ v.number ≤ pow256 r.size - 1) && (decide (v.bytes.length = 0) && decide (v.items.length = 0)))):=by show _ = _; unfold ownB; simp [hk]
 obtain ⟨x,hx⟩ : ∃ x,x = v.number:=⟨_,rfl⟩
 obtain ⟨bl,hbl⟩ : ∃ bl,bl = v.bytes.length:=⟨_,rfl⟩
 obtain ⟨il,hil⟩ : ∃ il,il = v.items.length:=⟨_,rfl⟩
 rw [← hx,← hbl,← hil]
 rw [← hx,← hbl,← hil] at hres
 have HX:=kq hx
 clear hx hbl hil
 obtain ⟨w0,hw0⟩ : ∃ w0,w0 = ((w.alloc (.cells #[.slice a rs.length cap] 26)).alloc (.cells #[.string r.name,.int .i64 r.kind,.int .i64 r.size,.bool r.little,.slice a4 r.bytes.length c4,.slice a5 r.names.length c5,.slice a6 r.tags.length c6,.slice a7 r.kids.length c7] 63)).alloc (.cells #[.int .i64 x,.slice ab bl cb,.slice ai il ci] 48):=⟨_,rfl⟩
 have hB : Below w.heap.size w w0:=by subst hw0; exact (((Below.refl _ _).alloc (Nat.le_refl _) _).alloc (by simp) _).alloc (by simp; omega) _
 have HD : Hid (CellsAt w.heap.size [.slice a rs.length cap] w0):=by subst hw0; exact ((CellsAt.new w _ _).below ((Below.refl _ _).alloc (Nat.le_refl _) _)).below ((Below.refl _ _).alloc (Nat.le_refl _) _)
 have HC : Hid (CellsAt (w.heap.size + 1) [.string r.name,.int .i64 r.kind,.int .i64 r.size,.bool r.little,.slice a4 r.bytes.length c4,.slice a5 r.names.length c5,.slice a6 r.tags.length c6,.slice a7 r.kids.length c7] w0):=by subst hw0; have h1:=CellsAt.new (w.alloc (.cells #[.slice a rs.length cap] 26)) [.string r.name,.int .i64 r.kind,.int .i64 r.size,.bool r.little,.slice a4 r.bytes.length c4,.slice a5 r.names.length c5,.slice a6 r.tags.length c6,.slice a7 r.kids.length c7] 63; rw [World.size_alloc] at h1; exact h1.below ((Below.refl _ _).alloc (Nat.le_refl _) _)
 have HVC : Hid (CellsAt (w.heap.size + 2) [.int .i64 x,.slice ab bl cb,.slice ai il ci] w0):=by subst hw0; have h1:=CellsAt.new ((w.alloc (.cells #[.slice a rs.length cap] 26)).alloc (.cells #[.string r.name,.int .i64 r.kind,.int .i64 r.size,.bool r.little,.slice a4 r.bytes.length c4,.slice a5 r.names.length c5,.slice a6 r.tags.length c6,.slice a7 r.kids.length c7] 63)) [.int .i64 x,.slice ab bl cb,.slice ai il ci] 48; rw [World.size_alloc,World.size_alloc] at h1; exact h1
 have HR7:=kq (h7.below hB)
 have HRD:=kq (hrd.below hB)
 have HIS : Hid (IsRule r [.string r.name,.int .i64 r.kind,.int .i64 r.size,.bool r.little,.slice a4 r.bytes.length c4,.slice a5 r.names.length c5,.slice a6 r.tags.length c6,.slice a7 r.kids.length c7] w0):=⟨a4,c4,a5,c5,a6,c6,a7,c7,rfl,h4.below hB,h5.below hB,h6.below hB,h7.below hB⟩
 have HB:=kq hB
 have HKI:=kq hki
 have hW:=kq hw0
 have HKK:=kq hk
 have z0:=(HVC.out 0 _ rfl).1
 have z1:=(HVC.out 1 _ rfl).1
 have z2:=(HVC.out 2 _ rfl).1
 have y1:=(HC.out 1 _ rfl).1
 rw [hk] at y1
 clear hB hki hw0 h4 h5 h6 h7 hrd
 have hsz:=kindI_size HKI.out hk
 have y2:=(HC.out 2 _ rfl).1
 obtain ⟨P,hP⟩ : ∃ P,P = pow256 r.size:=⟨_,rfl⟩
 have P0 : 256 ≤ P:=by rw [hP]; exact (pow256_bounds r.size).1
 have P1 : P ≤ 4294967296:=by rw [hP]; exact (pow256_bounds r.size).2
 rw [← hP] at hres
 have HPP:=kq hP
 obtain ⟨Q,hQ⟩ : ∃ Q,P - 1 = Q:=⟨_,rfl⟩
 rw [hQ] at hres
 have hQ0 : IntKind.i64.wrap Q = Q:=IntWalk.i64_in _ (by omega)
 have hs1:=hsz.1
 have hs2:=hsz.2
 obtain ⟨sz,hszz⟩ : ∃ sz,sz = r.size:=⟨_,rfl⟩
 rw [← hszz] at y2 hs1 hs2
 have HSZ:=kq hszz
 clear hP hsz hszz
 clear hk
 by_cases g1 : 0 ≤ x ∧ x ≤ Q
 ·have e1 : (0 ≤ x ∧ x ≤ Q):=by omega
  have hd1:=decide_eq_true g1
  by_cases g2 : bl = 0
  ·have e2 : ((bl : Int) == 0) = true:=by simp; omega
   by_cases g3 : il = 0
   ·have e3 : ((il : Int) == 0) = true:=by simp; omega
    have hr : Hid (ownB rs r v = true):=by show _ = _; rw [hres.out]; simp [g1,g2,g3]
    clear hres g2 g3
    go_enter Tryz.func191,Tryz.ntmps191
    go_upto_region 1 with fail
    rw [← hW.out]
    clear hW
    go_upto_region 3 with fail
    have HBW : Hid (Below w0.heap.size w0 w0.drew):=below_drewN (Below.refl _ w0) 1
    have HSW : Hid (∀ W,Below w0.heap.size w0 W → W.cell? ⟨w.heap.size + 2,0,none⟩ = some (.int .i64 x) ∧ W.cell? ⟨w.heap.size + 2,1,none⟩ = some (.slice ab bl cb) ∧ W.cell? ⟨w.heap.size + 2,2,none⟩ = some (.slice ai il ci) ∧ W.cell? ⟨w.heap.size + 1,2,none⟩ = some (.int .i64 sz)):=fun W hW => ⟨cell_keep hW z0,cell_keep hW z1,cell_keep hW z2,cell_keep hW y2⟩
    clear z0 z1 z2 y2
    refine wp_region_held_drew (S:=(fun W => W.cell? ⟨w.heap.size + 2,0,none⟩ = some (.int .i64 x) ∧ W.cell? ⟨w.heap.size + 2,1,none⟩ = some (.slice ab bl cb) ∧ W.cell? ⟨w.heap.size + 2,2,none⟩ = some (.slice ai il ci) ∧ W.cell? ⟨w.heap.size + 1,2,none⟩ = some (.int .i64 sz))) (by kernel_rfl) ?_ (fun hHeld => ?_)
    ·(try dsimp only); exact HSW.out _ HBW.out
    refine tq 0 (h:=?_)
    refine tq 1 (h:=?_)
    refine tq 2 (h:=?_)
    refine tq 3 (h:=?_)
    refine wpAnyH_ready (rs:=[4]) (by kernel_rfl) (by simp) ?_
    refine ac (h:=fun K hK => ?_)
    go_simp
    (go_at_call 112; refine (power_spec sz _ (by omega) (by omega)).mono ?_; rintro e wx ⟨rfl,rfl⟩; rw [show pow256 sz = P from by rw [HPP.out,HSZ.out]])
    go_wp2_with fail
    refine hK.out _ _ ?_ (fun hHeld => ?_)
    ·(try dsimp only); exact HSW.out _ HBW.out
    clear hK K
    refine tq 5 (h:=?_)
    refine wpAnyH_ready (rs:=[6]) (by kernel_rfl) (by simp) ?_
    refine ac (h:=fun K hK => ?_)
    go_simp
    (go_at_call 87; refine (in_any _ _ _ true _ hd1).mono ?_; rintro e wx ⟨rfl,rfl⟩)
    go_wp2_with fail
    refine hK.out _ _ ?_ (fun hHeld => ?_)
    ·(try dsimp only); exact HSW.out _ HBW.out
    clear hK K
    refine tq 7 (h:=?_)
    refine tq 8 (h:=?_)
    refine tq 9 (h:=?_)
    refine tq 10 (h:=?_)
    refine tq 11 (h:=?_)
    refine tq 12 (h:=?_)
    refine tq 13 (h:=?_)
    refine tq 14 (h:=?_)
    refine tq 15 (h:=?_)
    refine tq 16 (h:=?_)
    refine tq 17 (h:=?_)
    refine tq 18 (h:=?_)
    refine tq 19 (h:=?_)
    refine wpAnyH_done (by kernel_rfl) ?_ _
    have HBF:=kq (HB.out.trans (HBW.out.mono HB.out.size))
    go_wp2
    go_ret
    exact ⟨ret_bool (by first | exact hr.out.symm | (rw [hr.out]; exact decide_eq_true (by omega)) | (rw [hr.out]; exact decide_eq_false (by omega))),HBF.out⟩
   ·have e3 : ((il : Int) == 0) = false:=by simp; omega
    have hr : Hid (ownB rs r v = false):=by show _ = _; rw [hres.out]; simp [g1,g2,g3]
    clear hres g2 g3
    go_enter Tryz.func191,Tryz.ntmps191
    go_upto_region 1 with fail
    rw [← hW.out]
    clear hW
    go_upto_region 3 with fail
    have HBW : Hid (Below w0.heap.size w0 w0.drew):=below_drewN (Below.refl _ w0) 1
    have HSW : Hid (∀ W,Below w0.heap.size w0 W → W.cell? ⟨w.heap.size + 2,0,none⟩ = some (.int .i64 x) ∧ W.cell? ⟨w.heap.size + 2,1,none⟩ = some (.slice ab bl cb) ∧ W.cell? ⟨w.heap.size + 2,2,none⟩ = some (.slice ai il ci) ∧ W.cell? ⟨w.heap.size + 1,2,none⟩ = some (.int .i64 sz)):=fun W hW => ⟨cell_keep hW z0,cell_keep hW z1,cell_keep hW z2,cell_keep hW y2⟩
    clear z0 z1 z2 y2
    refine wp_region_held_drew (S:=(fun W => W.cell? ⟨w.heap.size + 2,0,none⟩ = some (.int .i64 x) ∧ W.cell? ⟨w.heap.size + 2,1,none⟩ = some (.slice ab bl cb) ∧ W.cell? ⟨w.heap.size + 2,2,none⟩ = some (.slice ai il ci) ∧ W.cell? ⟨w.heap.size + 1,2,none⟩ = some (.int .i64 sz))) (by kernel_rfl) ?_ (fun hHeld => ?_)
    ·(try dsimp only); exact HSW.out _ HBW.out
    refine tq 0 (h:=?_)
    refine tq 1 (h:=?_)
    refine tq 2 (h:=?_)
    refine tq 3 (h:=?_)
    refine wpAnyH_ready (rs:=[4]) (by kernel_rfl) (by simp) ?_
    refine ac (h:=fun K hK => ?_)
    go_simp
    (go_at_call 112; refine (power_spec sz _ (by omega) (by omega)).mono ?_; rintro e wx ⟨rfl,rfl⟩; rw [show pow256 sz = P from by rw [HPP.out,HSZ.out]])
    go_wp2_with fail
    refine hK.out _ _ ?_ (fun hHeld => ?_)
    ·(try dsimp only); exact HSW.out _ HBW.out
    clear hK K
    refine tq 5 (h:=?_)
    refine wpAnyH_ready (rs:=[6]) (by kernel_rfl) (by simp) ?_
    refine ac (h:=fun K hK => ?_)
    go_simp
    (go_at_call 87; refine (in_any _ _ _ true _ hd1).mono ?_; rintro e wx ⟨rfl,rfl⟩)
    go_wp2_with fail
    refine hK.out _ _ ?_ (fun hHeld => ?_)
    ·(try dsimp only); exact HSW.out _ HBW.out
    clear hK K
    refine tq 7 (h:=?_)
    refine tq 8 (h:=?_)
    refine tq 9 (h:=?_)
    refine tq 10 (h:=?_)
    refine tq 11 (h:=?_)
    refine tq 12 (h:=?_)
    refine tq 13 (h:=?_)
    refine tq 14 (h:=?_)
    refine tq 15 (h:=?_)
    refine tq 16 (h:=?_)
    refine tq 17 (h:=?_)
    refine tq 18 (h:=?_)
    refine tq 19 (h:=?_)
    refine wpAnyH_done (by kernel_rfl) ?_ _
    have HBF:=kq (HB.out.trans (HBW.out.mono HB.out.size))
    go_wp2
    go_ret
    exact ⟨ret_bool (by first | exact hr.out.symm | (rw [hr.out]; exact decide_eq_true (by omega)) | (rw [hr.out]; exact decide_eq_false (by omega))),HBF.out⟩
  ·have e2 : ((bl : Int) == 0) = false:=by simp; omega
   have hr : Hid (ownB rs r v = false):=by show _ = _; rw [hres.out]; simp [g1,g2]
   clear hres g2
   go_enter Tryz.func191,Tryz.ntmps191
   go_upto_region 1 with fail
   rw [← hW.out]
   clear hW
   go_upto_region 3 with fail
   have HBW : Hid (Below w0.heap.size w0 w0.drew):=below_drewN (Below.refl _ w0) 1
   have HSW : Hid (∀ W,Below w0.heap.size w0 W → W.cell? ⟨w.heap.size + 2,0,none⟩ = some (.int .i64 x) ∧ W.cell? ⟨w.heap.size + 2,1,none⟩ = some (.slice ab bl cb) ∧ W.cell? ⟨w.heap.size + 2,2,none⟩ = some (.slice ai il ci) ∧ W.cell? ⟨w.heap.size + 1,2,none⟩ = some (.int .i64 sz)):=fun W hW => ⟨cell_keep hW z0,cell_keep hW z1,cell_keep hW z2,cell_keep hW y2⟩
   clear z0 z1 z2 y2
   refine wp_region_held_drew (S:=(fun W => W.cell? ⟨w.heap.size + 2,0,none⟩ = some (.int .i64 x) ∧ W.cell? ⟨w.heap.size + 2,1,none⟩ = some (.slice ab bl cb) ∧ W.cell? ⟨w.heap.size + 2,2,none⟩ = some (.slice ai il ci) ∧ W.cell? ⟨w.heap.size + 1,2,none⟩ = some (.int .i64 sz))) (by kernel_rfl) ?_ (fun hHeld => ?_)
   ·(try dsimp only); exact HSW.out _ HBW.out
   refine tq 0 (h:=?_)
   refine tq 1 (h:=?_)
   refine tq 2 (h:=?_)
   refine tq 3 (h:=?_)
   refine wpAnyH_ready (rs:=[4]) (by kernel_rfl) (by simp) ?_
   refine ac (h:=fun K hK => ?_)
   go_simp
   (go_at_call 112; refine (power_spec sz _ (by omega) (by omega)).mono ?_; rintro e wx ⟨rfl,rfl⟩; rw [show pow256 sz = P from by rw [HPP.out,HSZ.out]])
   go_wp2_with fail
   refine hK.out _ _ ?_ (fun hHeld => ?_)
   ·(try dsimp only); exact HSW.out _ HBW.out
   clear hK K
   refine tq 5 (h:=?_)
   refine wpAnyH_ready (rs:=[6]) (by kernel_rfl) (by simp) ?_
   refine ac (h:=fun K hK => ?_)
   go_simp
   (go_at_call 87; refine (in_any _ _ _ true _ hd1).mono ?_; rintro e wx ⟨rfl,rfl⟩)
   go_wp2_with fail
   refine hK.out _ _ ?_ (fun hHeld => ?_)
   ·(try dsimp only); exact HSW.out _ HBW.out
   clear hK K
   refine tq 7 (h:=?_)
   refine tq 8 (h:=?_)
   refine tq 9 (h:=?_)
   refine tq 10 (h:=?_)
   refine tq 11 (h:=?_)
   refine tq 12 (h:=?_)
   refine tq 13 (h:=?_)
   refine tq 14 (v:=undef) (hy:=Or.inr ⟨by rfl,rfl⟩) (h:=?_)
   refine tq 15 (v:=undef) (hy:=Or.inr ⟨by rfl,rfl⟩) (h:=?_)
   refine tq 16 (v:=undef) (hy:=Or.inr ⟨by rfl,rfl⟩) (h:=?_)
   refine tq 17 (v:=undef) (hy:=Or.inr ⟨by rfl,rfl⟩) (h:=?_)
   refine tq 18 (h:=?_)
   refine tq 19 (h:=?_)
   refine wpAnyH_done (by kernel_rfl) ?_ _
   have HBF:=kq (HB.out.trans (HBW.out.mono HB.out.size))
   go_wp2
   go_ret
   exact ⟨ret_bool (by first | exact hr.out.symm | (rw [hr.out]; exact decide_eq_true (by omega)) | (rw [hr.out]; exact decide_eq_false (by omega))),HBF.out⟩
 ·have e1 : ¬ (0 ≤ x ∧ x ≤ Q):=by omega
  have hd1:=decide_eq_false g1
  have hr : Hid (ownB rs r v = false):=by show _ = _; rw [hres.out]; simp [g1]
  clear hres
  go_enter Tryz.func191,Tryz.ntmps191
  go_upto_region 1 with fail
  rw [← hW.out]
  clear hW
  go_upto_region 3 with fail
  have HBW : Hid (Below w0.heap.size w0 w0.drew):=below_drewN (Below.refl _ w0) 1
  have HSW : Hid (∀ W,Below w0.heap.size w0 W → W.cell? ⟨w.heap.size + 2,0,none⟩ = some (.int .i64 x) ∧ W.cell? ⟨w.heap.size + 2,1,none⟩ = some (.slice ab bl cb) ∧ W.cell? ⟨w.heap.size + 2,2,none⟩ = some (.slice ai il ci) ∧ W.cell? ⟨w.heap.size + 1,2,none⟩ = some (.int .i64 sz)):=fun W hW => ⟨cell_keep hW z0,cell_keep hW z1,cell_keep hW z2,cell_keep hW y2⟩
  clear z0 z1 z2 y2
  refine wp_region_held_drew (S:=(fun W => W.cell? ⟨w.heap.size + 2,0,none⟩ = some (.int .i64 x) ∧ W.cell? ⟨w.heap.size + 2,1,none⟩ = some (.slice ab bl cb) ∧ W.cell? ⟨w.heap.size + 2,2,none⟩ = some (.slice ai il ci) ∧ W.cell? ⟨w.heap.size + 1,2,none⟩ = some (.int .i64 sz))) (by kernel_rfl) ?_ (fun hHeld => ?_)
  ·(try dsimp only); exact HSW.out _ HBW.out
  refine tq 0 (h:=?_)
  refine tq 1 (h:=?_)
  refine tq 2 (h:=?_)
  refine tq 3 (h:=?_)
  refine wpAnyH_ready (rs:=[4]) (by kernel_rfl) (by simp) ?_
  refine ac (h:=fun K hK => ?_)
  go_simp
  (go_at_call 112; refine (power_spec sz _ (by omega) (by omega)).mono ?_; rintro e wx ⟨rfl,rfl⟩; rw [show pow256 sz = P from by rw [HPP.out,HSZ.out]])
  go_wp2_with fail
  refine hK.out _ _ ?_ (fun hHeld => ?_)
  ·(try dsimp only); exact HSW.out _ HBW.out
  clear hK K
  refine tq 5 (h:=?_)
  refine wpAnyH_ready (rs:=[6]) (by kernel_rfl) (by simp) ?_
  refine ac (h:=fun K hK => ?_)
  go_simp
  (go_at_call 87; refine (in_any _ _ _ false _ hd1).mono ?_; rintro e wx ⟨rfl,rfl⟩)
  go_wp2_with fail
  refine hK.out _ _ ?_ (fun hHeld => ?_)
  ·(try dsimp only); exact HSW.out _ HBW.out
  clear hK K
  refine tq 7 (h:=?_)
  refine tq 8 (v:=undef) (hy:=Or.inr ⟨by rfl,rfl⟩) (h:=?_)
  refine tq 9 (v:=undef) (hy:=Or.inr ⟨by rfl,rfl⟩) (h:=?_)
  refine tq 10 (v:=undef) (hy:=Or.inr ⟨by rfl,rfl⟩) (h:=?_)
  refine tq 11 (v:=undef) (hy:=Or.inr ⟨by rfl,rfl⟩) (h:=?_)
  refine tq 12 (h:=?_)
  refine tq 13 (h:=?_)
  refine tq 14 (v:=undef) (hy:=Or.inr ⟨by rfl,rfl⟩) (h:=?_)
  refine tq 15 (v:=undef) (hy:=Or.inr ⟨by rfl,rfl⟩) (h:=?_)
  refine tq 16 (v:=undef) (hy:=Or.inr ⟨by rfl,rfl⟩) (h:=?_)
  refine tq 17 (v:=undef) (hy:=Or.inr ⟨by rfl,rfl⟩) (h:=?_)
  refine tq 18 (h:=?_)
  refine tq 19 (h:=?_)
  refine wpAnyH_done (by kernel_rfl) ?_ _
  have HBF:=kq (HB.out.trans (HBW.out.mono HB.out.size))
  go_wp2
  go_ret
  exact ⟨ret_bool (by first | exact hr.out.symm | (rw [hr.out]; exact decide_eq_true (by omega)) | (rw [hr.out]; exact decide_eq_false (by omega))),HBF.out⟩
theorem own_2 (a : Option Addr) (rs : List RuleV) (cap : Nat) (r : RuleV) (cs vs : List Value) (v : ValueV) (n : Nat) (w : World) (_hl : rs.length ≤ 1048576) (hrd : RdR a rs w) (hki : kindI rs r = true) (h : IsRule r cs w) (hv : IsVal (n + 1) v vs w) (hk : r.kind = 2) :
  Calls Tryz.prog 191 #[.agg #[.slice a rs.length cap],.agg cs.toArray,.agg vs.toArray] w fun e w' => e = .returned (.bool (ownB rs r v)) ∧ Below w.heap.size w w':=by
 obtain ⟨a4,c4,a5,c5,a6,c6,a7,c7,rfl,h4,h5,h6,h7⟩:=h
 obtain ⟨ab,cb,ai,ci,rfl,-,-⟩:=hv
 have hres : Hid (ownB rs r v = (decide (v.number = 0) && (decide (v.bytes.length = 0) && decide (v.items.length = 0)))):=by show _ = _; unfold ownB; simp [hk]
 obtain ⟨x,hx⟩ : ∃ x,x = v.number:=⟨_,rfl⟩
 obtain ⟨bl,hbl⟩ : ∃ bl,bl = v.bytes.length:=⟨_,rfl⟩
 obtain ⟨il,hil⟩ : ∃ il,il = v.items.length:=⟨_,rfl⟩
 rw [← hx,← hbl,← hil]
 rw [← hx,← hbl,← hil] at hres
 have HX:=kq hx
 clear hx hbl hil
 obtain ⟨w0,hw0⟩ : ∃ w0,w0 = ((w.alloc (.cells #[.slice a rs.length cap] 26)).alloc (.cells #[.string r.name,.int .i64 r.kind,.int .i64 r.size,.bool r.little,.slice a4 r.bytes.length c4,.slice a5 r.names.length c5,.slice a6 r.tags.length c6,.slice a7 r.kids.length c7] 63)).alloc (.cells #[.int .i64 x,.slice ab bl cb,.slice ai il ci] 48):=⟨_,rfl⟩
 have hB : Below w.heap.size w w0:=by subst hw0; exact (((Below.refl _ _).alloc (Nat.le_refl _) _).alloc (by simp) _).alloc (by simp; omega) _
 have HD : Hid (CellsAt w.heap.size [.slice a rs.length cap] w0):=by subst hw0; exact ((CellsAt.new w _ _).below ((Below.refl _ _).alloc (Nat.le_refl _) _)).below ((Below.refl _ _).alloc (Nat.le_refl _) _)
 have HC : Hid (CellsAt (w.heap.size + 1) [.string r.name,.int .i64 r.kind,.int .i64 r.size,.bool r.little,.slice a4 r.bytes.length c4,.slice a5 r.names.length c5,.slice a6 r.tags.length c6,.slice a7 r.kids.length c7] w0):=by subst hw0; have h1:=CellsAt.new (w.alloc (.cells #[.slice a rs.length cap] 26)) [.string r.name,.int .i64 r.kind,.int .i64 r.size,.bool r.little,.slice a4 r.bytes.length c4,.slice a5 r.names.length c5,.slice a6 r.tags.length c6,.slice a7 r.kids.length c7] 63; rw [World.size_alloc] at h1; exact h1.below ((Below.refl _ _).alloc (Nat.le_refl _) _)
 have HVC : Hid (CellsAt (w.heap.size + 2) [.int .i64 x,.slice ab bl cb,.slice ai il ci] w0):=by subst hw0; have h1:=CellsAt.new ((w.alloc (.cells #[.slice a rs.length cap] 26)).alloc (.cells #[.string r.name,.int .i64 r.kind,.int .i64 r.size,.bool r.little,.slice a4 r.bytes.length c4,.slice a5 r.names.length c5,.slice a6 r.tags.length c6,.slice a7 r.kids.length c7] 63)) [.int .i64 x,.slice ab bl cb,.slice ai il ci] 48; rw [World.size_alloc,World.size_alloc] at h1; exact h1
 have HR7:=kq (h7.below hB)
 have HRD:=kq (hrd.below hB)
 have HIS : Hid (IsRule r [.string r.name,.int .i64 r.kind,.int .i64 r.size,.bool r.little,.slice a4 r.bytes.length c4,.slice a5 r.names.length c5,.slice a6 r.tags.length c6,.slice a7 r.kids.length c7] w0):=⟨a4,c4,a5,c5,a6,c6,a7,c7,rfl,h4.below hB,h5.below hB,h6.below hB,h7.below hB⟩
 have HB:=kq hB
 have HKI:=kq hki
 have hW:=kq hw0
 have HKK:=kq hk
 have z0:=(HVC.out 0 _ rfl).1
 have z1:=(HVC.out 1 _ rfl).1
 have z2:=(HVC.out 2 _ rfl).1
 have y1:=(HC.out 1 _ rfl).1
 rw [hk] at y1
 clear hB hki hw0 h4 h5 h6 h7 hrd
 clear hk
 by_cases g1 : x = 0
 ·have e1 : (x == 0) = true:=by simpa using g1
  by_cases g2 : bl = 0
  ·have e2 : ((bl : Int) == 0) = true:=by simp; omega
   by_cases g3 : il = 0
   ·have e3 : ((il : Int) == 0) = true:=by simp; omega
    have hr : Hid (ownB rs r v = true):=by show _ = _; rw [hres.out]; simp [g1,g2,g3]
    clear hres g1 g2 g3
    go_enter Tryz.func191,Tryz.ntmps191
    go_upto_region 1 with fail
    rw [← hW.out]
    clear hW
    have HBF:=HB
    go_wp2
    go_ret
    exact ⟨ret_bool (by first | exact hr.out.symm | (rw [hr.out]; exact decide_eq_true (by omega)) | (rw [hr.out]; exact decide_eq_false (by omega))),HBF.out⟩
   ·have e3 : ((il : Int) == 0) = false:=by simp; omega
    have hr : Hid (ownB rs r v = false):=by show _ = _; rw [hres.out]; simp [g1,g2,g3]
    clear hres g1 g2 g3
    go_enter Tryz.func191,Tryz.ntmps191
    go_upto_region 1 with fail
    rw [← hW.out]
    clear hW
    have HBF:=HB
    go_wp2
    go_ret
    exact ⟨ret_bool (by first | exact hr.out.symm | (rw [hr.out]; exact decide_eq_true (by omega)) | (rw [hr.out]; exact decide_eq_false (by omega))),HBF.out⟩
  ·have e2 : ((bl : Int) == 0) = false:=by simp; omega
   have hr : Hid (ownB rs r v = false):=by show _ = _; rw [hres.out]; simp [g1,g2]
   clear hres g1 g2
   go_enter Tryz.func191,Tryz.ntmps191
   go_upto_region 1 with fail
   rw [← hW.out]
   clear hW
   have HBF:=HB
   go_wp2
   go_ret
   exact ⟨ret_bool (by first | exact hr.out.symm | (rw [hr.out]; exact decide_eq_true (by omega)) | (rw [hr.out]; exact decide_eq_false (by omega))),HBF.out⟩
 ·have e1 : (x == 0) = false:=by simpa using g1
  have hr : Hid (ownB rs r v = false):=by show _ = _; rw [hres.out]; simp [g1]
  clear hres g1
  go_enter Tryz.func191,Tryz.ntmps191
  go_upto_region 1 with fail
  rw [← hW.out]
  clear hW
  have HBF:=HB
  go_wp2
  go_ret
  exact ⟨ret_bool (by first | exact hr.out.symm | (rw [hr.out]; exact decide_eq_true (by omega)) | (rw [hr.out]; exact decide_eq_false (by omega))),HBF.out⟩
theorem own_3 (a : Option Addr) (rs : List RuleV) (cap : Nat) (r : RuleV) (cs vs : List Value) (v : ValueV) (n : Nat) (w : World) (_hl : rs.length ≤ 1048576) (hrd : RdR a rs w) (hki : kindI rs r = true) (h : IsRule r cs w) (hv : IsVal (n + 1) v vs w) (hk : r.kind = 3) :
  Calls Tryz.prog 191 #[.agg #[.slice a rs.length cap],.agg cs.toArray,.agg vs.toArray] w fun e w' => e = .returned (.bool (ownB rs r v)) ∧ Below w.heap.size w w':=by
 obtain ⟨a4,c4,a5,c5,a6,c6,a7,c7,rfl,h4,h5,h6,h7⟩:=h
 obtain ⟨ab,cb,ai,ci,rfl,-,-⟩:=hv
 have hres : Hid (ownB rs r v = (decide (v.number = 0) && (decide ((v.bytes.length : Int) = r.size) && decide (v.items.length = 0)))):=by show _ = _; unfold ownB; simp [hk]
 obtain ⟨x,hx⟩ : ∃ x,x = v.number:=⟨_,rfl⟩
 obtain ⟨bl,hbl⟩ : ∃ bl,bl = v.bytes.length:=⟨_,rfl⟩
 obtain ⟨il,hil⟩ : ∃ il,il = v.items.length:=⟨_,rfl⟩
 rw [← hx,← hbl,← hil]
 rw [← hx,← hbl,← hil] at hres
 have HX:=kq hx
 clear hx hbl hil
 obtain ⟨w0,hw0⟩ : ∃ w0,w0 = ((w.alloc (.cells #[.slice a rs.length cap] 26)).alloc (.cells #[.string r.name,.int .i64 r.kind,.int .i64 r.size,.bool r.little,.slice a4 r.bytes.length c4,.slice a5 r.names.length c5,.slice a6 r.tags.length c6,.slice a7 r.kids.length c7] 63)).alloc (.cells #[.int .i64 x,.slice ab bl cb,.slice ai il ci] 48):=⟨_,rfl⟩
 have hB : Below w.heap.size w w0:=by subst hw0; exact (((Below.refl _ _).alloc (Nat.le_refl _) _).alloc (by simp) _).alloc (by simp; omega) _
 have HD : Hid (CellsAt w.heap.size [.slice a rs.length cap] w0):=by subst hw0; exact ((CellsAt.new w _ _).below ((Below.refl _ _).alloc (Nat.le_refl _) _)).below ((Below.refl _ _).alloc (Nat.le_refl _) _)
 have HC : Hid (CellsAt (w.heap.size + 1) [.string r.name,.int .i64 r.kind,.int .i64 r.size,.bool r.little,.slice a4 r.bytes.length c4,.slice a5 r.names.length c5,.slice a6 r.tags.length c6,.slice a7 r.kids.length c7] w0):=by subst hw0; have h1:=CellsAt.new (w.alloc (.cells #[.slice a rs.length cap] 26)) [.string r.name,.int .i64 r.kind,.int .i64 r.size,.bool r.little,.slice a4 r.bytes.length c4,.slice a5 r.names.length c5,.slice a6 r.tags.length c6,.slice a7 r.kids.length c7] 63; rw [World.size_alloc] at h1; exact h1.below ((Below.refl _ _).alloc (Nat.le_refl _) _)
 have HVC : Hid (CellsAt (w.heap.size + 2) [.int .i64 x,.slice ab bl cb,.slice ai il ci] w0):=by subst hw0; have h1:=CellsAt.new ((w.alloc (.cells #[.slice a rs.length cap] 26)).alloc (.cells #[.string r.name,.int .i64 r.kind,.int .i64 r.size,.bool r.little,.slice a4 r.bytes.length c4,.slice a5 r.names.length c5,.slice a6 r.tags.length c6,.slice a7 r.kids.length c7] 63)) [.int .i64 x,.slice ab bl cb,.slice ai il ci] 48; rw [World.size_alloc,World.size_alloc] at h1; exact h1
 have HR7:=kq (h7.below hB)
 have HRD:=kq (hrd.below hB)
 have HIS : Hid (IsRule r [.string r.name,.int .i64 r.kind,.int .i64 r.size,.bool r.little,.slice a4 r.bytes.length c4,.slice a5 r.names.length c5,.slice a6 r.tags.length c6,.slice a7 r.kids.length c7] w0):=⟨a4,c4,a5,c5,a6,c6,a7,c7,rfl,h4.below hB,h5.below hB,h6.below hB,h7.below hB⟩
 have HB:=kq hB
 have HKI:=kq hki
 have hW:=kq hw0
 have HKK:=kq hk
 have z0:=(HVC.out 0 _ rfl).1
 have z1:=(HVC.out 1 _ rfl).1
 have z2:=(HVC.out 2 _ rfl).1
 have y1:=(HC.out 1 _ rfl).1
 rw [hk] at y1
 clear hB hki hw0 h4 h5 h6 h7 hrd
 have y2:=(HC.out 2 _ rfl).1
 obtain ⟨sz,hsz⟩ : ∃ sz,sz = r.size:=⟨_,rfl⟩
 rw [← hsz] at y2 hres
 clear hsz
 clear hk
 by_cases g1 : x = 0
 ·have e1 : (x == 0) = true:=by simpa using g1
  by_cases g2 : (bl : Int) = sz
  ·have e2 : ((bl : Int) == sz) = true:=by simp; omega
   by_cases g3 : il = 0
   ·have e3 : ((il : Int) == 0) = true:=by simp; omega
    have hr : Hid (ownB rs r v = true):=by show _ = _; rw [hres.out]; simp [g1,g2,g3]
    clear hres g1 g2 g3
    go_enter Tryz.func191,Tryz.ntmps191
    go_upto_region 1 with fail
    rw [← hW.out]
    clear hW
    have HBF:=HB
    go_wp2
    go_ret
    exact ⟨ret_bool (by first | exact hr.out.symm | (rw [hr.out]; exact decide_eq_true (by omega)) | (rw [hr.out]; exact decide_eq_false (by omega))),HBF.out⟩
   ·have e3 : ((il : Int) == 0) = false:=by simp; omega
    have hr : Hid (ownB rs r v = false):=by show _ = _; rw [hres.out]; simp [g1,g2,g3]
    clear hres g1 g2 g3
    go_enter Tryz.func191,Tryz.ntmps191
    go_upto_region 1 with fail
    rw [← hW.out]
    clear hW
    have HBF:=HB
    go_wp2
    go_ret
    exact ⟨ret_bool (by first | exact hr.out.symm | (rw [hr.out]; exact decide_eq_true (by omega)) | (rw [hr.out]; exact decide_eq_false (by omega))),HBF.out⟩
  ·have e2 : ((bl : Int) == sz) = false:=by simp; omega
   have hr : Hid (ownB rs r v = false):=by show _ = _; rw [hres.out]; simp [g1,g2]
   clear hres g1 g2
   go_enter Tryz.func191,Tryz.ntmps191
   go_upto_region 1 with fail
   rw [← hW.out]
   clear hW
   have HBF:=HB
   go_wp2
   go_ret
   exact ⟨ret_bool (by first | exact hr.out.symm | (rw [hr.out]; exact decide_eq_true (by omega)) | (rw [hr.out]; exact decide_eq_false (by omega))),HBF.out⟩
 ·have e1 : (x == 0) = false:=by simpa using g1
  have hr : Hid (ownB rs r v = false):=by show _ = _; rw [hres.out]; simp [g1]
  clear hres g1
  go_enter Tryz.func191,Tryz.ntmps191
  go_upto_region 1 with fail
  rw [← hW.out]
  clear hW
  have HBF:=HB
  go_wp2
  go_ret
  exact ⟨ret_bool (by first | exact hr.out.symm | (rw [hr.out]; exact decide_eq_true (by omega)) | (rw [hr.out]; exact decide_eq_false (by omega))),HBF.out⟩
theorem own_4 (a : Option Addr) (rs : List RuleV) (cap : Nat) (r : RuleV) (cs vs : List Value) (v : ValueV) (n : Nat) (w : World) (hl : rs.length ≤ 1048576) (hrd : RdR a rs w) (hki : kindI rs r = true) (h : IsRule r cs w) (hv : IsVal (n + 1) v vs w) (hk : r.kind = 4) :
  Calls Tryz.prog 191 #[.agg #[.slice a rs.length cap],.agg cs.toArray,.agg vs.toArray] w fun e w' => e = .returned (.bool (ownB rs r v)) ∧ Below w.heap.size w w':=by
 obtain ⟨a4,c4,a5,c5,a6,c6,a7,c7,rfl,h4,h5,h6,h7⟩:=h
 obtain ⟨ab,cb,ai,ci,rfl,-,-⟩:=hv
 have hres : Hid (ownB rs r v = (decide (v.number = 0) && (decide ((v.bytes.length : Int) ≤ min 400 (limitAt rs (r.kids.getD 0 0))) && decide (v.items.length = 0)))):=by show _ = _; unfold ownB; simp [hk]
 obtain ⟨x,hx⟩ : ∃ x,x = v.number:=⟨_,rfl⟩
 obtain ⟨bl,hbl⟩ : ∃ bl,bl = v.bytes.length:=⟨_,rfl⟩
 obtain ⟨il,hil⟩ : ∃ il,il = v.items.length:=⟨_,rfl⟩
 rw [← hx,← hbl,← hil]
 rw [← hx,← hbl,← hil] at hres
 have HX:=kq hx
 clear hx hbl hil
 obtain ⟨w0,hw0⟩ : ∃ w0,w0 = ((w.alloc (.cells #[.slice a rs.length cap] 26)).alloc (.cells #[.string r.name,.int .i64 r.kind,.int .i64 r.size,.bool r.little,.slice a4 r.bytes.length c4,.slice a5 r.names.length c5,.slice a6 r.tags.length c6,.slice a7 r.kids.length c7] 63)).alloc (.cells #[.int .i64 x,.slice ab bl cb,.slice ai il ci] 48):=⟨_,rfl⟩
 have hB : Below w.heap.size w w0:=by subst hw0; exact (((Below.refl _ _).alloc (Nat.le_refl _) _).alloc (by simp) _).alloc (by simp; omega) _
 have HD : Hid (CellsAt w.heap.size [.slice a rs.length cap] w0):=by subst hw0; exact ((CellsAt.new w _ _).below ((Below.refl _ _).alloc (Nat.le_refl _) _)).below ((Below.refl _ _).alloc (Nat.le_refl _) _)
 have HC : Hid (CellsAt (w.heap.size + 1) [.string r.name,.int .i64 r.kind,.int .i64 r.size,.bool r.little,.slice a4 r.bytes.length c4,.slice a5 r.names.length c5,.slice a6 r.tags.length c6,.slice a7 r.kids.length c7] w0):=by subst hw0; have h1:=CellsAt.new (w.alloc (.cells #[.slice a rs.length cap] 26)) [.string r.name,.int .i64 r.kind,.int .i64 r.size,.bool r.little,.slice a4 r.bytes.length c4,.slice a5 r.names.length c5,.slice a6 r.tags.length c6,.slice a7 r.kids.length c7] 63; rw [World.size_alloc] at h1; exact h1.below ((Below.refl _ _).alloc (Nat.le_refl _) _)
 have HVC : Hid (CellsAt (w.heap.size + 2) [.int .i64 x,.slice ab bl cb,.slice ai il ci] w0):=by subst hw0; have h1:=CellsAt.new ((w.alloc (.cells #[.slice a rs.length cap] 26)).alloc (.cells #[.string r.name,.int .i64 r.kind,.int .i64 r.size,.bool r.little,.slice a4 r.bytes.length c4,.slice a5 r.names.length c5,.slice a6 r.tags.length c6,.slice a7 r.kids.length c7] 63)) [.int .i64 x,.slice ab bl cb,.slice ai il ci] 48; rw [World.size_alloc,World.size_alloc] at h1; exact h1
 have HR7:=kq (h7.below hB)
 have HRD:=kq (hrd.below hB)
 have HIS : Hid (IsRule r [.string r.name,.int .i64 r.kind,.int .i64 r.size,.bool r.little,.slice a4 r.bytes.length c4,.slice a5 r.names.length c5,.slice a6 r.tags.length c6,.slice a7 r.kids.length c7] w0):=⟨a4,c4,a5,c5,a6,c6,a7,c7,rfl,h4.below hB,h5.below hB,h6.below hB,h7.below hB⟩
 have HB:=kq hB
 have HKI:=kq hki
 have hW:=kq hw0
 have HKK:=kq hk
 have z0:=(HVC.out 0 _ rfl).1
 have z1:=(HVC.out 1 _ rfl).1
 have z2:=(HVC.out 2 _ rfl).1
 have y1:=(HC.out 1 _ rfl).1
 rw [hk] at y1
 clear hB hki hw0 h4 h5 h6 h7 hrd
 have hl0:=kq (kindI_4 HKI.out hk)
 have h0 : 0 < r.kids.length:=by have:=hl0.out; omega
 have g0 : (0 : Int) < (r.kids.length : Int):=by omega
 obtain ⟨b7,o7,ha7,hc7⟩:=HR7.out.cellAt (j:=0) h0
 subst ha7
 simp only [Nat.add_zero] at hc7
 rw [getD_at h0] at hres
 generalize r.kids[0] = kk at hc7 hres
 obtain ⟨M,hM⟩ : ∃ M,M = min 400 (limitAt rs kk):=⟨_,rfl⟩
 obtain ⟨L,hL⟩ : ∃ L,L = limitAt rs kk:=⟨_,rfl⟩
 rw [← hM] at hres
 rw [← hL] at hM
 have HM:=kq hM
 have HL:=kq hL
 clear hM hL
 have y7:=(HC.out 7 _ rfl).1
 clear hk
 by_cases g1 : x = 0
 ·have e1 : (x == 0) = true:=by simpa using g1
  by_cases g2 : (bl : Int) ≤ M
  ·have e2 : ((bl : Int) ≤ M):=by omega
   have f2 : decide ((bl : Int) ≤ M) = true:=decide_eq_true e2
   by_cases g3 : il = 0
   ·have e3 : ((il : Int) == 0) = true:=by simp; omega
    have hr : Hid (ownB rs r v = true):=by show _ = _; rw [hres.out]; simp [g1,g2,g3]
    clear hres g1 g3
    go_enter Tryz.func191,Tryz.ntmps191
    go_upto_region 1 with fail
    rw [← hW.out]
    clear hW
    go_upto_region 9 with fail
    have HBW : Hid (Below w0.heap.size w0 w0.drew):=below_drewN (Below.refl _ w0) 1
    have HSW : Hid (∀ W,Below w0.heap.size w0 W → W.cell? ⟨w.heap.size + 2,0,none⟩ = some (.int .i64 x) ∧ W.cell? ⟨w.heap.size + 2,1,none⟩ = some (.slice ab bl cb) ∧ W.cell? ⟨w.heap.size + 2,2,none⟩ = some (.slice ai il ci) ∧ W.cell? ⟨w.heap.size,0,none⟩ = some (.slice a rs.length cap) ∧ W.cell? ⟨w.heap.size + 1,7,none⟩ = some (.slice (some ⟨b7,o7,none⟩) r.kids.length c7) ∧ W.cell? ⟨b7,o7,none⟩ = some (.int .i64 kk)):=fun W hW => ⟨cell_keep hW z0,cell_keep hW z1,cell_keep hW z2,(HD.out.below hW 0 _ rfl).1,cell_keep hW y7,cell_keep hW hc7⟩
    clear z0 z1 z2 y7 hc7
    refine wp_region_held_drew (S:=(fun W => W.cell? ⟨w.heap.size + 2,0,none⟩ = some (.int .i64 x) ∧ W.cell? ⟨w.heap.size + 2,1,none⟩ = some (.slice ab bl cb) ∧ W.cell? ⟨w.heap.size + 2,2,none⟩ = some (.slice ai il ci) ∧ W.cell? ⟨w.heap.size,0,none⟩ = some (.slice a rs.length cap) ∧ W.cell? ⟨w.heap.size + 1,7,none⟩ = some (.slice (some ⟨b7,o7,none⟩) r.kids.length c7) ∧ W.cell? ⟨b7,o7,none⟩ = some (.int .i64 kk))) (by kernel_rfl) ?_ (fun hHeld => ?_)
    ·(try dsimp only); exact HSW.out _ HBW.out
    refine tq 0 (h:=?_)
    refine tq 1 (h:=?_)
    refine tq 2 (h:=?_)
    refine tq 3 (h:=?_)
    refine tq 4 (h:=?_)
    refine tq 5 (h:=?_)
    refine tq 6 (h:=?_)
    refine tq 7 (h:=?_)
    refine tq 8 (h:=?_)
    refine tq 9 (h:=?_)
    refine tq 10 (h:=?_)
    refine tq 11 (h:=?_)
    refine wpAnyH_ready (rs:=[12]) (by kernel_rfl) (by simp) ?_
    refine ac (h:=fun K hK => ?_)
    go_simp
    (go_at_call 221; refine (limit_spec a rs cap kk _ (by omega) (HRD.out.below HBW.out)).mono ?_; rintro e wx ⟨rfl,hb⟩; rw [← HL.out]; replace HBW:=kq (HBW.out.trans (hb.mono HBW.out.size)); clear hb)
    go_wp2_with fail
    refine hK.out _ _ ?_ (fun hHeld => ?_)
    ·(try dsimp only); exact HSW.out _ HBW.out
    clear hK K
    refine wpAnyH_ready (rs:=[13]) (by kernel_rfl) (by simp) ?_
    refine ac (h:=fun K hK => ?_)
    go_simp
    (go_at_call 111; refine (min_spec 400 L _).mono ?_; rintro e wx ⟨rfl,rfl⟩; rw [← HM.out])
    go_wp2_with fail
    refine hK.out _ _ ?_ (fun hHeld => ?_)
    ·(try dsimp only); exact HSW.out _ HBW.out
    clear hK K
    refine tq 14 (h:=?_)
    refine tq 15 (h:=?_)
    refine tq 16 (h:=?_)
    refine tq 17 (h:=?_)
    refine tq 18 (h:=?_)
    refine tq 19 (h:=?_)
    refine tq 20 (h:=?_)
    refine tq 21 (h:=?_)
    refine tq 22 (h:=?_)
    refine wpAnyH_done (by kernel_rfl) ?_ _
    have HBF:=kq (HB.out.trans (HBW.out.mono HB.out.size))
    go_wp2
    go_ret
    exact ⟨ret_bool (by first | exact hr.out.symm | (rw [hr.out]; exact decide_eq_true (by omega)) | (rw [hr.out]; exact decide_eq_false (by omega))),HBF.out⟩
   ·have e3 : ((il : Int) == 0) = false:=by simp; omega
    have hr : Hid (ownB rs r v = false):=by show _ = _; rw [hres.out]; simp [g1,g2,g3]
    clear hres g1 g3
    go_enter Tryz.func191,Tryz.ntmps191
    go_upto_region 1 with fail
    rw [← hW.out]
    clear hW
    go_upto_region 9 with fail
    have HBW : Hid (Below w0.heap.size w0 w0.drew):=below_drewN (Below.refl _ w0) 1
    have HSW : Hid (∀ W,Below w0.heap.size w0 W → W.cell? ⟨w.heap.size + 2,0,none⟩ = some (.int .i64 x) ∧ W.cell? ⟨w.heap.size + 2,1,none⟩ = some (.slice ab bl cb) ∧ W.cell? ⟨w.heap.size + 2,2,none⟩ = some (.slice ai il ci) ∧ W.cell? ⟨w.heap.size,0,none⟩ = some (.slice a rs.length cap) ∧ W.cell? ⟨w.heap.size + 1,7,none⟩ = some (.slice (some ⟨b7,o7,none⟩) r.kids.length c7) ∧ W.cell? ⟨b7,o7,none⟩ = some (.int .i64 kk)):=fun W hW => ⟨cell_keep hW z0,cell_keep hW z1,cell_keep hW z2,(HD.out.below hW 0 _ rfl).1,cell_keep hW y7,cell_keep hW hc7⟩
    clear z0 z1 z2 y7 hc7
    refine wp_region_held_drew (S:=(fun W => W.cell? ⟨w.heap.size + 2,0,none⟩ = some (.int .i64 x) ∧ W.cell? ⟨w.heap.size + 2,1,none⟩ = some (.slice ab bl cb) ∧ W.cell? ⟨w.heap.size + 2,2,none⟩ = some (.slice ai il ci) ∧ W.cell? ⟨w.heap.size,0,none⟩ = some (.slice a rs.length cap) ∧ W.cell? ⟨w.heap.size + 1,7,none⟩ = some (.slice (some ⟨b7,o7,none⟩) r.kids.length c7) ∧ W.cell? ⟨b7,o7,none⟩ = some (.int .i64 kk))) (by kernel_rfl) ?_ (fun hHeld => ?_)
    ·(try dsimp only); exact HSW.out _ HBW.out
    refine tq 0 (h:=?_)
    refine tq 1 (h:=?_)
    refine tq 2 (h:=?_)
    refine tq 3 (h:=?_)
    refine tq 4 (h:=?_)
    refine tq 5 (h:=?_)
    refine tq 6 (h:=?_)
    refine tq 7 (h:=?_)
    refine tq 8 (h:=?_)
    refine tq 9 (h:=?_)
    refine tq 10 (h:=?_)
    refine tq 11 (h:=?_)
    refine wpAnyH_ready (rs:=[12]) (by kernel_rfl) (by simp) ?_
    refine ac (h:=fun K hK => ?_)
    go_simp
    (go_at_call 221; refine (limit_spec a rs cap kk _ (by omega) (HRD.out.below HBW.out)).mono ?_; rintro e wx ⟨rfl,hb⟩; rw [← HL.out]; replace HBW:=kq (HBW.out.trans (hb.mono HBW.out.size)); clear hb)
    go_wp2_with fail
    refine hK.out _ _ ?_ (fun hHeld => ?_)
    ·(try dsimp only); exact HSW.out _ HBW.out
    clear hK K
    refine wpAnyH_ready (rs:=[13]) (by kernel_rfl) (by simp) ?_
    refine ac (h:=fun K hK => ?_)
    go_simp
    (go_at_call 111; refine (min_spec 400 L _).mono ?_; rintro e wx ⟨rfl,rfl⟩; rw [← HM.out])
    go_wp2_with fail
    refine hK.out _ _ ?_ (fun hHeld => ?_)
    ·(try dsimp only); exact HSW.out _ HBW.out
    clear hK K
    refine tq 14 (h:=?_)
    refine tq 15 (h:=?_)
    refine tq 16 (h:=?_)
    refine tq 17 (h:=?_)
    refine tq 18 (h:=?_)
    refine tq 19 (h:=?_)
    refine tq 20 (h:=?_)
    refine tq 21 (h:=?_)
    refine tq 22 (h:=?_)
    refine wpAnyH_done (by kernel_rfl) ?_ _
    have HBF:=kq (HB.out.trans (HBW.out.mono HB.out.size))
    go_wp2
    go_ret
    exact ⟨ret_bool (by first | exact hr.out.symm | (rw [hr.out]; exact decide_eq_true (by omega)) | (rw [hr.out]; exact decide_eq_false (by omega))),HBF.out⟩
  ·have e2 : ¬ ((bl : Int) ≤ M):=by omega
   have f2 : decide ((bl : Int) ≤ M) = false:=decide_eq_false e2
   have hr : Hid (ownB rs r v = false):=by show _ = _; rw [hres.out]; simp [g1,g2]
   clear hres g1
   go_enter Tryz.func191,Tryz.ntmps191
   go_upto_region 1 with fail
   rw [← hW.out]
   clear hW
   go_upto_region 9 with fail
   have HBW : Hid (Below w0.heap.size w0 w0.drew):=below_drewN (Below.refl _ w0) 1
   have HSW : Hid (∀ W,Below w0.heap.size w0 W → W.cell? ⟨w.heap.size + 2,0,none⟩ = some (.int .i64 x) ∧ W.cell? ⟨w.heap.size + 2,1,none⟩ = some (.slice ab bl cb) ∧ W.cell? ⟨w.heap.size + 2,2,none⟩ = some (.slice ai il ci) ∧ W.cell? ⟨w.heap.size,0,none⟩ = some (.slice a rs.length cap) ∧ W.cell? ⟨w.heap.size + 1,7,none⟩ = some (.slice (some ⟨b7,o7,none⟩) r.kids.length c7) ∧ W.cell? ⟨b7,o7,none⟩ = some (.int .i64 kk)):=fun W hW => ⟨cell_keep hW z0,cell_keep hW z1,cell_keep hW z2,(HD.out.below hW 0 _ rfl).1,cell_keep hW y7,cell_keep hW hc7⟩
   clear z0 z1 z2 y7 hc7
   refine wp_region_held_drew (S:=(fun W => W.cell? ⟨w.heap.size + 2,0,none⟩ = some (.int .i64 x) ∧ W.cell? ⟨w.heap.size + 2,1,none⟩ = some (.slice ab bl cb) ∧ W.cell? ⟨w.heap.size + 2,2,none⟩ = some (.slice ai il ci) ∧ W.cell? ⟨w.heap.size,0,none⟩ = some (.slice a rs.length cap) ∧ W.cell? ⟨w.heap.size + 1,7,none⟩ = some (.slice (some ⟨b7,o7,none⟩) r.kids.length c7) ∧ W.cell? ⟨b7,o7,none⟩ = some (.int .i64 kk))) (by kernel_rfl) ?_ (fun hHeld => ?_)
   ·(try dsimp only); exact HSW.out _ HBW.out
   refine tq 0 (h:=?_)
   refine tq 1 (h:=?_)
   refine tq 2 (h:=?_)
   refine tq 3 (h:=?_)
   refine tq 4 (h:=?_)
   refine tq 5 (h:=?_)
   refine tq 6 (h:=?_)
   refine tq 7 (h:=?_)
   refine tq 8 (h:=?_)
   refine tq 9 (h:=?_)
   refine tq 10 (h:=?_)
   refine tq 11 (h:=?_)
   refine wpAnyH_ready (rs:=[12]) (by kernel_rfl) (by simp) ?_
   refine ac (h:=fun K hK => ?_)
   go_simp
   (go_at_call 221; refine (limit_spec a rs cap kk _ (by omega) (HRD.out.below HBW.out)).mono ?_; rintro e wx ⟨rfl,hb⟩; rw [← HL.out]; replace HBW:=kq (HBW.out.trans (hb.mono HBW.out.size)); clear hb)
   go_wp2_with fail
   refine hK.out _ _ ?_ (fun hHeld => ?_)
   ·(try dsimp only); exact HSW.out _ HBW.out
   clear hK K
   refine wpAnyH_ready (rs:=[13]) (by kernel_rfl) (by simp) ?_
   refine ac (h:=fun K hK => ?_)
   go_simp
   (go_at_call 111; refine (min_spec 400 L _).mono ?_; rintro e wx ⟨rfl,rfl⟩; rw [← HM.out])
   go_wp2_with fail
   refine hK.out _ _ ?_ (fun hHeld => ?_)
   ·(try dsimp only); exact HSW.out _ HBW.out
   clear hK K
   refine tq 14 (h:=?_)
   refine tq 15 (h:=?_)
   refine tq 16 (h:=?_)
   refine tq 17 (v:=undef) (hy:=Or.inr ⟨by rfl,rfl⟩) (h:=?_)
   refine tq 18 (v:=undef) (hy:=Or.inr ⟨by rfl,rfl⟩) (h:=?_)
   refine tq 19 (v:=undef) (hy:=Or.inr ⟨by rfl,rfl⟩) (h:=?_)
   refine tq 20 (v:=undef) (hy:=Or.inr ⟨by rfl,rfl⟩) (h:=?_)
   refine tq 21 (h:=?_)
   refine tq 22 (h:=?_)
   refine wpAnyH_done (by kernel_rfl) ?_ _
   have HBF:=kq (HB.out.trans (HBW.out.mono HB.out.size))
   go_wp2
   go_ret
   exact ⟨ret_bool (by first | exact hr.out.symm | (rw [hr.out]; exact decide_eq_true (by omega)) | (rw [hr.out]; exact decide_eq_false (by omega))),HBF.out⟩
 ·have e1 : (x == 0) = false:=by simpa using g1
  have hr : Hid (ownB rs r v = false):=by show _ = _; rw [hres.out]; simp [g1]
  clear hres g1
  go_enter Tryz.func191,Tryz.ntmps191
  go_upto_region 1 with fail
  rw [← hW.out]
  clear hW
  go_upto_region 9 with fail
  have HBW : Hid (Below w0.heap.size w0 w0.drew):=below_drewN (Below.refl _ w0) 1
  have HSW : Hid (∀ W,Below w0.heap.size w0 W → W.cell? ⟨w.heap.size + 2,0,none⟩ = some (.int .i64 x) ∧ W.cell? ⟨w.heap.size + 2,1,none⟩ = some (.slice ab bl cb) ∧ W.cell? ⟨w.heap.size + 2,2,none⟩ = some (.slice ai il ci) ∧ W.cell? ⟨w.heap.size,0,none⟩ = some (.slice a rs.length cap) ∧ W.cell? ⟨w.heap.size + 1,7,none⟩ = some (.slice (some ⟨b7,o7,none⟩) r.kids.length c7) ∧ W.cell? ⟨b7,o7,none⟩ = some (.int .i64 kk)):=fun W hW => ⟨cell_keep hW z0,cell_keep hW z1,cell_keep hW z2,(HD.out.below hW 0 _ rfl).1,cell_keep hW y7,cell_keep hW hc7⟩
  clear z0 z1 z2 y7 hc7
  refine wp_region_held_drew (S:=(fun W => W.cell? ⟨w.heap.size + 2,0,none⟩ = some (.int .i64 x) ∧ W.cell? ⟨w.heap.size + 2,1,none⟩ = some (.slice ab bl cb) ∧ W.cell? ⟨w.heap.size + 2,2,none⟩ = some (.slice ai il ci) ∧ W.cell? ⟨w.heap.size,0,none⟩ = some (.slice a rs.length cap) ∧ W.cell? ⟨w.heap.size + 1,7,none⟩ = some (.slice (some ⟨b7,o7,none⟩) r.kids.length c7) ∧ W.cell? ⟨b7,o7,none⟩ = some (.int .i64 kk))) (by kernel_rfl) ?_ (fun hHeld => ?_)
  ·(try dsimp only); exact HSW.out _ HBW.out
  refine tq 0 (h:=?_)
  refine tq 1 (h:=?_)
  refine tq 2 (h:=?_)
  refine tq 3 (h:=?_)
  refine tq 4 (v:=undef) (hy:=Or.inr ⟨by rfl,rfl⟩) (h:=?_)
  refine tq 5 (v:=undef) (hy:=Or.inr ⟨by rfl,rfl⟩) (h:=?_)
  refine tq 6 (v:=undef) (hy:=Or.inr ⟨by rfl,rfl⟩) (h:=?_)
  refine tq 7 (v:=undef) (hy:=Or.inr ⟨by rfl,rfl⟩) (h:=?_)
  refine tq 8 (v:=undef) (hy:=Or.inr ⟨by rfl,rfl⟩) (h:=?_)
  refine tq 9 (v:=undef) (hy:=Or.inr ⟨by rfl,rfl⟩) (h:=?_)
  refine tq 10 (v:=undef) (hy:=Or.inr ⟨by rfl,rfl⟩) (h:=?_)
  refine tq 11 (v:=undef) (hy:=Or.inr ⟨by rfl,rfl⟩) (h:=?_)
  refine tq 12 (v:=undef) (hy:=Or.inr ⟨by rfl,rfl⟩) (h:=?_)
  refine tq 13 (v:=undef) (hy:=Or.inr ⟨by rfl,rfl⟩) (h:=?_)
  refine tq 14 (v:=undef) (hy:=Or.inr ⟨by rfl,rfl⟩) (h:=?_)
  refine tq 15 (h:=?_)
  refine tq 16 (h:=?_)
  refine tq 17 (v:=undef) (hy:=Or.inr ⟨by rfl,rfl⟩) (h:=?_)
  refine tq 18 (v:=undef) (hy:=Or.inr ⟨by rfl,rfl⟩) (h:=?_)
  refine tq 19 (v:=undef) (hy:=Or.inr ⟨by rfl,rfl⟩) (h:=?_)
  refine tq 20 (v:=undef) (hy:=Or.inr ⟨by rfl,rfl⟩) (h:=?_)
  refine tq 21 (h:=?_)
  refine tq 22 (h:=?_)
  refine wpAnyH_done (by kernel_rfl) ?_ _
  have HBF:=kq (HB.out.trans (HBW.out.mono HB.out.size))
  go_wp2
  go_ret
  exact ⟨ret_bool (by first | exact hr.out.symm | (rw [hr.out]; exact decide_eq_true (by omega)) | (rw [hr.out]; exact decide_eq_false (by omega))),HBF.out⟩
theorem own_5 (a : Option Addr) (rs : List RuleV) (cap : Nat) (r : RuleV) (cs vs : List Value) (v : ValueV) (n : Nat) (w : World) (hl : rs.length ≤ 1048576) (hrd : RdR a rs w) (hki : kindI rs r = true) (h : IsRule r cs w) (hv : IsVal (n + 1) v vs w) (hk : r.kind = 5) :
  Calls Tryz.prog 191 #[.agg #[.slice a rs.length cap],.agg cs.toArray,.agg vs.toArray] w fun e w' => e = .returned (.bool (ownB rs r v)) ∧ Below w.heap.size w w':=by
 obtain ⟨a4,c4,a5,c5,a6,c6,a7,c7,rfl,h4,h5,h6,h7⟩:=h
 obtain ⟨ab,cb,ai,ci,rfl,-,-⟩:=hv
 have hres : Hid (ownB rs r v = (decide (v.number = 0) && (decide (v.bytes.length = 0) && decide ((v.items.length : Int) ≤ min 40 (limitAt rs (r.kids.getD 0 0)))))):=by show _ = _; unfold ownB; simp [hk]
 obtain ⟨x,hx⟩ : ∃ x,x = v.number:=⟨_,rfl⟩
 obtain ⟨bl,hbl⟩ : ∃ bl,bl = v.bytes.length:=⟨_,rfl⟩
 obtain ⟨il,hil⟩ : ∃ il,il = v.items.length:=⟨_,rfl⟩
 rw [← hx,← hbl,← hil]
 rw [← hx,← hbl,← hil] at hres
 have HX:=kq hx
 clear hx hbl hil
 obtain ⟨w0,hw0⟩ : ∃ w0,w0 = ((w.alloc (.cells #[.slice a rs.length cap] 26)).alloc (.cells #[.string r.name,.int .i64 r.kind,.int .i64 r.size,.bool r.little,.slice a4 r.bytes.length c4,.slice a5 r.names.length c5,.slice a6 r.tags.length c6,.slice a7 r.kids.length c7] 63)).alloc (.cells #[.int .i64 x,.slice ab bl cb,.slice ai il ci] 48):=⟨_,rfl⟩
 have hB : Below w.heap.size w w0:=by subst hw0; exact (((Below.refl _ _).alloc (Nat.le_refl _) _).alloc (by simp) _).alloc (by simp; omega) _
 have HD : Hid (CellsAt w.heap.size [.slice a rs.length cap] w0):=by subst hw0; exact ((CellsAt.new w _ _).below ((Below.refl _ _).alloc (Nat.le_refl _) _)).below ((Below.refl _ _).alloc (Nat.le_refl _) _)
 have HC : Hid (CellsAt (w.heap.size + 1) [.string r.name,.int .i64 r.kind,.int .i64 r.size,.bool r.little,.slice a4 r.bytes.length c4,.slice a5 r.names.length c5,.slice a6 r.tags.length c6,.slice a7 r.kids.length c7] w0):=by subst hw0; have h1:=CellsAt.new (w.alloc (.cells #[.slice a rs.length cap] 26)) [.string r.name,.int .i64 r.kind,.int .i64 r.size,.bool r.little,.slice a4 r.bytes.length c4,.slice a5 r.names.length c5,.slice a6 r.tags.length c6,.slice a7 r.kids.length c7] 63; rw [World.size_alloc] at h1; exact h1.below ((Below.refl _ _).alloc (Nat.le_refl _) _)
 have HVC : Hid (CellsAt (w.heap.size + 2) [.int .i64 x,.slice ab bl cb,.slice ai il ci] w0):=by subst hw0; have h1:=CellsAt.new ((w.alloc (.cells #[.slice a rs.length cap] 26)).alloc (.cells #[.string r.name,.int .i64 r.kind,.int .i64 r.size,.bool r.little,.slice a4 r.bytes.length c4,.slice a5 r.names.length c5,.slice a6 r.tags.length c6,.slice a7 r.kids.length c7] 63)) [.int .i64 x,.slice ab bl cb,.slice ai il ci] 48; rw [World.size_alloc,World.size_alloc] at h1; exact h1
 have HR7:=kq (h7.below hB)
 have HRD:=kq (hrd.below hB)
 have HIS : Hid (IsRule r [.string r.name,.int .i64 r.kind,.int .i64 r.size,.bool r.little,.slice a4 r.bytes.length c4,.slice a5 r.names.length c5,.slice a6 r.tags.length c6,.slice a7 r.kids.length c7] w0):=⟨a4,c4,a5,c5,a6,c6,a7,c7,rfl,h4.below hB,h5.below hB,h6.below hB,h7.below hB⟩
 have HB:=kq hB
 have HKI:=kq hki
 have hW:=kq hw0
 have HKK:=kq hk
 have z0:=(HVC.out 0 _ rfl).1
 have z1:=(HVC.out 1 _ rfl).1
 have z2:=(HVC.out 2 _ rfl).1
 have y1:=(HC.out 1 _ rfl).1
 rw [hk] at y1
 clear hB hki hw0 h4 h5 h6 h7 hrd
 have hl0:=kq (kindI_5 HKI.out hk)
 have h0 : 0 < r.kids.length:=by have:=hl0.out; omega
 have g0 : (0 : Int) < (r.kids.length : Int):=by omega
 obtain ⟨b7,o7,ha7,hc7⟩:=HR7.out.cellAt (j:=0) h0
 subst ha7
 simp only [Nat.add_zero] at hc7
 rw [getD_at h0] at hres
 generalize r.kids[0] = kk at hc7 hres
 obtain ⟨M,hM⟩ : ∃ M,M = min 40 (limitAt rs kk):=⟨_,rfl⟩
 obtain ⟨L,hL⟩ : ∃ L,L = limitAt rs kk:=⟨_,rfl⟩
 rw [← hM] at hres
 rw [← hL] at hM
 have HM:=kq hM
 have HL:=kq hL
 clear hM hL
 have y7:=(HC.out 7 _ rfl).1
 clear hk
 by_cases g1 : x = 0
 ·have e1 : (x == 0) = true:=by simpa using g1
  by_cases g2 : bl = 0
  ·have e2 : ((bl : Int) == 0) = true:=by simp; omega
   by_cases g3 : (il : Int) ≤ M
   ·have e3 : ((il : Int) ≤ M):=by omega
    have f3 : decide ((il : Int) ≤ M) = true:=decide_eq_true e3
    have hr : Hid (ownB rs r v = true):=by show _ = _; rw [hres.out]; simp [g1,g2,g3]
    clear hres g1 g2
    go_enter Tryz.func191,Tryz.ntmps191
    go_upto_region 1 with fail
    rw [← hW.out]
    clear hW
    go_upto_region 13 with fail
    have HBW : Hid (Below w0.heap.size w0 w0.drew):=below_drewN (Below.refl _ w0) 1
    have HSW : Hid (∀ W,Below w0.heap.size w0 W → W.cell? ⟨w.heap.size + 2,0,none⟩ = some (.int .i64 x) ∧ W.cell? ⟨w.heap.size + 2,1,none⟩ = some (.slice ab bl cb) ∧ W.cell? ⟨w.heap.size + 2,2,none⟩ = some (.slice ai il ci) ∧ W.cell? ⟨w.heap.size,0,none⟩ = some (.slice a rs.length cap) ∧ W.cell? ⟨w.heap.size + 1,7,none⟩ = some (.slice (some ⟨b7,o7,none⟩) r.kids.length c7) ∧ W.cell? ⟨b7,o7,none⟩ = some (.int .i64 kk)):=fun W hW => ⟨cell_keep hW z0,cell_keep hW z1,cell_keep hW z2,(HD.out.below hW 0 _ rfl).1,cell_keep hW y7,cell_keep hW hc7⟩
    clear z0 z1 z2 y7 hc7
    refine wp_region_held_drew (S:=(fun W => W.cell? ⟨w.heap.size + 2,0,none⟩ = some (.int .i64 x) ∧ W.cell? ⟨w.heap.size + 2,1,none⟩ = some (.slice ab bl cb) ∧ W.cell? ⟨w.heap.size + 2,2,none⟩ = some (.slice ai il ci) ∧ W.cell? ⟨w.heap.size,0,none⟩ = some (.slice a rs.length cap) ∧ W.cell? ⟨w.heap.size + 1,7,none⟩ = some (.slice (some ⟨b7,o7,none⟩) r.kids.length c7) ∧ W.cell? ⟨b7,o7,none⟩ = some (.int .i64 kk))) (by kernel_rfl) ?_ (fun hHeld => ?_)
    ·(try dsimp only); exact HSW.out _ HBW.out
    refine tq 0 (h:=?_)
    refine tq 1 (h:=?_)
    refine tq 2 (h:=?_)
    refine tq 3 (h:=?_)
    refine tq 4 (h:=?_)
    refine tq 5 (h:=?_)
    refine tq 6 (h:=?_)
    refine tq 7 (h:=?_)
    refine tq 8 (h:=?_)
    refine tq 9 (h:=?_)
    refine tq 10 (h:=?_)
    refine tq 11 (h:=?_)
    refine tq 12 (h:=?_)
    refine tq 13 (h:=?_)
    refine tq 14 (h:=?_)
    refine tq 15 (h:=?_)
    refine tq 16 (h:=?_)
    refine tq 17 (h:=?_)
    refine wpAnyH_ready (rs:=[18]) (by kernel_rfl) (by simp) ?_
    refine ac (h:=fun K hK => ?_)
    go_simp
    (go_at_call 221; refine (limit_spec a rs cap kk _ (by omega) (HRD.out.below HBW.out)).mono ?_; rintro e wx ⟨rfl,hb⟩; rw [← HL.out]; replace HBW:=kq (HBW.out.trans (hb.mono HBW.out.size)); clear hb)
    go_wp2_with fail
    refine hK.out _ _ ?_ (fun hHeld => ?_)
    ·(try dsimp only); exact HSW.out _ HBW.out
    clear hK K
    refine wpAnyH_ready (rs:=[19]) (by kernel_rfl) (by simp) ?_
    refine ac (h:=fun K hK => ?_)
    go_simp
    (go_at_call 111; refine (min_spec 40 L _).mono ?_; rintro e wx ⟨rfl,rfl⟩; rw [← HM.out])
    go_wp2_with fail
    refine hK.out _ _ ?_ (fun hHeld => ?_)
    ·(try dsimp only); exact HSW.out _ HBW.out
    clear hK K
    refine tq 20 (h:=?_)
    refine tq 21 (h:=?_)
    refine tq 22 (h:=?_)
    refine wpAnyH_done (by kernel_rfl) ?_ _
    have HBF:=kq (HB.out.trans (HBW.out.mono HB.out.size))
    go_wp2
    go_ret
    exact ⟨ret_bool (by first | exact hr.out.symm | (rw [hr.out]; exact decide_eq_true (by omega)) | (rw [hr.out]; exact decide_eq_false (by omega))),HBF.out⟩
   ·have e3 : ¬ ((il : Int) ≤ M):=by omega
    have f3 : decide ((il : Int) ≤ M) = false:=decide_eq_false e3
    have hr : Hid (ownB rs r v = false):=by show _ = _; rw [hres.out]; simp [g1,g2,g3]
    clear hres g1 g2
    go_enter Tryz.func191,Tryz.ntmps191
    go_upto_region 1 with fail
    rw [← hW.out]
    clear hW
    go_upto_region 13 with fail
    have HBW : Hid (Below w0.heap.size w0 w0.drew):=below_drewN (Below.refl _ w0) 1
    have HSW : Hid (∀ W,Below w0.heap.size w0 W → W.cell? ⟨w.heap.size + 2,0,none⟩ = some (.int .i64 x) ∧ W.cell? ⟨w.heap.size + 2,1,none⟩ = some (.slice ab bl cb) ∧ W.cell? ⟨w.heap.size + 2,2,none⟩ = some (.slice ai il ci) ∧ W.cell? ⟨w.heap.size,0,none⟩ = some (.slice a rs.length cap) ∧ W.cell? ⟨w.heap.size + 1,7,none⟩ = some (.slice (some ⟨b7,o7,none⟩) r.kids.length c7) ∧ W.cell? ⟨b7,o7,none⟩ = some (.int .i64 kk)):=fun W hW => ⟨cell_keep hW z0,cell_keep hW z1,cell_keep hW z2,(HD.out.below hW 0 _ rfl).1,cell_keep hW y7,cell_keep hW hc7⟩
    clear z0 z1 z2 y7 hc7
    refine wp_region_held_drew (S:=(fun W => W.cell? ⟨w.heap.size + 2,0,none⟩ = some (.int .i64 x) ∧ W.cell? ⟨w.heap.size + 2,1,none⟩ = some (.slice ab bl cb) ∧ W.cell? ⟨w.heap.size + 2,2,none⟩ = some (.slice ai il ci) ∧ W.cell? ⟨w.heap.size,0,none⟩ = some (.slice a rs.length cap) ∧ W.cell? ⟨w.heap.size + 1,7,none⟩ = some (.slice (some ⟨b7,o7,none⟩) r.kids.length c7) ∧ W.cell? ⟨b7,o7,none⟩ = some (.int .i64 kk))) (by kernel_rfl) ?_ (fun hHeld => ?_)
    ·(try dsimp only); exact HSW.out _ HBW.out
    refine tq 0 (h:=?_)
    refine tq 1 (h:=?_)
    refine tq 2 (h:=?_)
    refine tq 3 (h:=?_)
    refine tq 4 (h:=?_)
    refine tq 5 (h:=?_)
    refine tq 6 (h:=?_)
    refine tq 7 (h:=?_)
    refine tq 8 (h:=?_)
    refine tq 9 (h:=?_)
    refine tq 10 (h:=?_)
    refine tq 11 (h:=?_)
    refine tq 12 (h:=?_)
    refine tq 13 (h:=?_)
    refine tq 14 (h:=?_)
    refine tq 15 (h:=?_)
    refine tq 16 (h:=?_)
    refine tq 17 (h:=?_)
    refine wpAnyH_ready (rs:=[18]) (by kernel_rfl) (by simp) ?_
    refine ac (h:=fun K hK => ?_)
    go_simp
    (go_at_call 221; refine (limit_spec a rs cap kk _ (by omega) (HRD.out.below HBW.out)).mono ?_; rintro e wx ⟨rfl,hb⟩; rw [← HL.out]; replace HBW:=kq (HBW.out.trans (hb.mono HBW.out.size)); clear hb)
    go_wp2_with fail
    refine hK.out _ _ ?_ (fun hHeld => ?_)
    ·(try dsimp only); exact HSW.out _ HBW.out
    clear hK K
    refine wpAnyH_ready (rs:=[19]) (by kernel_rfl) (by simp) ?_
    refine ac (h:=fun K hK => ?_)
    go_simp
    (go_at_call 111; refine (min_spec 40 L _).mono ?_; rintro e wx ⟨rfl,rfl⟩; rw [← HM.out])
    go_wp2_with fail
    refine hK.out _ _ ?_ (fun hHeld => ?_)
    ·(try dsimp only); exact HSW.out _ HBW.out
    clear hK K
    refine tq 20 (h:=?_)
    refine tq 21 (h:=?_)
    refine tq 22 (h:=?_)
    refine wpAnyH_done (by kernel_rfl) ?_ _
    have HBF:=kq (HB.out.trans (HBW.out.mono HB.out.size))
    go_wp2
    go_ret
    exact ⟨ret_bool (by first | exact hr.out.symm | (rw [hr.out]; exact decide_eq_true (by omega)) | (rw [hr.out]; exact decide_eq_false (by omega))),HBF.out⟩
  ·have e2 : ((bl : Int) == 0) = false:=by simp; omega
   have hr : Hid (ownB rs r v = false):=by show _ = _; rw [hres.out]; simp [g1,g2]
   clear hres g1 g2
   go_enter Tryz.func191,Tryz.ntmps191
   go_upto_region 1 with fail
   rw [← hW.out]
   clear hW
   go_upto_region 13 with fail
   have HBW : Hid (Below w0.heap.size w0 w0.drew):=below_drewN (Below.refl _ w0) 1
   have HSW : Hid (∀ W,Below w0.heap.size w0 W → W.cell? ⟨w.heap.size + 2,0,none⟩ = some (.int .i64 x) ∧ W.cell? ⟨w.heap.size + 2,1,none⟩ = some (.slice ab bl cb) ∧ W.cell? ⟨w.heap.size + 2,2,none⟩ = some (.slice ai il ci) ∧ W.cell? ⟨w.heap.size,0,none⟩ = some (.slice a rs.length cap) ∧ W.cell? ⟨w.heap.size + 1,7,none⟩ = some (.slice (some ⟨b7,o7,none⟩) r.kids.length c7) ∧ W.cell? ⟨b7,o7,none⟩ = some (.int .i64 kk)):=fun W hW => ⟨cell_keep hW z0,cell_keep hW z1,cell_keep hW z2,(HD.out.below hW 0 _ rfl).1,cell_keep hW y7,cell_keep hW hc7⟩
   clear z0 z1 z2 y7 hc7
   refine wp_region_held_drew (S:=(fun W => W.cell? ⟨w.heap.size + 2,0,none⟩ = some (.int .i64 x) ∧ W.cell? ⟨w.heap.size + 2,1,none⟩ = some (.slice ab bl cb) ∧ W.cell? ⟨w.heap.size + 2,2,none⟩ = some (.slice ai il ci) ∧ W.cell? ⟨w.heap.size,0,none⟩ = some (.slice a rs.length cap) ∧ W.cell? ⟨w.heap.size + 1,7,none⟩ = some (.slice (some ⟨b7,o7,none⟩) r.kids.length c7) ∧ W.cell? ⟨b7,o7,none⟩ = some (.int .i64 kk))) (by kernel_rfl) ?_ (fun hHeld => ?_)
   ·(try dsimp only); exact HSW.out _ HBW.out
   refine tq 0 (h:=?_)
   refine tq 1 (h:=?_)
   refine tq 2 (h:=?_)
   refine tq 3 (h:=?_)
   refine tq 4 (h:=?_)
   refine tq 5 (h:=?_)
   refine tq 6 (h:=?_)
   refine tq 7 (h:=?_)
   refine tq 8 (h:=?_)
   refine tq 9 (h:=?_)
   refine tq 10 (v:=undef) (hy:=Or.inr ⟨by rfl,rfl⟩) (h:=?_)
   refine tq 11 (v:=undef) (hy:=Or.inr ⟨by rfl,rfl⟩) (h:=?_)
   refine tq 12 (v:=undef) (hy:=Or.inr ⟨by rfl,rfl⟩) (h:=?_)
   refine tq 13 (v:=undef) (hy:=Or.inr ⟨by rfl,rfl⟩) (h:=?_)
   refine tq 14 (v:=undef) (hy:=Or.inr ⟨by rfl,rfl⟩) (h:=?_)
   refine tq 15 (v:=undef) (hy:=Or.inr ⟨by rfl,rfl⟩) (h:=?_)
   refine tq 16 (v:=undef) (hy:=Or.inr ⟨by rfl,rfl⟩) (h:=?_)
   refine tq 17 (v:=undef) (hy:=Or.inr ⟨by rfl,rfl⟩) (h:=?_)
   refine tq 18 (v:=undef) (hy:=Or.inr ⟨by rfl,rfl⟩) (h:=?_)
   refine tq 19 (v:=undef) (hy:=Or.inr ⟨by rfl,rfl⟩) (h:=?_)
   refine tq 20 (v:=undef) (hy:=Or.inr ⟨by rfl,rfl⟩) (h:=?_)
   refine tq 21 (h:=?_)
   refine tq 22 (h:=?_)
   refine wpAnyH_done (by kernel_rfl) ?_ _
   have HBF:=kq (HB.out.trans (HBW.out.mono HB.out.size))
   go_wp2
   go_ret
   exact ⟨ret_bool (by first | exact hr.out.symm | (rw [hr.out]; exact decide_eq_true (by omega)) | (rw [hr.out]; exact decide_eq_false (by omega))),HBF.out⟩
 ·have e1 : (x == 0) = false:=by simpa using g1
  have hr : Hid (ownB rs r v = false):=by show _ = _; rw [hres.out]; simp [g1]
  clear hres g1
  go_enter Tryz.func191,Tryz.ntmps191
  go_upto_region 1 with fail
  rw [← hW.out]
  clear hW
  go_upto_region 13 with fail
  have HBW : Hid (Below w0.heap.size w0 w0.drew):=below_drewN (Below.refl _ w0) 1
  have HSW : Hid (∀ W,Below w0.heap.size w0 W → W.cell? ⟨w.heap.size + 2,0,none⟩ = some (.int .i64 x) ∧ W.cell? ⟨w.heap.size + 2,1,none⟩ = some (.slice ab bl cb) ∧ W.cell? ⟨w.heap.size + 2,2,none⟩ = some (.slice ai il ci) ∧ W.cell? ⟨w.heap.size,0,none⟩ = some (.slice a rs.length cap) ∧ W.cell? ⟨w.heap.size + 1,7,none⟩ = some (.slice (some ⟨b7,o7,none⟩) r.kids.length c7) ∧ W.cell? ⟨b7,o7,none⟩ = some (.int .i64 kk)):=fun W hW => ⟨cell_keep hW z0,cell_keep hW z1,cell_keep hW z2,(HD.out.below hW 0 _ rfl).1,cell_keep hW y7,cell_keep hW hc7⟩
  clear z0 z1 z2 y7 hc7
  refine wp_region_held_drew (S:=(fun W => W.cell? ⟨w.heap.size + 2,0,none⟩ = some (.int .i64 x) ∧ W.cell? ⟨w.heap.size + 2,1,none⟩ = some (.slice ab bl cb) ∧ W.cell? ⟨w.heap.size + 2,2,none⟩ = some (.slice ai il ci) ∧ W.cell? ⟨w.heap.size,0,none⟩ = some (.slice a rs.length cap) ∧ W.cell? ⟨w.heap.size + 1,7,none⟩ = some (.slice (some ⟨b7,o7,none⟩) r.kids.length c7) ∧ W.cell? ⟨b7,o7,none⟩ = some (.int .i64 kk))) (by kernel_rfl) ?_ (fun hHeld => ?_)
  ·(try dsimp only); exact HSW.out _ HBW.out
  refine tq 0 (h:=?_)
  refine tq 1 (h:=?_)
  refine tq 2 (h:=?_)
  refine tq 3 (h:=?_)
  refine tq 4 (v:=undef) (hy:=Or.inr ⟨by rfl,rfl⟩) (h:=?_)
  refine tq 5 (v:=undef) (hy:=Or.inr ⟨by rfl,rfl⟩) (h:=?_)
  refine tq 6 (v:=undef) (hy:=Or.inr ⟨by rfl,rfl⟩) (h:=?_)
  refine tq 7 (v:=undef) (hy:=Or.inr ⟨by rfl,rfl⟩) (h:=?_)
  refine tq 8 (h:=?_)
  refine tq 9 (h:=?_)
  refine tq 10 (v:=undef) (hy:=Or.inr ⟨by rfl,rfl⟩) (h:=?_)
  refine tq 11 (v:=undef) (hy:=Or.inr ⟨by rfl,rfl⟩) (h:=?_)
  refine tq 12 (v:=undef) (hy:=Or.inr ⟨by rfl,rfl⟩) (h:=?_)
  refine tq 13 (v:=undef) (hy:=Or.inr ⟨by rfl,rfl⟩) (h:=?_)
  refine tq 14 (v:=undef) (hy:=Or.inr ⟨by rfl,rfl⟩) (h:=?_)
  refine tq 15 (v:=undef) (hy:=Or.inr ⟨by rfl,rfl⟩) (h:=?_)
  refine tq 16 (v:=undef) (hy:=Or.inr ⟨by rfl,rfl⟩) (h:=?_)
  refine tq 17 (v:=undef) (hy:=Or.inr ⟨by rfl,rfl⟩) (h:=?_)
  refine tq 18 (v:=undef) (hy:=Or.inr ⟨by rfl,rfl⟩) (h:=?_)
  refine tq 19 (v:=undef) (hy:=Or.inr ⟨by rfl,rfl⟩) (h:=?_)
  refine tq 20 (v:=undef) (hy:=Or.inr ⟨by rfl,rfl⟩) (h:=?_)
  refine tq 21 (h:=?_)
  refine tq 22 (h:=?_)
  refine wpAnyH_done (by kernel_rfl) ?_ _
  have HBF:=kq (HB.out.trans (HBW.out.mono HB.out.size))
  go_wp2
  go_ret
  exact ⟨ret_bool (by first | exact hr.out.symm | (rw [hr.out]; exact decide_eq_true (by omega)) | (rw [hr.out]; exact decide_eq_false (by omega))),HBF.out⟩
theorem own_6 (a : Option Addr) (rs : List RuleV) (cap : Nat) (r : RuleV) (cs vs : List Value) (v : ValueV) (n : Nat) (w : World) (_hl : rs.length ≤ 1048576) (hrd : RdR a rs w) (hki : kindI rs r = true) (h : IsRule r cs w) (hv : IsVal (n + 1) v vs w) (hk : r.kind = 6) :
  Calls Tryz.prog 191 #[.agg #[.slice a rs.length cap],.agg cs.toArray,.agg vs.toArray] w fun e w' => e = .returned (.bool (ownB rs r v)) ∧ Below w.heap.size w w':=by
 obtain ⟨a4,c4,a5,c5,a6,c6,a7,c7,rfl,h4,h5,h6,h7⟩:=h
 obtain ⟨ab,cb,ai,ci,rfl,-,-⟩:=hv
 have hres : Hid (ownB rs r v = (decide (v.number = 0) && (decide (v.bytes.length = 0) && decide (v.items.length = r.kids.length)))):=by show _ = _; unfold ownB; simp [hk]
 obtain ⟨x,hx⟩ : ∃ x,x = v.number:=⟨_,rfl⟩
 obtain ⟨bl,hbl⟩ : ∃ bl,bl = v.bytes.length:=⟨_,rfl⟩
 obtain ⟨il,hil⟩ : ∃ il,il = v.items.length:=⟨_,rfl⟩
 rw [← hx,← hbl,← hil]
 rw [← hx,← hbl,← hil] at hres
 have HX:=kq hx
 clear hx hbl hil
 obtain ⟨w0,hw0⟩ : ∃ w0,w0 = ((w.alloc (.cells #[.slice a rs.length cap] 26)).alloc (.cells #[.string r.name,.int .i64 r.kind,.int .i64 r.size,.bool r.little,.slice a4 r.bytes.length c4,.slice a5 r.names.length c5,.slice a6 r.tags.length c6,.slice a7 r.kids.length c7] 63)).alloc (.cells #[.int .i64 x,.slice ab bl cb,.slice ai il ci] 48):=⟨_,rfl⟩
 have hB : Below w.heap.size w w0:=by subst hw0; exact (((Below.refl _ _).alloc (Nat.le_refl _) _).alloc (by simp) _).alloc (by simp; omega) _
 have HD : Hid (CellsAt w.heap.size [.slice a rs.length cap] w0):=by subst hw0; exact ((CellsAt.new w _ _).below ((Below.refl _ _).alloc (Nat.le_refl _) _)).below ((Below.refl _ _).alloc (Nat.le_refl _) _)
 have HC : Hid (CellsAt (w.heap.size + 1) [.string r.name,.int .i64 r.kind,.int .i64 r.size,.bool r.little,.slice a4 r.bytes.length c4,.slice a5 r.names.length c5,.slice a6 r.tags.length c6,.slice a7 r.kids.length c7] w0):=by subst hw0; have h1:=CellsAt.new (w.alloc (.cells #[.slice a rs.length cap] 26)) [.string r.name,.int .i64 r.kind,.int .i64 r.size,.bool r.little,.slice a4 r.bytes.length c4,.slice a5 r.names.length c5,.slice a6 r.tags.length c6,.slice a7 r.kids.length c7] 63; rw [World.size_alloc] at h1; exact h1.below ((Below.refl _ _).alloc (Nat.le_refl _) _)
 have HVC : Hid (CellsAt (w.heap.size + 2) [.int .i64 x,.slice ab bl cb,.slice ai il ci] w0):=by subst hw0; have h1:=CellsAt.new ((w.alloc (.cells #[.slice a rs.length cap] 26)).alloc (.cells #[.string r.name,.int .i64 r.kind,.int .i64 r.size,.bool r.little,.slice a4 r.bytes.length c4,.slice a5 r.names.length c5,.slice a6 r.tags.length c6,.slice a7 r.kids.length c7] 63)) [.int .i64 x,.slice ab bl cb,.slice ai il ci] 48; rw [World.size_alloc,World.size_alloc] at h1; exact h1
 have HR7:=kq (h7.below hB)
 have HRD:=kq (hrd.below hB)
 have HIS : Hid (IsRule r [.string r.name,.int .i64 r.kind,.int .i64 r.size,.bool r.little,.slice a4 r.bytes.length c4,.slice a5 r.names.length c5,.slice a6 r.tags.length c6,.slice a7 r.kids.length c7] w0):=⟨a4,c4,a5,c5,a6,c6,a7,c7,rfl,h4.below hB,h5.below hB,h6.below hB,h7.below hB⟩
 have HB:=kq hB
 have HKI:=kq hki
 have hW:=kq hw0
 have HKK:=kq hk
 have z0:=(HVC.out 0 _ rfl).1
 have z1:=(HVC.out 1 _ rfl).1
 have z2:=(HVC.out 2 _ rfl).1
 have y1:=(HC.out 1 _ rfl).1
 rw [hk] at y1
 clear hB hki hw0 h4 h5 h6 h7 hrd
 have y7:=(HC.out 7 _ rfl).1
 obtain ⟨kl,hkl⟩ : ∃ kl,kl = r.kids.length:=⟨_,rfl⟩
 rw [← hkl] at y7 hres
 clear hkl
 clear hk
 by_cases g1 : x = 0
 ·have e1 : (x == 0) = true:=by simpa using g1
  by_cases g2 : bl = 0
  ·have e2 : ((bl : Int) == 0) = true:=by simp; omega
   by_cases g3 : il = kl
   ·have e3 : ((il : Int) == (kl : Int)) = true:=by simp; omega
    have hr : Hid (ownB rs r v = true):=by show _ = _; rw [hres.out]; simp [g1,g2,g3]
    clear hres g1 g2 g3
    go_enter Tryz.func191,Tryz.ntmps191
    go_upto_region 1 with fail
    rw [← hW.out]
    clear hW
    have HBF:=HB
    go_wp2
    go_ret
    exact ⟨ret_bool (by first | exact hr.out.symm | (rw [hr.out]; exact decide_eq_true (by omega)) | (rw [hr.out]; exact decide_eq_false (by omega))),HBF.out⟩
   ·have e3 : ((il : Int) == (kl : Int)) = false:=by simp; omega
    have hr : Hid (ownB rs r v = false):=by show _ = _; rw [hres.out]; simp [g1,g2,g3]
    clear hres g1 g2 g3
    go_enter Tryz.func191,Tryz.ntmps191
    go_upto_region 1 with fail
    rw [← hW.out]
    clear hW
    have HBF:=HB
    go_wp2
    go_ret
    exact ⟨ret_bool (by first | exact hr.out.symm | (rw [hr.out]; exact decide_eq_true (by omega)) | (rw [hr.out]; exact decide_eq_false (by omega))),HBF.out⟩
  ·have e2 : ((bl : Int) == 0) = false:=by simp; omega
   have hr : Hid (ownB rs r v = false):=by show _ = _; rw [hres.out]; simp [g1,g2]
   clear hres g1 g2
   go_enter Tryz.func191,Tryz.ntmps191
   go_upto_region 1 with fail
   rw [← hW.out]
   clear hW
   have HBF:=HB
   go_wp2
   go_ret
   exact ⟨ret_bool (by first | exact hr.out.symm | (rw [hr.out]; exact decide_eq_true (by omega)) | (rw [hr.out]; exact decide_eq_false (by omega))),HBF.out⟩
 ·have e1 : (x == 0) = false:=by simpa using g1
  have hr : Hid (ownB rs r v = false):=by show _ = _; rw [hres.out]; simp [g1]
  clear hres g1
  go_enter Tryz.func191,Tryz.ntmps191
  go_upto_region 1 with fail
  rw [← hW.out]
  clear hW
  have HBF:=HB
  go_wp2
  go_ret
  exact ⟨ret_bool (by first | exact hr.out.symm | (rw [hr.out]; exact decide_eq_true (by omega)) | (rw [hr.out]; exact decide_eq_false (by omega))),HBF.out⟩
theorem own_7 (a : Option Addr) (rs : List RuleV) (cap : Nat) (r : RuleV) (cs vs : List Value) (v : ValueV) (n : Nat) (w : World) (_hl : rs.length ≤ 1048576) (hrd : RdR a rs w) (hki : kindI rs r = true) (h : IsRule r cs w) (hv : IsVal (n + 1) v vs w) (hk : r.kind = 7) :
  Calls Tryz.prog 191 #[.agg #[.slice a rs.length cap],.agg cs.toArray,.agg vs.toArray] w fun e w' => e = .returned (.bool (ownB rs r v)) ∧ Below w.heap.size w w':=by
 obtain ⟨a4,c4,a5,c5,a6,c6,a7,c7,rfl,h4,h5,h6,h7⟩:=h
 obtain ⟨ab,cb,ai,ci,rfl,-,-⟩:=hv
 have hres : Hid (ownB rs r v = (decide (v.bytes.length = 0) && (decide (v.items.length = 1) && decide (0 ≤ itemR r v.number 0)))):=by show _ = _; unfold ownB; simp [hk]
 obtain ⟨x,hx⟩ : ∃ x,x = v.number:=⟨_,rfl⟩
 obtain ⟨bl,hbl⟩ : ∃ bl,bl = v.bytes.length:=⟨_,rfl⟩
 obtain ⟨il,hil⟩ : ∃ il,il = v.items.length:=⟨_,rfl⟩
 rw [← hx,← hbl,← hil]
 rw [← hbl,← hil] at hres
 have HX:=kq hx
 clear hx hbl hil
 obtain ⟨w0,hw0⟩ : ∃ w0,w0 = ((w.alloc (.cells #[.slice a rs.length cap] 26)).alloc (.cells #[.string r.name,.int .i64 r.kind,.int .i64 r.size,.bool r.little,.slice a4 r.bytes.length c4,.slice a5 r.names.length c5,.slice a6 r.tags.length c6,.slice a7 r.kids.length c7] 63)).alloc (.cells #[.int .i64 x,.slice ab bl cb,.slice ai il ci] 48):=⟨_,rfl⟩
 have hB : Below w.heap.size w w0:=by subst hw0; exact (((Below.refl _ _).alloc (Nat.le_refl _) _).alloc (by simp) _).alloc (by simp; omega) _
 have HD : Hid (CellsAt w.heap.size [.slice a rs.length cap] w0):=by subst hw0; exact ((CellsAt.new w _ _).below ((Below.refl _ _).alloc (Nat.le_refl _) _)).below ((Below.refl _ _).alloc (Nat.le_refl _) _)
 have HC : Hid (CellsAt (w.heap.size + 1) [.string r.name,.int .i64 r.kind,.int .i64 r.size,.bool r.little,.slice a4 r.bytes.length c4,.slice a5 r.names.length c5,.slice a6 r.tags.length c6,.slice a7 r.kids.length c7] w0):=by subst hw0; have h1:=CellsAt.new (w.alloc (.cells #[.slice a rs.length cap] 26)) [.string r.name,.int .i64 r.kind,.int .i64 r.size,.bool r.little,.slice a4 r.bytes.length c4,.slice a5 r.names.length c5,.slice a6 r.tags.length c6,.slice a7 r.kids.length c7] 63; rw [World.size_alloc] at h1; exact h1.below ((Below.refl _ _).alloc (Nat.le_refl _) _)
 have HVC : Hid (CellsAt (w.heap.size + 2) [.int .i64 x,.slice ab bl cb,.slice ai il ci] w0):=by subst hw0; have h1:=CellsAt.new ((w.alloc (.cells #[.slice a rs.length cap] 26)).alloc (.cells #[.string r.name,.int .i64 r.kind,.int .i64 r.size,.bool r.little,.slice a4 r.bytes.length c4,.slice a5 r.names.length c5,.slice a6 r.tags.length c6,.slice a7 r.kids.length c7] 63)) [.int .i64 x,.slice ab bl cb,.slice ai il ci] 48; rw [World.size_alloc,World.size_alloc] at h1; exact h1
 have HR7:=kq (h7.below hB)
 have HRD:=kq (hrd.below hB)
 have HIS : Hid (IsRule r [.string r.name,.int .i64 r.kind,.int .i64 r.size,.bool r.little,.slice a4 r.bytes.length c4,.slice a5 r.names.length c5,.slice a6 r.tags.length c6,.slice a7 r.kids.length c7] w0):=⟨a4,c4,a5,c5,a6,c6,a7,c7,rfl,h4.below hB,h5.below hB,h6.below hB,h7.below hB⟩
 have HB:=kq hB
 have HKI:=kq hki
 have hW:=kq hw0
 have HKK:=kq hk
 have z0:=(HVC.out 0 _ rfl).1
 have z1:=(HVC.out 1 _ rfl).1
 have z2:=(HVC.out 2 _ rfl).1
 have y1:=(HC.out 1 _ rfl).1
 rw [hk] at y1
 clear hB hki hw0 h4 h5 h6 h7 hrd
 have HIS1 : Hid (IsRule r [.string r.name,.int .i64 7,.int .i64 r.size,.bool r.little,.slice a4 r.bytes.length c4,.slice a5 r.names.length c5,.slice a6 r.tags.length c6,.slice a7 r.kids.length c7] w0):=by have h:=HIS.out; rw [hk] at h; exact h
 obtain ⟨y,hy⟩ : ∃ y,y = itemR r v.number 0:=⟨_,rfl⟩
 rw [← hy] at hres
 have HY:=kq hy
 clear hy
 have y0:=(HC.out 0 _ rfl).1
 have y2:=(HC.out 2 _ rfl).1
 have y3:=(HC.out 3 _ rfl).1
 have y4:=(HC.out 4 _ rfl).1
 have y5:=(HC.out 5 _ rfl).1
 have y6:=(HC.out 6 _ rfl).1
 have y7:=(HC.out 7 _ rfl).1
 clear hk
 by_cases g1 : bl = 0
 ·have e1 : ((bl : Int) == 0) = true:=by simp; omega
  by_cases g2 : il = 1
  ·have e2 : ((il : Int) == 1) = true:=by simp; omega
   by_cases g3 : 0 ≤ y
   ·have e3 : (0 ≤ y):=by omega
    have hr : Hid (ownB rs r v = true):=by show _ = _; rw [hres.out]; simp [g1,g2,g3]
    clear hres g1 g2
    go_enter Tryz.func191,Tryz.ntmps191
    go_upto_region 1 with fail
    rw [← hW.out]
    clear hW
    go_wp2_with (go_at_call 138; refine (item_spec rs r _ x 0 _ (by omega) HKI.out HIS1.out).mono ?_; rintro e wx ⟨rfl,hb⟩; rw [show itemR r x 0 = y from by rw [HX.out,HY.out]]; have HBF:=kq (HB.out.trans (hb.mono HB.out.size)); clear hb)
    go_wp2
    go_ret
    exact ⟨ret_bool (by first | exact hr.out.symm | (rw [hr.out]; exact decide_eq_true (by omega)) | (rw [hr.out]; exact decide_eq_false (by omega))),HBF.out⟩
   ·have e3 : ¬ (0 ≤ y):=by omega
    have hr : Hid (ownB rs r v = false):=by show _ = _; rw [hres.out]; simp [g1,g2,g3]
    clear hres g1 g2
    go_enter Tryz.func191,Tryz.ntmps191
    go_upto_region 1 with fail
    rw [← hW.out]
    clear hW
    go_wp2_with (go_at_call 138; refine (item_spec rs r _ x 0 _ (by omega) HKI.out HIS1.out).mono ?_; rintro e wx ⟨rfl,hb⟩; rw [show itemR r x 0 = y from by rw [HX.out,HY.out]]; have HBF:=kq (HB.out.trans (hb.mono HB.out.size)); clear hb)
    go_wp2
    go_ret
    exact ⟨ret_bool (by first | exact hr.out.symm | (rw [hr.out]; exact decide_eq_true (by omega)) | (rw [hr.out]; exact decide_eq_false (by omega))),HBF.out⟩
  ·have e2 : ((il : Int) == 1) = false:=by simp; omega
   have hr : Hid (ownB rs r v = false):=by show _ = _; rw [hres.out]; simp [g1,g2]
   clear hres g1 g2
   go_enter Tryz.func191,Tryz.ntmps191
   go_upto_region 1 with fail
   rw [← hW.out]
   clear hW
   have HBF:=HB
   go_wp2
   go_ret
   exact ⟨ret_bool (by first | exact hr.out.symm | (rw [hr.out]; exact decide_eq_true (by omega)) | (rw [hr.out]; exact decide_eq_false (by omega))),HBF.out⟩
 ·have e1 : ((bl : Int) == 0) = false:=by simp; omega
  have hr : Hid (ownB rs r v = false):=by show _ = _; rw [hres.out]; simp [g1]
  clear hres g1
  go_enter Tryz.func191,Tryz.ntmps191
  go_upto_region 1 with fail
  rw [← hW.out]
  clear hW
  have HBF:=HB
  go_wp2
  go_ret
  exact ⟨ret_bool (by first | exact hr.out.symm | (rw [hr.out]; exact decide_eq_true (by omega)) | (rw [hr.out]; exact decide_eq_false (by omega))),HBF.out⟩
theorem own_8 (a : Option Addr) (rs : List RuleV) (cap : Nat) (r : RuleV) (cs vs : List Value) (v : ValueV) (n : Nat) (w : World) (_hl : rs.length ≤ 1048576) (hrd : RdR a rs w) (hki : kindI rs r = true) (h : IsRule r cs w) (hv : IsVal (n + 1) v vs w) (hk : r.kind = 8) :
  Calls Tryz.prog 191 #[.agg #[.slice a rs.length cap],.agg cs.toArray,.agg vs.toArray] w fun e w' => e = .returned (.bool (ownB rs r v)) ∧ Below w.heap.size w w':=by
 obtain ⟨a4,c4,a5,c5,a6,c6,a7,c7,rfl,h4,h5,h6,h7⟩:=h
 obtain ⟨ab,cb,ai,ci,rfl,-,-⟩:=hv
 have hres : Hid (ownB rs r v = (decide (v.number = 0) && (decide (v.bytes.length = 0) && decide (v.items.length ≤ 1)))):=by show _ = _; unfold ownB; simp [hk]
 obtain ⟨x,hx⟩ : ∃ x,x = v.number:=⟨_,rfl⟩
 obtain ⟨bl,hbl⟩ : ∃ bl,bl = v.bytes.length:=⟨_,rfl⟩
 obtain ⟨il,hil⟩ : ∃ il,il = v.items.length:=⟨_,rfl⟩
 rw [← hx,← hbl,← hil]
 rw [← hx,← hbl,← hil] at hres
 have HX:=kq hx
 clear hx hbl hil
 obtain ⟨w0,hw0⟩ : ∃ w0,w0 = ((w.alloc (.cells #[.slice a rs.length cap] 26)).alloc (.cells #[.string r.name,.int .i64 r.kind,.int .i64 r.size,.bool r.little,.slice a4 r.bytes.length c4,.slice a5 r.names.length c5,.slice a6 r.tags.length c6,.slice a7 r.kids.length c7] 63)).alloc (.cells #[.int .i64 x,.slice ab bl cb,.slice ai il ci] 48):=⟨_,rfl⟩
 have hB : Below w.heap.size w w0:=by subst hw0; exact (((Below.refl _ _).alloc (Nat.le_refl _) _).alloc (by simp) _).alloc (by simp; omega) _
 have HD : Hid (CellsAt w.heap.size [.slice a rs.length cap] w0):=by subst hw0; exact ((CellsAt.new w _ _).below ((Below.refl _ _).alloc (Nat.le_refl _) _)).below ((Below.refl _ _).alloc (Nat.le_refl _) _)
 have HC : Hid (CellsAt (w.heap.size + 1) [.string r.name,.int .i64 r.kind,.int .i64 r.size,.bool r.little,.slice a4 r.bytes.length c4,.slice a5 r.names.length c5,.slice a6 r.tags.length c6,.slice a7 r.kids.length c7] w0):=by subst hw0; have h1:=CellsAt.new (w.alloc (.cells #[.slice a rs.length cap] 26)) [.string r.name,.int .i64 r.kind,.int .i64 r.size,.bool r.little,.slice a4 r.bytes.length c4,.slice a5 r.names.length c5,.slice a6 r.tags.length c6,.slice a7 r.kids.length c7] 63; rw [World.size_alloc] at h1; exact h1.below ((Below.refl _ _).alloc (Nat.le_refl _) _)
 have HVC : Hid (CellsAt (w.heap.size + 2) [.int .i64 x,.slice ab bl cb,.slice ai il ci] w0):=by subst hw0; have h1:=CellsAt.new ((w.alloc (.cells #[.slice a rs.length cap] 26)).alloc (.cells #[.string r.name,.int .i64 r.kind,.int .i64 r.size,.bool r.little,.slice a4 r.bytes.length c4,.slice a5 r.names.length c5,.slice a6 r.tags.length c6,.slice a7 r.kids.length c7] 63)) [.int .i64 x,.slice ab bl cb,.slice ai il ci] 48; rw [World.size_alloc,World.size_alloc] at h1; exact h1
 have HR7:=kq (h7.below hB)
 have HRD:=kq (hrd.below hB)
 have HIS : Hid (IsRule r [.string r.name,.int .i64 r.kind,.int .i64 r.size,.bool r.little,.slice a4 r.bytes.length c4,.slice a5 r.names.length c5,.slice a6 r.tags.length c6,.slice a7 r.kids.length c7] w0):=⟨a4,c4,a5,c5,a6,c6,a7,c7,rfl,h4.below hB,h5.below hB,h6.below hB,h7.below hB⟩
 have HB:=kq hB
 have HKI:=kq hki
 have hW:=kq hw0
 have HKK:=kq hk
 have z0:=(HVC.out 0 _ rfl).1
 have z1:=(HVC.out 1 _ rfl).1
 have z2:=(HVC.out 2 _ rfl).1
 have y1:=(HC.out 1 _ rfl).1
 rw [hk] at y1
 clear hB hki hw0 h4 h5 h6 h7 hrd
 clear hk
 by_cases g1 : x = 0
 ·have e1 : (x == 0) = true:=by simpa using g1
  by_cases g2 : bl = 0
  ·have e2 : ((bl : Int) == 0) = true:=by simp; omega
   by_cases g3 : il ≤ 1
   ·have e3 : ((il : Int) ≤ 1):=by omega
    have hr : Hid (ownB rs r v = true):=by show _ = _; rw [hres.out]; simp [g1,g2,g3]
    clear hres g1 g2
    go_enter Tryz.func191,Tryz.ntmps191
    go_upto_region 1 with fail
    rw [← hW.out]
    clear hW
    have HBF:=HB
    go_wp2
    go_ret
    exact ⟨ret_bool (by first | exact hr.out.symm | (rw [hr.out]; exact decide_eq_true (by omega)) | (rw [hr.out]; exact decide_eq_false (by omega))),HBF.out⟩
   ·have e3 : ¬ ((il : Int) ≤ 1):=by omega
    have hr : Hid (ownB rs r v = false):=by show _ = _; rw [hres.out]; simp [g1,g2,g3]
    clear hres g1 g2
    go_enter Tryz.func191,Tryz.ntmps191
    go_upto_region 1 with fail
    rw [← hW.out]
    clear hW
    have HBF:=HB
    go_wp2
    go_ret
    exact ⟨ret_bool (by first | exact hr.out.symm | (rw [hr.out]; exact decide_eq_true (by omega)) | (rw [hr.out]; exact decide_eq_false (by omega))),HBF.out⟩
  ·have e2 : ((bl : Int) == 0) = false:=by simp; omega
   have hr : Hid (ownB rs r v = false):=by show _ = _; rw [hres.out]; simp [g1,g2]
   clear hres g1 g2
   go_enter Tryz.func191,Tryz.ntmps191
   go_upto_region 1 with fail
   rw [← hW.out]
   clear hW
   have HBF:=HB
   go_wp2
   go_ret
   exact ⟨ret_bool (by first | exact hr.out.symm | (rw [hr.out]; exact decide_eq_true (by omega)) | (rw [hr.out]; exact decide_eq_false (by omega))),HBF.out⟩
 ·have e1 : (x == 0) = false:=by simpa using g1
  have hr : Hid (ownB rs r v = false):=by show _ = _; rw [hres.out]; simp [g1]
  clear hres g1
  go_enter Tryz.func191,Tryz.ntmps191
  go_upto_region 1 with fail
  rw [← hW.out]
  clear hW
  have HBF:=HB
  go_wp2
  go_ret
  exact ⟨ret_bool (by first | exact hr.out.symm | (rw [hr.out]; exact decide_eq_true (by omega)) | (rw [hr.out]; exact decide_eq_false (by omega))),HBF.out⟩
theorem own_9 (a : Option Addr) (rs : List RuleV) (cap : Nat) (r : RuleV) (cs vs : List Value) (v : ValueV) (n : Nat) (w : World) (_hl : rs.length ≤ 1048576) (hrd : RdR a rs w) (hki : kindI rs r = true) (h : IsRule r cs w) (hv : IsVal (n + 1) v vs w) (hk : r.kind = 9) :
  Calls Tryz.prog 191 #[.agg #[.slice a rs.length cap],.agg cs.toArray,.agg vs.toArray] w fun e w' => e = .returned (.bool (ownB rs r v)) ∧ Below w.heap.size w w':=by
 obtain ⟨a4,c4,a5,c5,a6,c6,a7,c7,rfl,h4,h5,h6,h7⟩:=h
 obtain ⟨ab,cb,ai,ci,rfl,-,-⟩:=hv
 have hres : Hid (ownB rs r v = (decide (v.number = 0) && (decide (v.bytes.length = 0) && decide (v.items.length = 1)))):=by show _ = _; unfold ownB; simp [hk]
 obtain ⟨x,hx⟩ : ∃ x,x = v.number:=⟨_,rfl⟩
 obtain ⟨bl,hbl⟩ : ∃ bl,bl = v.bytes.length:=⟨_,rfl⟩
 obtain ⟨il,hil⟩ : ∃ il,il = v.items.length:=⟨_,rfl⟩
 rw [← hx,← hbl,← hil]
 rw [← hx,← hbl,← hil] at hres
 have HX:=kq hx
 clear hx hbl hil
 obtain ⟨w0,hw0⟩ : ∃ w0,w0 = ((w.alloc (.cells #[.slice a rs.length cap] 26)).alloc (.cells #[.string r.name,.int .i64 r.kind,.int .i64 r.size,.bool r.little,.slice a4 r.bytes.length c4,.slice a5 r.names.length c5,.slice a6 r.tags.length c6,.slice a7 r.kids.length c7] 63)).alloc (.cells #[.int .i64 x,.slice ab bl cb,.slice ai il ci] 48):=⟨_,rfl⟩
 have hB : Below w.heap.size w w0:=by subst hw0; exact (((Below.refl _ _).alloc (Nat.le_refl _) _).alloc (by simp) _).alloc (by simp; omega) _
 have HD : Hid (CellsAt w.heap.size [.slice a rs.length cap] w0):=by subst hw0; exact ((CellsAt.new w _ _).below ((Below.refl _ _).alloc (Nat.le_refl _) _)).below ((Below.refl _ _).alloc (Nat.le_refl _) _)
 have HC : Hid (CellsAt (w.heap.size + 1) [.string r.name,.int .i64 r.kind,.int .i64 r.size,.bool r.little,.slice a4 r.bytes.length c4,.slice a5 r.names.length c5,.slice a6 r.tags.length c6,.slice a7 r.kids.length c7] w0):=by subst hw0; have h1:=CellsAt.new (w.alloc (.cells #[.slice a rs.length cap] 26)) [.string r.name,.int .i64 r.kind,.int .i64 r.size,.bool r.little,.slice a4 r.bytes.length c4,.slice a5 r.names.length c5,.slice a6 r.tags.length c6,.slice a7 r.kids.length c7] 63; rw [World.size_alloc] at h1; exact h1.below ((Below.refl _ _).alloc (Nat.le_refl _) _)
 have HVC : Hid (CellsAt (w.heap.size + 2) [.int .i64 x,.slice ab bl cb,.slice ai il ci] w0):=by subst hw0; have h1:=CellsAt.new ((w.alloc (.cells #[.slice a rs.length cap] 26)).alloc (.cells #[.string r.name,.int .i64 r.kind,.int .i64 r.size,.bool r.little,.slice a4 r.bytes.length c4,.slice a5 r.names.length c5,.slice a6 r.tags.length c6,.slice a7 r.kids.length c7] 63)) [.int .i64 x,.slice ab bl cb,.slice ai il ci] 48; rw [World.size_alloc,World.size_alloc] at h1; exact h1
 have HR7:=kq (h7.below hB)
 have HRD:=kq (hrd.below hB)
 have HIS : Hid (IsRule r [.string r.name,.int .i64 r.kind,.int .i64 r.size,.bool r.little,.slice a4 r.bytes.length c4,.slice a5 r.names.length c5,.slice a6 r.tags.length c6,.slice a7 r.kids.length c7] w0):=⟨a4,c4,a5,c5,a6,c6,a7,c7,rfl,h4.below hB,h5.below hB,h6.below hB,h7.below hB⟩
 have HB:=kq hB
 have HKI:=kq hki
 have hW:=kq hw0
 have HKK:=kq hk
 have z0:=(HVC.out 0 _ rfl).1
 have z1:=(HVC.out 1 _ rfl).1
 have z2:=(HVC.out 2 _ rfl).1
 have y1:=(HC.out 1 _ rfl).1
 rw [hk] at y1
 clear hB hki hw0 h4 h5 h6 h7 hrd
 clear hk
 by_cases g1 : x = 0
 ·have e1 : (x == 0) = true:=by simpa using g1
  by_cases g2 : bl = 0
  ·have e2 : ((bl : Int) == 0) = true:=by simp; omega
   by_cases g3 : il = 1
   ·have e3 : ((il : Int) == 1) = true:=by simp; omega
    have hr : Hid (ownB rs r v = true):=by show _ = _; rw [hres.out]; simp [g1,g2,g3]
    clear hres g1 g2 g3
    go_enter Tryz.func191,Tryz.ntmps191
    go_upto_region 1 with fail
    rw [← hW.out]
    clear hW
    have HBF:=HB
    go_wp2
    go_ret
    exact ⟨ret_bool (by first | exact hr.out.symm | (rw [hr.out]; exact decide_eq_true (by omega)) | (rw [hr.out]; exact decide_eq_false (by omega))),HBF.out⟩
   ·have e3 : ((il : Int) == 1) = false:=by simp; omega
    have hr : Hid (ownB rs r v = false):=by show _ = _; rw [hres.out]; simp [g1,g2,g3]
    clear hres g1 g2 g3
    go_enter Tryz.func191,Tryz.ntmps191
    go_upto_region 1 with fail
    rw [← hW.out]
    clear hW
    have HBF:=HB
    go_wp2
    go_ret
    exact ⟨ret_bool (by first | exact hr.out.symm | (rw [hr.out]; exact decide_eq_true (by omega)) | (rw [hr.out]; exact decide_eq_false (by omega))),HBF.out⟩
  ·have e2 : ((bl : Int) == 0) = false:=by simp; omega
   have hr : Hid (ownB rs r v = false):=by show _ = _; rw [hres.out]; simp [g1,g2]
   clear hres g1 g2
   go_enter Tryz.func191,Tryz.ntmps191
   go_upto_region 1 with fail
   rw [← hW.out]
   clear hW
   have HBF:=HB
   go_wp2
   go_ret
   exact ⟨ret_bool (by first | exact hr.out.symm | (rw [hr.out]; exact decide_eq_true (by omega)) | (rw [hr.out]; exact decide_eq_false (by omega))),HBF.out⟩
 ·have e1 : (x == 0) = false:=by simpa using g1
  have hr : Hid (ownB rs r v = false):=by show _ = _; rw [hres.out]; simp [g1]
  clear hres g1
  go_enter Tryz.func191,Tryz.ntmps191
  go_upto_region 1 with fail
  rw [← hW.out]
  clear hW
  have HBF:=HB
  go_wp2
  go_ret
  exact ⟨ret_bool (by first | exact hr.out.symm | (rw [hr.out]; exact decide_eq_true (by omega)) | (rw [hr.out]; exact decide_eq_false (by omega))),HBF.out⟩
theorem own_10 (a : Option Addr) (rs : List RuleV) (cap : Nat) (r : RuleV) (cs vs : List Value) (v : ValueV) (n : Nat) (w : World) (_hl : rs.length ≤ 1048576) (hrd : RdR a rs w) (hki : kindI rs r = true) (h : IsRule r cs w) (hv : IsVal (n + 1) v vs w) (hk : r.kind = 10) :
  Calls Tryz.prog 191 #[.agg #[.slice a rs.length cap],.agg cs.toArray,.agg vs.toArray] w fun e w' => e = .returned (.bool (ownB rs r v)) ∧ Below w.heap.size w w':=by
 obtain ⟨a4,c4,a5,c5,a6,c6,a7,c7,rfl,h4,h5,h6,h7⟩:=h
 obtain ⟨ab,cb,ai,ci,rfl,-,-⟩:=hv
 have hres : Hid (ownB rs r v = (decide (v.number = 0) && (decide (v.bytes.length ≤ 400) && decide (v.items.length = 0)))):=by show _ = _; unfold ownB; simp [hk]
 obtain ⟨x,hx⟩ : ∃ x,x = v.number:=⟨_,rfl⟩
 obtain ⟨bl,hbl⟩ : ∃ bl,bl = v.bytes.length:=⟨_,rfl⟩
 obtain ⟨il,hil⟩ : ∃ il,il = v.items.length:=⟨_,rfl⟩
 rw [← hx,← hbl,← hil]
 rw [← hx,← hbl,← hil] at hres
 have HX:=kq hx
 clear hx hbl hil
 obtain ⟨w0,hw0⟩ : ∃ w0,w0 = ((w.alloc (.cells #[.slice a rs.length cap] 26)).alloc (.cells #[.string r.name,.int .i64 r.kind,.int .i64 r.size,.bool r.little,.slice a4 r.bytes.length c4,.slice a5 r.names.length c5,.slice a6 r.tags.length c6,.slice a7 r.kids.length c7] 63)).alloc (.cells #[.int .i64 x,.slice ab bl cb,.slice ai il ci] 48):=⟨_,rfl⟩
 have hB : Below w.heap.size w w0:=by subst hw0; exact (((Below.refl _ _).alloc (Nat.le_refl _) _).alloc (by simp) _).alloc (by simp; omega) _
 have HD : Hid (CellsAt w.heap.size [.slice a rs.length cap] w0):=by subst hw0; exact ((CellsAt.new w _ _).below ((Below.refl _ _).alloc (Nat.le_refl _) _)).below ((Below.refl _ _).alloc (Nat.le_refl _) _)
 have HC : Hid (CellsAt (w.heap.size + 1) [.string r.name,.int .i64 r.kind,.int .i64 r.size,.bool r.little,.slice a4 r.bytes.length c4,.slice a5 r.names.length c5,.slice a6 r.tags.length c6,.slice a7 r.kids.length c7] w0):=by subst hw0; have h1:=CellsAt.new (w.alloc (.cells #[.slice a rs.length cap] 26)) [.string r.name,.int .i64 r.kind,.int .i64 r.size,.bool r.little,.slice a4 r.bytes.length c4,.slice a5 r.names.length c5,.slice a6 r.tags.length c6,.slice a7 r.kids.length c7] 63; rw [World.size_alloc] at h1; exact h1.below ((Below.refl _ _).alloc (Nat.le_refl _) _)
 have HVC : Hid (CellsAt (w.heap.size + 2) [.int .i64 x,.slice ab bl cb,.slice ai il ci] w0):=by subst hw0; have h1:=CellsAt.new ((w.alloc (.cells #[.slice a rs.length cap] 26)).alloc (.cells #[.string r.name,.int .i64 r.kind,.int .i64 r.size,.bool r.little,.slice a4 r.bytes.length c4,.slice a5 r.names.length c5,.slice a6 r.tags.length c6,.slice a7 r.kids.length c7] 63)) [.int .i64 x,.slice ab bl cb,.slice ai il ci] 48; rw [World.size_alloc,World.size_alloc] at h1; exact h1
 have HR7:=kq (h7.below hB)
 have HRD:=kq (hrd.below hB)
 have HIS : Hid (IsRule r [.string r.name,.int .i64 r.kind,.int .i64 r.size,.bool r.little,.slice a4 r.bytes.length c4,.slice a5 r.names.length c5,.slice a6 r.tags.length c6,.slice a7 r.kids.length c7] w0):=⟨a4,c4,a5,c5,a6,c6,a7,c7,rfl,h4.below hB,h5.below hB,h6.below hB,h7.below hB⟩
 have HB:=kq hB
 have HKI:=kq hki
 have hW:=kq hw0
 have HKK:=kq hk
 have z0:=(HVC.out 0 _ rfl).1
 have z1:=(HVC.out 1 _ rfl).1
 have z2:=(HVC.out 2 _ rfl).1
 have y1:=(HC.out 1 _ rfl).1
 rw [hk] at y1
 clear hB hki hw0 h4 h5 h6 h7 hrd
 clear hk
 by_cases g1 : x = 0
 ·have e1 : (x == 0) = true:=by simpa using g1
  by_cases g2 : bl ≤ 400
  ·have e2 : ((bl : Int) ≤ 400):=by omega
   by_cases g3 : il = 0
   ·have e3 : ((il : Int) == 0) = true:=by simp; omega
    have hr : Hid (ownB rs r v = true):=by show _ = _; rw [hres.out]; simp [g1,g2,g3]
    clear hres g1 g3
    go_enter Tryz.func191,Tryz.ntmps191
    go_upto_region 1 with fail
    rw [← hW.out]
    clear hW
    have HBF:=HB
    go_wp2
    go_ret
    exact ⟨ret_bool (by first | exact hr.out.symm | (rw [hr.out]; exact decide_eq_true (by omega)) | (rw [hr.out]; exact decide_eq_false (by omega))),HBF.out⟩
   ·have e3 : ((il : Int) == 0) = false:=by simp; omega
    have hr : Hid (ownB rs r v = false):=by show _ = _; rw [hres.out]; simp [g1,g2,g3]
    clear hres g1 g3
    go_enter Tryz.func191,Tryz.ntmps191
    go_upto_region 1 with fail
    rw [← hW.out]
    clear hW
    have HBF:=HB
    go_wp2
    go_ret
    exact ⟨ret_bool (by first | exact hr.out.symm | (rw [hr.out]; exact decide_eq_true (by omega)) | (rw [hr.out]; exact decide_eq_false (by omega))),HBF.out⟩
  ·have e2 : ¬ ((bl : Int) ≤ 400):=by omega
   have hr : Hid (ownB rs r v = false):=by show _ = _; rw [hres.out]; simp [g1,g2]
   clear hres g1
   go_enter Tryz.func191,Tryz.ntmps191
   go_upto_region 1 with fail
   rw [← hW.out]
   clear hW
   have HBF:=HB
   go_wp2
   go_ret
   exact ⟨ret_bool (by first | exact hr.out.symm | (rw [hr.out]; exact decide_eq_true (by omega)) | (rw [hr.out]; exact decide_eq_false (by omega))),HBF.out⟩
 ·have e1 : (x == 0) = false:=by simpa using g1
  have hr : Hid (ownB rs r v = false):=by show _ = _; rw [hres.out]; simp [g1]
  clear hres g1
  go_enter Tryz.func191,Tryz.ntmps191
  go_upto_region 1 with fail
  rw [← hW.out]
  clear hW
  have HBF:=HB
  go_wp2
  go_ret
  exact ⟨ret_bool (by first | exact hr.out.symm | (rw [hr.out]; exact decide_eq_true (by omega)) | (rw [hr.out]; exact decide_eq_false (by omega))),HBF.out⟩
theorem own_spec (a : Option Addr) (rs : List RuleV) (cap : Nat) (r : RuleV) (cs vs : List Value) (v : ValueV) (n : Nat) (w : World) (hl : rs.length ≤ 1048576) (hrd : RdR a rs w) (hki : kindI rs r = true) (h : IsRule r cs w) (hv : IsVal n v vs w) :
  Calls Tryz.prog 191 #[.agg #[.slice a rs.length cap],.agg cs.toArray,.agg vs.toArray] w fun e w' => e = .returned (.bool (ownB rs r v)) ∧ Below w.heap.size w w':=by
 have hkn:=kindI_known hki
 cases n with
 | zero => exact hv.elim
 | succ n =>
  rcases (by omega : r.kind = 1 ∨ r.kind = 2 ∨ r.kind = 3 ∨ r.kind = 4 ∨ r.kind = 5 ∨ r.kind = 6 ∨ r.kind = 7 ∨ r.kind = 8 ∨ r.kind = 9 ∨ r.kind = 10) with hk | hk | hk | hk | hk | hk | hk | hk | hk | hk
  ·exact own_1 a rs cap r cs vs v n w hl hrd hki h hv hk
  ·exact own_2 a rs cap r cs vs v n w hl hrd hki h hv hk
  ·exact own_3 a rs cap r cs vs v n w hl hrd hki h hv hk
  ·exact own_4 a rs cap r cs vs v n w hl hrd hki h hv hk
  ·exact own_5 a rs cap r cs vs v n w hl hrd hki h hv hk
  ·exact own_6 a rs cap r cs vs v n w hl hrd hki h hv hk
  ·exact own_7 a rs cap r cs vs v n w hl hrd hki h hv hk
  ·exact own_8 a rs cap r cs vs v n w hl hrd hki h hv hk
  ·exact own_9 a rs cap r cs vs v n w hl hrd hki h hv hk
  ·exact own_10 a rs cap r cs vs v n w hl hrd hki h hv hk
theorem own_len {rs : List RuleV} {r : RuleV} {v : ValueV} (hk : kindI rs r = true) (h : ownB rs r v = true) : v.items.length ≤ 40:=by
 have hkn:=kindI_known hk
 rcases (by omega : r.kind = 1 ∨ r.kind = 2 ∨ r.kind = 3 ∨ r.kind = 4 ∨ r.kind = 5 ∨ r.kind = 6 ∨ r.kind = 7 ∨ r.kind = 8 ∨ r.kind = 9 ∨ r.kind = 10) with e | e | e | e | e | e | e | e | e | e
 ·simp [ownB,e] at h; rw [h.2.2]; simp
 ·simp [ownB,e] at h; rw [h.2.2]; simp
 ·simp [ownB,e] at h; rw [h.2.2]; simp
 ·simp [ownB,e] at h; rw [h.2.2]; simp
 ·simp [ownB,e] at h; omega
 ·have:=kindI_6 hk e; simp [ownB,e] at h; omega
 ·simp [ownB,e] at h; omega
 ·simp [ownB,e] at h; omega
 ·simp [ownB,e] at h; omega
 ·simp [ownB,e] at h; rw [h.2.2]; simp
theorem IsVal.cells {n : Nat} {v : ValueV} {cs : List Value} {w : World} (h : IsVal n v cs w) : ∃ ab cb ai ci,cs = [.int .i64 v.number,.slice ab v.bytes.length cb,.slice ai v.items.length ci]:=by
 cases n with
 | zero => exact h.elim
 | succ n => obtain ⟨ab,cb,ai,ci,e,_⟩:=h; exact ⟨ab,cb,ai,ci,e⟩
def ValidC (a : Option Addr) (rs : List RuleV) (cap n : Nat) : Prop :=
 ∀ (v : ValueV) (vs : List Value) (k : Nat) (w : World),k < rs.length → RdR a rs w → IsVal n v vs w →
  Calls Tryz.prog 141 #[.agg #[.slice a rs.length cap],.int .i64 (k : Int),.agg vs.toArray] w fun e w' => e = .returned (.bool (validV rs (k : Int) v)) ∧ Below w.heap.size w w'
theorem valid_step (a : Option Addr) (rs : List RuleV) (cap n : Nat) (hl : rs.length ≤ 1048576) (hall : allV (kindI rs) rs) (ih : ValidC a rs cap n) : ValidC a rs cap (n + 1):=by
 intro v vs k w hk hrd hv
 obtain ⟨ab,cb,ai,ci,rfl,hb,hit⟩:=hv
 obtain ⟨w0,hw0⟩ : ∃ w0,w0 = (w.alloc (.cells #[.slice a rs.length cap] 26)).alloc (.cells #[.int .i64 v.number,.slice ab v.bytes.length cb,.slice ai v.items.length ci] 48):=⟨_,rfl⟩
 have hB:=zb2 hw0
 have hD:=zk2 hw0
 have hVC:=zk3 hw0
 have HIT : Hid (∀ j (h : j < v.items.length),∃ b off cs',ai = some ⟨b,off,none⟩ ∧ IsVal n v.items[j] cs' w0 ∧ ∀ i u,cs'[i]? = some u → w0.cell? ⟨b,off + j * 3 + i,none⟩ = some u):=fun j hj => by obtain ⟨b,off,cs',e,h3,h4⟩:=hit j hj; exact ⟨b,off,cs',e,h3.below hB,fun i u hi => (hB.cell (cell_lt (h4 i u hi))).trans (h4 i u hi)⟩
 have hIV : IsVal (n + 1) v [.int .i64 v.number,.slice ab v.bytes.length cb,.slice ai v.items.length ci] w0:=⟨ab,cb,ai,ci,rfl,hb.below hB,HIT.out⟩
 obtain ⟨b0,off,a4,c4,a5,c5,a6,c6,a7,c7,rfl,⟨d0,d1,d2,d3,d4,d5,d6,d7⟩,r4,r5,r6,r7⟩:=(hrd.below hB).at k hk
 have HKI:=kq (allV_kind hall hk)
 have HKR : Hid (∀ x ∈ rs[k].kids,∃ m : Nat,x = (m : Int) ∧ m < rs.length):=fun x hx => by have h1:=allV_kids hall hk x hx; exact ⟨x.toNat,by omega,by omega⟩
 have HVE : Hid (validV rs (k : Int) v = (ownB rs rs[k] v && validL rs rs[k] v.number 0 v.items)):=by show _ = _; rw [validV_eq,ruleAt_at hk]
 obtain ⟨r,hr⟩ : ∃ r,r = rs[k]:=⟨_,rfl⟩
 rw [← hr] at d0 d1 d2 d3 d4 d5 d6 d7 r4 r5 r6 r7 HKI HKR HVE
 clear hr
 obtain ⟨w2,hw2⟩ : ∃ w2,w2 = w0.alloc (.cells #[.string r.name,.int .i64 r.kind,.int .i64 r.size,.bool r.little,.slice a4 r.bytes.length c4,.slice a5 r.names.length c5,.slice a6 r.tags.length c6,.slice a7 r.kids.length c7] 63):=⟨_,rfl⟩
 have hb2:=zb1 hw2
 have HC:=kq (zk1 hw2)
 have HD:=kq (hD.below hb2)
 have HVC:=kq (hVC.below hb2)
 have HIV:=kq (hIV.below hb2)
 have HIS : Hid (IsRule r [.string r.name,.int .i64 r.kind,.int .i64 r.size,.bool r.little,.slice a4 r.bytes.length c4,.slice a5 r.names.length c5,.slice a6 r.tags.length c6,.slice a7 r.kids.length c7] w2):=⟨a4,c4,a5,c5,a6,c6,a7,c7,rfl,r4.below hb2,r5.below hb2,r6.below hb2,r7.below hb2⟩
 have HRD:=kq ((hrd.below hB).below hb2)
 replace HIT : Hid (∀ j (h : j < v.items.length),∃ b off cs',ai = some ⟨b,off,none⟩ ∧ IsVal n v.items[j] cs' w2 ∧ ∀ i u,cs'[i]? = some u → w2.cell? ⟨b,off + j * 3 + i,none⟩ = some u):=fun j hj => by obtain ⟨b,off,cs',e,h3,h4⟩:=HIT.out j hj; exact ⟨b,off,cs',e,h3.below hb2,fun i u hi => (hb2.cell (cell_lt (h4 i u hi))).trans (h4 i u hi)⟩
 have HB:=kq (hB.trans (hb2.mono hB.size))
 have HIH:=kq ih
 have HALL:=kq hall
 have hW:=kq hw0
 have hW2:=kq hw2
 have bx:=(hD 0 _ rfl).1
 have k0 : (0 : Int) ≤ (k : Int):=by omega
 have k1 : (k : Int) < (rs.length : Int):=by omega
 clear hB hD hVC hIV hb2 hw0 hw2 hb hit hrd ih hall r4 r5 r6 r7
 go_enter Tryz.func141,Tryz.ntmps141
 go_upto_region 1 with fail
 rw [← hW.out]
 clear hW
 go_upto_region 2 with fail
 rw [← hW2.out]
 clear hW2 bx d0 d1 d2 d3 d4 d5 d6 d7
 have bx:=(HD.out 0 _ rfl).1
 have z0:=(HVC.out 0 _ rfl).1
 have z1:=(HVC.out 1 _ rfl).1
 have z2:=(HVC.out 2 _ rfl).1
 have y0:=(HC.out 0 _ rfl).1
 have y1:=(HC.out 1 _ rfl).1
 have y2:=(HC.out 2 _ rfl).1
 have y3:=(HC.out 3 _ rfl).1
 have y4:=(HC.out 4 _ rfl).1
 have y5:=(HC.out 5 _ rfl).1
 have y6:=(HC.out 6 _ rfl).1
 have y7:=(HC.out 7 _ rfl).1
 go_wp2_with fail
 refine (own_spec (some ⟨b0,off,none⟩) rs cap r _ _ v (n + 1) _ hl HRD.out HKI.out HIS.out HIV.out).mono ?_
 rintro e w3 ⟨rfl,hb3⟩
 replace HD:=kq (HD.out.below hb3)
 replace HVC:=kq (HVC.out.below hb3)
 replace HC:=kq (HC.out.below hb3)
 replace HIS : Hid (IsRule r [.string r.name,.int .i64 r.kind,.int .i64 r.size,.bool r.little,.slice a4 r.bytes.length c4,.slice a5 r.names.length c5,.slice a6 r.tags.length c6,.slice a7 r.kids.length c7] w3):=HIS.out.below hb3
 replace HRD:=kq (HRD.out.below hb3)
 replace HIT : Hid (∀ j (h : j < v.items.length),∃ b off cs',ai = some ⟨b,off,none⟩ ∧ IsVal n v.items[j] cs' w3 ∧ ∀ i u,cs'[i]? = some u → w3.cell? ⟨b,off + j * 3 + i,none⟩ = some u):=fun j hj => by obtain ⟨b,off,cs',e,h3,h4⟩:=HIT.out j hj; exact ⟨b,off,cs',e,h3.below hb3,fun i u hi => (hb3.cell (cell_lt (h4 i u hi))).trans (h4 i u hi)⟩
 replace HB:=kq (HB.out.trans (hb3.mono HB.out.size))
 clear hb3 bx z0 z1 z2 y0 y1 y2 y3 y4 y5 y6 y7 HIV
 cases hown : ownB rs r v with
 | false =>
  have hr : Hid (validV rs (k : Int) v = false):=by show _ = _; rw [HVE.out,hown]; rfl
  go_wp2
  go_ret
  exact ⟨ret_bool hr.out.symm,HB.out⟩
 | true =>
  have hil:=own_len HKI.out hown
  have hve : Hid (validV rs (k : Int) v = validL rs r v.number 0 v.items):=by show _ = _; rw [HVE.out,hown]; rfl
  have hik : Hid (∀ q,q < v.items.length → ∃ m : Nat,itemR r v.number q = (m : Int) ∧ m < rs.length):=fun q hq => by have h1:=item_kid HKI.out hown hq; obtain ⟨m,h2,h3⟩:=HKR.out _ h1; exact ⟨m,h2,h3⟩
  go_wp2
  go_loopw [8] (fun i W => ∃ q : Nat,q ≤ v.items.length ∧ i = .int .i64 q ∧ Hid (validV rs (k : Int) v = validL rs r v.number q (v.items.drop q)) ∧ Hid (Below w3.heap.size w3 W)) (fun i _ => v.items.length - (intOf i).toNat)
  case atStart => exact ⟨0,Nat.zero_le _,rfl,hve,Below.refl _ _⟩
  case round =>
   obtain ⟨q,hql,rfl,hvq,hbw⟩:=hrel
   have q0 : (0 : Int) ≤ (q : Int):=by omega
   have z2:=(HVC.out.below hbw.out 2 _ rfl).1
   have HBW:=kq (HB.out.trans (hbw.out.mono HB.out.size))
   by_cases hlt : q < v.items.length
   ·have q1 : (q : Int) < (v.items.length : Int):=by omega
    obtain ⟨m,hm,hmr⟩:=hik.out q hlt
    have hnx:=kq (validL_next (rs:=rs) (r:=r) (x:=v.number) hlt)
    obtain ⟨bi,oi,cs',hai,hiv,hcc⟩:=HIT.out q hlt
    subst hai
    obtain ⟨ab',cb',ai',ci',rfl⟩:=hiv.cells
    rw [hm] at hnx
    have HM:=kq hm
    have HIV:=kq hiv
    obtain ⟨it,hitt⟩ : ∃ it,it = v.items[q]:=⟨_,rfl⟩
    rw [← hitt] at hnx HIV hcc hiv
    have x0:=cell_keep hbw.out (hcc 0 _ rfl)
    have x1:=cell_keep hbw.out (hcc 1 _ rfl)
    have x2:=cell_keep hbw.out (hcc 2 _ rfl)
    simp only [Nat.add_zero] at x0
    clear hm hiv hcc hitt
    obtain ⟨vb,hvb⟩ : ∃ vb,vb = validV rs (m : Int) it:=⟨_,rfl⟩
    rw [← hvb] at hnx
    have HVB:=kq hvb
    clear hvb
    have HW0 : Hid (Below wr.heap.size wr wr.drew):=below_drewN (Below.refl _ wr) 1
    have HSW : Hid (∀ W,Below wr.heap.size wr W → W.cell? ⟨w.heap.size,0,none⟩ = some (.slice (some ⟨b0,off,none⟩) rs.length cap) ∧ W.cell? ⟨w0.heap.size,0,none⟩ = some (.string r.name) ∧ W.cell? ⟨w0.heap.size,1,none⟩ = some (.int .i64 r.kind) ∧ W.cell? ⟨w0.heap.size,2,none⟩ = some (.int .i64 r.size) ∧ W.cell? ⟨w0.heap.size,3,none⟩ = some (.bool r.little) ∧ W.cell? ⟨w0.heap.size,4,none⟩ = some (.slice a4 r.bytes.length c4) ∧ W.cell? ⟨w0.heap.size,5,none⟩ = some (.slice a5 r.names.length c5) ∧ W.cell? ⟨w0.heap.size,6,none⟩ = some (.slice a6 r.tags.length c6) ∧ W.cell? ⟨w0.heap.size,7,none⟩ = some (.slice a7 r.kids.length c7) ∧ W.cell? ⟨w.heap.size + 1,0,none⟩ = some (.int .i64 v.number) ∧ W.cell? ⟨w.heap.size + 1,2,none⟩ = some (.slice (some ⟨bi,oi,none⟩) v.items.length ci) ∧ W.cell? ⟨bi,oi + q * 3,none⟩ = some (.int .i64 it.number) ∧ W.cell? ⟨bi,oi + q * 3 + 1,none⟩ = some (.slice ab' it.bytes.length cb') ∧ W.cell? ⟨bi,oi + q * 3 + 2,none⟩ = some (.slice ai' it.items.length ci')):=fun W hW => ⟨(HD.out.below (hbw.out.trans (hW.mono hbw.out.size)) 0 _ rfl).1,(HC.out.below (hbw.out.trans (hW.mono hbw.out.size)) 0 _ rfl).1,(HC.out.below (hbw.out.trans (hW.mono hbw.out.size)) 1 _ rfl).1,(HC.out.below (hbw.out.trans (hW.mono hbw.out.size)) 2 _ rfl).1,(HC.out.below (hbw.out.trans (hW.mono hbw.out.size)) 3 _ rfl).1,(HC.out.below (hbw.out.trans (hW.mono hbw.out.size)) 4 _ rfl).1,(HC.out.below (hbw.out.trans (hW.mono hbw.out.size)) 5 _ rfl).1,(HC.out.below (hbw.out.trans (hW.mono hbw.out.size)) 6 _ rfl).1,(HC.out.below (hbw.out.trans (hW.mono hbw.out.size)) 7 _ rfl).1,(HVC.out.below (hbw.out.trans (hW.mono hbw.out.size)) 0 _ rfl).1,cell_keep hW z2,cell_keep hW x0,cell_keep hW x1,cell_keep hW x2⟩
    clear x0 x1 x2
    go_upto_region 7 with fail
    clear z2
    go_region_held3 (fun W => W.cell? ⟨w.heap.size,0,none⟩ = some (.slice (some ⟨b0,off,none⟩) rs.length cap) ∧ W.cell? ⟨w0.heap.size,0,none⟩ = some (.string r.name) ∧ W.cell? ⟨w0.heap.size,1,none⟩ = some (.int .i64 r.kind) ∧ W.cell? ⟨w0.heap.size,2,none⟩ = some (.int .i64 r.size) ∧ W.cell? ⟨w0.heap.size,3,none⟩ = some (.bool r.little) ∧ W.cell? ⟨w0.heap.size,4,none⟩ = some (.slice a4 r.bytes.length c4) ∧ W.cell? ⟨w0.heap.size,5,none⟩ = some (.slice a5 r.names.length c5) ∧ W.cell? ⟨w0.heap.size,6,none⟩ = some (.slice a6 r.tags.length c6) ∧ W.cell? ⟨w0.heap.size,7,none⟩ = some (.slice a7 r.kids.length c7) ∧ W.cell? ⟨w.heap.size + 1,0,none⟩ = some (.int .i64 v.number) ∧ W.cell? ⟨w.heap.size + 1,2,none⟩ = some (.slice (some ⟨bi,oi,none⟩) v.items.length ci) ∧ W.cell? ⟨bi,oi + q * 3,none⟩ = some (.int .i64 it.number) ∧ W.cell? ⟨bi,oi + q * 3 + 1,none⟩ = some (.slice ab' it.bytes.length cb') ∧ W.cell? ⟨bi,oi + q * 3 + 2,none⟩ = some (.slice ai' it.items.length ci')) (exact HSW.out _ HW0.out) (first | (go_at_call 138; refine (item_spec rs r _ v.number q _ (by omega) HKI.out (HIS.out.below (hbw.out.trans (HW0.out.mono hbw.out.size)))).mono ?_; rintro e w5 ⟨rfl,hb5⟩; rw [HM.out]; replace HW0:=kq (HW0.out.trans (hb5.mono HW0.out.size)); clear hb5) | (go_at_call 141; refine (HIH.out it _ m _ hmr (HRD.out.below (hbw.out.trans (HW0.out.mono hbw.out.size))) (HIV.out.below (hbw.out.trans (HW0.out.mono hbw.out.size)))).mono ?_; rintro e w6 ⟨rfl,hb6⟩; rw [← HVB.out]; replace HW0:=kq (HW0.out.trans (hb6.mono HW0.out.size)); clear hb6))
    have HBN:=kq (hbw.out.trans (HW0.out.mono hbw.out.size))
    cases vb with
    | false =>
     have hr : Hid (validV rs (k : Int) v = false):=by show _ = _; rw [hvq.out,hnx.out]; rfl
     have HBF:=kq (HB.out.trans (HBN.out.mono HB.out.size))
     go_wp2
     go_ret
     exact ⟨ret_bool hr.out.symm,HBF.out⟩
    | true =>
     have hv2 : Hid (validV rs (k : Int) v = validL rs r v.number (q + 1) (v.items.drop (q + 1))):=by show _ = _; rw [hvq.out,hnx.out]; rfl
     go_wp2
     go_roundw
     case rel => exact ⟨q + 1,by omega,by go_num,hv2,HBN⟩
     case measure => simp [intOf]; omega
   ·have q1 : ¬ (q : Int) < (v.items.length : Int):=by omega
    have hr : Hid (validV rs (k : Int) v = true):=by show _ = _; rw [hvq.out,List.drop_of_length_le (by omega),validL]
    go_wp2
    go_ret
    exact ⟨ret_bool hr.out.symm,HBW.out⟩
theorem valid_spec (a : Option Addr) (rs : List RuleV) (cap : Nat) (hl : rs.length ≤ 1048576) (hall : allV (kindI rs) rs) : ∀ n,ValidC a rs cap n
 | 0 => fun _ _ _ _ _ _ h => h.elim
 | n + 1 => valid_step a rs cap n hl hall (valid_spec a rs cap hl hall n)
noncomputable def fitsV (rs : List RuleV) (k : Int) (v : ValueV) : Bool:=okAt rs k && validV rs k v
theorem fits_spec (a : Option Addr) (rs : List RuleV) (cap n : Nat) (k : Int) (v : ValueV) (vs : List Value) (w : World) (hl : rs.length ≤ 1048576) (hs : ∀ r ∈ rs,Short r) (hp : ∀ r ∈ rs,Spelt r) (h : RdC a rs w) (hv : IsVal n v vs w) :
  Calls Tryz.prog 92 #[.agg #[.slice a rs.length cap],.int .i64 k,.agg vs.toArray] w fun e w' => e = .returned (.bool (fitsV rs k v)) ∧ Below w.heap.size w w':=by
 obtain ⟨ab,cb,ai,ci,rfl⟩:=hv.cells
 obtain ⟨w0,hw0⟩ : ∃ w0,w0 = (w.alloc (.cells #[.slice a rs.length cap] 26)).alloc (.cells #[.int .i64 v.number,.slice ab v.bytes.length cb,.slice ai v.items.length ci] 48):=⟨_,rfl⟩
 have hB:=zb2 hw0
 have hD:=zk2 hw0
 have hVC:=zk3 hw0
 have HC:=kq (h.below hB)
 have HV:=kq (hv.below hB)
 have HD:=kq hD
 have HVC:=kq hVC
 have HB:=kq hB
 have HS:=kq hs
 have HP:=kq hp
 have hW:=kq hw0
 have bx:=(hD 0 _ rfl).1
 obtain ⟨ok,hok⟩ : ∃ b,b = okAt rs k:=⟨_,rfl⟩
 have HO:=kq hok
 obtain ⟨fb,hfb⟩ : ∃ b,b = fitsV rs k v:=⟨_,rfl⟩
 rw [← hfb]
 have HF : Hid (fb = (ok && validV rs k v)):=by show _ = _; rw [hfb,hok]; rfl
 clear h hv hB hD hVC hs hp hw0 hok hfb
 go_enter Tryz.func92,Tryz.ntmps92
 go_upto_region 1 with fail
 rw [← hW.out]
 clear hW
 go_wp2_with fail
 refine (l7_spec a rs cap k _ hl HS.out HP.out HC.out).mono ?_
 rintro e w1 ⟨rfl,hb1⟩
 rw [← HO.out]
 replace HD:=kq (HD.out.below hb1)
 replace HVC:=kq (HVC.out.below hb1)
 replace HC:=kq (HC.out.below hb1)
 replace HV:=kq (HV.out.below hb1)
 replace HB:=kq (HB.out.trans (hb1.mono HB.out.size))
 clear hb1 bx
 have bx:=(HD.out 0 _ rfl).1
 have z0:=(HVC.out 0 _ rfl).1
 have z1:=(HVC.out 1 _ rfl).1
 have z2:=(HVC.out 2 _ rfl).1
 cases ok with
 | false =>
  obtain rfl : fb = false:=HF.out
  go_wp2
  go_ret
  exact ⟨rfl,HB.out⟩
 | true =>
  obtain ⟨⟨k0,k1⟩,hn,hv⟩:=okAt_yes HO.out.symm
  obtain ⟨m,rfl⟩ : ∃ m : Nat,k = (m : Int):=⟨k.toNat,by omega⟩
  have hm : m < rs.length:=by omega
  have HA:=kq hv
  clear hv hn HO
  go_wp2_with fail
  refine (valid_spec a rs cap hl HA.out n v _ m _ hm HC.out.rd HV.out).mono ?_
  rintro e w2 ⟨rfl,hb2⟩
  have hr : validV rs (m : Int) v = fb:=by rw [HF.out]; rfl
  rw [hr]
  have HR:=kq hr
  clear hr
  replace HB:=kq (HB.out.trans (hb2.mono HB.out.size))
  clear hb2
  go_wp2
  go_ret
  exact ⟨rfl,HB.out⟩
noncomputable def printB (rs : List RuleV) (k : Int) (v : ValueV) : Bool:=fitsV rs k v && decide (plen rs k v ≤ 400)
theorem head_siz {rs : List RuleV} (hall : allV (kindI rs) rs) {k : Nat} (hk : k < rs.length) (b : List UInt8) : headLen rs rs[k] b ≤ 17 + 2 * b.length:=by
 have hki:=allV_kind hall hk
 have hkn:=kindI_known hki
 have hhead : rs[k].kind = 4 ∨ rs[k].kind = 5 ∨ rs[k].kind = 7 → (ruleAt rs (rs[k].kids.getD 0 0)).size.toNat ≤ 4:=fun h => by
  obtain ⟨h1,m,hm,hmk⟩:=kid_int hall hk h
  rw [hm] at h1 ⊢
  have hml : m < rs.length:=by omega
  rw [ruleAt_at hml] at h1 ⊢
  have h2:=kindI_size (allV_kind hall hml) h1
  omega
 have hesc:=escLen_le (rs[k].bytes.getD 0 0) b
 unfold headLen
 rcases (by omega : rs[k].kind = 1 ∨ rs[k].kind = 2 ∨ rs[k].kind = 3 ∨ rs[k].kind = 4 ∨ rs[k].kind = 5 ∨ rs[k].kind = 6 ∨ rs[k].kind = 7 ∨ rs[k].kind = 8 ∨ rs[k].kind = 9 ∨ rs[k].kind = 10) with e | e | e | e | e | e | e | e | e | e
 ·have h1:=kindI_size hki e; rw [if_pos e]; omega
 ·have h1:=kindI_2 hki e; rw [if_neg (by omega),if_pos e]; omega
 ·rw [if_neg (by omega),if_neg (by omega),if_pos e]; omega
 ·have h1:=hhead (by omega); rw [if_neg (by omega),if_neg (by omega),if_neg (by omega),if_pos e]; omega
 ·have h1:=hhead (by omega); rw [if_neg (by omega),if_neg (by omega),if_neg (by omega),if_neg (by omega),if_pos (by omega)]; omega
 ·rw [if_neg (by omega),if_neg (by omega),if_neg (by omega),if_neg (by omega),if_neg (by omega),if_neg (by omega),if_neg (by omega)]; omega
 ·have h1:=hhead (by omega); rw [if_neg (by omega),if_neg (by omega),if_neg (by omega),if_neg (by omega),if_pos (by omega)]; omega
 ·rw [if_neg (by omega),if_neg (by omega),if_neg (by omega),if_neg (by omega),if_neg (by omega),if_pos (by omega)]; omega
 ·rw [if_neg (by omega),if_neg (by omega),if_neg (by omega),if_neg (by omega),if_neg (by omega),if_pos (by omega)]; omega
 ·rw [if_neg (by omega),if_neg (by omega),if_neg (by omega),if_neg (by omega),if_neg (by omega),if_neg (by omega),if_pos (by omega)]; omega
mutual
theorem plen_siz {rs : List RuleV} (hall : allV (kindI rs) rs) : ∀ (v : ValueV) (k : Nat),k < rs.length → validV rs (k : Int) v = true → plen rs (k : Int) v ≤ 17 + 18 * sizV v
 | .mk nn bb ll,k,hk,hv => by
  rw [validV_eq,ruleAt_at hk,Bool.and_eq_true] at hv
  obtain ⟨ho,hl⟩:=hv
  have hki:=allV_kind hall hk
  have hkd : ∀ q,q < ll.length → ∃ m : Nat,itemR rs[k] nn (0 + q) = (m : Int) ∧ m < rs.length:=fun q hq => by
   have h1:=allV_kids hall hk _ (item_kid hki ho (q:=q) hq)
   rw [Nat.zero_add]
   exact ⟨(itemR rs[k] nn q).toNat,by show itemR rs[k] nn q = _; have:=h1.1; simp only [ValueV.number] at this ⊢; omega,by have:=h1.2; simp only [ValueV.number] at this ⊢; omega⟩
  have h2:=plens_siz hall (r:=rs[k]) (x:=nn) ll 0 hkd hl
  have h3:=head_siz hall hk bb
  rw [plen_eq,ruleAt_at hk,sizV_eq]
  simp only [ValueV.number,ValueV.bytes,ValueV.items] at *
  omega
theorem plens_siz {rs : List RuleV} (hall : allV (kindI rs) rs) {r : RuleV} {x : Int} : ∀ (l : List ValueV) (i : Nat),(∀ q,q < l.length → ∃ m : Nat,itemR r x (i + q) = (m : Int) ∧ m < rs.length) → validL rs r x i l = true → plens rs r x i l ≤ 18 * (l.length + sizL l)
 | [],i,_,_ => by rw [plens]; simp
 | v :: vs,i,hk,hv => by
  rw [validL,Bool.and_eq_true] at hv
  obtain ⟨m,hm,hmr⟩:=hk 0 (by simp)
  rw [Nat.add_zero] at hm
  have hv1:=hv.1
  rw [hm] at hv1
  have h1:=plen_siz hall v m hmr hv1
  have h2:=plens_siz hall (r:=r) (x:=x) vs (i + 1) (fun q hq => by
   obtain ⟨m,h3,h4⟩:=hk (q + 1) (by simpa using hq)
   exact ⟨m,by rw [show i + 1 + q = i + (q + 1) from by omega]; exact h3,h4⟩) hv.2
  rw [plens,sizL,List.length_cons,hm]
  omega
end
theorem plen_fits {rs : List RuleV} {k : Int} {v : ValueV} (hs : sizV v ≤ 1048576) (h : fitsV rs k v = true) : plen rs k v ≤ 1099511627776:=by
 unfold fitsV at h
 rw [Bool.and_eq_true] at h
 obtain ⟨⟨k0,k1⟩,-,hav⟩:=okAt_yes h.1
 obtain ⟨m,rfl⟩ : ∃ m : Nat,k = (m : Int):=⟨k.toNat,by omega⟩
 have:=plen_siz hav v m (by omega) h.2
 omega
end Go.Proofs.YtefkhknfjohnaaaGreatDoor
