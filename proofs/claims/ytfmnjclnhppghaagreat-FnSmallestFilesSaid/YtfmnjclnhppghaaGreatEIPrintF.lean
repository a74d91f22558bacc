/- The contract of the program's PrintFile. -/
import Derived.Test.YtfmnjclnhppghaaGreatEQA
import Derived.Test.YtfmnjclnhppghaaGreatEGDI
import Derived.Deep.RegionHeld3
namespace Go.Proofs.YtfmnjclnhppghaaGreat
open Go Go.RowKit
set_option maxRecDepth 100000 in
set_option maxHeartbeats 4000000 in
theorem printf_impl (a : Option Addr) (rs : List RuleV) (cap n : Nat) (v : ValueV) (vs : List Value) (w : World) (hl : rs.length ≤ 1048576) (hs : ∀ r ∈ rs,Short r) (hp : ∀ r ∈ rs,Spelt r) (h : RdC a rs w) (hv : IsVal n v vs w) :
  Calls Tryz.prog 29 #[.agg #[.slice a rs.length cap],.agg vs.toArray] w (PvE (printB rs ((rs.length : Int) - 1) v) (encV rs ((rs.length : Int) - 1) v) w):=by
 have hiv:=hv
 obtain ⟨ab,cb,ai,ci,rfl⟩:=hv.cells
 obtain ⟨w0,hw0⟩ : ∃ w0,w0 = (w.alloc (.cells #[.slice a rs.length cap] 26)).alloc (.cells #[.int .i64 v.number,.slice ab v.bytes.length cb,.slice ai v.items.length ci] 29):=⟨_,rfl⟩
 have hB : Below w.heap.size w w0:=by subst hw0; exact ((Below.refl _ _).alloc (Nat.le_refl _) _).alloc (by simp) _
 have hD : CellsAt w.heap.size [.slice a rs.length cap] w0:=by subst hw0; exact (CellsAt.new w _ _).below ((Below.refl _ _).alloc (Nat.le_refl _) _)
 have hVC : CellsAt (w.heap.size + 1) [.int .i64 v.number,.slice ab v.bytes.length cb,.slice ai v.items.length ci] w0:=by subst hw0; have h1:=CellsAt.new (w.alloc (.cells #[.slice a rs.length cap] 26)) [.int .i64 v.number,.slice ab v.bytes.length cb,.slice ai v.items.length ci] 29; rw [World.size_alloc] at h1; exact h1
 have hbd : Below w0.heap.size w0 w0.drew:=below_drewN (Below.refl _ _) 1
 have HD:=kq (hD.below hbd)
 have HVC:=kq (hVC.below hbd)
 have HB:=kq (hB.trans (hbd.mono hB.size))
 have HCW:=kq h
 have hW:=kq hw0
 obtain ⟨k,hk⟩ : ∃ k,k = (rs.length : Int) - 1:=⟨_,rfl⟩
 obtain ⟨E,hE⟩ : ∃ E,E = encV rs k v:=⟨_,rfl⟩
 obtain ⟨pb,hpb⟩ : ∃ b,b = printB rs k v:=⟨_,rfl⟩
 have HCL : Hid (∀ W,Below w.heap.size w W → Calls Tryz.prog 9 #[.agg #[.slice a rs.length cap],.int .i64 k,.agg #[.int .i64 v.number,.slice ab v.bytes.length cb,.slice ai v.items.length ci]] W (PvE pb E W)):=fun W hW => by rw [hE,hpb]; exact printve_impl a rs cap n k v _ W hl hs hp (h.below hW) (hiv.below hW)
 have HRO : Hid (∀ W,Below w.heap.size w W → Calls Tryz.prog 58 #[.agg #[.slice a rs.length cap]] W fun e w' => e = .returned (.int .i64 k) ∧ Below W.heap.size W w'):=fun W hW => by rw [hk]; exact root_impl a rs cap W (by omega) (h.below hW).rd
 rw [← hk,← hE,← hpb]
 clear h hv hiv hB hD hVC hbd hs hp hw0 hE hpb hk
 go_enter Tryz.func29,Tryz.ntmps29
 go_upto_region 1 with fail
 rw [← hW.out]
 clear hW
 go_region_held3 (fun W => W.cell? ⟨w.heap.size,0,none⟩ = some (.slice a rs.length cap) ∧ W.cell? ⟨w.heap.size + 1,0,none⟩ = some (.int .i64 v.number) ∧ W.cell? ⟨w.heap.size + 1,1,none⟩ = some (.slice ab v.bytes.length cb) ∧ W.cell? ⟨w.heap.size + 1,2,none⟩ = some (.slice ai v.items.length ci)) (exact ⟨(HD.out 0 _ rfl).1,(HVC.out 0 _ rfl).1,(HVC.out 1 _ rfl).1,(HVC.out 2 _ rfl).1⟩) (first | (go_at_call 58; refine (HRO.out _ HB.out).mono ?_; rintro e w3 ⟨rfl,hb3⟩; replace HD:=kq (HD.out.below hb3); replace HVC:=kq (HVC.out.below hb3); replace HB:=kq (HB.out.trans (hb3.mono HB.out.size)); clear hb3) | (go_at_call 9; refine (HCL.out _ HB.out).mono ?_; rintro e w4 ⟨az,bs,cz,rfl,hbs,hrow,hb4⟩; have HRW:=kq (hrow.more HB.out.size); have HBS:=kq hbs; replace HD:=kq (HD.out.below hb4); replace HVC:=kq (HVC.out.below hb4); replace HB:=kq (HB.out.trans (hb4.mono HB.out.size)); clear hb4 hrow hbs))
 all_goals (go_wp2; go_ret2; exact ⟨az,bs,cz,rfl,HBS.out,HRW.out,HB.out⟩)
end Go.Proofs.YtfmnjclnhppghaaGreat
