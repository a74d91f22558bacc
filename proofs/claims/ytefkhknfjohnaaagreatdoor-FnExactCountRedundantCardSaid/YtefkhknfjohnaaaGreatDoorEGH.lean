/- The program's headOf. -/
import Derived.Test.YtefkhknfjohnaaaGreatDoorEK
import Derived.Test.YtefkhknfjohnaaaGreatDoorEGD
import Derived.Test.YtefkhknfjohnaaaGreatDoorEGBase
import Derived.Test.YtefkhknfjohnaaaGreatDoorEGRul
import Derived.StillTailTactics
import Derived.Deep.CutRange
import Derived.Deep.RegionHeld3
import Derived.Test.YtefkhknfjohnaaaGreatDoorEGT
import Derived.Test.YtefkhknfjohnaaaGreatDoorEGK
import Derived.Test.YtefkhknfjohnaaaGreatDoorEGP
set_option maxRecDepth 100000
set_option maxHeartbeats 8000000
namespace Go.Proofs.YtefkhknfjohnaaaGreatDoor
open Go Go.RowKit
def flagR : RuleV:=⟨⟨#[]⟩,1,1,false,[],[],[],[]⟩
theorem head_flag (a : Option Addr) (n cap : Nat) (r : RuleV) (cs : List Value) (w : World) (h : IsRule r cs w) (hk : r.kind = 8) :
  Calls Tryz.prog 210 #[.agg #[.slice a n cap],.agg cs.toArray] w fun e w' => e = .returned (.agg #[.string ⟨#[]⟩,.int .i64 1,.int .i64 1,.bool false,.slice none 0 0,.slice none 0 0,.slice none 0 0,.slice none 0 0]) ∧ Below w.heap.size w w':=by
 obtain ⟨a4,c4,a5,c5,a6,c6,a7,c7,rfl,-,-,-,-⟩:=h
 have g : (r.kind == 8) = true:=by rw [hk]; rfl
 obtain ⟨w3,hw3⟩ : ∃ w3,w3 = ((w.alloc (.cells #[.slice a n cap] 26)).alloc (.cells #[.string r.name,.int .i64 r.kind,.int .i64 r.size,.bool r.little,.slice a4 r.bytes.length c4,.slice a5 r.names.length c5,.slice a6 r.tags.length c6,.slice a7 r.kids.length c7] 63)).alloc (.cells #[.string ⟨#[]⟩,.int .i64 0,.int .i64 0,.bool false,.slice none 0 0,.slice none 0 0,.slice none 0 0,.slice none 0 0] 63):=⟨_,rfl⟩
 have hB : Below w.heap.size w w3:=by subst hw3; exact (((Below.refl _ _).alloc (Nat.le_refl _) _).alloc (by simp) _).alloc (by simp; omega) _
 have hD : CellsAt w.heap.size [.slice a n cap] w3:=by subst hw3; exact ((CellsAt.new w _ _).below ((Below.refl _ _).alloc (Nat.le_refl _) _)).below ((Below.refl _ _).alloc (Nat.le_refl _) _)
 have hC : CellsAt (w.heap.size + 1) [.string r.name,.int .i64 r.kind,.int .i64 r.size,.bool r.little,.slice a4 r.bytes.length c4,.slice a5 r.names.length c5,.slice a6 r.tags.length c6,.slice a7 r.kids.length c7] w3:=by
  subst hw3
  have h1:=CellsAt.new (w.alloc (.cells #[.slice a n cap] 26)) [.string r.name,.int .i64 r.kind,.int .i64 r.size,.bool r.little,.slice a4 r.bytes.length c4,.slice a5 r.names.length c5,.slice a6 r.tags.length c6,.slice a7 r.kids.length c7] 63
  rw [World.size_alloc] at h1
  exact h1.below ((Below.refl _ _).alloc (Nat.le_refl _) _)
 have hZ : CellsAt (w.heap.size + 1 + 1) [.string ⟨#[]⟩,.int .i64 0,.int .i64 0,.bool false,.slice none 0 0,.slice none 0 0,.slice none 0 0,.slice none 0 0] w3:=by
  subst hw3
  have h1:=CellsAt.new ((w.alloc (.cells #[.slice a n cap] 26)).alloc (.cells #[.string r.name,.int .i64 r.kind,.int .i64 r.size,.bool r.little,.slice a4 r.bytes.length c4,.slice a5 r.names.length c5,.slice a6 r.tags.length c6,.slice a7 r.kids.length c7] 63)) [.string ⟨#[]⟩,.int .i64 0,.int .i64 0,.bool false,.slice none 0 0,.slice none 0 0,.slice none 0 0,.slice none 0 0] 63
  rw [World.size_alloc,World.size_alloc] at h1
  exact h1
 have k1:=(hC 1 _ rfl).1
 have hNw : w.heap.size ≤ w.heap.size + 1 + 1:=by omega
 have HW:=kq hw3
 have HB:=kq hB
 have HZ:=kq hZ
 clear hk hw3 hB hD hC hZ
 go_enter Tryz.func210,Tryz.ntmps210
 go_upto_region 1 with fail
 rw [← HW.out]
 clear HW
 obtain ⟨z0,t0⟩:=HZ.out 0 _ rfl
 obtain ⟨z1,t1⟩:=HZ.out 1 _ rfl
 obtain ⟨z2,t2⟩:=HZ.out 2 _ rfl
 obtain ⟨z3,t3⟩:=HZ.out 3 _ rfl
 obtain ⟨z4,t4⟩:=HZ.out 4 _ rfl
 obtain ⟨z5,t5⟩:=HZ.out 5 _ rfl
 obtain ⟨z6,t6⟩:=HZ.out 6 _ rfl
 obtain ⟨z7,t7⟩:=HZ.out 7 _ rfl
 obtain ⟨N,hN⟩ : ∃ N,N = w.heap.size + 1 + 1:=⟨_,rfl⟩
 rw [← hN] at hNw HZ z0 z1 z2 z3 z4 z5 z6 z7 t0 t1 t2 t3 t4 t5 t6 t7 ⊢
 clear hN
 go_wp2
 (try simp only [Exit.inBlock,Exit.then])
 refine bodyPost_ret (v:=.agg #[.string ⟨#[]⟩,.int .i64 1,.int .i64 1,.bool false,.slice none 0 0,.slice none 0 0,.slice none 0 0,.slice none 0 0]) ?_ rfl ?_
 ·simp [results,Tryz.results210,go_sem,z0,z1,z2,z3,z4,z5,z6,z7]
 ·exact ⟨rfl,((((((((HB.out.setCell (p:=⟨N,0,none⟩) hNw _).setCell (p:=⟨N,1,none⟩) hNw _).setCell (p:=⟨N,2,none⟩) hNw _).setCell (p:=⟨N,3,none⟩) hNw _).setCell (p:=⟨N,4,none⟩) hNw _).setCell (p:=⟨N,5,none⟩) hNw _).setCell (p:=⟨N,6,none⟩) hNw _).setCell (p:=⟨N,7,none⟩) hNw _)⟩
theorem head_rule (a : Option Addr) (rs : List RuleV) (cap m : Nat) (r : RuleV) (cs : List Value) (w : World) (h : IsRule r cs w) (hk : ¬ r.kind = 8) (hrd : RdR a rs w) (hm : m < rs.length) (hkid : r.kids.getD 0 0 = (m : Int)) (hkl : 0 < r.kids.length) :
  Calls Tryz.prog 210 #[.agg #[.slice a rs.length cap],.agg cs.toArray] w fun e w' => (∃ ks,e = .returned (.agg ks.toArray) ∧ IsRule rs[m] ks w) ∧ Below w.heap.size w w':=by
 obtain ⟨a4,c4,a5,c5,a6,c6,a7,c7,rfl,-,-,-,r7⟩:=h
 have g : (r.kind == 8) = false:=by simp [hk]
 obtain ⟨bd,od,b4,e4,b5,e5,b6,e6,b7,e7,rfl,⟨d0,d1,d2,d3,d4,d5,d6,d7⟩,q4,q5,q6,q7⟩:=hrd.at m hm
 have HIS : Hid (IsRule rs[m] [.string rs[m].name,.int .i64 rs[m].kind,.int .i64 rs[m].size,.bool rs[m].little,.slice b4 rs[m].bytes.length e4,.slice b5 rs[m].names.length e5,.slice b6 rs[m].tags.length e6,.slice b7 rs[m].kids.length e7] w):=⟨b4,e4,b5,e5,b6,e6,b7,e7,rfl,q4,q5,q6,q7⟩
 obtain ⟨bk,ok,rfl,hkc⟩:=r7 0 hkl
 have hk0 : r.kids[0] = (m : Int):=by rw [← hkid]; simp [List.getD,List.getElem?_eq_getElem hkl]
 rw [hk0] at hkc
 obtain ⟨w3,hw3⟩ : ∃ w3,w3 = ((w.alloc (.cells #[.slice (some ⟨bd,od,none⟩) rs.length cap] 26)).alloc (.cells #[.string r.name,.int .i64 r.kind,.int .i64 r.size,.bool r.little,.slice a4 r.bytes.length c4,.slice a5 r.names.length c5,.slice a6 r.tags.length c6,.slice (some ⟨bk,ok,none⟩) r.kids.length c7] 63)).alloc (.cells #[.string ⟨#[]⟩,.int .i64 0,.int .i64 0,.bool false,.slice none 0 0,.slice none 0 0,.slice none 0 0,.slice none 0 0] 63):=⟨_,rfl⟩
 have hB : Below w.heap.size w w3:=by subst hw3; exact (((Below.refl _ _).alloc (Nat.le_refl _) _).alloc (by simp) _).alloc (by simp; omega) _
 have hD : CellsAt w.heap.size [.slice (some ⟨bd,od,none⟩) rs.length cap] w3:=by subst hw3; exact ((CellsAt.new w _ _).below ((Below.refl _ _).alloc (Nat.le_refl _) _)).below ((Below.refl _ _).alloc (Nat.le_refl _) _)
 have hC : CellsAt (w.heap.size + 1) [.string r.name,.int .i64 r.kind,.int .i64 r.size,.bool r.little,.slice a4 r.bytes.length c4,.slice a5 r.names.length c5,.slice a6 r.tags.length c6,.slice (some ⟨bk,ok,none⟩) r.kids.length c7] w3:=by
  subst hw3
  have h1:=CellsAt.new (w.alloc (.cells #[.slice (some ⟨bd,od,none⟩) rs.length cap] 26)) [.string r.name,.int .i64 r.kind,.int .i64 r.size,.bool r.little,.slice a4 r.bytes.length c4,.slice a5 r.names.length c5,.slice a6 r.tags.length c6,.slice (some ⟨bk,ok,none⟩) r.kids.length c7] 63
  rw [World.size_alloc] at h1
  exact h1.below ((Below.refl _ _).alloc (Nat.le_refl _) _)
 have hZ : CellsAt (w.heap.size + 1 + 1) [.string ⟨#[]⟩,.int .i64 0,.int .i64 0,.bool false,.slice none 0 0,.slice none 0 0,.slice none 0 0,.slice none 0 0] w3:=by
  subst hw3
  have h1:=CellsAt.new ((w.alloc (.cells #[.slice (some ⟨bd,od,none⟩) rs.length cap] 26)).alloc (.cells #[.string r.name,.int .i64 r.kind,.int .i64 r.size,.bool r.little,.slice a4 r.bytes.length c4,.slice a5 r.names.length c5,.slice a6 r.tags.length c6,.slice (some ⟨bk,ok,none⟩) r.kids.length c7] 63)) [.string ⟨#[]⟩,.int .i64 0,.int .i64 0,.bool false,.slice none 0 0,.slice none 0 0,.slice none 0 0,.slice none 0 0] 63
  rw [World.size_alloc,World.size_alloc] at h1
  exact h1
 have k1:=(hC 1 _ rfl).1
 have hNw : w.heap.size ≤ w.heap.size + 1 + 1:=by omega
 have x0:=cellK hB (Nat.le_refl _) d0
 have x1:=cellK hB (Nat.le_refl _) d1
 have x2:=cellK hB (Nat.le_refl _) d2
 have x3:=cellK hB (Nat.le_refl _) d3
 have x4:=cellK hB (Nat.le_refl _) d4
 have x5:=cellK hB (Nat.le_refl _) d5
 have x6:=cellK hB (Nat.le_refl _) d6
 have x7:=cellK hB (Nat.le_refl _) d7
 have xk:=cellK hB (Nat.le_refl _) hkc
 rw [Nat.add_zero] at xk
 have xd:=(hD 0 _ rfl).1
 have xc:=(hC 7 _ rfl).1
 have HW:=kq hw3
 have HB:=kq hB
 have HZ:=kq hZ
 have m0 : (0 : Int) ≤ (m : Int):=by omega
 have m1 : (m : Int) < (rs.length : Int):=by omega
 have kl : (0 : Int) < (r.kids.length : Int):=by omega
 obtain ⟨rm,hrm⟩ : ∃ rm,rm = rs[m]:=⟨_,rfl⟩
 rw [← hrm] at x0 x1 x2 x3 x4 x5 x6 x7 HIS
 have HRM:=kq hrm
 have HW0 : Hid (Below w3.heap.size w3 w3.drew):=below_drewN (Below.refl _ w3) 1
 clear hk hw3 hB hD hC hZ d0 d1 d2 d3 d4 d5 d6 d7 q4 q5 q6 q7 hkc hk0 hkid hrd r7 hrm
 rw [← HRM.out]
 go_enter Tryz.func210,Tryz.ntmps210
 go_upto_region 1 with fail
 rw [← HW.out]
 clear HW
 obtain ⟨z0,t0⟩:=HZ.out 0 _ rfl
 obtain ⟨z1,t1⟩:=HZ.out 1 _ rfl
 obtain ⟨z2,t2⟩:=HZ.out 2 _ rfl
 obtain ⟨z3,t3⟩:=HZ.out 3 _ rfl
 obtain ⟨z4,t4⟩:=HZ.out 4 _ rfl
 obtain ⟨z5,t5⟩:=HZ.out 5 _ rfl
 obtain ⟨z6,t6⟩:=HZ.out 6 _ rfl
 obtain ⟨z7,t7⟩:=HZ.out 7 _ rfl
 obtain ⟨N,hN⟩ : ∃ N,N = w.heap.size + 1 + 1:=⟨_,rfl⟩
 rw [← hN] at hNw HZ z0 z1 z2 z3 z4 z5 z6 z7 t0 t1 t2 t3 t4 t5 t6 t7 ⊢
 clear hN
 go_upto_region 3 with fail
 go_still_tail 7,(by kernel_rfl)
 change wpList _ _ _ _ _ w3.drew
 have v0:=(cellK HW0.out (Nat.le_refl _) x0)
 have v1:=(cellK HW0.out (Nat.le_refl _) x1)
 have v2:=(cellK HW0.out (Nat.le_refl _) x2)
 have v3:=(cellK HW0.out (Nat.le_refl _) x3)
 have v4:=(cellK HW0.out (Nat.le_refl _) x4)
 have v5:=(cellK HW0.out (Nat.le_refl _) x5)
 have v6:=(cellK HW0.out (Nat.le_refl _) x6)
 have v7:=(cellK HW0.out (Nat.le_refl _) x7)
 replace HZ:=kq (HZ.out.below HW0.out)
 replace HB:=kq (HB.out.trans (HW0.out.mono HB.out.size))
 clear x0 x1 x2 x3 x4 x5 x6 x7 xd xc xk k1 z0 z1 z2 z3 z4 z5 z6 z7 t0 t1 t2 t3 t4 t5 t6 t7 HW0
 generalize w3.drew = w4 at *
 obtain ⟨z0,t0⟩:=HZ.out 0 _ rfl
 obtain ⟨z1,t1⟩:=HZ.out 1 _ rfl
 obtain ⟨z2,t2⟩:=HZ.out 2 _ rfl
 obtain ⟨z3,t3⟩:=HZ.out 3 _ rfl
 obtain ⟨z4,t4⟩:=HZ.out 4 _ rfl
 obtain ⟨z5,t5⟩:=HZ.out 5 _ rfl
 obtain ⟨z6,t6⟩:=HZ.out 6 _ rfl
 obtain ⟨z7,t7⟩:=HZ.out 7 _ rfl
 go_wp2
 (try simp only [Exit.inBlock,Exit.then])
 refine bodyPost_ret (v:=.agg #[.string rm.name,.int .i64 rm.kind,.int .i64 rm.size,.bool rm.little,.slice b4 rm.bytes.length e4,.slice b5 rm.names.length e5,.slice b6 rm.tags.length e6,.slice b7 rm.kids.length e7]) ?_ rfl ?_
 ·simp [results,Tryz.results210,go_sem,z0,z1,z2,z3,z4,z5,z6,z7]
 ·exact ⟨⟨_,rfl,HIS.out⟩,((((((((HB.out.setCell (p:=⟨N,0,none⟩) hNw _).setCell (p:=⟨N,1,none⟩) hNw _).setCell (p:=⟨N,2,none⟩) hNw _).setCell (p:=⟨N,3,none⟩) hNw _).setCell (p:=⟨N,4,none⟩) hNw _).setCell (p:=⟨N,5,none⟩) hNw _).setCell (p:=⟨N,6,none⟩) hNw _).setCell (p:=⟨N,7,none⟩) hNw _)⟩
theorem made_zero (n : Nat) (t : TypeId) (w : World) : ∀ j,j < n → PlacedAt w.heap.size (j * 3) zeroVal (w.alloc (.cells (madeCells #[.int .i64 0,.slice none 0 0,.slice none 0 0] (n * 3)) t)):=fun j hj i v hv => by
 have hi3 : i < 3:=by
  rcases Nat.lt_or_ge i 3 with h | h
  ·exact h
  ·rw [List.getElem?_eq_none (by simpa [zeroVal] using h)] at hv; cases hv
 refine ⟨(World.cell?_alloc_mark w _ t (0,0) (j * 3 + i)).trans ?_,by simp⟩
 rw [made_at _ _ (by omega)]
 have e : (j * 3 + i) % 3 = i:=by omega
 show some (#[.int .i64 0,.slice none 0 0,.slice none 0 0] : Array Value)[(j * 3 + i) % 3]! = some v
 rw [e]
 rcases (by omega : i = 0 ∨ i = 1 ∨ i = 2) with rfl | rfl | rfl <;> exact hv
def IReadC (w0 : World) (a ab : Option Addr) (rs : List RuleV) (cap cb : Nat) (L : List UInt8) (n : Nat) : Prop :=
 ∀ (k p Rb Z o : Nat) (w : World),k < rs.length → k < n → p ≤ L.length → Site w0 a ab rs.length cap cb L Rb Z o w → CellsAt Rb (rdCells a rs.length cap ab L.length cb p) w → PlacedAt Z o [.int .i64 0,.slice none 0 0,.slice none 0 0] w →
  Calls Tryz.prog 124 #[.pointer (some ⟨Rb,0,none⟩),.int .i64 (k : Int),.pointer (some ⟨Z,o,none⟩)] w (GotAt a ab rs.length cap cb L.length Rb Z o n (parseB rs L n (k : Int) p) w)
def IItemsC (w0 : World) (a ab : Option Addr) (rs : List RuleV) (cap cb : Nat) (L : List UInt8) (n : Nat) : Prop :=
 ∀ (r : RuleV) (cs : List Value) (x : Int) (count p Rb Z o : Nat) (w : World),kindI rs r = true → IsRule r cs w0 → count ≤ 40 → (∀ i,i < count → ∃ m : Nat,kidI r x i = (m : Int) ∧ itemR r x i = (m : Int) ∧ m < rs.length ∧ m < n) → p ≤ L.length →
  Site w0 a ab rs.length cap cb L Rb Z o w → CellsAt Rb (rdCells a rs.length cap ab L.length cb p) w → PlacedAt Z o [.int .i64 x,.slice none 0 0,.slice none 0 0] w →
  Calls Tryz.prog 166 #[.pointer (some ⟨Rb,0,none⟩),.agg cs.toArray,.int .i64 (count : Int),.pointer (some ⟨Z,o,none⟩)] w (GotAt a ab rs.length cap cb L.length Rb Z o (n + 1) ((gotItems (parseB rs L n) r x count [] p).to fun l => .mk x [] l) w)
theorem IsRule.below0 {r : RuleV} {cs : List Value} {w w' : World} (h : IsRule r cs w) (hb : Below w.heap.size w w') : IsRule r cs w':=by
 obtain ⟨a4,c4,a5,c5,a6,c6,a7,c7,e,h4,h5,h6,h7⟩:=h
 exact ⟨a4,c4,a5,c5,a6,c6,a7,c7,e,h4.below hb,h5.below hb,h6.below hb,h7.below hb⟩
theorem iitems_step (w0 : World) (a ab : Option Addr) (rs : List RuleV) (cap cb : Nat) (L : List UInt8) (n : Nat) (hall : allV (kindI rs) rs) (ih : IReadC w0 a ab rs cap cb L n) : IItemsC w0 a ab rs cap cb L n:=by
 intro r cs x count p Rb Z o w hki hir hcount hit hp hS hR hz
 obtain ⟨a4,c4,a5,c5,a6,c6,a7,c7,rfl,r4,r5,r6,r7⟩:=hir
 have HIR : Hid (IsRule r [.string r.name,.int .i64 r.kind,.int .i64 r.size,.bool r.little,.slice a4 r.bytes.length c4,.slice a5 r.names.length c5,.slice a6 r.tags.length c6,.slice a7 r.kids.length c7] w0):=⟨a4,c4,a5,c5,a6,c6,a7,c7,rfl,r4,r5,r6,r7⟩
 have hZl : Z < w.heap.size:=hz.lt (by simp)
 have hRl : Rb < w.heap.size:=cell_lt (hR 0 _ rfl).1
 have hne:=hS.ne
 have hzw:=hS.z
 have hrw:=hS.rb
 have hw0s:=hS.below.size
 obtain ⟨wb,hwb⟩ : ∃ wb,wb = w.alloc (.cells #[.string r.name,.int .i64 r.kind,.int .i64 r.size,.bool r.little,.slice a4 r.bytes.length c4,.slice a5 r.names.length c5,.slice a6 r.tags.length c6,.slice a7 r.kids.length c7] 63):=⟨_,rfl⟩
 have hB:=zb1 hwb
 have hC:=zk1 hwb
 have hbs : wb.heap.size = w.heap.size + 1:=by subst hwb; simp
 obtain ⟨wm,hwm⟩ : ∃ wm,wm = wb.alloc (.cells (madeCells #[.int .i64 0,.slice none 0 0,.slice none 0 0] (count * 3)) 48):=⟨_,rfl⟩
 have hBm : Below w.heap.size w wm:=by subst hwm; exact hB.alloc (by omega) _
 have hms : wm.heap.size = w.heap.size + 2:=by subst hwm; simp [hbs]
 have hZero : ∀ j,j < count → PlacedAt (w.heap.size + 1) (j * 3) zeroVal wm:=by subst hwm; rw [← hbs]; exact made_zero count _ wb
 have hCm : CellsAt w.heap.size [.string r.name,.int .i64 r.kind,.int .i64 r.size,.bool r.little,.slice a4 r.bytes.length c4,.slice a5 r.names.length c5,.slice a6 r.tags.length c6,.slice a7 r.kids.length c7] wm:=by subst hwm; exact hC.below ((Below.refl _ _).alloc (Nat.le_refl _) _)
 have hzm:=hz.below hBm
 have hzb:=hz.below hB
 obtain ⟨G,hG⟩ : ∃ G,G = w.heap.size + 1:=⟨_,rfl⟩
 rw [← hG] at hZero
 obtain ⟨ws,hws⟩ : ∃ ws,ws = wm.setCell ⟨Z,o + 2,none⟩ (.slice (some ⟨G,0,none⟩) count count):=⟨_,rfl⟩
 have hTs : Turn (AtV Rb Z o) w ws:=by subst hws; exact (Turn.of_below _ hBm).trans (Turn.set (S:=AtV Rb Z o) (.inr ⟨rfl,by omega,by omega⟩)) fun _ _ _ h => h
 have hTm : Turn (fun k i => k = Z ∧ i = o + 2) wm ws:=by subst hws; exact Turn.set ⟨rfl,rfl⟩
 have hss : ws.heap.size = w.heap.size + 2:=by subst hws; simp [hms]
 have HZERO : Hid (∀ j,0 ≤ j → j < count → PlacedAt G (j * 3) zeroVal ws):=fun j _ hj => (hZero j hj).kept hTm fun i _ h => by have:=h.1; omega
 have HPL : Hid (PlacedAt Z o [.int .i64 x,.slice none 0 0,.slice (some ⟨G,0,none⟩) count count] ws):=by subst hws; have:=hzm.set 2 (.slice (some ⟨G,0,none⟩) count count) (by simp); exact this
 have HCS : Hid (CellsAt w.heap.size [.string r.name,.int .i64 r.kind,.int .i64 r.size,.bool r.little,.slice a4 r.bytes.length c4,.slice a5 r.names.length c5,.slice a6 r.tags.length c6,.slice a7 r.kids.length c7] ws):=hCm.turn hTm fun i _ h => by have:=h.1; omega
 have HRS : Hid (CellsAt Rb (rdCells a rs.length cap ab L.length cb p) ws):=(hR.below hBm).turn hTm fun i _ h => hne h.1.symm
 have HTS:=kq hTs
 have HRT:=kq (RowT.start n G (G + 1) ws)
 obtain ⟨F,hF⟩ : ∃ F,F = gotItems (parseB rs L n) r x count [] p:=⟨_,rfl⟩
 rw [← hF]
 have HF : Hid (F = gotItems (parseB rs L n) r x (count - 0) [] p):=hF
 have HB:=kq hwb
 have HM:=kq hwm
 have HWS:=kq hws
 have HIT:=kq hit
 have HIH:=kq ih
 have HALL:=kq hall
 have HKI:=kq hki
 have HSITE:=kq hS
 have hmk:=make_vals count (by omega)
 obtain ⟨z2,f2⟩ : wm.cell? ⟨Z,o + 2,none⟩ = some (.slice none 0 0) ∧ wm.frozen? ⟨Z,o + 2,none⟩ = false:=hzm 2 _ rfl
 have cn0 : (0 : Int) ≤ (count : Int):=by omega
 have HGB : Hid (wb.heap.size = G):=by show _ = _; omega
 have HGG:=kq hG
 have HSS:=kq hss
 clear hwb hwm hws hit ih hall hki hS hR hz hF hB hC hBm hCm hzm hzb hZero hTs hTm r4 r5 r6 r7 hbs hms hG hss
 go_enter Tryz.func166,Tryz.ntmps166
 go_upto_region 1 with fail
 rw [← HB.out]
 clear HB
 have hmk2:=hmk wb
 rw [← HM.out,HGB.out] at hmk2
 clear hmk HM
 go_upto_region 2 with fail
 rw [← HWS.out]
 clear HWS z2 f2 hmk2
 have z2:=(HPL.out 2 _ rfl).1
 go_wp2
 clear z2
 go_loopw [9,10,21] (fun _ _ iv W => ∃ (i q : Nat) (acc : List ValueV) (bls : List (List Nat)),i ≤ count ∧ iv = .int .i64 (i : Int) ∧ acc.length = i ∧ q ≤ L.length ∧ Hid (RowT n G (G + 1) bls acc W) ∧ Hid (F = gotItems (parseB rs L n) r x (count - i) acc q) ∧ Hid (CellsAt Rb (rdCells a rs.length cap ab L.length cb q) W) ∧ Hid (∀ j,i ≤ j → j < count → PlacedAt G (j * 3) zeroVal W) ∧ Hid (PlacedAt Z o [.int .i64 x,.slice none 0 0,.slice (some ⟨G,0,none⟩) count count] W) ∧ Hid (CellsAt w.heap.size [.string r.name,.int .i64 r.kind,.int .i64 r.size,.bool r.little,.slice a4 r.bytes.length c4,.slice a5 r.names.length c5,.slice a6 r.tags.length c6,.slice a7 r.kids.length c7] W) ∧ Hid (Turn (AtV Rb Z o) w W) ∧ w.heap.size + 2 ≤ W.heap.size) (fun _ _ iv _ => count - (intOf iv).toNat)
 case atStart => exact ⟨0,p,[],[],by omega,rfl,rfl,hp,HRT,HF,HRS,HZERO,HPL,HCS,HTS,by have:=HSS.out; omega⟩
 case round =>
  clear HRT HF HRS HZERO HPL HCS HTS HSS
  obtain ⟨i,q,acc,bls,hic,rfl,hal,hq,HRT,HF,HRS,HZERO,HPL,HCS,HTS,hws⟩:=hrel
  have i0 : (0 : Int) ≤ (i : Int):=by omega
  by_cases hlt : i < count
  ·have i1 : (i : Int) < (count : Int):=by omega
   obtain ⟨m,hm1,hm2,hmr,hmn⟩:=HIT.out i hlt
   have HGE:=HGG.out
   have hGR : G ≠ Rb:=by omega
   have hGZ : G ≠ Z:=by omega
   have hGw : G < wr.heap.size:=by omega
   have HSI : Hid (Site w0 a ab rs.length cap cb L Rb G (i * 3) wr):=⟨(HSITE.out.next HTS.out).below,HSITE.out.rb,by omega,hGR,HSITE.out.src,HSITE.out.len⟩
   have HKID : Hid (∀ W',Below wr.heap.size wr W' → Calls Tryz.prog 118 #[.agg #[.string r.name,.int .i64 r.kind,.int .i64 r.size,.bool r.little,.slice a4 r.bytes.length c4,.slice a5 r.names.length c5,.slice a6 r.tags.length c6,.slice a7 r.kids.length c7],.int .i64 x,.int .i64 (i : Int)] W' fun e w' => e = .returned (.int .i64 (m : Int)) ∧ Below W'.heap.size W' w'):=fun W' hb => by
    have h1:=kidof_impl rs r [.string r.name,.int .i64 r.kind,.int .i64 r.size,.bool r.little,.slice a4 r.bytes.length c4,.slice a5 r.names.length c5,.slice a6 r.tags.length c6,.slice a7 r.kids.length c7] x i W' (by omega) HKI.out (HIR.out.below0 (HSI.out.below.trans (hb.mono HSI.out.below.size)))
    rw [hm1] at h1
    exact h1
   have HRD : Hid (∀ W',Below wr.heap.size wr W' → Calls Tryz.prog 124 #[.pointer (some ⟨Rb,0,none⟩),.int .i64 (m : Int),.pointer (some ⟨G,i * 3,none⟩)] W' (GotAt a ab rs.length cap cb L.length Rb G (i * 3) n (parseB rs L n (m : Int) q) W')):=fun W' hb =>
    HIH.out m q Rb G (i * 3) W' hmr hmn hq (HSI.out.next (Turn.of_below _ hb)) (HRS.out.below hb) ((HZERO.out i (Nat.le_refl _) hlt).below hb)
   have HW0 : Hid (Below wr.heap.size wr wr.drew):=below_drewN (Below.refl _ wr) 1
   have HNT : ∀ {W : World} (_ : Turn (AtV Rb G (i * 3)) wr W) (k j : Nat),k ≠ Rb → (k ≠ G) → ¬ AtV Rb G (i * 3) k j:=fun _ k j h1 h2 h => by
    rcases h with h | h
    ·exact h1 h.1
    ·exact h2 h.1
   have HK : Hid (∀ W,Turn (AtV Rb G (i * 3)) wr W → PlacedAt Z o [.int .i64 x,.slice none 0 0,.slice (some ⟨G,0,none⟩) count count] W ∧ CellsAt w.heap.size [.string r.name,.int .i64 r.kind,.int .i64 r.size,.bool r.little,.slice a4 r.bytes.length c4,.slice a5 r.names.length c5,.slice a6 r.tags.length c6,.slice a7 r.kids.length c7] W):=fun W g => ⟨HPL.out.kept g fun j _ => HNT g Z (o + j) hne (fun e => hGZ e.symm),HCS.out.turn g fun j _ => HNT g w.heap.size j (by omega) (by omega)⟩
   have HS9 : Hid (∀ W,Turn (AtV Rb G (i * 3)) wr W → W.cell? ⟨w.heap.size,0,none⟩ = some (.string r.name) ∧ W.cell? ⟨w.heap.size,1,none⟩ = some (.int .i64 r.kind) ∧ W.cell? ⟨w.heap.size,2,none⟩ = some (.int .i64 r.size) ∧ W.cell? ⟨w.heap.size,3,none⟩ = some (.bool r.little) ∧ W.cell? ⟨w.heap.size,4,none⟩ = some (.slice a4 r.bytes.length c4) ∧ W.cell? ⟨w.heap.size,5,none⟩ = some (.slice a5 r.names.length c5) ∧ W.cell? ⟨w.heap.size,6,none⟩ = some (.slice a6 r.tags.length c6) ∧ W.cell? ⟨w.heap.size,7,none⟩ = some (.slice a7 r.kids.length c7) ∧ W.cell? ⟨Z,o,none⟩ = some (.int .i64 x) ∧ W.cell? ⟨Z,o + 2,none⟩ = some (.slice (some ⟨G,0,none⟩) count count)):=fun W g => by
    obtain ⟨h1,h2⟩:=HK.out W g
    exact ⟨(h2 0 _ rfl).1,(h2 1 _ rfl).1,(h2 2 _ rfl).1,(h2 3 _ rfl).1,(h2 4 _ rfl).1,(h2 5 _ rfl).1,(h2 6 _ rfl).1,(h2 7 _ rfl).1,(h1 0 _ rfl).1,(h1 2 _ rfl).1⟩
   have hstep : gotItems (parseB rs L n) r x (count - i) acc q = match parseB rs L n (m : Int) q with
     | .bad q c => .bad q c
     | .ok v q => gotItems (parseB rs L n) r x (count - (i + 1)) (acc ++ [v]) q:=by
    rw [show count - i = (count - (i + 1)) + 1 from by omega,gotItems,hal,hm2]
    cases parseB rs L n (m : Int) q <;> rfl
   have hfine:=parse_fine HALL.out L n m hmr hmn q hq
   have HST:=kq hstep
   clear hstep hm1 hm2 HNT HGE
   cases hg : parseB rs L n (m : Int) q with
   | bad q2 cc =>
    have HFB : Hid (F = .bad q2 cc):=by show _ = _; rw [HF.out,HST.out,hg]
    rw [hg] at HRD
    clear hg HST HF hfine
    go_upto_region 5 with fail
    go_region_held3 (fun W => W.cell? ⟨w.heap.size,0,none⟩ = some (.string r.name) ∧ W.cell? ⟨w.heap.size,1,none⟩ = some (.int .i64 r.kind) ∧ W.cell? ⟨w.heap.size,2,none⟩ = some (.int .i64 r.size) ∧ W.cell? ⟨w.heap.size,3,none⟩ = some (.bool r.little) ∧ W.cell? ⟨w.heap.size,4,none⟩ = some (.slice a4 r.bytes.length c4) ∧ W.cell? ⟨w.heap.size,5,none⟩ = some (.slice a5 r.names.length c5) ∧ W.cell? ⟨w.heap.size,6,none⟩ = some (.slice a6 r.tags.length c6) ∧ W.cell? ⟨w.heap.size,7,none⟩ = some (.slice a7 r.kids.length c7) ∧ W.cell? ⟨Z,o,none⟩ = some (.int .i64 x) ∧ W.cell? ⟨Z,o + 2,none⟩ = some (.slice (some ⟨G,0,none⟩) count count)) (first | exact HS9.out _ (Turn.of_below _ HW0.out) | exact HS9.out _ (Turn.of_below _ (HW0.out.trans (hb5.mono HW0.out.size))) | exact HS9.out _ ((Turn.of_below _ (HW0.out.trans (hb5.mono HW0.out.size))).trans ht6 fun _ _ _ h => h)) (first | (go_at_call 118; refine (HKID.out _ HW0.out).mono ?_; rintro e w5 ⟨rfl,hb5⟩) | (go_at_call 124; refine (HRD.out _ (HW0.out.trans (hb5.mono HW0.out.size))).mono ?_; rintro e w6 ⟨⟨he6,cs6,hl6,hp6⟩,ht6⟩; unfold RErr at he6; subst he6))
    have HT6:=kq ((Turn.of_below (AtV Rb G (i * 3)) (HW0.out.trans (hb5.mono HW0.out.size))).trans ht6 fun _ _ _ h => h)
    clear ht6 hb5 hp6 hl6
    go_wp2
    go_ret
    rw [HFB.out]
    have HGE:=HGG.out
    refine ⟨⟨rfl,_,rfl,(HK.out _ HT6.out).1⟩,HTS.out.trans HT6.out fun k j hk h => ?_⟩
    rcases h with h | h
    ·exact .inl h
    ·have:=h.1; omega
   | ok v q2 =>
    rw [hg] at hfine
    have HFN : Hid (F = gotItems (parseB rs L n) r x (count - (i + 1)) (acc ++ [v]) q2):=by show _ = _; rw [HF.out,HST.out,hg]
    rw [hg] at HRD
    have hq2 : q2 ≤ L.length:=hfine.2
    clear hg HST HF hfine
    go_upto_region 5 with fail
    go_region_held3 (fun W => W.cell? ⟨w.heap.size,0,none⟩ = some (.string r.name) ∧ W.cell? ⟨w.heap.size,1,none⟩ = some (.int .i64 r.kind) ∧ W.cell? ⟨w.heap.size,2,none⟩ = some (.int .i64 r.size) ∧ W.cell? ⟨w.heap.size,3,none⟩ = some (.bool r.little) ∧ W.cell? ⟨w.heap.size,4,none⟩ = some (.slice a4 r.bytes.length c4) ∧ W.cell? ⟨w.heap.size,5,none⟩ = some (.slice a5 r.names.length c5) ∧ W.cell? ⟨w.heap.size,6,none⟩ = some (.slice a6 r.tags.length c6) ∧ W.cell? ⟨w.heap.size,7,none⟩ = some (.slice a7 r.kids.length c7) ∧ W.cell? ⟨Z,o,none⟩ = some (.int .i64 x) ∧ W.cell? ⟨Z,o + 2,none⟩ = some (.slice (some ⟨G,0,none⟩) count count)) (first | exact HS9.out _ (Turn.of_below _ HW0.out) | exact HS9.out _ (Turn.of_below _ (HW0.out.trans (hb5.mono HW0.out.size))) | exact HS9.out _ ((Turn.of_below _ (HW0.out.trans (hb5.mono HW0.out.size))).trans ht6 fun _ _ _ h => h)) (first | (go_at_call 118; refine (HKID.out _ HW0.out).mono ?_; rintro e w5 ⟨rfl,hb5⟩) | (go_at_call 124; refine (HRD.out _ (HW0.out.trans (hb5.mono HW0.out.size))).mono ?_; rintro e w6 ⟨⟨rfl,hr6,bl6,cs6,ho6,hp6,hbl6⟩,ht6⟩))
    have hb5':=HW0.out.trans (hb5.mono HW0.out.size)
    have HGE:=HGG.out
    have HT6:=kq ((Turn.of_below (AtV Rb G (i * 3)) hb5').trans ht6 fun _ _ _ h => h)
    have HRT6 : Hid (RowT n G (G + 1) (bls ++ [bl6]) (acc ++ [v]) w6):=by
     refine HRT.out.snoc HT6.out (fun j hj h => ?_) (fun b hb j h => ?_) ho6 (by rw [hal]; exact hp6) (fun b hb => ?_) (by omega)
     ·rcases h with h | h
      ·exact hGR h.1
      ·have h1:=h.2.1; rw [hal] at hj; omega
     ·rcases h with h | h
      ·have:=h.1; omega
      ·have:=h.1; omega
     ·have h1:=hbl6 b hb; have h2:=hb5'.size; omega
    have HRS6:=kq hr6
    have HZ6 : Hid (∀ j,i + 1 ≤ j → j < count → PlacedAt G (j * 3) zeroVal w6):=fun j hj hjc => (HZERO.out j (by omega) hjc).kept HT6.out fun c hc h => by
     have hc3 : c < 3:=hc
     rcases h with h | h
     ·exact hGR h.1
     ·have h1:=h.2.2; omega
    obtain ⟨hp6',hc6'⟩:=HK.out _ HT6.out
    have HP6:=kq hp6'
    have HC6:=kq hc6'
    have HTS6 : Hid (Turn (AtV Rb Z o) w w6):=HTS.out.trans HT6.out fun k j hk h => by
     rcases h with h | h
     ·exact .inl h
     ·have:=h.1; omega
    have hsz6 : w.heap.size + 2 ≤ w6.heap.size:=Nat.le_trans hws HT6.out.size
    clear ht6 hb5 hb5' hp6 hr6 ho6 hbl6 hp6' hc6' HRT HRS HZERO HPL HCS HTS HT6 HK HS9 HRD HKID HSI HW0 HGE
    go_wp2
    go_roundw
    case rel => exact ⟨i + 1,q2,acc ++ [v],bls ++ [bl6],by omega,by go_num,by simp [hal],hq2,HRT6,HFN,HRS6,HZ6,HP6,HC6,HTS6,hsz6⟩
    case measure => simp [intOf]; omega
  ·have i1 : ¬ (i : Int) < (count : Int):=by omega
   have hie : i = count:=by omega
   have HFN : Hid (F = .ok acc q):=by show _ = _; rw [HF.out,hie,Nat.sub_self,gotItems]
   have htree:=HRT.out.tree (num:=x) (bs:=[]) (ab:=none) (c1:=0) (c2:=count) (b1:=[]) ⟨Nat.le_refl _,fun _ => rfl⟩ (BytT.none0 wr none) (by simp) (fun b hb => by cases hb) (Nat.lt_succ_self G)
   rw [hal,hie] at htree
   have HTR:=kq htree
   clear htree HF hie
   go_wp2
   go_ret
   rw [HFN.out]
   obtain ⟨bl,ho,hbl⟩:=HTR.out
   have HGE:=HGG.out
   refine ⟨⟨rfl,HRS.out,bl,_,ho,HPL.out,fun b hb => ?_⟩,HTS.out⟩
   rcases hbl b hb with h | h
   ·cases h
   ·omega
theorem OwnT.at3 {Z o : Nat} {cs : List Value} {w : World} (h : PlacedAt Z o cs w) (hl : cs.length = 3) : ∃ u0 u1 u2,cs = [u0,u1,u2]:=by
 match cs,hl with
 | [a,b,c],_ => exact ⟨a,b,c,rfl⟩
theorem ichecked (w0 : World) (a ab : Option Addr) (rs : List RuleV) (cap cb : Nat) (L : List UInt8) (n : Nat) (hall : allV (kindI rs) rs) (ih : IItemsC w0 a ab rs cap cb L n) (r : RuleV) (cs : List Value) (p Rb Z o : Nat) (w : World) (hki : kindI rs r = true) (hir : IsRule r cs w0)
  (hit : ∃ m : Nat,kidI r 0 0 = (m : Int) ∧ itemR r 0 0 = (m : Int) ∧ m < rs.length ∧ m < n) (hp : p ≤ L.length) (hS : Site w0 a ab rs.length cap cb L Rb Z o w) (hR : CellsAt Rb (rdCells a rs.length cap ab L.length cb p) w) (hz : PlacedAt Z o [.int .i64 0,.slice none 0 0,.slice none 0 0] w) :
  Calls Tryz.prog 167 #[.pointer (some ⟨Rb,0,none⟩),.agg cs.toArray,.pointer (some ⟨Z,o,none⟩)] w (GotAt a ab rs.length cap cb L.length Rb Z o (n + 1) (gotSum L p (gotItems (parseB rs L n) r 0 1 [] p)) w):=by
 obtain ⟨m,hm1,hm2,hmr,hmn⟩:=hit
 have hitems:=fun W hS hR hz => ih r cs 0 1 p Rb Z o W hki hir (by omega) (fun i hi => by
  have : i = 0:=by omega
  subst this
  exact ⟨m,hm1,hm2,hmr,hmn⟩) hp hS hR hz
 have hfine : Fine L p (gotItems (parseB rs L n) r 0 1 [] p):=gotItems_fine 1 [] p (fun i hi p hp => by
  have : i = 0:=by omega
  subst this
  rw [List.length_nil,Nat.zero_add]
  rw [hm2]
  exact parse_fine hall L n m hmr hmn p hp) hp
 obtain ⟨a4,c4,a5,c5,a6,c6,a7,c7,rfl,-,-,-,-⟩:=hir
 have hZl : Z < w.heap.size:=hz.lt (by simp)
 have hRl : Rb < w.heap.size:=cell_lt (hR 0 _ rfl).1
 have hne:=hS.ne
 have hl:=hS.len
 obtain ⟨wb,hwb⟩ : ∃ wb,wb = w.alloc (.cells #[.string r.name,.int .i64 r.kind,.int .i64 r.size,.bool r.little,.slice a4 r.bytes.length c4,.slice a5 r.names.length c5,.slice a6 r.tags.length c6,.slice a7 r.kids.length c7] 63):=⟨_,rfl⟩
 have hB:=zb1 hwb
 have hC:=zk1 hwb
 have hTB : Turn (AtV Rb Z o) w wb:=Turn.of_below _ hB
 have hitb:=hitems wb (hS.next hTB) (hR.below hB) (hz.below hB)
 have hRb:=hR.below hB
 have c2:=(hRb 2 _ rfl).1
 have k0:=(hC 0 _ rfl).1
 have k1:=(hC 1 _ rfl).1
 have k2:=(hC 2 _ rfl).1
 have k3:=(hC 3 _ rfl).1
 have k4:=(hC 4 _ rfl).1
 have k5:=(hC 5 _ rfl).1
 have k6:=(hC 6 _ rfl).1
 have k7:=(hC 7 _ rfl).1
 have HB:=kq hwb
 have HTB:=kq hTB
 have HS:=kq hS
 have hws : w.heap.size ≤ wb.heap.size:=hB.size
 clear hwb hB hC hTB hitems hR hRb hz hS hall ih hki hm1 hm2 hmr hmn
 cases hg : gotItems (parseB rs L n) r 0 1 [] p with
 | bad q c =>
  rw [hg] at hitb
  have HIT:=kq hitb
  clear hg hitb hfine
  go_enter Tryz.func167,Tryz.ntmps167
  go_upto_region 1 with fail
  rw [← HB.out]
  clear HB
  go_wp2_with ((go_at_call 166; refine HIT.out.mono ?_; rintro e w1 ⟨⟨he1,cs1,hl1,hp1⟩,ht1⟩; unfold RErr at he1; subst he1))
  try go_wp2
  go_ret
  exact ⟨⟨rfl,cs1,hl1,hp1⟩,HTB.out.trans ht1 fun _ _ _ h => h⟩
 | ok l q =>
  rw [hg] at hitb hfine
  have hq : q ≤ L.length:=hfine.2
  have hpq : p ≤ q:=hfine.1
  have HIT:=kq hitb
  clear hg hitb hfine
  cases hc : L[q]? with
  | none =>
   rw [gotSum_none hc]
   have hql : L.length ≤ q:=by
    rcases Nat.lt_or_ge q L.length with h | h
    ·rw [List.getElem?_eq_getElem h] at hc; cases hc
    ·exact h
   go_enter Tryz.func167,Tryz.ntmps167
   go_upto_region 1 with fail
   rw [← HB.out]
   clear HB
   go_upto_region 3 with (go_at_call 166; refine HIT.out.mono ?_; rintro e w1 ⟨⟨rfl,hr1,bl1,cs1,ho1,hp1,hb1⟩,ht1⟩)
   have hr2:=(hr1 2 _ rfl).1
   have HR1:=kq hr1
   have HT1:=kq (HTB.out.trans ht1 fun _ _ _ h => h)
   have HP1:=kq hp1
   have hl1:=ho1.length
   clear hr1 ho1 hp1 hb1 ht1 c2 k0 k1 k2 k3 k4 k5 k6 k7
   go_upto_region 7 with (go_at_call 204; refine (take_short a ab rs.length cap cb q Rb 1 L w1 HR1.out hl hq (by omega) (by omega)).mono ?_; rintro e w2 ⟨he2,hb2⟩; unfold RErr at he2; subst he2)
   have HT2:=kq (HT1.out.trans (Turn.of_below (AtV Rb Z o) hb2) fun _ _ _ h => h)
   have HP2:=kq (HP1.out.below hb2)
   clear hb2
   go_quiet (fail)
   go_wp2
   go_ret
   exact ⟨⟨rfl,cs1,hl1,HP2.out.below (below_drewN (Below.refl _ _) _)⟩,HT2.out.trans (turn_drewN (AtV Rb Z o) _ _) fun _ _ _ h => h⟩
  | some c =>
   have hql : q < L.length:=by
    rcases Nat.lt_or_ge q L.length with h | h
    ·exact h
    ·rw [List.getElem?_eq_none h] at hc; cases hc
   have hcq : L[q] = c:=by rw [List.getElem?_eq_getElem hql] at hc; injection hc
   rw [gotSum_some hc]
   obtain ⟨SM,hSM⟩ : ∃ SM,SM = sumB ((L.drop p).take (q - p)) 0:=⟨_,rfl⟩
   rw [← hSM]
   have HSM:=kq hSM
   have hlen : ((L.drop p).take (q - p)).length = q - p:=by rw [List.length_take,List.length_drop]; omega
   have hone : (L.drop q).take 1 = [c]:=by rw [List.drop_eq_getElem_cons hql,List.take_succ_cons,List.take_zero,hcq]
   clear hSM hc
   have HONE:=kq hone
   obtain ⟨A2,hcall,hA2⟩:=part_impl ab L cb p q w hpq hq HS.out.srcAt
   obtain ⟨PB,hPB⟩ : ∃ PB,PB = (L.drop p).take (q - p):=⟨_,rfl⟩
   rw [← hPB] at hlen hA2
   have HP:=kq hcall
   have HA2:=kq hA2
   have HPB:=kq hPB
   have hsumc : ∀ W,SrcB ab L cb W → Calls Tryz.prog 208 #[.slice A2 (q - p) (q - p)] W fun e w' => e = .returned (.int .i64 (SM : Int)) ∧ Below W.heap.size W w':=fun W hs => by
    have h1:=sum_impl A2 PB (q - p) W (by omega) (hA2 W hs).1
    rw [hlen,HPB.out,← HSM.out] at h1
    exact h1
   have HSUM:=kq hsumc
   clear hcall hA2 hPB hsumc hone
   obtain ⟨D,hD⟩ : ∃ D,D = q - p:=⟨_,rfl⟩
   rw [← hD] at HP HSUM
   clear hD hlen HA2
   by_cases hcs : c.toNat = SM
   ·rw [if_pos hcs]
    subst hcs
    go_enter Tryz.func167,Tryz.ntmps167
    go_upto_region 1 with fail
    rw [← HB.out]
    clear HB
    go_upto_region 3 with (go_at_call 166; refine HIT.out.mono ?_; rintro e w1 ⟨⟨rfl,hr1,bl1,cs1,ho1,hp1,hb1⟩,ht1⟩)
    have hr2:=(hr1 2 _ rfl).1
    have HR1:=kq hr1
    have HT1:=kq (HTB.out.trans ht1 fun _ _ _ h => h)
    have HP1:=kq hp1
    have HO1:=kq ho1
    have HB1:=kq hb1
    have hl1:=ho1.length
    have HS1:=kq (HS.out.next HT1.out)
    clear hr1 ho1 hp1 hb1 ht1 c2 k0 k1 k2 k3 k4 k5 k6 k7
    go_upto_region 7 with (go_at_call 204; refine (take_ok a ab rs.length cap cb q 1 Rb L w1 HR1.out HS1.out.srcAt hl (by omega)).mono ?_; rintro e w2 ⟨⟨A,rfl,hA⟩,ht2,hr2'⟩)
    have HT2:=kq ht2
    have HR2:=kq hr2'
    have HS2:=kq (HS1.out.next (ht2.mono fun _ _ _ h => .inl h))
    have hA2:=hA w2 HS2.out.srcAt
    rw [HONE.out] at hA2
    obtain ⟨ba,oa,rfl,hca⟩:=hA2.1 0 (by simp)
    have hc1:=(hr2' 1 _ rfl).1
    have hRl2 : Rb < w2.heap.size:=cell_lt hc1
    rw [Nat.add_zero] at hca
    have HW0 : Hid (Below w2.heap.size w2 w2.drew):=below_drewN (Below.refl _ w2) 1
    have HK : Hid (∀ W,Below w2.heap.size w2 W → W.cell? ⟨Rb,1,none⟩ = some (.slice ab L.length cb) ∧ W.cell? ⟨ba,oa,none⟩ = some (.int .u8 (c.toNat : Int))):=fun W hb => ⟨cellK hb (Nat.le_refl _) hc1,cellK hb (Nat.le_refl _) hca⟩
    have HZ2 : Hid (PlacedAt Z o cs1 w2):=HP1.out.kept ht2 fun i _ h => hne h.1
    clear ht2 hr2' hA hA2 hc1 hca
    have hcb0 : (0 : Int) ≤ (c.toNat : Int):=by omega
    have hcb1 : (c.toNat : Int) < 256:=by have:=c.toNat_lt; omega
    have hwr : IntKind.i64.wrap (c.toNat : Int) = (c.toNat : Int):=by rw [IntKind.wrap_i64]; omega
    go_region_held3 (fun W => W.cell? ⟨Rb,1,none⟩ = some (.slice ab L.length cb) ∧ W.cell? ⟨ba,oa,none⟩ = some (.int .u8 (c.toNat : Int))) (first | exact HK.out _ HW0.out | exact HK.out _ (HW0.out.trans (hb4.mono HW0.out.size))) (first | (go_at_call 209; refine (HP.out _).mono ?_; rintro e w3 ⟨rfl,rfl⟩) | (go_at_call 208; refine (HSUM.out _ (HS2.out.srcAt.below HW0.out)).mono ?_; rintro e w4 ⟨rfl,hb4⟩))
    have HB4:=kq (HW0.out.trans (hb4.mono HW0.out.size))
    clear hb4
    go_wp2
    go_ret
    refine ⟨⟨rfl,HR2.out.below HB4.out,bl1,cs1,(HO1.out.turn HT2.out fun b hb j hj => ?_).below HB4.out,HZ2.out.below HB4.out,fun b hb => ?_⟩,((HT1.out.trans (HT2.out.mono fun _ _ _ h => .inl h) fun _ _ _ h => h).trans (Turn.of_below (AtV Rb Z o) HB4.out) fun _ _ _ h => h)⟩
    ·have h1:=HB1.out b hb
     have h2:=hj.1
     omega
    ·have h1:=HB1.out b hb
     omega
   ·rw [if_neg hcs]
    have HCS:=kq hcs
    clear hcs
    go_enter Tryz.func167,Tryz.ntmps167
    go_upto_region 1 with fail
    rw [← HB.out]
    clear HB
    go_upto_region 3 with (go_at_call 166; refine HIT.out.mono ?_; rintro e w1 ⟨⟨rfl,hr1,bl1,cs1,ho1,hp1,hb1⟩,ht1⟩)
    have hr2:=(hr1 2 _ rfl).1
    have HR1:=kq hr1
    have HT1:=kq (HTB.out.trans ht1 fun _ _ _ h => h)
    have HP1:=kq hp1
    have HO1:=kq ho1
    have HB1:=kq hb1
    have hl1:=ho1.length
    have HS1:=kq (HS.out.next HT1.out)
    clear hr1 ho1 hp1 hb1 ht1 c2 k0 k1 k2 k3 k4 k5 k6 k7
    go_upto_region 7 with (go_at_call 204; refine (take_ok a ab rs.length cap cb q 1 Rb L w1 HR1.out HS1.out.srcAt hl (by omega)).mono ?_; rintro e w2 ⟨⟨A,rfl,hA⟩,ht2,hr2'⟩)
    have HT2:=kq ht2
    have HR2:=kq hr2'
    have HS2:=kq (HS1.out.next (ht2.mono fun _ _ _ h => .inl h))
    have hA2:=hA w2 HS2.out.srcAt
    rw [HONE.out] at hA2
    obtain ⟨ba,oa,rfl,hca⟩:=hA2.1 0 (by simp)
    have hc1:=(hr2' 1 _ rfl).1
    have hRl2 : Rb < w2.heap.size:=cell_lt hc1
    rw [Nat.add_zero] at hca
    have HW0 : Hid (Below w2.heap.size w2 w2.drew):=below_drewN (Below.refl _ w2) 1
    have HK : Hid (∀ W,Below w2.heap.size w2 W → W.cell? ⟨Rb,1,none⟩ = some (.slice ab L.length cb) ∧ W.cell? ⟨ba,oa,none⟩ = some (.int .u8 (c.toNat : Int))):=fun W hb => ⟨cellK hb (Nat.le_refl _) hc1,cellK hb (Nat.le_refl _) hca⟩
    have HZ2 : Hid (PlacedAt Z o cs1 w2):=HP1.out.kept ht2 fun i _ h => hne h.1
    clear ht2 hr2' hA hA2 hc1 hca
    have hcb0 : (0 : Int) ≤ (c.toNat : Int):=by omega
    have hcb1 : (c.toNat : Int) < 256:=by have:=c.toNat_lt; omega
    have hwr : IntKind.i64.wrap (c.toNat : Int) = (c.toNat : Int):=by rw [IntKind.wrap_i64]; omega
    have hcs:=HCS.out
    have e3 : ((c.toNat : Int) != (SM : Int)) = true:=by rw [bne_iff_ne]; omega
    clear hcs
    go_region_held3 (fun W => W.cell? ⟨Rb,1,none⟩ = some (.slice ab L.length cb) ∧ W.cell? ⟨ba,oa,none⟩ = some (.int .u8 (c.toNat : Int))) (first | exact HK.out _ HW0.out | exact HK.out _ (HW0.out.trans (hb4.mono HW0.out.size))) (first | (go_at_call 209; refine (HP.out _).mono ?_; rintro e w3 ⟨rfl,rfl⟩) | (go_at_call 208; refine (HSUM.out _ (HS2.out.srcAt.below HW0.out)).mono ?_; rintro e w4 ⟨rfl,hb4⟩))
    have HB4:=kq (HW0.out.trans (hb4.mono HW0.out.size))
    clear hb4
    go_wp2
    go_ret
    exact ⟨⟨rfl,cs1,hl1,HZ2.out.below HB4.out⟩,((HT1.out.trans (HT2.out.mono fun _ _ _ h => .inl h) fun _ _ _ h => h).trans (Turn.of_below (AtV Rb Z o) HB4.out) fun _ _ _ h => h)⟩
end Go.Proofs.YtefkhknfjohnaaaGreatDoor
