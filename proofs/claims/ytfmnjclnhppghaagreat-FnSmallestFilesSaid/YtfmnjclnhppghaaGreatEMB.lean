/- The contract of the program's sizeOfParts, with Min and with Max. -/
import Derived.Test.YtfmnjclnhppghaaGreatEK
import Derived.Test.YtfmnjclnhppghaaGreatEArr
import Derived.Test.YtfmnjclnhppghaaGreatEQL
import Derived.Test.YtfmnjclnhppghaaGreatEGDI
import Derived.Test.YtfmnjclnhppghaaGreatEM1
import Derived.Deep.CutRange
import Derived.IntWalk
import Derived.Deep.RegionHeld3
set_option maxRecDepth 100000
set_option maxHeartbeats 8000000
namespace Go.Proofs.YtfmnjclnhppghaaGreat
open Go Go.RowKit
theorem partsFst_1 (rs:List RuleV) (r:RuleV) (cs:List Value) (zs:List Int) (n:Nat) (w:World) (_hn:n ≤ 24) (hki:kindI rs r = true) (hkd:∀ k ∈ r.kids,0 ≤ k ∧ k < (n:Int)) (hib:InB 401 zs) (_hc7:Cap7 cs) (h:IsRule r cs w) (hk:r.kind = 1) :
  Calls Tryz.prog 137 #[.agg cs.toArray,.agg (arr24 zs).toArray,.func (.func 104) #[] #[]] w fun e w' => e = .returned (.int .i64 (defOf zs r)) ∧ Below w.heap.size w w':=by
 obtain ⟨a4,c4,a5,c5,a6,c6,a7,c7,rfl,h4,h5,h6,h7⟩:=h
 obtain ⟨z,hz⟩ : ∃ z,z = (arr24 zs).toArray:=⟨_,rfl⟩
 obtain ⟨w0,hw0⟩ : ∃ w0,w0 = (w.alloc (.cells #[.string r.name,.int .i64 r.kind,.int .i64 r.size,.bool r.little,.slice a4 r.bytes.length c4,.slice a5 r.names.length c5,.slice a6 r.tags.length c6,.slice a7 r.kids.length c7] 47)).alloc (.cells z 127):=⟨_,rfl⟩
 have hB:=zb2 hw0
 have HC:=kq (zk2 hw0)
 have HY:Hid (CellsAt (w.heap.size + 1) (arr24 zs) w0):=by subst hw0; subst hz; have h1:=CellsAt.new (w.alloc (.cells #[.string r.name,.int .i64 r.kind,.int .i64 r.size,.bool r.little,.slice a4 r.bytes.length c4,.slice a5 r.names.length c5,.slice a6 r.tags.length c6,.slice a7 r.kids.length c7] 47)) (arr24 zs) 127; rw [World.size_alloc] at h1; exact h1
 have HR7:=kq (h7.below hB)
 have HB:=kq hB
 have HKI:=kq hki
 have HKD:=kq hkd
 have HIB:=kq hib
 have hW:=kq hw0
 have c1:=(HC.out 1 _ rfl).1
 rw [hk] at c1
 have hHZ:=kq hz
 clear hB hki hkd hib hw0 h4 h5 h6 h7
 have HZ:Hid (r.size = defOf zs r):=by show _ = _; unfold defOf minOf; simp [hk]
 have c2:=(HC.out 2 _ rfl).1
 clear hk
 go_enter Tryz.func137,Tryz.ntmps137
 rw [← hz]
 clear hz
 go_upto_region 1 with fail
 rw [← hW.out]
 clear hW
 go_wp2
 go_ret
 exact ⟨ret_int HZ.out,HB.out⟩

theorem partsFst_2 (rs:List RuleV) (r:RuleV) (cs:List Value) (zs:List Int) (n:Nat) (w:World) (_hn:n ≤ 24) (hki:kindI rs r = true) (hkd:∀ k ∈ r.kids,0 ≤ k ∧ k < (n:Int)) (hib:InB 401 zs) (_hc7:Cap7 cs) (h:IsRule r cs w) (hk:r.kind = 2) :
  Calls Tryz.prog 137 #[.agg cs.toArray,.agg (arr24 zs).toArray,.func (.func 104) #[] #[]] w fun e w' => e = .returned (.int .i64 (defOf zs r)) ∧ Below w.heap.size w w':=by
 obtain ⟨a4,c4,a5,c5,a6,c6,a7,c7,rfl,h4,h5,h6,h7⟩:=h
 obtain ⟨z,hz⟩ : ∃ z,z = (arr24 zs).toArray:=⟨_,rfl⟩
 obtain ⟨w0,hw0⟩ : ∃ w0,w0 = (w.alloc (.cells #[.string r.name,.int .i64 r.kind,.int .i64 r.size,.bool r.little,.slice a4 r.bytes.length c4,.slice a5 r.names.length c5,.slice a6 r.tags.length c6,.slice a7 r.kids.length c7] 47)).alloc (.cells z 127):=⟨_,rfl⟩
 have hB:=zb2 hw0
 have HC:=kq (zk2 hw0)
 have HY:Hid (CellsAt (w.heap.size + 1) (arr24 zs) w0):=by subst hw0; subst hz; have h1:=CellsAt.new (w.alloc (.cells #[.string r.name,.int .i64 r.kind,.int .i64 r.size,.bool r.little,.slice a4 r.bytes.length c4,.slice a5 r.names.length c5,.slice a6 r.tags.length c6,.slice a7 r.kids.length c7] 47)) (arr24 zs) 127; rw [World.size_alloc] at h1; exact h1
 have HR7:=kq (h7.below hB)
 have HB:=kq hB
 have HKI:=kq hki
 have HKD:=kq hkd
 have HIB:=kq hib
 have hW:=kq hw0
 have c1:=(HC.out 1 _ rfl).1
 rw [hk] at c1
 have hHZ:=kq hz
 clear hB hki hkd hib hw0 h4 h5 h6 h7
 have HZ:Hid ((r.bytes.length:Int) = defOf zs r):=by show _ = _; unfold defOf minOf; simp [hk]
 have c4:=(HC.out 4 _ rfl).1
 clear hk
 go_enter Tryz.func137,Tryz.ntmps137
 rw [← hz]
 clear hz
 go_upto_region 1 with fail
 rw [← hW.out]
 clear hW
 go_wp2
 go_ret
 exact ⟨ret_int HZ.out,HB.out⟩

theorem partsFst_3 (rs:List RuleV) (r:RuleV) (cs:List Value) (zs:List Int) (n:Nat) (w:World) (_hn:n ≤ 24) (hki:kindI rs r = true) (hkd:∀ k ∈ r.kids,0 ≤ k ∧ k < (n:Int)) (hib:InB 401 zs) (_hc7:Cap7 cs) (h:IsRule r cs w) (hk:r.kind = 3) :
  Calls Tryz.prog 137 #[.agg cs.toArray,.agg (arr24 zs).toArray,.func (.func 104) #[] #[]] w fun e w' => e = .returned (.int .i64 (defOf zs r)) ∧ Below w.heap.size w w':=by
 obtain ⟨a4,c4,a5,c5,a6,c6,a7,c7,rfl,h4,h5,h6,h7⟩:=h
 obtain ⟨z,hz⟩ : ∃ z,z = (arr24 zs).toArray:=⟨_,rfl⟩
 obtain ⟨w0,hw0⟩ : ∃ w0,w0 = (w.alloc (.cells #[.string r.name,.int .i64 r.kind,.int .i64 r.size,.bool r.little,.slice a4 r.bytes.length c4,.slice a5 r.names.length c5,.slice a6 r.tags.length c6,.slice a7 r.kids.length c7] 47)).alloc (.cells z 127):=⟨_,rfl⟩
 have hB:=zb2 hw0
 have HC:=kq (zk2 hw0)
 have HY:Hid (CellsAt (w.heap.size + 1) (arr24 zs) w0):=by subst hw0; subst hz; have h1:=CellsAt.new (w.alloc (.cells #[.string r.name,.int .i64 r.kind,.int .i64 r.size,.bool r.little,.slice a4 r.bytes.length c4,.slice a5 r.names.length c5,.slice a6 r.tags.length c6,.slice a7 r.kids.length c7] 47)) (arr24 zs) 127; rw [World.size_alloc] at h1; exact h1
 have HR7:=kq (h7.below hB)
 have HB:=kq hB
 have HKI:=kq hki
 have HKD:=kq hkd
 have HIB:=kq hib
 have hW:=kq hw0
 have c1:=(HC.out 1 _ rfl).1
 rw [hk] at c1
 have hHZ:=kq hz
 clear hB hki hkd hib hw0 h4 h5 h6 h7
 have HZ:Hid (r.size = defOf zs r):=by show _ = _; unfold defOf minOf; simp [hk]
 have c2:=(HC.out 2 _ rfl).1
 clear hk
 go_enter Tryz.func137,Tryz.ntmps137
 rw [← hz]
 clear hz
 go_upto_region 1 with fail
 rw [← hW.out]
 clear hW
 go_wp2
 go_ret
 exact ⟨ret_int HZ.out,HB.out⟩

theorem partsFst_6 (rs:List RuleV) (r:RuleV) (cs:List Value) (zs:List Int) (n:Nat) (w:World) (hn:n ≤ 24) (hki:kindI rs r = true) (hkd:∀ k ∈ r.kids,0 ≤ k ∧ k < (n:Int)) (hib:InB 401 zs) (_hc7:Cap7 cs) (h:IsRule r cs w) (hk:r.kind = 6) :
  Calls Tryz.prog 137 #[.agg cs.toArray,.agg (arr24 zs).toArray,.func (.func 104) #[] #[]] w fun e w' => e = .returned (.int .i64 (defOf zs r)) ∧ Below w.heap.size w w':=by
 obtain ⟨a4,c4,a5,c5,a6,c6,a7,c7,rfl,h4,h5,h6,h7⟩:=h
 obtain ⟨z,hz⟩ : ∃ z,z = (arr24 zs).toArray:=⟨_,rfl⟩
 obtain ⟨w0,hw0⟩ : ∃ w0,w0 = (w.alloc (.cells #[.string r.name,.int .i64 r.kind,.int .i64 r.size,.bool r.little,.slice a4 r.bytes.length c4,.slice a5 r.names.length c5,.slice a6 r.tags.length c6,.slice a7 r.kids.length c7] 47)).alloc (.cells z 127):=⟨_,rfl⟩
 have hB:=zb2 hw0
 have HC:=kq (zk2 hw0)
 have HY:Hid (CellsAt (w.heap.size + 1) (arr24 zs) w0):=by subst hw0; subst hz; have h1:=CellsAt.new (w.alloc (.cells #[.string r.name,.int .i64 r.kind,.int .i64 r.size,.bool r.little,.slice a4 r.bytes.length c4,.slice a5 r.names.length c5,.slice a6 r.tags.length c6,.slice a7 r.kids.length c7] 47)) (arr24 zs) 127; rw [World.size_alloc] at h1; exact h1
 have HR7:=kq (h7.below hB)
 have HB:=kq hB
 have HKI:=kq hki
 have HKD:=kq hkd
 have HIB:=kq hib
 have hW:=kq hw0
 have c1:=(HC.out 1 _ rfl).1
 rw [hk] at c1
 have hHZ:=kq hz
 clear hB hki hkd hib hw0 h4 h5 h6 h7
 have hl:=kq (kindI_6 HKI.out hk)
 have hk8:r.kids.length ≤ 8:=by have:=hl.out; omega
 have y7:=(HC.out 7 _ rfl).1
 have HF:Hid (∀ x,x = sumT zs r.kids → x = defOf zs r):=fun x hx => by rw [hx]; unfold defOf minOf; simp [hk]
 clear hk
 go_enter Tryz.func137,Tryz.ntmps137
 rw [← hz]
 clear hz
 go_upto_region 1 with fail
 rw [← hW.out]
 clear hW
 go_wp2
 go_loop [7,9,30] (fun x _ i => ∃ (j:Nat) (z:Int),j ≤ r.kids.length ∧ i = .int .i64 j ∧ x = .int .i64 z ∧ Hid (z = sumT zs (r.kids.take j)) ∧ 0 ≤ z ∧ z ≤ 401 * (j:Int)) (fun _ _ i => r.kids.length - (intOf i).toNat)
 case atStart => exact ⟨0,0,Nat.zero_le _,rfl,rfl,rfl,by omega,by omega⟩
 case round =>
  obtain ⟨j,z,hjl,rfl,rfl,hz,hz0,hz1⟩:=hrel
  have j0:(0:Int) ≤ (j:Int):=by omega
  by_cases hj:j < r.kids.length
  ·have j1:(j:Int) < (r.kids.length:Int):=by omega
   obtain ⟨m,hm,hmk⟩:=kid_nat HKD.out (j:=j) hj
   obtain ⟨b7,o7,ha7,hc7⟩:=HR7.out.cellAt (j:=j) hj
   cases ha7
   have hnx:=kq (sumT_next (t:=zs) hj)
   rw [hm] at hc7 hnx
   have hqo:=(HY.out m _ (arr24_at zs (by omega))).1
   have hio:=HIB.out (m:Int)
   clear hm
   generalize tabAt zs (m:Int) = y at hqo hio hnx
   have n0:(0:Int) ≤ (m:Int):=by omega
   have l0:(m:Int) < 24:=by omega
   have b0 : -9223372036854775808 ≤ z + y:=by omega
   have b1:z + y ≤ 9223372036854775807:=by omega
   go_wp2
   go_round
   case rel => exact ⟨j + 1,z + y,by omega,by go_num,by go_num,by show _ = _; rw [hnx.out,← hz.out],by omega,by omega⟩
   case measure => simp [intOf]; omega
  ·have j1:¬ (j:Int) < (r.kids.length:Int):=by omega
   have hzz:Hid (z = sumT zs r.kids):=by have:=hz.out; rw [List.take_of_length_le (by omega)] at this; exact this
   have HZ:=kq (HF.out z hzz.out)
   go_wp2
   go_ret
   exact ⟨ret_int HZ.out,HB.out⟩

theorem partsFst_7 (rs:List RuleV) (r:RuleV) (cs:List Value) (zs:List Int) (n:Nat) (w:World) (hn:n ≤ 24) (hki:kindI rs r = true) (hkd:∀ k ∈ r.kids,0 ≤ k ∧ k < (n:Int)) (hib:InB 401 zs) (hc7:Cap7 cs) (h:IsRule r cs w) (hk:r.kind = 7) :
  Calls Tryz.prog 137 #[.agg cs.toArray,.agg (arr24 zs).toArray,.func (.func 104) #[] #[]] w fun e w' => e = .returned (.int .i64 (defOf zs r)) ∧ Below w.heap.size w w':=by
 obtain ⟨a4,c4,a5,c5,a6,c6,a7,c7,rfl,h4,h5,h6,h7⟩:=h
 obtain ⟨z,hz⟩ : ∃ z,z = (arr24 zs).toArray:=⟨_,rfl⟩
 obtain ⟨w0,hw0⟩ : ∃ w0,w0 = (w.alloc (.cells #[.string r.name,.int .i64 r.kind,.int .i64 r.size,.bool r.little,.slice a4 r.bytes.length c4,.slice a5 r.names.length c5,.slice a6 r.tags.length c6,.slice a7 r.kids.length c7] 47)).alloc (.cells z 127):=⟨_,rfl⟩
 have hB:=zb2 hw0
 have HC:=kq (zk2 hw0)
 have HY:Hid (CellsAt (w.heap.size + 1) (arr24 zs) w0):=by subst hw0; subst hz; have h1:=CellsAt.new (w.alloc (.cells #[.string r.name,.int .i64 r.kind,.int .i64 r.size,.bool r.little,.slice a4 r.bytes.length c4,.slice a5 r.names.length c5,.slice a6 r.tags.length c6,.slice a7 r.kids.length c7] 47)) (arr24 zs) 127; rw [World.size_alloc] at h1; exact h1
 have HR7:=kq (h7.below hB)
 have HB:=kq hB
 have HKI:=kq hki
 have HKD:=kq hkd
 have HIB:=kq hib
 have hW:=kq hw0
 have c1:=(HC.out 1 _ rfl).1
 rw [hk] at c1
 have hHZ:=kq hz
 clear hB hki hkd hib hw0 h4 h5 h6 h7
 have hl:=kq (kindI_7 HKI.out hk)
 have hk9:r.kids.length ≤ 9:=by have:=hl.out; omega
 have hk2:2 ≤ r.kids.length:=by have:=hl.out; omega
 have y7:=(HC.out 7 _ rfl).1
 have g0:(0:Int) < (r.kids.length:Int):=by omega
 have g1:(1:Int) < (r.kids.length:Int):=by omega
 have g2:(2:Int) ≤ (r.kids.length:Int):=by omega
 obtain ⟨m0,hm0,hmk0⟩:=kid_nat HKD.out (j:=0) (by omega)
 obtain ⟨b0,o0,ha0,hc0⟩:=HR7.out.cellAt (j:=0) (by omega)
 cases ha0
 rw [hm0] at hc0
 have hq0:=(HY.out m0 _ (arr24_at zs (by omega))).1
 have hi0:=HIB.out (m0:Int)
 have n0:(0:Int) ≤ (m0:Int):=by omega
 have l0:(m0:Int) < 24:=by omega
 simp only [Nat.add_zero] at hc0
 have HK:Hid (tabAt zs (r.kids.getD 0 0) = tabAt zs (m0:Int)):=by show _ = _; rw [getD_at (by omega),hm0]
 clear hm0
 generalize tabAt zs (m0:Int) = y0 at hq0 hi0 HK
 obtain ⟨m1,hm1,hmk1⟩:=kid_nat HKD.out (j:=1) (by omega)
 obtain ⟨b1,o1,ha1,hc1⟩:=HR7.out.cellAt (j:=1) (by omega)
 cases ha1
 rw [hm1] at hc1
 have hq1:=(HY.out m1 _ (arr24_at zs (by omega))).1
 have hi1:=HIB.out (m1:Int)
 have n1:(0:Int) ≤ (m1:Int):=by omega
 have l1:(m1:Int) < 24:=by omega
 have HK1:Hid (tabAt zs (r.kids.getD 1 0) = tabAt zs (m1:Int)):=by show _ = _; rw [getD_at (by omega),hm1]
 clear hm1
 generalize tabAt zs (m1:Int) = y1 at hq1 hi1 HK1
 have HF:Hid (∀ x,x = firstT zs (r.kids.drop 2) y1 → y0 + x = defOf zs r):=fun x hx => by rw [hx]; unfold defOf; rw [HK.out,HK1.out]; simp [hk,firstT]
 have hcap:r.kids.length ≤ c7:=hc7 _ _ _ rfl
 clear hc7
 by_cases e2:c7 = 2
 ·subst e2
  have hlen2:r.kids.length = 2:=by omega
  have HZ:Hid (y0 + y1 = defOf zs r):=HF.out y1 (by rw [List.drop_of_length_le (by omega)]; rfl)
  rw [hlen2] at y7 g0 g1 g2
  clear hlen2 hk2 hk9 hcap HR7
  clear hk
  go_enter Tryz.func137,Tryz.ntmps137
  rw [← hz]
  clear hz
  go_upto_region 1 with fail
  rw [← hW.out]
  clear hW
  go_wp2
  go_loop [10,12,52] (fun x _ i => i = .int .i64 0 ∧ x = .int .i64 y1) (fun _ _ _ => 0)
  case atStart => exact ⟨rfl,rfl⟩
  case round =>
   obtain ⟨rfl,rfl⟩:=hrel
   go_wp2
   go_ret
   exact ⟨ret_int HZ.out,HB.out⟩
 ·obtain ⟨L,hL⟩ : ∃ L,L + 2 = r.kids.length:=⟨r.kids.length - 2,by omega⟩
  obtain ⟨C,rfl⟩ : ∃ C,c7 = C + 2:=⟨c7 - 2,by omega⟩
  have hC0:¬ C = 0:=by omega
  have hLC:L ≤ C:=by omega
  have hL9:L ≤ 7:=by omega
  rw [← hL] at y7 g0 g1 g2
  have HL:=kq hL
  clear hL hk2 hk9 hcap e2
  clear hk
  go_enter Tryz.func137,Tryz.ntmps137
  rw [← hz]
  clear hz
  go_upto_region 1 with fail
  rw [← hW.out]
  clear hW
  go_wp2
  go_loopw [10,12,52] (fun x _ i W => ∃ (j:Nat) (z:Int),j ≤ L ∧ i = .int .i64 j ∧ x = .int .i64 z ∧ Hid (z = firstT zs ((r.kids.drop 2).take j) y1) ∧ 0 ≤ z ∧ z ≤ 401 ∧ Hid (Below w0.heap.size w0 W)) (fun _ _ i _ => L - (intOf i).toNat)
  case atStart => exact ⟨0,y1,Nat.zero_le _,rfl,rfl,rfl,by omega,by omega,Below.refl _ _⟩
  case round =>
   obtain ⟨j,z,hjl,rfl,rfl,hz,hz0,hz1,hbw⟩:=hrel
   have j0:(0:Int) ≤ (j:Int):=by omega
   have y7:=(HC.out.below hbw.out 7 _ rfl).1
   rw [← HL.out] at y7
   have hc0:=cell_keep hbw.out hc0
   have hq0:=cell_keep hbw.out hq0
   by_cases hj:j < L
   ·have j1:(j:Int) < (L:Int):=by omega
    have hj2:2 + j < r.kids.length:=by have:=HL.out; omega
    have hjd:j < (r.kids.drop 2).length:=by rw [List.length_drop]; omega
    have hnx:=kq (firstT_next (t:=zs) (ks:=r.kids.drop 2) (m:=y1) hjd)
    rw [List.getElem_drop] at hnx
    obtain ⟨m,hm,hmk⟩:=kid_nat HKD.out (j:=2 + j) hj2
    obtain ⟨b7,o7,ha7,hcc⟩:=HR7.out.cellAt (j:=2 + j) hj2
    cases ha7
    rw [hm] at hcc hnx
    rw [← Nat.add_assoc] at hcc
    replace hcc:=cell_keep hbw.out hcc
    have hqo:=cell_keep hbw.out (HY.out m _ (arr24_at zs (by omega))).1
    have hio:=HIB.out (m:Int)
    clear hm
    generalize tabAt zs (m:Int) = y at hqo hio hnx
    have n2:(0:Int) ≤ (m:Int):=by omega
    have l2:(m:Int) < 24:=by omega
    go_wp2_with (go_at_call 104; refine (fst_impl z y _).mono ?_; rintro e wx ⟨rfl,hb⟩)
    have HBX:=kq (hbw.out.trans (hb.mono hbw.out.size))
    clear hb
    go_roundw
    case rel => exact ⟨j + 1,fst z y,by omega,by go_num,rfl,by show _ = _; rw [hnx.out,← hz.out],by show 0 ≤ z; omega,by show z ≤ 401; omega,HBX⟩
    case measure => simp [intOf]; omega
   ·have j1:¬ (j:Int) < (L:Int):=by omega
    have hzz:Hid (z = firstT zs (r.kids.drop 2) y1):=by have:=hz.out; have h2:=HL.out; rw [List.take_of_length_le (by rw [List.length_drop]; omega)] at this; exact this
    have HZ:=kq (HF.out z hzz.out)
    have HBX:=kq (HB.out.trans (hbw.out.mono HB.out.size))
    clear hbw
    go_wp2
    go_ret
    exact ⟨ret_int HZ.out,HBX.out⟩

theorem partsFst_9 (rs:List RuleV) (r:RuleV) (cs:List Value) (zs:List Int) (n:Nat) (w:World) (hn:n ≤ 24) (hki:kindI rs r = true) (hkd:∀ k ∈ r.kids,0 ≤ k ∧ k < (n:Int)) (hib:InB 401 zs) (_hc7:Cap7 cs) (h:IsRule r cs w) (hk:r.kind = 9) :
  Calls Tryz.prog 137 #[.agg cs.toArray,.agg (arr24 zs).toArray,.func (.func 104) #[] #[]] w fun e w' => e = .returned (.int .i64 (defOf zs r)) ∧ Below w.heap.size w w':=by
 obtain ⟨a4,c4,a5,c5,a6,c6,a7,c7,rfl,h4,h5,h6,h7⟩:=h
 obtain ⟨z,hz⟩ : ∃ z,z = (arr24 zs).toArray:=⟨_,rfl⟩
 obtain ⟨w0,hw0⟩ : ∃ w0,w0 = (w.alloc (.cells #[.string r.name,.int .i64 r.kind,.int .i64 r.size,.bool r.little,.slice a4 r.bytes.length c4,.slice a5 r.names.length c5,.slice a6 r.tags.length c6,.slice a7 r.kids.length c7] 47)).alloc (.cells z 127):=⟨_,rfl⟩
 have hB:=zb2 hw0
 have HC:=kq (zk2 hw0)
 have HY:Hid (CellsAt (w.heap.size + 1) (arr24 zs) w0):=by subst hw0; subst hz; have h1:=CellsAt.new (w.alloc (.cells #[.string r.name,.int .i64 r.kind,.int .i64 r.size,.bool r.little,.slice a4 r.bytes.length c4,.slice a5 r.names.length c5,.slice a6 r.tags.length c6,.slice a7 r.kids.length c7] 47)) (arr24 zs) 127; rw [World.size_alloc] at h1; exact h1
 have HR7:=kq (h7.below hB)
 have HB:=kq hB
 have HKI:=kq hki
 have HKD:=kq hkd
 have HIB:=kq hib
 have hW:=kq hw0
 have c1:=(HC.out 1 _ rfl).1
 rw [hk] at c1
 have hHZ:=kq hz
 clear hB hki hkd hib hw0 h4 h5 h6 h7
 have hl:=kq (kindI_9 HKI.out hk)
 have h0:0 < r.kids.length:=by have:=hl.out; omega
 have g0:(0:Int) < (r.kids.length:Int):=by omega
 obtain ⟨m0,hm0,hmk0⟩:=kid_nat HKD.out (j:=0) h0
 obtain ⟨b0,o0,ha0,hc0⟩:=HR7.out.cellAt (j:=0) h0
 cases ha0
 rw [hm0] at hc0
 have hq0:=(HY.out m0 _ (arr24_at zs (by omega))).1
 have hi0:=HIB.out (m0:Int)
 have n0:(0:Int) ≤ (m0:Int):=by omega
 have l0:(m0:Int) < 24:=by omega
 simp only [Nat.add_zero] at hc0
 have HK:Hid (tabAt zs (r.kids.getD 0 0) = tabAt zs (m0:Int)):=by show _ = _; rw [getD_at h0,hm0]
 clear hm0
 generalize tabAt zs (m0:Int) = y at hq0 hi0 HK
 have HZ:Hid (y + 1 = defOf zs r):=by show _ = _; unfold defOf minOf; simp [hk]; have h9:=HK.out; simp at h9; omega
 have y7:=(HC.out 7 _ rfl).1
 clear hk
 go_enter Tryz.func137,Tryz.ntmps137
 rw [← hz]
 clear hz
 go_upto_region 1 with fail
 rw [← hW.out]
 clear hW
 go_wp2
 go_ret
 exact ⟨ret_int HZ.out,HB.out⟩

end Go.Proofs.YtfmnjclnhppghaaGreat

/- The contracts of the program's leastSize and greatestSize. -/
namespace Go.Proofs.YtfmnjclnhppghaaGreat
open Go Go.RowKit
theorem swcFst_M0 (kd:Int) (hcs:kd = 1 ∨ kd = 2 ∨ kd = 3 ∨ kd = 4 ∨ kd = 5 ∨ kd = 6 ∨ kd = 7 ∨ kd = 8 ∨ kd = 9 ∨ kd = 10) (rs:List RuleV) (r:RuleV) (cs:List Value) (zs:List Int) (n:Nat) (w:World) (hn:n ≤ 24) (hki:kindI rs r = true) (hkd:∀ k ∈ r.kids,0 ≤ k ∧ k < (n:Int)) (hib:InB 401 zs) (hcp:Cap7 cs) (h:IsRule r cs w) (hk:r.kind = kd) :
  Calls Tryz.prog 105 #[.agg cs.toArray,.agg (arr24 zs).toArray,.func (.func 104) #[] #[]] w fun e w' => e = .returned (.int .i64 (defStep zs r)) ∧ Below w.heap.size w w':=by
 have hof:=defOf_b hki hib
 obtain ⟨a4,c4,a5,c5,a6,c6,a7,c7,rfl,h4,h5,h6,h7⟩:=h
 obtain ⟨z,hz⟩ : ∃ z,z = (arr24 zs).toArray:=⟨_,rfl⟩
 obtain ⟨w0,hw0⟩ : ∃ w0,w0 = (w.alloc (.cells #[.string r.name,.int .i64 r.kind,.int .i64 r.size,.bool r.little,.slice a4 r.bytes.length c4,.slice a5 r.names.length c5,.slice a6 r.tags.length c6,.slice a7 r.kids.length c7] 47)).alloc (.cells z 127):=⟨_,rfl⟩
 have hB:=zb2 hw0
 have HC:=kq (zk2 hw0)
 have HY:Hid (CellsAt (w.heap.size + 1) (arr24 zs) w0):=by subst hw0; subst hz; have h1:=CellsAt.new (w.alloc (.cells #[.string r.name,.int .i64 r.kind,.int .i64 r.size,.bool r.little,.slice a4 r.bytes.length c4,.slice a5 r.names.length c5,.slice a6 r.tags.length c6,.slice a7 r.kids.length c7] 47)) (arr24 zs) 127; rw [World.size_alloc] at h1; exact h1
 have HR7:=kq (h7.below hB)
 have HIS:Hid (IsRule r [.string r.name,.int .i64 r.kind,.int .i64 r.size,.bool r.little,.slice a4 r.bytes.length c4,.slice a5 r.names.length c5,.slice a6 r.tags.length c6,.slice a7 r.kids.length c7] w0):=⟨a4,c4,a5,c5,a6,c6,a7,c7,rfl,h4.below hB,h5.below hB,h6.below hB,h7.below hB⟩
 have HB:=kq hB
 have HKI:=kq hki
 have HKD:=kq hkd
 have HIB:=kq hib
 have HCP:=kq hcp
 have hW:=kq hw0
 have y1:=(HC.out 1 _ rfl).1
 rw [hk] at y1
 have hHZ:=kq hz
 have HKK:=kq hk
 clear hB hki hkd hib hcp hw0 h4 h5 h6 h7
 rcases hcs with rfl | rfl | rfl | rfl | rfl | rfl | rfl | rfl | rfl | rfl
 ·have HIS1:Hid (IsRule r [.string r.name,.int .i64 1,.int .i64 r.size,.bool r.little,.slice a4 r.bytes.length c4,.slice a5 r.names.length c5,.slice a6 r.tags.length c6,.slice a7 r.kids.length c7] w0):=by have h:=HIS.out; rw [hk] at h; exact h
  have HCP1:Hid (Cap7 [.string r.name,.int .i64 1,.int .i64 r.size,.bool r.little,.slice a4 r.bytes.length c4,.slice a5 r.names.length c5,.slice a6 r.tags.length c6,.slice a7 r.kids.length c7]):=by have h:=HCP.out; rw [hk] at h; exact h
  have HPP:=kq (fun wx hbx => partsFst_1 rs r _ zs n wx hn HKI.out HKD.out HIB.out HCP1.out (HIS1.out.below (w':=wx) hbx) HKK.out)
  obtain ⟨v,hvv⟩ : ∃ v,v = defOf zs r:=⟨_,rfl⟩
  have HZ:Hid (min v 401 = defStep zs r):=by show _ = _; rw [hvv]; unfold defStep; omega
  rw [← hvv] at hof
  have HV:=kq hvv
  clear hvv
  have y0:=(HC.out 0 _ rfl).1
  have y2:=(HC.out 2 _ rfl).1
  have y3:=(HC.out 3 _ rfl).1
  have y4:=(HC.out 4 _ rfl).1
  have y5:=(HC.out 5 _ rfl).1
  have y6:=(HC.out 6 _ rfl).1
  have y7:=(HC.out 7 _ rfl).1
  clear hk
  go_enter Tryz.func105,Tryz.ntmps105
  rw [← hz]
  clear hz
  go_upto_region 1 with fail
  rw [← hW.out]
  clear hW
  go_wp2_with (refine wpList_load_mid rfl 127 (.tmp 4) rfl (w.heap.size + 1) 0 rfl (arr24 zs) _ HY.out.range Tryz.underlying127 rfl (info24 zs) ?_)
  refine (HPP.out _ (Below.refl _ _)).mono ?_
  rintro e wx ⟨rfl,hbx⟩
  rw [← HV.out]
  have HBX:=kq (HB.out.trans (hbx.mono HB.out.size))
  clear hbx
  go_wp2_with fail
  refine (min_impl v 401 _).mono ?_
  rintro e wy ⟨rfl,hb⟩
  have HBZ:=kq (HBX.out.trans (hb.mono HBX.out.size))
  clear hb
  go_wp2
  go_ret
  exact ⟨ret_int HZ.out,HBZ.out⟩
 ·have HIS1:Hid (IsRule r [.string r.name,.int .i64 2,.int .i64 r.size,.bool r.little,.slice a4 r.bytes.length c4,.slice a5 r.names.length c5,.slice a6 r.tags.length c6,.slice a7 r.kids.length c7] w0):=by have h:=HIS.out; rw [hk] at h; exact h
  have HCP1:Hid (Cap7 [.string r.name,.int .i64 2,.int .i64 r.size,.bool r.little,.slice a4 r.bytes.length c4,.slice a5 r.names.length c5,.slice a6 r.tags.length c6,.slice a7 r.kids.length c7]):=by have h:=HCP.out; rw [hk] at h; exact h
  have HPP:=kq (fun wx hbx => partsFst_2 rs r _ zs n wx hn HKI.out HKD.out HIB.out HCP1.out (HIS1.out.below (w':=wx) hbx) HKK.out)
  obtain ⟨v,hvv⟩ : ∃ v,v = defOf zs r:=⟨_,rfl⟩
  have HZ:Hid (min v 401 = defStep zs r):=by show _ = _; rw [hvv]; unfold defStep; omega
  rw [← hvv] at hof
  have HV:=kq hvv
  clear hvv
  have y0:=(HC.out 0 _ rfl).1
  have y2:=(HC.out 2 _ rfl).1
  have y3:=(HC.out 3 _ rfl).1
  have y4:=(HC.out 4 _ rfl).1
  have y5:=(HC.out 5 _ rfl).1
  have y6:=(HC.out 6 _ rfl).1
  have y7:=(HC.out 7 _ rfl).1
  clear hk
  go_enter Tryz.func105,Tryz.ntmps105
  rw [← hz]
  clear hz
  go_upto_region 1 with fail
  rw [← hW.out]
  clear hW
  go_wp2_with (refine wpList_load_mid rfl 127 (.tmp 4) rfl (w.heap.size + 1) 0 rfl (arr24 zs) _ HY.out.range Tryz.underlying127 rfl (info24 zs) ?_)
  refine (HPP.out _ (Below.refl _ _)).mono ?_
  rintro e wx ⟨rfl,hbx⟩
  rw [← HV.out]
  have HBX:=kq (HB.out.trans (hbx.mono HB.out.size))
  clear hbx
  go_wp2_with fail
  refine (min_impl v 401 _).mono ?_
  rintro e wy ⟨rfl,hb⟩
  have HBZ:=kq (HBX.out.trans (hb.mono HBX.out.size))
  clear hb
  go_wp2
  go_ret
  exact ⟨ret_int HZ.out,HBZ.out⟩
 ·have HIS1:Hid (IsRule r [.string r.name,.int .i64 3,.int .i64 r.size,.bool r.little,.slice a4 r.bytes.length c4,.slice a5 r.names.length c5,.slice a6 r.tags.length c6,.slice a7 r.kids.length c7] w0):=by have h:=HIS.out; rw [hk] at h; exact h
  have HCP1:Hid (Cap7 [.string r.name,.int .i64 3,.int .i64 r.size,.bool r.little,.slice a4 r.bytes.length c4,.slice a5 r.names.length c5,.slice a6 r.tags.length c6,.slice a7 r.kids.length c7]):=by have h:=HCP.out; rw [hk] at h; exact h
  have HPP:=kq (fun wx hbx => partsFst_3 rs r _ zs n wx hn HKI.out HKD.out HIB.out HCP1.out (HIS1.out.below (w':=wx) hbx) HKK.out)
  obtain ⟨v,hvv⟩ : ∃ v,v = defOf zs r:=⟨_,rfl⟩
  have HZ:Hid (min v 401 = defStep zs r):=by show _ = _; rw [hvv]; unfold defStep; omega
  rw [← hvv] at hof
  have HV:=kq hvv
  clear hvv
  have y0:=(HC.out 0 _ rfl).1
  have y2:=(HC.out 2 _ rfl).1
  have y3:=(HC.out 3 _ rfl).1
  have y4:=(HC.out 4 _ rfl).1
  have y5:=(HC.out 5 _ rfl).1
  have y6:=(HC.out 6 _ rfl).1
  have y7:=(HC.out 7 _ rfl).1
  clear hk
  go_enter Tryz.func105,Tryz.ntmps105
  rw [← hz]
  clear hz
  go_upto_region 1 with fail
  rw [← hW.out]
  clear hW
  go_wp2_with (refine wpList_load_mid rfl 127 (.tmp 4) rfl (w.heap.size + 1) 0 rfl (arr24 zs) _ HY.out.range Tryz.underlying127 rfl (info24 zs) ?_)
  refine (HPP.out _ (Below.refl _ _)).mono ?_
  rintro e wx ⟨rfl,hbx⟩
  rw [← HV.out]
  have HBX:=kq (HB.out.trans (hbx.mono HB.out.size))
  clear hbx
  go_wp2_with fail
  refine (min_impl v 401 _).mono ?_
  rintro e wy ⟨rfl,hb⟩
  have HBZ:=kq (HBX.out.trans (hb.mono HBX.out.size))
  clear hb
  go_wp2
  go_ret
  exact ⟨ret_int HZ.out,HBZ.out⟩
 ·have hl0:=kq (kindI_4 HKI.out hk)
  have h0:0 < r.kids.length:=by have:=hl0.out; omega
  have g0:(0:Int) < (r.kids.length:Int):=by omega
  obtain ⟨m0,hm0,hmk0⟩:=kid_nat HKD.out (j:=0) h0
  obtain ⟨b0,o0,ha0,hc0⟩:=HR7.out.cellAt (j:=0) h0
  cases ha0
  rw [hm0] at hc0
  have hq0:=(HY.out m0 _ (arr24_at zs (by omega))).1
  have hi0:=HIB.out (m0:Int)
  have n0:(0:Int) ≤ (m0:Int):=by omega
  have l0:(m0:Int) < 24:=by omega
  simp only [Nat.add_zero] at hc0
  have HK:Hid (tabAt zs (r.kids.getD 0 0) = tabAt zs (m0:Int)):=by show _ = _; rw [getD_at h0,hm0]
  clear hm0
  generalize tabAt zs (m0:Int) = y at hq0 hi0 HK
  have HZ:Hid (min y 401 = defStep zs r):=by show _ = _; have h9:=HK.out; unfold defStep defOf minOf; simp [hk]; simp at h9; omega
  have y7:=(HC.out 7 _ rfl).1
  clear hk
  go_enter Tryz.func105,Tryz.ntmps105
  rw [← hz]
  clear hz
  go_upto_region 1 with fail
  rw [← hW.out]
  clear hW
  go_wp2_with fail
  refine (min_impl y 401 _).mono ?_
  rintro e wy ⟨rfl,hb⟩
  have HBZ:=kq (HB.out.trans (hb.mono HB.out.size))
  clear hb
  go_wp2
  go_ret
  exact ⟨ret_int HZ.out,HBZ.out⟩
 ·have hl0:=kq (kindI_5 HKI.out hk)
  have h0:0 < r.kids.length:=by have:=hl0.out; omega
  have g0:(0:Int) < (r.kids.length:Int):=by omega
  obtain ⟨m0,hm0,hmk0⟩:=kid_nat HKD.out (j:=0) h0
  obtain ⟨b0,o0,ha0,hc0⟩:=HR7.out.cellAt (j:=0) h0
  cases ha0
  rw [hm0] at hc0
  have hq0:=(HY.out m0 _ (arr24_at zs (by omega))).1
  have hi0:=HIB.out (m0:Int)
  have n0:(0:Int) ≤ (m0:Int):=by omega
  have l0:(m0:Int) < 24:=by omega
  simp only [Nat.add_zero] at hc0
  have HK:Hid (tabAt zs (r.kids.getD 0 0) = tabAt zs (m0:Int)):=by show _ = _; rw [getD_at h0,hm0]
  clear hm0
  generalize tabAt zs (m0:Int) = y at hq0 hi0 HK
  have HZ:Hid (min y 401 = defStep zs r):=by show _ = _; have h9:=HK.out; unfold defStep defOf minOf; simp [hk]; simp at h9; omega
  have y7:=(HC.out 7 _ rfl).1
  clear hk
  go_enter Tryz.func105,Tryz.ntmps105
  rw [← hz]
  clear hz
  go_upto_region 1 with fail
  rw [← hW.out]
  clear hW
  go_wp2_with fail
  refine (min_impl y 401 _).mono ?_
  rintro e wy ⟨rfl,hb⟩
  have HBZ:=kq (HB.out.trans (hb.mono HB.out.size))
  clear hb
  go_wp2
  go_ret
  exact ⟨ret_int HZ.out,HBZ.out⟩
 ·have HIS1:Hid (IsRule r [.string r.name,.int .i64 6,.int .i64 r.size,.bool r.little,.slice a4 r.bytes.length c4,.slice a5 r.names.length c5,.slice a6 r.tags.length c6,.slice a7 r.kids.length c7] w0):=by have h:=HIS.out; rw [hk] at h; exact h
  have HCP1:Hid (Cap7 [.string r.name,.int .i64 6,.int .i64 r.size,.bool r.little,.slice a4 r.bytes.length c4,.slice a5 r.names.length c5,.slice a6 r.tags.length c6,.slice a7 r.kids.length c7]):=by have h:=HCP.out; rw [hk] at h; exact h
  have HPP:=kq (fun wx hbx => partsFst_6 rs r _ zs n wx hn HKI.out HKD.out HIB.out HCP1.out (HIS1.out.below (w':=wx) hbx) HKK.out)
  obtain ⟨v,hvv⟩ : ∃ v,v = defOf zs r:=⟨_,rfl⟩
  have HZ:Hid (min v 401 = defStep zs r):=by show _ = _; rw [hvv]; unfold defStep; omega
  rw [← hvv] at hof
  have HV:=kq hvv
  clear hvv
  have y0:=(HC.out 0 _ rfl).1
  have y2:=(HC.out 2 _ rfl).1
  have y3:=(HC.out 3 _ rfl).1
  have y4:=(HC.out 4 _ rfl).1
  have y5:=(HC.out 5 _ rfl).1
  have y6:=(HC.out 6 _ rfl).1
  have y7:=(HC.out 7 _ rfl).1
  clear hk
  go_enter Tryz.func105,Tryz.ntmps105
  rw [← hz]
  clear hz
  go_upto_region 1 with fail
  rw [← hW.out]
  clear hW
  go_wp2_with (refine wpList_load_mid rfl 127 (.tmp 4) rfl (w.heap.size + 1) 0 rfl (arr24 zs) _ HY.out.range Tryz.underlying127 rfl (info24 zs) ?_)
  refine (HPP.out _ (Below.refl _ _)).mono ?_
  rintro e wx ⟨rfl,hbx⟩
  rw [← HV.out]
  have HBX:=kq (HB.out.trans (hbx.mono HB.out.size))
  clear hbx
  go_wp2_with fail
  refine (min_impl v 401 _).mono ?_
  rintro e wy ⟨rfl,hb⟩
  have HBZ:=kq (HBX.out.trans (hb.mono HBX.out.size))
  clear hb
  go_wp2
  go_ret
  exact ⟨ret_int HZ.out,HBZ.out⟩
 ·have HIS1:Hid (IsRule r [.string r.name,.int .i64 7,.int .i64 r.size,.bool r.little,.slice a4 r.bytes.length c4,.slice a5 r.names.length c5,.slice a6 r.tags.length c6,.slice a7 r.kids.length c7] w0):=by have h:=HIS.out; rw [hk] at h; exact h
  have HCP1:Hid (Cap7 [.string r.name,.int .i64 7,.int .i64 r.size,.bool r.little,.slice a4 r.bytes.length c4,.slice a5 r.names.length c5,.slice a6 r.tags.length c6,.slice a7 r.kids.length c7]):=by have h:=HCP.out; rw [hk] at h; exact h
  have HPP:=kq (fun wx hbx => partsFst_7 rs r _ zs n wx hn HKI.out HKD.out HIB.out HCP1.out (HIS1.out.below (w':=wx) hbx) HKK.out)
  obtain ⟨v,hvv⟩ : ∃ v,v = defOf zs r:=⟨_,rfl⟩
  have HZ:Hid (min v 401 = defStep zs r):=by show _ = _; rw [hvv]; unfold defStep; omega
  rw [← hvv] at hof
  have HV:=kq hvv
  clear hvv
  have y0:=(HC.out 0 _ rfl).1
  have y2:=(HC.out 2 _ rfl).1
  have y3:=(HC.out 3 _ rfl).1
  have y4:=(HC.out 4 _ rfl).1
  have y5:=(HC.out 5 _ rfl).1
  have y6:=(HC.out 6 _ rfl).1
  have y7:=(HC.out 7 _ rfl).1
  clear hk
  go_enter Tryz.func105,Tryz.ntmps105
  rw [← hz]
  clear hz
  go_upto_region 1 with fail
  rw [← hW.out]
  clear hW
  go_wp2_with (refine wpList_load_mid rfl 127 (.tmp 4) rfl (w.heap.size + 1) 0 rfl (arr24 zs) _ HY.out.range Tryz.underlying127 rfl (info24 zs) ?_)
  refine (HPP.out _ (Below.refl _ _)).mono ?_
  rintro e wx ⟨rfl,hbx⟩
  rw [← HV.out]
  have HBX:=kq (HB.out.trans (hbx.mono HB.out.size))
  clear hbx
  go_wp2_with fail
  refine (min_impl v 401 _).mono ?_
  rintro e wy ⟨rfl,hb⟩
  have HBZ:=kq (HBX.out.trans (hb.mono HBX.out.size))
  clear hb
  go_wp2
  go_ret
  exact ⟨ret_int HZ.out,HBZ.out⟩
 ·have HZ:Hid (min 1 401 = defStep zs r):=by show _ = _; unfold defStep; rw [show defOf zs r = 1 from by unfold defOf minOf; simp [hk]]; try rfl
  clear hk
  go_enter Tryz.func105,Tryz.ntmps105
  rw [← hz]
  clear hz
  go_upto_region 1 with fail
  rw [← hW.out]
  clear hW
  go_wp2_with fail
  refine (min_impl 1 401 _).mono ?_
  rintro e wy ⟨rfl,hb⟩
  have HBZ:=kq (HB.out.trans (hb.mono HB.out.size))
  clear hb
  go_wp2
  go_ret
  exact ⟨ret_int HZ.out,HBZ.out⟩
 ·have HIS1:Hid (IsRule r [.string r.name,.int .i64 9,.int .i64 r.size,.bool r.little,.slice a4 r.bytes.length c4,.slice a5 r.names.length c5,.slice a6 r.tags.length c6,.slice a7 r.kids.length c7] w0):=by have h:=HIS.out; rw [hk] at h; exact h
  have HCP1:Hid (Cap7 [.string r.name,.int .i64 9,.int .i64 r.size,.bool r.little,.slice a4 r.bytes.length c4,.slice a5 r.names.length c5,.slice a6 r.tags.length c6,.slice a7 r.kids.length c7]):=by have h:=HCP.out; rw [hk] at h; exact h
  have HPP:=kq (fun wx hbx => partsFst_9 rs r _ zs n wx hn HKI.out HKD.out HIB.out HCP1.out (HIS1.out.below (w':=wx) hbx) HKK.out)
  obtain ⟨v,hvv⟩ : ∃ v,v = defOf zs r:=⟨_,rfl⟩
  have HZ:Hid (min v 401 = defStep zs r):=by show _ = _; rw [hvv]; unfold defStep; omega
  rw [← hvv] at hof
  have HV:=kq hvv
  clear hvv
  have y0:=(HC.out 0 _ rfl).1
  have y2:=(HC.out 2 _ rfl).1
  have y3:=(HC.out 3 _ rfl).1
  have y4:=(HC.out 4 _ rfl).1
  have y5:=(HC.out 5 _ rfl).1
  have y6:=(HC.out 6 _ rfl).1
  have y7:=(HC.out 7 _ rfl).1
  clear hk
  go_enter Tryz.func105,Tryz.ntmps105
  rw [← hz]
  clear hz
  go_upto_region 1 with fail
  rw [← hW.out]
  clear hW
  go_wp2_with (refine wpList_load_mid rfl 127 (.tmp 4) rfl (w.heap.size + 1) 0 rfl (arr24 zs) _ HY.out.range Tryz.underlying127 rfl (info24 zs) ?_)
  refine (HPP.out _ (Below.refl _ _)).mono ?_
  rintro e wx ⟨rfl,hbx⟩
  rw [← HV.out]
  have HBX:=kq (HB.out.trans (hbx.mono HB.out.size))
  clear hbx
  go_wp2_with fail
  refine (min_impl v 401 _).mono ?_
  rintro e wy ⟨rfl,hb⟩
  have HBZ:=kq (HBX.out.trans (hb.mono HBX.out.size))
  clear hb
  go_wp2
  go_ret
  exact ⟨ret_int HZ.out,HBZ.out⟩
 ·have HZ:Hid (min 1 401 = defStep zs r):=by show _ = _; unfold defStep; rw [show defOf zs r = 1 from by unfold defOf minOf; simp [hk]]; try rfl
  clear hk
  go_enter Tryz.func105,Tryz.ntmps105
  rw [← hz]
  clear hz
  go_upto_region 1 with fail
  rw [← hW.out]
  clear hW
  go_wp2_with fail
  refine (min_impl 1 401 _).mono ?_
  rintro e wy ⟨rfl,hb⟩
  have HBZ:=kq (HB.out.trans (hb.mono HB.out.size))
  clear hb
  go_wp2
  go_ret
  exact ⟨ret_int HZ.out,HBZ.out⟩
theorem swcFst_impl (rs:List RuleV) (r:RuleV) (cs:List Value) (zs:List Int) (n:Nat) (w:World) (hn:n ≤ 24) (hki:kindI rs r = true) (hkd:∀ k ∈ r.kids,0 ≤ k ∧ k < (n:Int)) (hib:InB 401 zs) (hcp:Cap7 cs) (h:IsRule r cs w) :
  Calls Tryz.prog 105 #[.agg cs.toArray,.agg (arr24 zs).toArray,.func (.func 104) #[] #[]] w fun e w' => e = .returned (.int .i64 (defStep zs r)) ∧ Below w.heap.size w w':=by
 have hkn:=kindI_known hki
 rcases (by omega:r.kind = 1 ∨ r.kind = 2 ∨ r.kind = 3 ∨ r.kind = 4 ∨ r.kind = 5 ∨ r.kind = 6 ∨ r.kind = 7 ∨ r.kind = 8 ∨ r.kind = 9 ∨ r.kind = 10) with hk | hk | hk | hk | hk | hk | hk | hk | hk | hk
 ·exact swcFst_M0 1 (by simp) rs r cs zs n w hn hki hkd hib hcp h hk
 ·exact swcFst_M0 2 (by simp) rs r cs zs n w hn hki hkd hib hcp h hk
 ·exact swcFst_M0 3 (by simp) rs r cs zs n w hn hki hkd hib hcp h hk
 ·exact swcFst_M0 4 (by simp) rs r cs zs n w hn hki hkd hib hcp h hk
 ·exact swcFst_M0 5 (by simp) rs r cs zs n w hn hki hkd hib hcp h hk
 ·exact swcFst_M0 6 (by simp) rs r cs zs n w hn hki hkd hib hcp h hk
 ·exact swcFst_M0 7 (by simp) rs r cs zs n w hn hki hkd hib hcp h hk
 ·exact swcFst_M0 8 (by simp) rs r cs zs n w hn hki hkd hib hcp h hk
 ·exact swcFst_M0 9 (by simp) rs r cs zs n w hn hki hkd hib hcp h hk
 ·exact swcFst_M0 10 (by simp) rs r cs zs n w hn hki hkd hib hcp h hk
theorem deft_impl (a:Option Addr) (rs:List RuleV) (cap:Nat) (r:RuleV) (cs:List Value) (zs:List Int) (n:Nat) (w:World) (_hl:rs.length ≤ 1048576) (_hrd:RdR a rs w) (hn:n ≤ 24) (hki:kindI rs r = true) (hkd:∀ k ∈ r.kids,0 ≤ k ∧ k < (n:Int)) (hib:InB 401 zs) (hcp:Cap7 cs) (h:IsRule r cs w) (_hv:allV (kindI rs) rs) :
  Calls Tryz.prog 60 #[.agg #[.slice a rs.length cap],.agg cs.toArray,.agg (arr24 zs).toArray] w fun e w' => e = .returned (.int .i64 (defStep zs r)) ∧ Below w.heap.size w w':=by
 have h0:=h
 obtain ⟨a4,c4,a5,c5,a6,c6,a7,c7,rfl,-,-,-,-⟩:=h
 obtain ⟨z,hz⟩ : ∃ z,z = (arr24 zs).toArray:=⟨_,rfl⟩
 obtain ⟨w0,hw0⟩ : ∃ w0,w0 = ((w.alloc (.cells #[.slice a rs.length cap] 26)).alloc (.cells #[.string r.name,.int .i64 r.kind,.int .i64 r.size,.bool r.little,.slice a4 r.bytes.length c4,.slice a5 r.names.length c5,.slice a6 r.tags.length c6,.slice a7 r.kids.length c7] 47)).alloc (.cells z 127):=⟨_,rfl⟩
 have hB:Below w.heap.size w w0:=by subst hw0; exact (((Below.refl _ _).alloc (Nat.le_refl _) _).alloc (by simp) _).alloc (by simp; omega) _
 have hC:CellsAt (w.heap.size + 1) [.string r.name,.int .i64 r.kind,.int .i64 r.size,.bool r.little,.slice a4 r.bytes.length c4,.slice a5 r.names.length c5,.slice a6 r.tags.length c6,.slice a7 r.kids.length c7] w0:=by subst hw0; have h1:=CellsAt.new (w.alloc (.cells #[.slice a rs.length cap] 26)) [.string r.name,.int .i64 r.kind,.int .i64 r.size,.bool r.little,.slice a4 r.bytes.length c4,.slice a5 r.names.length c5,.slice a6 r.tags.length c6,.slice a7 r.kids.length c7] 47; rw [World.size_alloc] at h1; exact h1.below ((Below.refl _ _).alloc (Nat.le_refl _) _)
 have HY:Hid (CellsAt (w.heap.size + 2) (arr24 zs) w0):=by subst hw0; subst hz; have h1:=CellsAt.new ((w.alloc (.cells #[.slice a rs.length cap] 26)).alloc (.cells #[.string r.name,.int .i64 r.kind,.int .i64 r.size,.bool r.little,.slice a4 r.bytes.length c4,.slice a5 r.names.length c5,.slice a6 r.tags.length c6,.slice a7 r.kids.length c7] 47)) (arr24 zs) 127; rw [World.size_alloc,World.size_alloc] at h1; exact h1
 obtain ⟨S,hS⟩ : ∃ S,S = defStep zs r:=⟨_,rfl⟩
 have HCL:Hid (Calls Tryz.prog 105 #[.agg #[.string r.name,.int .i64 r.kind,.int .i64 r.size,.bool r.little,.slice a4 r.bytes.length c4,.slice a5 r.names.length c5,.slice a6 r.tags.length c6,.slice a7 r.kids.length c7],.agg (arr24 zs).toArray,.func (.func 104) #[] #[]] w0 fun e w' => e = .returned (.int .i64 S) ∧ Below w0.heap.size w0 w'):=by rw [hS]; exact swcFst_impl rs r _ zs n w0 hn hki hkd hib hcp (h0.below hB)
 have y0:=(hC 0 _ rfl).1
 have y1:=(hC 1 _ rfl).1
 have y2:=(hC 2 _ rfl).1
 have y3:=(hC 3 _ rfl).1
 have y4:=(hC 4 _ rfl).1
 have y5:=(hC 5 _ rfl).1
 have y6:=(hC 6 _ rfl).1
 have y7:=(hC 7 _ rfl).1
 have HB:=kq hB
 have hW:=kq hw0
 rw [← hS]
 have hHZ:=kq hz
 clear hB hC hw0 h0 hki hkd hib hcp _hv _hrd hS
 go_enter Tryz.func60,Tryz.ntmps60
 rw [← hz]
 clear hz
 go_upto_region 1 with fail
 rw [← hW.out]
 clear hW
 go_wp2_with (refine wpList_load_mid rfl 127 (.tmp 5) rfl (w.heap.size + 2) 0 rfl (arr24 zs) _ HY.out.range Tryz.underlying127 rfl (info24 zs) ?_)
 refine HCL.out.mono ?_
 rintro e wx ⟨rfl,hbx⟩
 have HBX:=kq (HB.out.trans (hbx.mono HB.out.size))
 clear hbx y0 y1 y2 y3 y4 y5 y6 y7
 go_wp2
 go_ret
 exact ⟨rfl,HBX.out⟩
end Go.Proofs.YtfmnjclnhppghaaGreat

/- The contracts of the program's measure,with leastSize,greatestSize and depthOverKids; MinSize,MaxSize,DepthOf. -/
namespace Go.Proofs.YtfmnjclnhppghaaGreat
open Go Go.RowKit
theorem measure_fst (a:Option Addr) (rs:List RuleV) (cap:Nat) (k:Int) (w:World) (hl:rs.length ≤ 1048576) (hs:∀ r ∈ rs,Short r) (hp:∀ r ∈ rs,Spelt r) (h:RdK a rs w) :
  Calls Tryz.prog 59 #[.agg #[.slice a rs.length cap],.int .i64 k,.func (.func 60) #[] #[]] w fun e w' => e = .returned (.int .i64 (sizeD defStep rs k)) ∧ Below w.heap.size w w':=by
 obtain ⟨w0,hw0⟩ : ∃ w0,w0 = w.alloc (.cells #[.slice a rs.length cap] 26):=⟨_,rfl⟩
 have hB0:=zb1 hw0
 have hX0:=zk1 hw0
 have hz0:w0.heap.size = w.heap.size + 1:=by subst hw0; exact World.size_alloc _ _
 have bx:=(hX0 0 _ rfl).1
 have HX:=kq hX0
 have HB:=kq hB0
 have HK:=kq (h.below hB0)
 have HS:=kq hs
 have HP:=kq hp
 have hW:=kq hw0
 have HZ0:=kq hz0
 have HKW:=kq h
 have HBK:Hid (∀ j (hj:j < rs.length) b off,a = some ⟨b,off,none⟩ → b < w.heap.size):=fun j hj b off e => by obtain ⟨b1,o1,cs,e1,⟨a4,c4,a5,c5,a6,c6,a7,c7,rfl,_⟩,_,_,hc⟩:=h j hj; rw [e1] at e; injection e with e; injection e with e2 e3; have:=cell_lt (hc 0 _ rfl); simp at this; omega
 clear h hB0 hX0 hs hp hw0 hz0
 obtain ⟨b,hb⟩ : ∃ b,b = okAt rs k:=⟨_,rfl⟩
 have HBB:=kq hb
 clear hb
 go_enter Tryz.func59,Tryz.ntmps59
 go_wp2_with fail
 rw [← hW.out]
 clear hW
 refine (isdescr_impl a rs cap k _ hl HS.out HP.out HK.out.rdc).mono ?_
 rintro e w1 ⟨rfl,hb1⟩
 rw [← HBB.out]
 replace HX:=kq (HX.out.below hb1)
 replace HK:=kq (HK.out.below hb1)
 replace HB:=kq (HB.out.trans (hb1.mono HB.out.size))
 have HS1:Hid (w.heap.size < w1.heap.size):=by have h1:=hb1.size; have h2:=HZ0.out; show _ < _; omega
 clear hb1 bx HZ0
 have bx:=(HX.out 0 _ rfl).1
 cases b with
 | false =>
  have hr:Hid (sizeD defStep rs k = 0):=sizeD_no HBB.out.symm
  go_wp2
  go_ret
  exact ⟨ret_int hr.out.symm,HB.out⟩
 | true =>
  have hr:Hid (sizeD defStep rs k = sizeAt defStep rs k):=sizeD_yes HBB.out.symm
  obtain ⟨hk,hn,hv⟩:=okAt_yes HBB.out.symm
  have hn24:=hn.2
  obtain ⟨m,rfl⟩ : ∃ m:Nat,k = (m:Int):=⟨k.toNat,by omega⟩
  have hm:m < rs.length:=by omega
  have HV:=kq hv
  clear hv hn HBB hk
  obtain ⟨w2,hww⟩ : ∃ w2,w2 = w1:=⟨_,rfl⟩
  rw [← hww] at HX HK HB HS1 ⊢
  clear hww bx
  have z24:=arr24_nil
  obtain ⟨w3,hw3⟩ : ∃ w3,w3 = w2.alloc (.cells (arr24 []).toArray 127):=⟨_,rfl⟩
  have hb3:=zb1 hw3
  have HA:Hid (CellsAt w2.heap.size (arr24 []) w3):=by subst hw3; exact CellsAt.new w2 _ _
  replace HX:=kq (HX.out.below hb3)
  replace HK:=kq (HK.out.below hb3)
  replace HB:=kq (HB.out.trans (hb3.mono HB.out.size))
  have HS3:Hid (w2.heap.size < w3.heap.size):=by subst hw3; show _ < _; rw [World.size_alloc]; omega
  rw [z24] at hw3
  have hW3:=kq hw3
  clear hb3 hw3 z24
  go_upto_region 4 with fail
  rw [← hW3.out]
  clear hW3
  obtain ⟨B,hB⟩ : ∃ B,B = w2.heap.size:=⟨_,rfl⟩
  rw [← hB] at HA HS1 HS3 ⊢
  clear hB
  go_wp2
  clear HK
  go_loopw [8,15] (fun _ i W => ∃ n:Nat,n ≤ m + 1 ∧ i = .int .i64 n ∧ Hid (CellsAt B (arr24 (tabTo defStep rs n)) W) ∧ Hid (CellsAt w.heap.size [.slice a rs.length cap] W) ∧ Hid (Below w.heap.size w W) ∧ Hid (B < W.heap.size)) (fun _ i _ => m + 1 - (intOf i).toNat)
  case atStart => exact ⟨0,Nat.zero_le _,rfl,HA,HX,HB,HS3⟩
  case round =>
   obtain ⟨n,hnm,rfl,ha,hx,hb,hsz⟩:=hrel
   have n0:(0:Int) ≤ (n:Int):=by omega
   have bx:=(hx.out 0 _ rfl).1
   by_cases hlt:n < m + 1
   case pos =>
    have n1:(n:Int) < (m:Int) + 1:=by omega
    have hnr:n < rs.length:=by omega
    have n2:(n:Int) < (rs.length:Int):=by omega
    have n3:(n:Int) < 24:=by omega
    have HKI:Hid (kindI rs rs[n] = true):=allV_kind HV.out hnr
    have HKD:=kq (allV_kids HV.out hnr)
    have HSH:Hid (rs[n].kids.length ≤ 1048576):=(HS.out _ (List.getElem_mem hnr)).2.2.2
    obtain ⟨b0,off,a4,c4,a5,c5,a6,c6,a7,c7,rfl,⟨d0,d1,d2,d3,d4,d5,d6,d7⟩,⟨r4,r5,r6,r7⟩,hc7⟩:=(HKW.out.below hb.out).at n hnr
    have HRD:=kq (HKW.out.rd.below hb.out)
    have hzl:(tabTo defStep rs n).length = n:=tabTo_length _ _ _ (by omega)
    have hnx:=tabTo_next (f:=defStep) hnr
    obtain ⟨r,hrr⟩ : ∃ r,r = rs[n]:=⟨_,rfl⟩
    rw [← hrr] at d0 d1 d2 d3 d4 d5 d6 d7 r4 r5 r6 r7 hc7 HKI HKD hnx HSH
    clear hrr
    have HIB:Hid (InB 401 (tabTo defStep rs n)):=defs_b HV.out n (by omega)
    obtain ⟨zs,hzs⟩ : ∃ zs,zs = tabTo defStep rs n:=⟨_,rfl⟩
    rw [← hzs] at ha hzl hnx HIB
    have HZS:=kq hzs
    clear hzs
    have HIS:Hid (IsRule r [.string r.name,.int .i64 r.kind,.int .i64 r.size,.bool r.little,.slice a4 r.bytes.length c4,.slice a5 r.names.length c5,.slice a6 r.tags.length c6,.slice a7 r.kids.length c7] wr):=⟨a4,c4,a5,c5,a6,c6,a7,c7,rfl,r4,r5,r6,r7⟩
    have HCP:Hid (Cap7 [.string r.name,.int .i64 r.kind,.int .i64 r.size,.bool r.little,.slice a4 r.bytes.length c4,.slice a5 r.names.length c5,.slice a6 r.tags.length c6,.slice a7 r.kids.length c7]):=fun a' n' c' hc => by simp at hc; obtain ⟨_,rfl,rfl⟩:=hc; exact hc7
    have HCALL:=kq (fun wx (hbx:Below wr.heap.size wr wx) => deft_impl (some ⟨b0,off,none⟩) rs cap r _ zs n wx hl (HRD.out.below hbx) (by omega) HKI.out HKD.out HIB.out HCP.out (HIS.out.below hbx) HV.out)
    obtain ⟨y,hy⟩ : ∃ y,y = defStep zs r:=⟨_,rfl⟩
    rw [← hy] at HCALL hnx
    have HY:=kq hy
    have HNX:=kq hnx
    have HZL:=kq hzl
    clear hy hnx hzl r4 r5 r6 r7 hc7
    have hra:wr.drew.rangeAt B 0 (arr24 zs):=(show CellsAt B (arr24 zs) wr.drew from ha.out).range
    have hun:=Tryz.underlying127
    have hin:=info24 zs
    have hfz:=(ha.out n _ (arr24_at zs (by omega))).2
    have hfc:=(ha.out n _ (arr24_at zs (by omega))).1
    have hbB:b0 < B:=by have h1:=HBK.out n hnr b0 off rfl; have h2:=HS1.out; omega
    have HSW:Hid (∀ W,Below B wr W → W.cell? ⟨w.heap.size,0,none⟩ = some (.slice (some ⟨b0,off,none⟩) rs.length cap) ∧ W.cell? ⟨b0,off + n * 8,none⟩ = some (.string r.name) ∧ W.cell? ⟨b0,off + n * 8 + 1,none⟩ = some (.int .i64 r.kind) ∧ W.cell? ⟨b0,off + n * 8 + 2,none⟩ = some (.int .i64 r.size) ∧ W.cell? ⟨b0,off + n * 8 + 3,none⟩ = some (.bool r.little) ∧ W.cell? ⟨b0,off + n * 8 + 4,none⟩ = some (.slice a4 r.bytes.length c4) ∧ W.cell? ⟨b0,off + n * 8 + 5,none⟩ = some (.slice a5 r.names.length c5) ∧ W.cell? ⟨b0,off + n * 8 + 6,none⟩ = some (.slice a6 r.tags.length c6) ∧ W.cell? ⟨b0,off + n * 8 + 7,none⟩ = some (.slice a7 r.kids.length c7)):=fun W hW => ⟨cell_keepB hW (by have:=HS1.out; exact this) bx,cell_keepB hW hbB d0,cell_keepB hW hbB d1,cell_keepB hW hbB d2,cell_keepB hW hbB d3,cell_keepB hW hbB d4,cell_keepB hW hbB d5,cell_keepB hW hbB d6,cell_keepB hW hbB d7⟩
    have HBQ:Hid (Below B wr wr.drew):=below_drewN (Below.refl B wr) 1
    go_upto_region 7 with fail
    clear bx d0 d1 d2 d3 d4 d5 d6 d7
    refine wp_region_held_drew (S:=(fun W => W.cell? ⟨w.heap.size,0,none⟩ = some (.slice (some ⟨b0,off,none⟩) rs.length cap) ∧ W.cell? ⟨b0,off + n * 8,none⟩ = some (.string r.name) ∧ W.cell? ⟨b0,off + n * 8 + 1,none⟩ = some (.int .i64 r.kind) ∧ W.cell? ⟨b0,off + n * 8 + 2,none⟩ = some (.int .i64 r.size) ∧ W.cell? ⟨b0,off + n * 8 + 3,none⟩ = some (.bool r.little) ∧ W.cell? ⟨b0,off + n * 8 + 4,none⟩ = some (.slice a4 r.bytes.length c4) ∧ W.cell? ⟨b0,off + n * 8 + 5,none⟩ = some (.slice a5 r.names.length c5) ∧ W.cell? ⟨b0,off + n * 8 + 6,none⟩ = some (.slice a6 r.tags.length c6) ∧ W.cell? ⟨b0,off + n * 8 + 7,none⟩ = some (.slice a7 r.kids.length c7))) (by kernel_rfl) ?_ (fun hHeld => ?_)
    ·(try dsimp only); exact HSW.out _ HBQ.out
    refine tq 0 (h:=?_)
    refine tq 1 (h:=?_)
    refine tq 2 (h:=?_)
    refine tq 3 (h:=?_)
    refine tq 4 (h:=?_)
    refine tq 5 (h:=?_)
    refine tq 6 (h:=?_)
    refine tq 7 (h:=?_)
    refine wpAnyH_ready (rs:=[8]) (by kernel_rfl) (by simp) ?_
    refine ac (h:=fun K hK => ?_)
    rw [if_pos (by rfl)]
    refine wp_load_mid 127 (.tmp 7) rfl B 0 rfl (arr24 zs) _ hra hun rfl hin ?_
    simp only [Act.put,List.setIfInBounds_toArray,List.set_cons_zero,List.set_cons_succ]
    refine hK.out _ _ ?_ (fun hHeld => ?_)
    ·(try dsimp only); exact HSW.out _ HBQ.out
    clear hK K
    refine wpAnyH_ready (rs:=[9]) (by kernel_rfl) (by simp) ?_
    refine ac (h:=fun K hK => ?_)
    go_simp
    (go_at_call 60; refine (HCALL.out _ (below_drewN (Below.refl _ wr) 1)).mono ?_; rintro e wx ⟨rfl,hbx⟩; have hfc2:=cell_keep (w:=wr.drew) hbx hfc; have hfz2:=((show CellsAt B (arr24 zs) wr.drew from ha.out).below hbx n _ (arr24_at zs (by omega))).2; have HBX:=kq hbx; replace HBQ:=kq (HBQ.out.trans (hbx.mono (by have:=hsz.out; show B ≤ wr.heap.size; omega))); clear hbx)
    go_wp2_with fail
    refine hK.out _ _ ?_ (fun hHeld => ?_)
    ·(try dsimp only); exact HSW.out _ HBQ.out
    clear hK K
    refine tq 10 (h:=?_)
    refine wpAnyH_ready (rs:=[11]) (by kernel_rfl) (by simp) ?_
    refine ac (h:=fun K hK => ?_)
    go_simp
    refine hK.out _ _ ?_ (fun hHeld => ?_)
    ·(try dsimp only); exact HSW.out _ (HBQ.out.setCell (p:=⟨B,n,none⟩) (Nat.le_refl _) _)
    clear hK K
    refine wpAnyH_done (by kernel_rfl) ?_ _
    all_goals (have hA1:=(show CellsAt B (arr24 zs) wr.drew from ha.out).below HBX.out; have hA2:=hA1.set n (.int .i64 y) (by rw [arr24_length]; omega); rw [show (arr24 zs).set n (.int .i64 y) = arr24 (tabTo defStep rs (n + 1)) from by rw [HNX.out,← arr24_set,HZL.out]] at hA2; have HA2:=kq hA2; have HX2:=kq (((show CellsAt w.heap.size [.slice (some ⟨b0,off,none⟩) rs.length cap] wr.drew from hx.out).below HBX.out).far (b':=B) (j:=n) (v:=.int .i64 y) (by have:=HS1.out; omega)); have HB2:=kq (((show Below w.heap.size w wr.drew from below_drewN hb.out 1).trans (HBX.out.mono hb.out.size)).setCell (p:=⟨B,n,none⟩) (by have:=HS1.out; show w.heap.size ≤ B; omega) (.int .i64 y)); have HS4:Hid (B < (wx.setCell ⟨B,n,none⟩ (.int .i64 y)).heap.size):=(by show _ < _; have h1:=HBX.out.size; have h2:=hsz.out; simp at h1 ⊢; omega); clear hA1 hA2 HBX ha hx hb hsz hfz hfc hfc2 hfz2 hra hun hin)
    all_goals go_wp2
    all_goals go_roundw
    all_goals first | exact ⟨n + 1,by omega,by go_num,HA2,HX2,HB2,HS4⟩ | (simp [intOf]; omega)
   case neg =>
    obtain rfl:n = m + 1:=by omega
    have n1:¬ ((m + 1:Nat):Int) < (m:Int) + 1:=by omega
    have hcm:=(ha.out m _ (arr24_at _ (by omega))).1
    rw [sizeAt_in (by omega) (by omega)] at hcm
    have m0:(0:Int) ≤ (m:Int):=by omega
    have m1:(m:Int) < 24:=by omega
    obtain ⟨y,hy⟩ : ∃ y,y = sizeAt defStep rs (m:Int):=⟨_,rfl⟩
    rw [← hy] at hcm
    have HRY:Hid (y = sizeD defStep rs (m:Int)):=by show _ = _; rw [hr.out,hy]
    clear hy hr ha hx
    go_wp2
    go_ret
    exact ⟨ret_int HRY.out,hb.out⟩
end Go.Proofs.YtfmnjclnhppghaaGreat
