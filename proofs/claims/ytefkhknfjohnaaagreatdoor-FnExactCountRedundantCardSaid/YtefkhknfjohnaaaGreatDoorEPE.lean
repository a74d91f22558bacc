/- BigEndian, LittleEndian: -/
import Derived.Test.YtefkhknfjohnaaaGreatDoorEGEnd
import Derived.Test.YtefkhknfjohnaaaGreatDoorEGBase
import Derived.Deep.RegionHeld3
import Derived.Deep.CutRange
import Derived.Test.YtefkhknfjohnaaaGreatDoorEGP
import Derived.Test.YtefkhknfjohnaaaGreatDoorEGD
import Derived.Test.YtefkhknfjohnaaaGreatDoorEGPu
import Derived.Test.YtefkhknfjohnaaaGreatDoorEGX
import Derived.Test.YtefkhknfjohnaaaGreatDoorEGV
set_option maxRecDepth 100000
set_option maxHeartbeats 2000000
namespace Go.Proofs.YtefkhknfjohnaaaGreatDoor
open Go Go.RowKit
def OwnOut (bs : List UInt8) (w : World) (e : Ending) (w' : World) : Prop:=∃ z,e = .returned z ∧ OwnB w.heap.size z bs w' ∧ Below w.heap.size w w'
theorem midB_endO {all : List UInt8} {v : Value} {w W : World} (h : MidB [] all v w W) : OwnOut all w (.returned v) W:=by
 obtain ⟨acc,he,hown,hb⟩:=h
 rw [List.append_nil] at he
 subst he
 exact ⟨v,rfl,hown,hb⟩
theorem be_yes1O (m : Nat) (w : World) (hm : m ≤ 255) : Calls Tryz.prog 219 #[.int .i64 m,.int .i64 1] w (OwnOut (beB m 1) w):=by
 obtain ⟨i0,hi,hz0,hz1,hz2⟩:=infoParts
 have H0:=kq (midB_start (beB m 1) w)
 have m0 : (0 : Int) ≤ (m : Int):=by omega
 have m1 : (m : Int) ≤ 255:=by omega
 go_enter Tryz.func219,Tryz.ntmps219
 go_wp2
 go_loopw [5,6] (fun v i W => RelB m 1 w v i W) (fun _ i _ => (intOf i + 1).toNat)
 case atStart => exact ⟨1,0,by omega,by omega,rfl,H0.out⟩
 case round =>
  obtain ⟨k,z,hz,hk,rfl,hm2⟩:=hrel
  obtain rfl | rfl : k = 0 ∨ k = 1:=by omega
  ·obtain rfl : z = -1:=by omega
   clear hz
   go_wp2
   go_ret
   exact midB_endO hm2.out
  ·obtain rfl : z = 0:=by omega
   clear hz
   obtain ⟨acc,he,hown,hb⟩:=hm2.out
   have HE:=kq he
   have HO:=kq hown
   have HB:=kq hb
   have hal : acc.length ≤ 4:=by have:=congrArg List.length he; simp only [List.length_append,beB_length] at this; omega
   clear he hown hb hm2
   go_wp2_with (at_builtin; refine wpList_append_own _ rfl _ _ 22 rfl w.heap.size 5 i0 (.int .u8 0) 1 1 Tryz.underlying22 hi hz0 hz1 hz2 rfl (by decide) _ _ _ rfl (World.ownsRow.alloc HO.out _) ⟨wr.heap.size,0,none⟩ 1 1 [.int .u8 ((m : Int))] rfl rfl ?c1 ?c2 ?c3 ?c4 ?c5 ?_)
   case c1 =>
    intro j u hj
    match j,hj with
    | 0,hj => simp at hj; subst hj; simp [Addr.add]
   case c2 => intro u hu; simp at hu; subst hu; rfl
   case c3 => unfold maxLen; omega
   case c4 => omega
   case c5 => have:=HB.out.size; simp; omega
   ·intro v' w2 hown' hgrow _
    rw [bv_of (m / 256 ^ 0) _ (by simp only [Nat.reducePow]; omega)] at hown'
    have R:=kq (midB_next HE.out HO.out HB.out hown' hgrow)
    clear hown' hgrow
    go_wp2
    go_roundw
    case rel => exact ⟨0,-1,by omega,by omega,rfl,R.out⟩
    case measure => first | (simp [intOf]; done) | (simp [intOf]; omega)
theorem be_yes2O (m : Nat) (w : World) (hm : m ≤ 65535) : Calls Tryz.prog 219 #[.int .i64 m,.int .i64 2] w (OwnOut (beB m 2) w):=by
 obtain ⟨i0,hi,hz0,hz1,hz2⟩:=infoParts
 have H0:=kq (midB_start (beB m 2) w)
 have m0 : (0 : Int) ≤ (m : Int):=by omega
 have m1 : (m : Int) ≤ 65535:=by omega
 go_enter Tryz.func219,Tryz.ntmps219
 go_wp2
 go_loopw [5,6] (fun v i W => RelB m 2 w v i W) (fun _ i _ => (intOf i + 1).toNat)
 case atStart => exact ⟨2,1,by omega,by omega,rfl,H0.out⟩
 case round =>
  obtain ⟨k,z,hz,hk,rfl,hm2⟩:=hrel
  obtain rfl | rfl | rfl : k = 0 ∨ k = 1 ∨ k = 2:=by omega
  ·obtain rfl : z = -1:=by omega
   clear hz
   go_wp2
   go_ret
   exact midB_endO hm2.out
  ·obtain rfl : z = 0:=by omega
   clear hz
   obtain ⟨acc,he,hown,hb⟩:=hm2.out
   have HE:=kq he
   have HO:=kq hown
   have HB:=kq hb
   have hal : acc.length ≤ 4:=by have:=congrArg List.length he; simp only [List.length_append,beB_length] at this; omega
   clear he hown hb hm2
   go_wp2_with (at_builtin; refine wpList_append_own _ rfl _ _ 22 rfl w.heap.size 5 i0 (.int .u8 0) 1 1 Tryz.underlying22 hi hz0 hz1 hz2 rfl (by decide) _ _ _ rfl (World.ownsRow.alloc HO.out _) ⟨wr.heap.size,0,none⟩ 1 1 [.int .u8 ((m : Int) % 256)] rfl rfl ?c1 ?c2 ?c3 ?c4 ?c5 ?_)
   case c1 =>
    intro j u hj
    match j,hj with
    | 0,hj => simp at hj; subst hj; simp [Addr.add]
   case c2 => intro u hu; simp at hu; subst hu; rfl
   case c3 => unfold maxLen; omega
   case c4 => omega
   case c5 => have:=HB.out.size; simp; omega
   ·intro v' w2 hown' hgrow _
    rw [bv_of (m / 256 ^ 0) _ (by simp only [Nat.reducePow]; omega)] at hown'
    have R:=kq (midB_next HE.out HO.out HB.out hown' hgrow)
    clear hown' hgrow
    go_wp2
    go_roundw
    case rel => exact ⟨0,-1,by omega,by omega,rfl,R.out⟩
    case measure => first | (simp [intOf]; done) | (simp [intOf]; omega)
  ·obtain rfl : z = 1:=by omega
   clear hz
   obtain ⟨acc,he,hown,hb⟩:=hm2.out
   have HE:=kq he
   have HO:=kq hown
   have HB:=kq hb
   have hal : acc.length ≤ 4:=by have:=congrArg List.length he; simp only [List.length_append,beB_length] at this; omega
   clear he hown hb hm2
   go_wp2_with (at_builtin; refine wpList_append_own _ rfl _ _ 22 rfl w.heap.size 5 i0 (.int .u8 0) 1 1 Tryz.underlying22 hi hz0 hz1 hz2 rfl (by decide) _ _ _ rfl (World.ownsRow.alloc HO.out _) ⟨wr.heap.size,0,none⟩ 1 1 [.int .u8 ((m : Int) / 256)] rfl rfl ?c1 ?c2 ?c3 ?c4 ?c5 ?_)
   case c1 =>
    intro j u hj
    match j,hj with
    | 0,hj => simp at hj; subst hj; simp [Addr.add]
   case c2 => intro u hu; simp at hu; subst hu; rfl
   case c3 => unfold maxLen; omega
   case c4 => omega
   case c5 => have:=HB.out.size; simp; omega
   ·intro v' w2 hown' hgrow _
    rw [bv_of (m / 256 ^ 1) _ (by simp only [Nat.reducePow]; omega)] at hown'
    have R:=kq (midB_next HE.out HO.out HB.out hown' hgrow)
    clear hown' hgrow
    go_wp2
    go_roundw
    case rel => exact ⟨1,0,by omega,by omega,rfl,R.out⟩
    case measure => first | (simp [intOf]; done) | (simp [intOf]; omega)
theorem be_yes3O (m : Nat) (w : World) (hm : m ≤ 16777215) : Calls Tryz.prog 219 #[.int .i64 m,.int .i64 3] w (OwnOut (beB m 3) w):=by
 obtain ⟨i0,hi,hz0,hz1,hz2⟩:=infoParts
 have H0:=kq (midB_start (beB m 3) w)
 have m0 : (0 : Int) ≤ (m : Int):=by omega
 have m1 : (m : Int) ≤ 16777215:=by omega
 go_enter Tryz.func219,Tryz.ntmps219
 go_wp2
 go_loopw [5,6] (fun v i W => RelB m 3 w v i W) (fun _ i _ => (intOf i + 1).toNat)
 case atStart => exact ⟨3,2,by omega,by omega,rfl,H0.out⟩
 case round =>
  obtain ⟨k,z,hz,hk,rfl,hm2⟩:=hrel
  obtain rfl | rfl | rfl | rfl : k = 0 ∨ k = 1 ∨ k = 2 ∨ k = 3:=by omega
  ·obtain rfl : z = -1:=by omega
   clear hz
   go_wp2
   go_ret
   exact midB_endO hm2.out
  ·obtain rfl : z = 0:=by omega
   clear hz
   obtain ⟨acc,he,hown,hb⟩:=hm2.out
   have HE:=kq he
   have HO:=kq hown
   have HB:=kq hb
   have hal : acc.length ≤ 4:=by have:=congrArg List.length he; simp only [List.length_append,beB_length] at this; omega
   clear he hown hb hm2
   go_wp2_with (at_builtin; refine wpList_append_own _ rfl _ _ 22 rfl w.heap.size 5 i0 (.int .u8 0) 1 1 Tryz.underlying22 hi hz0 hz1 hz2 rfl (by decide) _ _ _ rfl (World.ownsRow.alloc HO.out _) ⟨wr.heap.size,0,none⟩ 1 1 [.int .u8 ((m : Int) % 256)] rfl rfl ?c1 ?c2 ?c3 ?c4 ?c5 ?_)
   case c1 =>
    intro j u hj
    match j,hj with
    | 0,hj => simp at hj; subst hj; simp [Addr.add]
   case c2 => intro u hu; simp at hu; subst hu; rfl
   case c3 => unfold maxLen; omega
   case c4 => omega
   case c5 => have:=HB.out.size; simp; omega
   ·intro v' w2 hown' hgrow _
    rw [bv_of (m / 256 ^ 0) _ (by simp only [Nat.reducePow]; omega)] at hown'
    have R:=kq (midB_next HE.out HO.out HB.out hown' hgrow)
    clear hown' hgrow
    go_wp2
    go_roundw
    case rel => exact ⟨0,-1,by omega,by omega,rfl,R.out⟩
    case measure => first | (simp [intOf]; done) | (simp [intOf]; omega)
  ·obtain rfl : z = 1:=by omega
   clear hz
   obtain ⟨acc,he,hown,hb⟩:=hm2.out
   have HE:=kq he
   have HO:=kq hown
   have HB:=kq hb
   have hal : acc.length ≤ 4:=by have:=congrArg List.length he; simp only [List.length_append,beB_length] at this; omega
   clear he hown hb hm2
   go_wp2_with (at_builtin; refine wpList_append_own _ rfl _ _ 22 rfl w.heap.size 5 i0 (.int .u8 0) 1 1 Tryz.underlying22 hi hz0 hz1 hz2 rfl (by decide) _ _ _ rfl (World.ownsRow.alloc HO.out _) ⟨wr.heap.size,0,none⟩ 1 1 [.int .u8 ((m : Int) / 256 % 256)] rfl rfl ?c1 ?c2 ?c3 ?c4 ?c5 ?_)
   case c1 =>
    intro j u hj
    match j,hj with
    | 0,hj => simp at hj; subst hj; simp [Addr.add]
   case c2 => intro u hu; simp at hu; subst hu; rfl
   case c3 => unfold maxLen; omega
   case c4 => omega
   case c5 => have:=HB.out.size; simp; omega
   ·intro v' w2 hown' hgrow _
    rw [bv_of (m / 256 ^ 1) _ (by simp only [Nat.reducePow]; omega)] at hown'
    have R:=kq (midB_next HE.out HO.out HB.out hown' hgrow)
    clear hown' hgrow
    go_wp2
    go_roundw
    case rel => exact ⟨1,0,by omega,by omega,rfl,R.out⟩
    case measure => first | (simp [intOf]; done) | (simp [intOf]; omega)
  ·obtain rfl : z = 2:=by omega
   clear hz
   obtain ⟨acc,he,hown,hb⟩:=hm2.out
   have HE:=kq he
   have HO:=kq hown
   have HB:=kq hb
   have hal : acc.length ≤ 4:=by have:=congrArg List.length he; simp only [List.length_append,beB_length] at this; omega
   clear he hown hb hm2
   go_wp2_with (at_builtin; refine wpList_append_own _ rfl _ _ 22 rfl w.heap.size 5 i0 (.int .u8 0) 1 1 Tryz.underlying22 hi hz0 hz1 hz2 rfl (by decide) _ _ _ rfl (World.ownsRow.alloc HO.out _) ⟨wr.heap.size,0,none⟩ 1 1 [.int .u8 ((m : Int) / 65536)] rfl rfl ?c1 ?c2 ?c3 ?c4 ?c5 ?_)
   case c1 =>
    intro j u hj
    match j,hj with
    | 0,hj => simp at hj; subst hj; simp [Addr.add]
   case c2 => intro u hu; simp at hu; subst hu; rfl
   case c3 => unfold maxLen; omega
   case c4 => omega
   case c5 => have:=HB.out.size; simp; omega
   ·intro v' w2 hown' hgrow _
    rw [bv_of (m / 256 ^ 2) _ (by simp only [Nat.reducePow]; omega)] at hown'
    have R:=kq (midB_next HE.out HO.out HB.out hown' hgrow)
    clear hown' hgrow
    go_wp2
    go_roundw
    case rel => exact ⟨2,1,by omega,by omega,rfl,R.out⟩
    case measure => first | (simp [intOf]; done) | (simp [intOf]; omega)
theorem be_yes4O (m : Nat) (w : World) (hm : m ≤ 4294967295) : Calls Tryz.prog 219 #[.int .i64 m,.int .i64 4] w (OwnOut (beB m 4) w):=by
 obtain ⟨i0,hi,hz0,hz1,hz2⟩:=infoParts
 have H0:=kq (midB_start (beB m 4) w)
 have m0 : (0 : Int) ≤ (m : Int):=by omega
 have m1 : (m : Int) ≤ 4294967295:=by omega
 go_enter Tryz.func219,Tryz.ntmps219
 go_wp2
 go_loopw [5,6] (fun v i W => RelB m 4 w v i W) (fun _ i _ => (intOf i + 1).toNat)
 case atStart => exact ⟨4,3,by omega,by omega,rfl,H0.out⟩
 case round =>
  obtain ⟨k,z,hz,hk,rfl,hm2⟩:=hrel
  obtain rfl | rfl | rfl | rfl | rfl : k = 0 ∨ k = 1 ∨ k = 2 ∨ k = 3 ∨ k = 4:=by omega
  ·obtain rfl : z = -1:=by omega
   clear hz
   go_wp2
   go_ret
   exact midB_endO hm2.out
  ·obtain rfl : z = 0:=by omega
   clear hz
   obtain ⟨acc,he,hown,hb⟩:=hm2.out
   have HE:=kq he
   have HO:=kq hown
   have HB:=kq hb
   have hal : acc.length ≤ 4:=by have:=congrArg List.length he; simp only [List.length_append,beB_length] at this; omega
   clear he hown hb hm2
   go_wp2_with (at_builtin; refine wpList_append_own _ rfl _ _ 22 rfl w.heap.size 5 i0 (.int .u8 0) 1 1 Tryz.underlying22 hi hz0 hz1 hz2 rfl (by decide) _ _ _ rfl (World.ownsRow.alloc HO.out _) ⟨wr.heap.size,0,none⟩ 1 1 [.int .u8 ((m : Int) % 256)] rfl rfl ?c1 ?c2 ?c3 ?c4 ?c5 ?_)
   case c1 =>
    intro j u hj
    match j,hj with
    | 0,hj => simp at hj; subst hj; simp [Addr.add]
   case c2 => intro u hu; simp at hu; subst hu; rfl
   case c3 => unfold maxLen; omega
   case c4 => omega
   case c5 => have:=HB.out.size; simp; omega
   ·intro v' w2 hown' hgrow _
    rw [bv_of (m / 256 ^ 0) _ (by simp only [Nat.reducePow]; omega)] at hown'
    have R:=kq (midB_next HE.out HO.out HB.out hown' hgrow)
    clear hown' hgrow
    go_wp2
    go_roundw
    case rel => exact ⟨0,-1,by omega,by omega,rfl,R.out⟩
    case measure => first | (simp [intOf]; done) | (simp [intOf]; omega)
  ·obtain rfl : z = 1:=by omega
   clear hz
   obtain ⟨acc,he,hown,hb⟩:=hm2.out
   have HE:=kq he
   have HO:=kq hown
   have HB:=kq hb
   have hal : acc.length ≤ 4:=by have:=congrArg List.length he; simp only [List.length_append,beB_length] at this; omega
   clear he hown hb hm2
   go_wp2_with (at_builtin; refine wpList_append_own _ rfl _ _ 22 rfl w.heap.size 5 i0 (.int .u8 0) 1 1 Tryz.underlying22 hi hz0 hz1 hz2 rfl (by decide) _ _ _ rfl (World.ownsRow.alloc HO.out _) ⟨wr.heap.size,0,none⟩ 1 1 [.int .u8 ((m : Int) / 256 % 256)] rfl rfl ?c1 ?c2 ?c3 ?c4 ?c5 ?_)
   case c1 =>
    intro j u hj
    match j,hj with
    | 0,hj => simp at hj; subst hj; simp [Addr.add]
   case c2 => intro u hu; simp at hu; subst hu; rfl
   case c3 => unfold maxLen; omega
   case c4 => omega
   case c5 => have:=HB.out.size; simp; omega
   ·intro v' w2 hown' hgrow _
    rw [bv_of (m / 256 ^ 1) _ (by simp only [Nat.reducePow]; omega)] at hown'
    have R:=kq (midB_next HE.out HO.out HB.out hown' hgrow)
    clear hown' hgrow
    go_wp2
    go_roundw
    case rel => exact ⟨1,0,by omega,by omega,rfl,R.out⟩
    case measure => first | (simp [intOf]; done) | (simp [intOf]; omega)
  ·obtain rfl : z = 2:=by omega
   clear hz
   obtain ⟨acc,he,hown,hb⟩:=hm2.out
   have HE:=kq he
   have HO:=kq hown
   have HB:=kq hb
   have hal : acc.length ≤ 4:=by have:=congrArg List.length he; simp only [List.length_append,beB_length] at this; omega
   clear he hown hb hm2
   go_wp2_with (at_builtin; refine wpList_append_own _ rfl _ _ 22 rfl w.heap.size 5 i0 (.int .u8 0) 1 1 Tryz.underlying22 hi hz0 hz1 hz2 rfl (by decide) _ _ _ rfl (World.ownsRow.alloc HO.out _) ⟨wr.heap.size,0,none⟩ 1 1 [.int .u8 ((m : Int) / 65536 % 256)] rfl rfl ?c1 ?c2 ?c3 ?c4 ?c5 ?_)
   case c1 =>
    intro j u hj
    match j,hj with
    | 0,hj => simp at hj; subst hj; simp [Addr.add]
   case c2 => intro u hu; simp at hu; subst hu; rfl
   case c3 => unfold maxLen; omega
   case c4 => omega
   case c5 => have:=HB.out.size; simp; omega
   ·intro v' w2 hown' hgrow _
    rw [bv_of (m / 256 ^ 2) _ (by simp only [Nat.reducePow]; omega)] at hown'
    have R:=kq (midB_next HE.out HO.out HB.out hown' hgrow)
    clear hown' hgrow
    go_wp2
    go_roundw
    case rel => exact ⟨2,1,by omega,by omega,rfl,R.out⟩
    case measure => first | (simp [intOf]; done) | (simp [intOf]; omega)
  ·obtain rfl : z = 3:=by omega
   clear hz
   obtain ⟨acc,he,hown,hb⟩:=hm2.out
   have HE:=kq he
   have HO:=kq hown
   have HB:=kq hb
   have hal : acc.length ≤ 4:=by have:=congrArg List.length he; simp only [List.length_append,beB_length] at this; omega
   clear he hown hb hm2
   go_wp2_with (at_builtin; refine wpList_append_own _ rfl _ _ 22 rfl w.heap.size 5 i0 (.int .u8 0) 1 1 Tryz.underlying22 hi hz0 hz1 hz2 rfl (by decide) _ _ _ rfl (World.ownsRow.alloc HO.out _) ⟨wr.heap.size,0,none⟩ 1 1 [.int .u8 ((m : Int) / 16777216)] rfl rfl ?c1 ?c2 ?c3 ?c4 ?c5 ?_)
   case c1 =>
    intro j u hj
    match j,hj with
    | 0,hj => simp at hj; subst hj; simp [Addr.add]
   case c2 => intro u hu; simp at hu; subst hu; rfl
   case c3 => unfold maxLen; omega
   case c4 => omega
   case c5 => have:=HB.out.size; simp; omega
   ·intro v' w2 hown' hgrow _
    rw [bv_of (m / 256 ^ 3) _ (by simp only [Nat.reducePow]; omega)] at hown'
    have R:=kq (midB_next HE.out HO.out HB.out hown' hgrow)
    clear hown' hgrow
    go_wp2
    go_roundw
    case rel => exact ⟨3,2,by omega,by omega,rfl,R.out⟩
    case measure => first | (simp [intOf]; done) | (simp [intOf]; omega)
theorem empty_outO (w : World) : OwnOut [] w (.returned (.slice (some ⟨w.heap.size,0,none⟩) 0 0)) (w.alloc (.cells #[] 5)):=midB_endO (midB_start [] w)
theorem be_noO (n s : Int) (w : World) (h : s < 1 ∨ 4 < s ∨ n < 0 ∨ (s = 1 ∧ 255 < n) ∨ (s = 2 ∧ 65535 < n) ∨ (s = 3 ∧ 16777215 < n) ∨ (s = 4 ∧ 4294967295 < n)) :
    Calls Tryz.prog 219 #[.int .i64 n,.int .i64 s] w (OwnOut [] w):=by
  by_cases h1 : s < 1
  · have g1 : ¬ 1 ≤ s:=by omega
    go_enter Tryz.func219,Tryz.ntmps219
    go_wp2
    go_ret
    exact empty_outO w
  · have g1 : 1 ≤ s:=by omega
    by_cases h2 : 4 < s
    · have g2 : ¬ s ≤ 4:=by omega
      go_enter Tryz.func219,Tryz.ntmps219
      go_wp2
      go_ret
      exact empty_outO w
    · obtain rfl | rfl | rfl | rfl : s = 1 ∨ s = 2 ∨ s = 3 ∨ s = 4:=by omega
      all_goals
        clear g1 h1 h2
        by_cases h3 : n < 0
        · have g3 : decide (0 ≤ n) = false:=by simp; omega
          clear h
          go_enter Tryz.func219,Tryz.ntmps219
          go_wp2
          go_ret
          exact empty_outO w
        · have g3 : 0 ≤ n:=by omega
          first
            | (have g4 : decide (n ≤ 4294967295) = false:=by simp; omega
               clear h
               go_enter Tryz.func219,Tryz.ntmps219
               go_wp2
               go_ret
               exact empty_outO w)
            | (have g4 : decide (n ≤ 16777215) = false:=by simp; omega
               clear h
               go_enter Tryz.func219,Tryz.ntmps219
               go_wp2
               go_ret
               exact empty_outO w)
            | (have g4 : decide (n ≤ 65535) = false:=by simp; omega
               clear h
               go_enter Tryz.func219,Tryz.ntmps219
               go_wp2
               go_ret
               exact empty_outO w)
            | (have g4 : decide (n ≤ 255) = false:=by simp; omega
               clear h
               go_enter Tryz.func219,Tryz.ntmps219
               go_wp2
               go_ret
               exact empty_outO w)
theorem be_specO (n s : Int) (w : World) : Calls Tryz.prog 219 #[.int .i64 n,.int .i64 s] w (OwnOut (beOf n s) w):=by
 by_cases h : 1 ≤ s ∧ s ≤ 4 ∧ 0 ≤ n ∧ n < 256 ^ s.toNat
 ·rw [show beOf n s = beB n.toNat s.toNat from if_pos h]
  obtain ⟨h1,h2,h3,h4⟩:=h
  obtain ⟨m,rfl⟩ : ∃ m : Nat,n = (m : Int):=⟨n.toNat,by omega⟩
  obtain rfl | rfl | rfl | rfl : s = 1 ∨ s = 2 ∨ s = 3 ∨ s = 4:=by omega
  ·exact be_yes1O m w (by have : (m : Int) < 256:=h4; omega)
  ·exact be_yes2O m w (by have : (m : Int) < 65536:=h4; omega)
  ·exact be_yes3O m w (by have : (m : Int) < 16777216:=h4; omega)
  ·exact be_yes4O m w (by have : (m : Int) < 4294967296:=h4; omega)
 ·rw [show beOf n s = [] from if_neg h]
  refine be_noO n s w ?_
  by_cases h1 : s < 1
  ·exact .inl h1
  ·by_cases h2 : 4 < s
   ·exact .inr (.inl h2)
   ·by_cases h3 : n < 0
    ·exact .inr (.inr (.inl h3))
    ·have h4 : ¬ n < 256 ^ s.toNat:=fun h4 => h ⟨by omega,by omega,by omega,h4⟩
     obtain rfl | rfl | rfl | rfl : s = 1 ∨ s = 2 ∨ s = 3 ∨ s = 4:=by omega
     ·have : ¬ n < 256:=h4
      omega
     ·have : ¬ n < 65536:=h4
      omega
     ·have : ¬ n < 16777216:=h4
      omega
     ·have : ¬ n < 4294967296:=h4
      omega
theorem OwnB.more {base base' : Nat} {v : Value} {bs : List UInt8} {w : World} (h : OwnB base v bs w) (hb : base' ≤ base) : OwnB base' v bs w :=
 ⟨h.1,h.2.imp id fun ⟨g,cap,cur,h1,h2,h3⟩ => ⟨g,cap,cur,h1,Nat.le_trans hb h2,h3⟩⟩
theorem ownOut_below {bs : List UInt8} {w w1 : World} {e : Ending} {w2 : World} (hb : Below w.heap.size w w1) (h : OwnOut bs w1 e w2) : OwnOut bs w e w2:=by
 obtain ⟨z,he,ho,hb2⟩:=h
 exact ⟨z,he,ho.more hb.size,hb.trans (hb2.mono hb.size)⟩
theorem le_specO (n s : Int) (w : World) : Calls Tryz.prog 218 #[.int .i64 n,.int .i64 s] w (OwnOut (beOf n s).reverse w):=by
 obtain ⟨i0,hi,hz0,hz1,hz2⟩:=infoParts
 have hl4:=beOf_length n s
 have HC:=kq (be_spec n s)
 revert hl4 HC
 generalize beOf n s = bs
 intro hl4 HC
 go_enter Tryz.func218,Tryz.ntmps218
 go_wp2_with fail
 refine (HC.out _).mono ?_
 rintro e w1 ⟨a,cap,rfl,hf,hb1⟩
 have HR:=kq hf.rd
 have HB1:=kq hb1
 have H0:=kq (midB_start bs.reverse w1)
 clear hf hb1
 go_wp2
 go_loopw [6,7] (fun v i W => RelL bs w1 v i W) (fun _ i _ => (intOf i + 1).toNat)
 case atStart => exact ⟨bs.length,_,rfl,Nat.le_refl _,rfl,by rw [List.take_of_length_le (Nat.le_refl _)]; exact H0.out⟩
 case round =>
  obtain ⟨k,z,hz,hk,rfl,hm⟩:=hrel
  by_cases hk0 : k = 0
  ·subst hk0
   obtain rfl : z = -1:=by omega
   clear hz
   go_wp2
   go_ret
   exact ownOut_below HB1.out (midB_endO hm.out)
  ·obtain ⟨j,rfl⟩ : ∃ j,k = j + 1:=⟨k - 1,by omega⟩
   obtain rfl : z = (j : Int):=by omega
   have hj : j < bs.length:=by omega
   clear hz hk0
   have hm':=hm.out
   rw [take_rev bs j hj] at hm'
   obtain ⟨acc,he,hown,hb⟩:=hm'
   have hal : acc.length ≤ 4:=by have:=congrArg List.length he; simp only [List.length_append,List.length_reverse,List.length_cons] at this; omega
   obtain ⟨b,off,rfl,hc⟩:=(HR.out.below hb) j hj
   have HE:=kq he
   have HO:=kq hown
   have HB:=kq hb
   clear hm he hown hb
   have j0 : (0 : Int) ≤ (j : Int):=by omega
   have j1 : (j : Int) < (bs.length : Int):=by omega
   go_wp2_with (at_builtin; refine wpList_append_own _ rfl _ _ 22 rfl w1.heap.size 5 i0 (.int .u8 0) 1 1 Tryz.underlying22 hi hz0 hz1 hz2 rfl (by decide) _ _ _ rfl (World.ownsRow.alloc HO.out _) ⟨wr.heap.size,0,none⟩ 1 1 [.int .u8 (bs[j].toNat : Int)] rfl rfl ?c1 ?c2 ?c3 ?c4 ?c5 ?_)
   case c1 =>
    intro j u hj
    match j,hj with
    | 0,hj => simp at hj; subst hj; simp [Addr.add]
   case c2 => intro u hu; simp at hu; subst hu; rfl
   case c3 => unfold maxLen; omega
   case c4 => omega
   case c5 => have:=HB.out.size; simp; omega
   ·intro v' w2 hown' hgrow _
    have R:=kq (midB_next HE.out HO.out HB.out hown' hgrow)
    clear hown' hgrow
    go_wp2
    go_roundw
    case rel => exact ⟨j,_,rfl,by omega,rfl,R.out⟩
    case measure => first | (simp [intOf]; done) | (simp [intOf]; omega)
def encI (little : Bool) (n s : Int) : List UInt8:=if little then (beOf n s).reverse else beOf n s
theorem encI_length {little : Bool} {n s : Int} (h1 : 1 ≤ s) (h2 : s ≤ 4) (h3 : 0 ≤ n) (h4 : n < 256 ^ s.toNat) : (encI little n s).length = s.toNat:=by
 have h : (beOf n s).length = s.toNat:=by rw [beOf,if_pos ⟨h1,h2,h3,h4⟩,beB_length]
 unfold encI
 cases little <;> simp [h]
theorem int8_spec (r : RuleV) (cs : List Value) (n : Int) (w : World) (h : IsRule r cs w) :
  Calls Tryz.prog 187 #[.agg cs.toArray,.int .i64 n] w (OwnOut (encI r.little n r.size) w):=by
 obtain ⟨a4,c4,a5,c5,a6,c6,a7,c7,rfl,-,-,-,-⟩:=h
 obtain ⟨w0,hw0⟩ : ∃ w0,w0 = w.alloc (.cells #[.string r.name,.int .i64 r.kind,.int .i64 r.size,.bool r.little,.slice a4 r.bytes.length c4,.slice a5 r.names.length c5,.slice a6 r.tags.length c6,.slice a7 r.kids.length c7] 63):=⟨_,rfl⟩
 have hB : Below w.heap.size w w0:=by subst hw0; exact (Below.refl _ _).alloc (Nat.le_refl _) _
 have hC : CellsAt w.heap.size [.string r.name,.int .i64 r.kind,.int .i64 r.size,.bool r.little,.slice a4 r.bytes.length c4,.slice a5 r.names.length c5,.slice a6 r.tags.length c6,.slice a7 r.kids.length c7] w0:=by subst hw0; exact CellsAt.new w _ _
 have y2:=(hC 2 _ rfl).1
 have y3:=(hC 3 _ rfl).1
 have HB:=kq hB
 have hW:=kq hw0
 clear hB hC hw0
 generalize r.little = lt at *
 generalize r.size = s at *
 obtain ⟨bs,hbs⟩ : ∃ bs,bs = encI lt n s:=⟨_,rfl⟩
 rw [← hbs]
 have HBS:=kq hbs
 clear hbs
 go_enter Tryz.func187,Tryz.ntmps187
 go_upto_region 1 with fail
 rw [← hW.out]
 clear hW
 cases lt with
 | true =>
  go_wp2_with fail
  refine (le_specO n s _).mono ?_
  rintro e w2 ⟨z,rfl,ho,hb2⟩
  rw [show (beOf n s).reverse = bs from HBS.out.symm] at ho
  have HO:=kq (ho.more HB.out.size)
  replace HB:=kq (HB.out.trans (hb2.mono HB.out.size))
  clear hb2 ho
  go_wp2
  go_ret
  exact ⟨z,rfl,HO.out,HB.out⟩
 | false =>
  go_wp2_with fail
  refine (be_specO n s _).mono ?_
  rintro e w2 ⟨z,rfl,ho,hb2⟩
  rw [show beOf n s = bs from HBS.out.symm] at ho
  have HO:=kq (ho.more HB.out.size)
  replace HB:=kq (HB.out.trans (hb2.mono HB.out.size))
  clear hb2 ho
  go_wp2
  go_ret
  exact ⟨z,rfl,HO.out,HB.out⟩
theorem plens_next {rs : List RuleV} {r : RuleV} {x : Int} {q : Nat} {l : List ValueV} (h : q < l.length) : plens rs r x q (l.drop q) = plen rs (itemR r x q) l[q] + plens rs r x (q + 1) (l.drop (q + 1)):=by
 rw [List.drop_eq_getElem_cons h,plens]
theorem pow_eq {s : Int} (h1 : 1 ≤ s) (h2 : s ≤ 4) : (256 : Int) ^ s.toNat = pow256 s:=by
 obtain rfl | rfl | rfl | rfl : s = 1 ∨ s = 2 ∨ s = 3 ∨ s = 4:=by omega
 all_goals rfl
theorem enc_len {little : Bool} {x s : Int} (h1 : 1 ≤ s) (h2 : s ≤ 4) (h0 : 0 ≤ x) (hx : x ≤ pow256 s - 1) : (encI little x s).length = s.toNat :=
 encI_length h1 h2 h0 (by rw [pow_eq h1 h2]; omega)
theorem no_items {rs : List RuleV} {r : RuleV} {v : ValueV} (hk : r.kind = 1 ∨ r.kind = 2 ∨ r.kind = 3 ∨ r.kind = 4 ∨ r.kind = 10) (h : ownB rs r v = true) : plens rs r v.number 0 v.items = 0:=by
 have h0 : v.items = []:=by
  rcases hk with e | e | e | e | e
  ·simp [ownB,e] at h; exact h.2.2
  ·simp [ownB,e] at h; exact h.2.2
  ·simp [ownB,e] at h; exact h.2.2
  ·simp [ownB,e] at h; exact h.2.2
  ·simp [ownB,e] at h; exact h.2.2
 rw [h0,plens]
theorem print_1 {rs : List RuleV} {r : RuleV} {v : ValueV} (hki : kindI rs r = true) (hk : r.kind = 1) (h : ownB rs r v = true) : (encI r.little v.number r.size).length = headLen rs r v.bytes + plens rs r v.number 0 v.items:=by
 have hs:=kindI_size hki hk
 have h2 : headLen rs r v.bytes = r.size.toNat:=by simp [headLen,hk]
 rw [no_items (.inl hk) h,h2]
 simp [ownB,hk] at h
 rw [enc_len hs.1 hs.2 h.1.1 (by omega)]
 rfl
theorem print_2 {rs : List RuleV} {r : RuleV} {v : ValueV} (hk : r.kind = 2) (h : ownB rs r v = true) : r.bytes.length = headLen rs r v.bytes + plens rs r v.number 0 v.items:=by
 rw [no_items (.inr (.inl hk)) h]
 simp [headLen,hk]
theorem print_3 {rs : List RuleV} {r : RuleV} {v : ValueV} (hk : r.kind = 3) (h : ownB rs r v = true) : v.bytes.length = headLen rs r v.bytes + plens rs r v.number 0 v.items:=by
 rw [no_items (.inr (.inr (.inl hk))) h]
 simp [headLen,hk]
theorem kid_enc {rs : List RuleV} (hall : allV (kindI rs) rs) {m : Nat} (hm : m < rs.length) (hk : rs[m].kind = 1) {x : Int} (h0 : 0 ≤ x) (hx : x ≤ limitAt rs (m : Int)) : (encI rs[m].little x rs[m].size).length = rs[m].size.toNat:=by
 have hs:=kindI_size (allV_kind hall hm) hk
 rw [limitAt_in hm,if_pos ⟨hk,hs⟩] at hx
 exact enc_len hs.1 hs.2 h0 hx
theorem print_4 {rs : List RuleV} (hall : allV (kindI rs) rs) {r : RuleV} {v : ValueV} {m : Nat} (hm : m < rs.length) (hmk : r.kids.getD 0 0 = (m : Int)) (hk1 : rs[m].kind = 1) (hk : r.kind = 4) (h : ownB rs r v = true) :
  (encI rs[m].little (v.bytes.length : Nat) rs[m].size).length + v.bytes.length = headLen rs r v.bytes + plens rs r v.number 0 v.items:=by
 have h2 : headLen rs r v.bytes = rs[m].size.toNat + v.bytes.length:=by simp only [headLen,hk,hmk]; rw [ruleAt_at hm]; simp
 rw [no_items (.inr (.inr (.inr (.inl hk)))) h,h2]
 have h3 : (v.bytes.length : Int) ≤ limitAt rs (m : Int):=by
  simp only [ownB,hk,hmk] at h
  simp at h
  omega
 rw [kid_enc hall hm hk1 (by omega) h3]
 rfl
theorem print_5 {rs : List RuleV} (hall : allV (kindI rs) rs) {r : RuleV} {v : ValueV} {m : Nat} (hm : m < rs.length) (hmk : r.kids.getD 0 0 = (m : Int)) (hk1 : rs[m].kind = 1) (hk : r.kind = 5) (h : ownB rs r v = true) :
  (encI rs[m].little (v.items.length : Nat) rs[m].size).length + plens rs r v.number 0 v.items = headLen rs r v.bytes + plens rs r v.number 0 v.items:=by
 have h2 : headLen rs r v.bytes = rs[m].size.toNat:=by simp only [headLen,hk,hmk]; rw [ruleAt_at hm]; simp
 have h3 : (v.items.length : Int) ≤ limitAt rs (m : Int):=by
  simp only [ownB,hk,hmk] at h
  simp at h
  omega
 rw [h2,kid_enc hall hm hk1 (by omega) h3]
theorem tagsOk_in {lim : Int} : ∀ {lo : Int} {ts : List Int},tagsOk lim lo ts = true → ∀ t ∈ ts,lo ≤ t ∧ t ≤ lim
 | _,[],_,_,h => by simp at h
 | lo,t :: ts,h,x,hx => by
  unfold tagsOk at h
  rw [Bool.and_eq_true] at h
  have h1:=of_decide_eq_true h.1
  rcases List.mem_cons.1 hx with rfl | hx
  ·exact h1
  ·have:=tagsOk_in h.2 x hx
   omega
theorem tagKid_tag : ∀ {ts ks : List Int} {x : Int},0 ≤ tagKid ts ks x → x ∈ ts
 | [],_,_,h => by unfold tagKid at h; omega
 | _ :: _,[],_,h => by unfold tagKid at h; omega
 | t :: ts,k :: ks,x,h => by
  unfold tagKid at h
  split at h
  ·rename_i e; rw [e]; simp
  ·exact List.mem_cons_of_mem _ (tagKid_tag h)
theorem print_7 {rs : List RuleV} (hall : allV (kindI rs) rs) {r : RuleV} (hki : kindI rs r = true) {v : ValueV} {m : Nat} (hm : m < rs.length) (hmk : r.kids.getD 0 0 = (m : Int)) (hk1 : rs[m].kind = 1) (hk : r.kind = 7) (h : ownB rs r v = true) :
  (encI rs[m].little v.number rs[m].size).length + plens rs r v.number 0 v.items = headLen rs r v.bytes + plens rs r v.number 0 v.items:=by
 have h2 : headLen rs r v.bytes = rs[m].size.toNat:=by simp only [headLen,hk,hmk]; rw [ruleAt_at hm]; simp
 have h3 : 0 ≤ v.number ∧ v.number ≤ limitAt rs (m : Int):=by
  simp [ownB,hk] at h
  have h4 : itemR r v.number 0 = tagKid r.tags (r.kids.drop 1) v.number:=by unfold itemR; rw [if_neg (by omega),if_neg (by omega),if_pos hk]
  have h5:=h.2.2
  rw [h4] at h5
  have h8 : tagsB rs r = true:=by simp [kindI,meetsB,hk] at hki; exact hki.1
  unfold tagsB at h8
  rw [Bool.and_eq_true] at h8
  have h12 : r.kids.headD 0 = r.kids.getD 0 0:=by cases r.kids <;> rfl
  rw [h12,hmk] at h8
  exact tagsOk_in h8.2 _ (tagKid_tag h5)
 rw [h2,kid_enc hall hm hk1 h3.1 h3.2]
theorem src_of {a : Option Addr} {bs : List UInt8} {cap : Nat} {w : World} (h : Rd a bs w) (h0 : 0 < bs.length) : Src1 a bs cap w :=
 ⟨h,fun e => by obtain ⟨b,off,e2,_⟩:=h 0 h0; rw [e] at e2; cases e2⟩
theorem esc_next {t : UInt8} {bs : List UInt8} {j : Nat} (h : j < bs.length) : escLen t (bs.drop j) = (if bs[j] = t ∨ bs[j] = 92 then 2 else 1) + escLen t (bs.drop (j + 1)):=by
 rw [List.drop_eq_getElem_cons h,escLen]
theorem byte_inj {x y : UInt8} (h : (x.toNat : Int) = (y.toNat : Int)) : x = y:=UInt8.toNat_inj.1 (by omega)
theorem own_one (w : World) (z : Int) (x : UInt8) (e : Value.int .u8 z = bv x) : OwnB w.heap.size (.slice (some ⟨w.heap.size,0,none⟩) 1 1) [x] (w.alloc (.cells #[.int .u8 z] 5)):=by
 rw [e]
 exact own_lits (f:=bv) w w.heap.size 5 [x] (Nat.le_refl _) (by show 1 ≤ maxLen; decide)
theorem escLen_le (t : UInt8) : ∀ bs : List UInt8,escLen t bs ≤ 2 * bs.length
 | [] => by simp [escLen]
 | b :: bs => by
  have h:=escLen_le t bs
  unfold escLen
  rw [List.length_cons]
  split <;> omega
def escB (t : UInt8) : List UInt8 → List UInt8
 | [] => []
 | b :: bs => (if b = t ∨ b = 92 then [92,b] else [b]) ++ escB t bs
theorem escB_length (t : UInt8) : ∀ bs,(escB t bs).length = escLen t bs
 | [] => rfl
 | b :: bs => by
  rw [escB,escLen,List.length_append,escB_length t bs]
  split <;> rfl
theorem escB_next {t : UInt8} {bs : List UInt8} {j : Nat} (h : j < bs.length) : escB t (bs.drop j) = (if bs[j] = t ∨ bs[j] = 92 then [92,bs[j]] else [bs[j]]) ++ escB t (bs.drop (j + 1)):=by
 rw [List.drop_eq_getElem_cons h,escB]
def wrapE (rs : List RuleV) (r : RuleV) (x : Int) (b : List UInt8) (n : Nat) (inner : List UInt8) : List UInt8 :=
 if r.kind = 1 then encI r.little x r.size
 else if r.kind = 2 then r.bytes
 else if r.kind = 3 then b
 else if r.kind = 4 then encI (ruleAt rs (r.kids.getD 0 0)).little ((b.length : Nat) : Int) (ruleAt rs (r.kids.getD 0 0)).size ++ b
 else if r.kind = 5 then encI (ruleAt rs (r.kids.getD 0 0)).little ((n : Nat) : Int) (ruleAt rs (r.kids.getD 0 0)).size ++ inner
 else if r.kind = 7 then encI (ruleAt rs (r.kids.getD 0 0)).little x (ruleAt rs (r.kids.getD 0 0)).size ++ inner
 else if r.kind = 8 then [UInt8.ofNat n] ++ inner
 else if r.kind = 9 then inner ++ [UInt8.ofNat (sumB inner 0)]
 else if r.kind = 10 then inner ++ escB (r.bytes.getD 0 0) b ++ [r.bytes.getD 0 0]
 else inner
mutual
def encV (rs : List RuleV) (k : Int) : ValueV → List UInt8
 | .mk n b l => wrapE rs (ruleAt rs k) n b l.length (encs rs (ruleAt rs k) n 0 l)
def encs (rs : List RuleV) (r : RuleV) (x : Int) (i : Nat) : List ValueV → List UInt8
 | [] => []
 | v :: vs => encV rs (itemR r x i) v ++ encs rs r x (i + 1) vs
end
theorem encV_eq (rs : List RuleV) (k : Int) (v : ValueV) : encV rs k v = wrapE rs (ruleAt rs k) v.number v.bytes v.items.length (encs rs (ruleAt rs k) v.number 0 v.items):=by
 cases v with
 | mk n b l => rw [encV]; rfl
theorem encs_next {rs : List RuleV} {r : RuleV} {x : Int} {q : Nat} {l : List ValueV} (h : q < l.length) : encs rs r x q (l.drop q) = encV rs (itemR r x q) l[q] ++ encs rs r x (q + 1) (l.drop (q + 1)):=by
 rw [List.drop_eq_getElem_cons h,encs]
theorem wrap_1 {rs : List RuleV} {r : RuleV} {x : Int} {b : List UInt8} {n : Nat} {i : List UInt8} (h : r.kind = 1) : wrapE rs r x b n i = encI r.little x r.size:=by simp [wrapE,h]
theorem wrap_2 {rs : List RuleV} {r : RuleV} {x : Int} {b : List UInt8} {n : Nat} {i : List UInt8} (h : r.kind = 2) : wrapE rs r x b n i = r.bytes:=by simp [wrapE,h]
theorem wrap_3 {rs : List RuleV} {r : RuleV} {x : Int} {b : List UInt8} {n : Nat} {i : List UInt8} (h : r.kind = 3) : wrapE rs r x b n i = b:=by simp [wrapE,h]
theorem wrap_4 {rs : List RuleV} {r : RuleV} {x : Int} {b : List UInt8} {n : Nat} {i : List UInt8} {m : Nat} (hm : m < rs.length) (hmk : r.kids.getD 0 0 = (m : Int)) (h : r.kind = 4) : wrapE rs r x b n i = encI rs[m].little ((b.length : Nat) : Int) rs[m].size ++ b:=by
 unfold wrapE; rw [if_neg (by omega),if_neg (by omega),if_neg (by omega),if_pos h,hmk,ruleAt_at hm]
theorem wrap_5 {rs : List RuleV} {r : RuleV} {x : Int} {b : List UInt8} {n : Nat} {i : List UInt8} {m : Nat} (hm : m < rs.length) (hmk : r.kids.getD 0 0 = (m : Int)) (h : r.kind = 5) : wrapE rs r x b n i = encI rs[m].little ((n : Nat) : Int) rs[m].size ++ i:=by
 unfold wrapE; rw [if_neg (by omega),if_neg (by omega),if_neg (by omega),if_neg (by omega),if_pos h,hmk,ruleAt_at hm]
theorem wrap_6 {rs : List RuleV} {r : RuleV} {x : Int} {b : List UInt8} {n : Nat} {i : List UInt8} (h : r.kind = 6) : wrapE rs r x b n i = i:=by simp [wrapE,h]
theorem wrap_7 {rs : List RuleV} {r : RuleV} {x : Int} {b : List UInt8} {n : Nat} {i : List UInt8} {m : Nat} (hm : m < rs.length) (hmk : r.kids.getD 0 0 = (m : Int)) (h : r.kind = 7) : wrapE rs r x b n i = encI rs[m].little x rs[m].size ++ i:=by
 unfold wrapE; rw [if_neg (by omega),if_neg (by omega),if_neg (by omega),if_neg (by omega),if_neg (by omega),if_pos h,hmk,ruleAt_at hm]
theorem wrap_8 {rs : List RuleV} {r : RuleV} {x : Int} {b : List UInt8} {n : Nat} {i : List UInt8} (h : r.kind = 8) : wrapE rs r x b n i = [UInt8.ofNat n] ++ i:=by simp [wrapE,h]
theorem wrap_9 {rs : List RuleV} {r : RuleV} {x : Int} {b : List UInt8} {n : Nat} {i : List UInt8} (h : r.kind = 9) : wrapE rs r x b n i = i ++ [UInt8.ofNat (sumB i 0)]:=by simp [wrapE,h]
theorem wrap_10 {rs : List RuleV} {r : RuleV} {x : Int} {b : List UInt8} {n : Nat} {i : List UInt8} (h : r.kind = 10) : wrapE rs r x b n i = i ++ escB (r.bytes.getD 0 0) b ++ [r.bytes.getD 0 0]:=by simp [wrapE,h]
theorem wrap_length {rs : List RuleV} (hall : allV (kindI rs) rs) {k : Nat} (hk : k < rs.length) {v : ValueV} (hown : ownB rs rs[k] v = true) {I : List UInt8} (hI : I.length = plens rs rs[k] v.number 0 v.items) : (wrapE rs rs[k] v.number v.bytes v.items.length I).length = headLen rs rs[k] v.bytes + plens rs rs[k] v.number 0 v.items:=by
 have hki:=allV_kind hall hk
 have hkn:=kindI_known hki
 rcases (by omega : rs[k].kind = 1 ∨ rs[k].kind = 2 ∨ rs[k].kind = 3 ∨ rs[k].kind = 4 ∨ rs[k].kind = 5 ∨ rs[k].kind = 6 ∨ rs[k].kind = 7 ∨ rs[k].kind = 8 ∨ rs[k].kind = 9 ∨ rs[k].kind = 10) with e | e | e | e | e | e | e | e | e | e
 ·rw [wrap_1 e,print_1 hki e hown]
 ·rw [wrap_2 e,print_2 e hown]
 ·rw [wrap_3 e,print_3 e hown]
 ·obtain ⟨h1,m,hm,hmk⟩:=kid_int hall hk (by omega)
  have hmr : m < rs.length:=by omega
  rw [hm,ruleAt_at hmr] at h1
  rw [wrap_4 hmr hm e,List.length_append,print_4 hall hmr hm h1 e hown]
 ·obtain ⟨h1,m,hm,hmk⟩:=kid_int hall hk (by omega)
  have hmr : m < rs.length:=by omega
  rw [hm,ruleAt_at hmr] at h1
  rw [wrap_5 hmr hm e,List.length_append,hI,print_5 hall hmr hm h1 e hown]
 ·rw [wrap_6 e,hI]; simp [headLen,e]
 ·obtain ⟨h1,m,hm,hmk⟩:=kid_int hall hk (by omega)
  have hmr : m < rs.length:=by omega
  rw [hm,ruleAt_at hmr] at h1
  rw [wrap_7 hmr hm e,List.length_append,hI,print_7 hall hki hmr hm h1 e hown]
 ·rw [wrap_8 e,List.length_append,hI]; simp [headLen,e]
 ·rw [wrap_9 e,List.length_append,hI]; simp [headLen,e]; omega
 ·rw [wrap_10 e,List.length_append,List.length_append,escB_length,hI]; simp [headLen,e]; omega
theorem encs_length {rs : List RuleV} {r : RuleV} {x : Int} : ∀ (l : List ValueV) (i : Nat),(∀ q (h : q < l.length),(encV rs (itemR r x (i + q)) l[q]).length = plen rs (itemR r x (i + q)) l[q]) → (encs rs r x i l).length = plens rs r x i l
 | [],_,_ => by rw [encs,plens]; rfl
 | v :: l,i,h => by
  rw [encs,plens,List.length_append,encs_length l (i + 1) (fun q hq => by
   have:=h (q + 1) (by simpa using hq)
   rw [show i + 1 + q = i + (q + 1) from by omega]
   simpa using this)]
  have h0:=h 0 (by simp)
  simp only [Nat.add_zero,List.getElem_cons_zero] at h0
  rw [h0]
theorem encV_length {rs : List RuleV} (hall : allV (kindI rs) rs) : ∀ (k : Nat) (_ : k < rs.length) (v : ValueV),validV rs (k : Int) v = true → (encV rs (k : Int) v).length = plen rs (k : Int) v:=by
 intro k
 induction k using Nat.strongRecOn with
 | _ k ih =>
  intro hk v hv
  obtain ⟨hown,hit⟩:=items_of hall hk hv
  rw [encV_eq,plen_eq,ruleAt_at hk]
  refine wrap_length hall hk hown (encs_length _ 0 fun q hq => ?_)
  obtain ⟨m,hm,hmk,hvi⟩:=hit q hq
  rw [Nat.zero_add,hm]
  exact ih m hmk (by omega) _ hvi
def PvE (ok : Bool) (E : List UInt8) (w : World) (e : Ending) (w' : World) : Prop:=∃ az bs cz,e = .returned (.tuple #[.slice az bs.length cz,.bool ok]) ∧ bs = (if ok = true then E else []) ∧ Row w.heap.size az bs cz w' ∧ Below w.heap.size w w'
theorem pve_none {w w1 : World} {E : List UInt8} (hb : Below w.heap.size w w1) : PvE false E w (.returned (.tuple #[.slice (some ⟨w1.heap.size,0,none⟩) 0 0,.bool false])) (w1.alloc (.cells #[] 5)):=by
 obtain ⟨a,cap,he,hr,hb2⟩:=bytesOut_below hb (empty_out w1)
 injection he with he
 injection he with h1 h2 h3
 subst h1
 subst h3
 exact ⟨_,[],_,rfl,rfl,hr,hb2⟩
def ByteB (ns : List UInt8) (ok : Bool) (w : World) (e : Ending) (w' : World) : Prop:=∃ az cz,e = .returned (.tuple #[.slice az ns.length cz,.bool ok]) ∧ Row w.heap.size az ns cz w' ∧ Below w.heap.size w w'
theorem pve_bytes {ok : Bool} {E : List UInt8} {w w' : World} {e : Ending} (h : PvE ok E w e w') : ByteB (if ok = true then E else []) ok w e w':=by
 obtain ⟨az,bs,cz,rfl,rfl,hr,hb⟩:=h
 exact ⟨az,cz,rfl,hr,hb⟩
theorem encI_le4 (l : Bool) (n s : Int) : (encI l n s).length ≤ 4:=by
 have h:=beOf_length n s
 unfold encI
 cases l <;> simp [h]
end Go.Proofs.YtefkhknfjohnaaaGreatDoor
