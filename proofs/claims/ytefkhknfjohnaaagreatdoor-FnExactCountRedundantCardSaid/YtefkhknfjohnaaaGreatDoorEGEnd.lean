/- Contracts of the model's BigEndian and LittleEndian. -/
import Derived.Test.YtefkhknfjohnaaaGreatDoorEGPu
import Derived.Test.YtefkhknfjohnaaaGreatDoorEGBase
set_option maxRecDepth 100000
set_option maxHeartbeats 2000000
namespace Go.Proofs.YtefkhknfjohnaaaGreatDoor
open Go Go.RowKit
def beB (m : Nat) : Nat → List UInt8
 | 0 => []
 | k + 1 => UInt8.ofNat (m / 256 ^ k) :: beB m k
theorem beB_length (m : Nat) : ∀ k,(beB m k).length = k
 | 0 => rfl
 | k + 1 => by simp [beB,beB_length m k]
def MidB (todo all : List UInt8) (v : Value) (w W : World) : Prop:=∃ acc,acc ++ todo = all ∧ OwnB w.heap.size v acc W ∧ Below w.heap.size w W
theorem midB_start (all : List UInt8) (w : World) : MidB all all (.slice (some ⟨w.heap.size,0,none⟩) 0 0) w (w.alloc (.cells #[] 5)) :=
 ⟨[],rfl,OwnB.start w,(Below.refl _ _).alloc (Nat.le_refl _) _⟩
theorem midB_next {x : UInt8} {todo all acc : List UInt8} {v v' : Value} {w W W2 : World} {o : Obj} (he : acc ++ x :: todo = all) (hown : OwnB w.heap.size v acc W) (hb : Below w.heap.size w W)
  (hown' : W2.ownsRow w.heap.size 5 1 v' (acc.length + 1) (acc.map bv ++ [bv x])) (hg : (W.alloc o).grownBy W2 v.ownBlock) : MidB todo all v' w W2:=by
 refine ⟨acc ++ [x],by rw [← he,List.append_assoc]; rfl,?_,?_⟩
 ·unfold OwnB; simpa using hown'
 ·exact (hb.alloc hb.size o).grown hg (by have:=hb.size; simp; omega) fun k hk => (World.ownsRow.lt (w:=W) hown k hk).1
theorem midB_end {all : List UInt8} {v : Value} {w W : World} (h : MidB [] all v w W) : BytesOut all w (.returned v) W:=by
 obtain ⟨acc,he,hown,hb⟩:=h
 rw [List.append_nil] at he
 subst he
 obtain ⟨a,cap,rfl,hf⟩:=hown.row
 exact ⟨a,cap,rfl,hf,hb⟩
def RelB (m S : Nat) (w : World) (v i : Value) (W : World) : Prop:=∃ (k : Nat) (z : Int),z = (k : Int) - 1 ∧ k ≤ S ∧ i = .int .i64 z ∧ Hid (MidB (beB m k) (beB m S) v w W)
theorem bv_of (y : Nat) (z : Int) (h : z = ((y % 256 : Nat) : Int)) : Value.int .u8 z = bv (UInt8.ofNat y):=by
 unfold bv; rw [UInt8.toNat_ofNat',h]
theorem be_yes1 (m : Nat) (w : World) (hm : m ≤ 255) : Calls Tryz.prog 219 #[.int .i64 m,.int .i64 1] w (BytesOut (beB m 1) w):=by
 obtain ⟨i0,hi,hz0,hz1,hz2⟩:=infoParts
 have H0:=kq (midB_start (beB m 1) w)
 have m0 : (0 : Int) ≤ (m : Int):=by omega
 have m1 : (m : Int) ≤ 255:=by omega
 go_enter Tryz.func219,Tryz.ntmps219
 go_wp2
 go_loopw [5,6] (fun v i W => RelB m 1 w v i W) (fun _ i _ => (intOf i + 1).toNat)
 case atStart => exact ⟨1,0,by omega,by omega,rfl,H0.out⟩
 case round =>
  obtain ⟨k,z,hz,hk,rfl,hm2⟩:=hrel
  obtain rfl | rfl : k = 0 ∨ k = 1:=by omega
  ·obtain rfl : z = -1:=by omega
   clear hz
   go_wp2
   go_ret
   exact midB_end hm2.out
  ·obtain rfl : z = 0:=by omega
   clear hz
   obtain ⟨acc,he,hown,hb⟩:=hm2.out
   have HE:=kq he
   have HO:=kq hown
   have HB:=kq hb
   have hal : acc.length ≤ 4:=by have:=congrArg List.length he; simp only [List.length_append,beB_length] at this; omega
   clear he hown hb hm2
   go_wp2_with (at_builtin; refine wpList_append_own _ rfl _ _ 22 rfl w.heap.size 5 i0 (.int .u8 0) 1 1 Tryz.underlying22 hi hz0 hz1 hz2 rfl (by decide) _ _ _ rfl (World.ownsRow.alloc HO.out _) ⟨wr.heap.size,0,none⟩ 1 1 [.int .u8 ((m : Int))] rfl rfl ?c1 ?c2 ?c3 ?c4 ?c5 ?_)
   case c1 =>
    intro j u hj
    match j,hj with
    | 0,hj => simp at hj; subst hj; simp [Addr.add]
   case c2 => intro u hu; simp at hu; subst hu; rfl
   case c3 => unfold maxLen; omega
   case c4 => omega
   case c5 => have:=HB.out.size; simp; omega
   ·intro v' w2 hown' hgrow _
    rw [bv_of (m / 256 ^ 0) _ (by simp only [Nat.reducePow]; omega)] at hown'
    have R:=kq (midB_next HE.out HO.out HB.out hown' hgrow)
    clear hown' hgrow
    go_wp2
    go_roundw
    case rel => exact ⟨0,-1,by omega,by omega,rfl,R.out⟩
    case measure => first | (simp [intOf]; done) | (simp [intOf]; omega)
theorem be_yes2 (m : Nat) (w : World) (hm : m ≤ 65535) : Calls Tryz.prog 219 #[.int .i64 m,.int .i64 2] w (BytesOut (beB m 2) w):=by
 obtain ⟨i0,hi,hz0,hz1,hz2⟩:=infoParts
 have H0:=kq (midB_start (beB m 2) w)
 have m0 : (0 : Int) ≤ (m : Int):=by omega
 have m1 : (m : Int) ≤ 65535:=by omega
 go_enter Tryz.func219,Tryz.ntmps219
 go_wp2
 go_loopw [5,6] (fun v i W => RelB m 2 w v i W) (fun _ i _ => (intOf i + 1).toNat)
 case atStart => exact ⟨2,1,by omega,by omega,rfl,H0.out⟩
 case round =>
  obtain ⟨k,z,hz,hk,rfl,hm2⟩:=hrel
  obtain rfl | rfl | rfl : k = 0 ∨ k = 1 ∨ k = 2:=by omega
  ·obtain rfl : z = -1:=by omega
   clear hz
   go_wp2
   go_ret
   exact midB_end hm2.out
  ·obtain rfl : z = 0:=by omega
   clear hz
   obtain ⟨acc,he,hown,hb⟩:=hm2.out
   have HE:=kq he
   have HO:=kq hown
   have HB:=kq hb
   have hal : acc.length ≤ 4:=by have:=congrArg List.length he; simp only [List.length_append,beB_length] at this; omega
   clear he hown hb hm2
   go_wp2_with (at_builtin; refine wpList_append_own _ rfl _ _ 22 rfl w.heap.size 5 i0 (.int .u8 0) 1 1 Tryz.underlying22 hi hz0 hz1 hz2 rfl (by decide) _ _ _ rfl (World.ownsRow.alloc HO.out _) ⟨wr.heap.size,0,none⟩ 1 1 [.int .u8 ((m : Int) % 256)] rfl rfl ?c1 ?c2 ?c3 ?c4 ?c5 ?_)
   case c1 =>
    intro j u hj
    match j,hj with
    | 0,hj => simp at hj; subst hj; simp [Addr.add]
   case c2 => intro u hu; simp at hu; subst hu; rfl
   case c3 => unfold maxLen; omega
   case c4 => omega
   case c5 => have:=HB.out.size; simp; omega
   ·intro v' w2 hown' hgrow _
    rw [bv_of (m / 256 ^ 0) _ (by simp only [Nat.reducePow]; omega)] at hown'
    have R:=kq (midB_next HE.out HO.out HB.out hown' hgrow)
    clear hown' hgrow
    go_wp2
    go_roundw
    case rel => exact ⟨0,-1,by omega,by omega,rfl,R.out⟩
    case measure => first | (simp [intOf]; done) | (simp [intOf]; omega)
  ·obtain rfl : z = 1:=by omega
   clear hz
   obtain ⟨acc,he,hown,hb⟩:=hm2.out
   have HE:=kq he
   have HO:=kq hown
   have HB:=kq hb
   have hal : acc.length ≤ 4:=by have:=congrArg List.length he; simp only [List.length_append,beB_length] at this; omega
   clear he hown hb hm2
   go_wp2_with (at_builtin; refine wpList_append_own _ rfl _ _ 22 rfl w.heap.size 5 i0 (.int .u8 0) 1 1 Tryz.underlying22 hi hz0 hz1 hz2 rfl (by decide) _ _ _ rfl (World.ownsRow.alloc HO.out _) ⟨wr.heap.size,0,none⟩ 1 1 [.int .u8 ((m : Int) / 256)] rfl rfl ?c1 ?c2 ?c3 ?c4 ?c5 ?_)
   case c1 =>
    intro j u hj
    match j,hj with
    | 0,hj => simp at hj; subst hj; simp [Addr.add]
   case c2 => intro u hu; simp at hu; subst hu; rfl
   case c3 => unfold maxLen; omega
   case c4 => omega
   case c5 => have:=HB.out.size; simp; omega
   ·intro v' w2 hown' hgrow _
    rw [bv_of (m / 256 ^ 1) _ (by simp only [Nat.reducePow]; omega)] at hown'
    have R:=kq (midB_next HE.out HO.out HB.out hown' hgrow)
    clear hown' hgrow
    go_wp2
    go_roundw
    case rel => exact ⟨1,0,by omega,by omega,rfl,R.out⟩
    case measure => first | (simp [intOf]; done) | (simp [intOf]; omega)
theorem be_yes3 (m : Nat) (w : World) (hm : m ≤ 16777215) : Calls Tryz.prog 219 #[.int .i64 m,.int .i64 3] w (BytesOut (beB m 3) w):=by
 obtain ⟨i0,hi,hz0,hz1,hz2⟩:=infoParts
 have H0:=kq (midB_start (beB m 3) w)
 have m0 : (0 : Int) ≤ (m : Int):=by omega
 have m1 : (m : Int) ≤ 16777215:=by omega
 go_enter Tryz.func219,Tryz.ntmps219
 go_wp2
 go_loopw [5,6] (fun v i W => RelB m 3 w v i W) (fun _ i _ => (intOf i + 1).toNat)
 case atStart => exact ⟨3,2,by omega,by omega,rfl,H0.out⟩
 case round =>
  obtain ⟨k,z,hz,hk,rfl,hm2⟩:=hrel
  obtain rfl | rfl | rfl | rfl : k = 0 ∨ k = 1 ∨ k = 2 ∨ k = 3:=by omega
  ·obtain rfl : z = -1:=by omega
   clear hz
   go_wp2
   go_ret
   exact midB_end hm2.out
  ·obtain rfl : z = 0:=by omega
   clear hz
   obtain ⟨acc,he,hown,hb⟩:=hm2.out
   have HE:=kq he
   have HO:=kq hown
   have HB:=kq hb
   have hal : acc.length ≤ 4:=by have:=congrArg List.length he; simp only [List.length_append,beB_length] at this; omega
   clear he hown hb hm2
   go_wp2_with (at_builtin; refine wpList_append_own _ rfl _ _ 22 rfl w.heap.size 5 i0 (.int .u8 0) 1 1 Tryz.underlying22 hi hz0 hz1 hz2 rfl (by decide) _ _ _ rfl (World.ownsRow.alloc HO.out _) ⟨wr.heap.size,0,none⟩ 1 1 [.int .u8 ((m : Int) % 256)] rfl rfl ?c1 ?c2 ?c3 ?c4 ?c5 ?_)
   case c1 =>
    intro j u hj
    match j,hj with
    | 0,hj => simp at hj; subst hj; simp [Addr.add]
   case c2 => intro u hu; simp at hu; subst hu; rfl
   case c3 => unfold maxLen; omega
   case c4 => omega
   case c5 => have:=HB.out.size; simp; omega
   ·intro v' w2 hown' hgrow _
    rw [bv_of (m / 256 ^ 0) _ (by simp only [Nat.reducePow]; omega)] at hown'
    have R:=kq (midB_next HE.out HO.out HB.out hown' hgrow)
    clear hown' hgrow
    go_wp2
    go_roundw
    case rel => exact ⟨0,-1,by omega,by omega,rfl,R.out⟩
    case measure => first | (simp [intOf]; done) | (simp [intOf]; omega)
  ·obtain rfl : z = 1:=by omega
   clear hz
   obtain ⟨acc,he,hown,hb⟩:=hm2.out
   have HE:=kq he
   have HO:=kq hown
   have HB:=kq hb
   have hal : acc.length ≤ 4:=by have:=congrArg List.length he; simp only [List.length_append,beB_length] at this; omega
   clear he hown hb hm2
   go_wp2_with (at_builtin; refine wpList_append_own _ rfl _ _ 22 rfl w.heap.size 5 i0 (.int .u8 0) 1 1 Tryz.underlying22 hi hz0 hz1 hz2 rfl (by decide) _ _ _ rfl (World.ownsRow.alloc HO.out _) ⟨wr.heap.size,0,none⟩ 1 1 [.int .u8 ((m : Int) / 256 % 256)] rfl rfl ?c1 ?c2 ?c3 ?c4 ?c5 ?_)
   case c1 =>
    intro j u hj
    match j,hj with
    | 0,hj => simp at hj; subst hj; simp [Addr.add]
   case c2 => intro u hu; simp at hu; subst hu; rfl
   case c3 => unfold maxLen; omega
   case c4 => omega
   case c5 => have:=HB.out.size; simp; omega
   ·intro v' w2 hown' hgrow _
    rw [bv_of (m / 256 ^ 1) _ (by simp only [Nat.reducePow]; omega)] at hown'
    have R:=kq (midB_next HE.out HO.out HB.out hown' hgrow)
    clear hown' hgrow
    go_wp2
    go_roundw
    case rel => exact ⟨1,0,by omega,by omega,rfl,R.out⟩
    case measure => first | (simp [intOf]; done) | (simp [intOf]; omega)
  ·obtain rfl : z = 2:=by omega
   clear hz
   obtain ⟨acc,he,hown,hb⟩:=hm2.out
   have HE:=kq he
   have HO:=kq hown
   have HB:=kq hb
   have hal : acc.length ≤ 4:=by have:=congrArg List.length he; simp only [List.length_append,beB_length] at this; omega
   clear he hown hb hm2
   go_wp2_with (at_builtin; refine wpList_append_own _ rfl _ _ 22 rfl w.heap.size 5 i0 (.int .u8 0) 1 1 Tryz.underlying22 hi hz0 hz1 hz2 rfl (by decide) _ _ _ rfl (World.ownsRow.alloc HO.out _) ⟨wr.heap.size,0,none⟩ 1 1 [.int .u8 ((m : Int) / 65536)] rfl rfl ?c1 ?c2 ?c3 ?c4 ?c5 ?_)
   case c1 =>
    intro j u hj
    match j,hj with
    | 0,hj => simp at hj; subst hj; simp [Addr.add]
   case c2 => intro u hu; simp at hu; subst hu; rfl
   case c3 => unfold maxLen; omega
   case c4 => omega
   case c5 => have:=HB.out.size; simp; omega
   ·intro v' w2 hown' hgrow _
    rw [bv_of (m / 256 ^ 2) _ (by simp only [Nat.reducePow]; omega)] at hown'
    have R:=kq (midB_next HE.out HO.out HB.out hown' hgrow)
    clear hown' hgrow
    go_wp2
    go_roundw
    case rel => exact ⟨2,1,by omega,by omega,rfl,R.out⟩
    case measure => first | (simp [intOf]; done) | (simp [intOf]; omega)
theorem be_yes4 (m : Nat) (w : World) (hm : m ≤ 4294967295) : Calls Tryz.prog 219 #[.int .i64 m,.int .i64 4] w (BytesOut (beB m 4) w):=by
 obtain ⟨i0,hi,hz0,hz1,hz2⟩:=infoParts
 have H0:=kq (midB_start (beB m 4) w)
 have m0 : (0 : Int) ≤ (m : Int):=by omega
 have m1 : (m : Int) ≤ 4294967295:=by omega
 go_enter Tryz.func219,Tryz.ntmps219
 go_wp2
 go_loopw [5,6] (fun v i W => RelB m 4 w v i W) (fun _ i _ => (intOf i + 1).toNat)
 case atStart => exact ⟨4,3,by omega,by omega,rfl,H0.out⟩
 case round =>
  obtain ⟨k,z,hz,hk,rfl,hm2⟩:=hrel
  obtain rfl | rfl | rfl | rfl | rfl : k = 0 ∨ k = 1 ∨ k = 2 ∨ k = 3 ∨ k = 4:=by omega
  ·obtain rfl : z = -1:=by omega
   clear hz
   go_wp2
   go_ret
   exact midB_end hm2.out
  ·obtain rfl : z = 0:=by omega
   clear hz
   obtain ⟨acc,he,hown,hb⟩:=hm2.out
   have HE:=kq he
   have HO:=kq hown
   have HB:=kq hb
   have hal : acc.length ≤ 4:=by have:=congrArg List.length he; simp only [List.length_append,beB_length] at this; omega
   clear he hown hb hm2
   go_wp2_with (at_builtin; refine wpList_append_own _ rfl _ _ 22 rfl w.heap.size 5 i0 (.int .u8 0) 1 1 Tryz.underlying22 hi hz0 hz1 hz2 rfl (by decide) _ _ _ rfl (World.ownsRow.alloc HO.out _) ⟨wr.heap.size,0,none⟩ 1 1 [.int .u8 ((m : Int) % 256)] rfl rfl ?c1 ?c2 ?c3 ?c4 ?c5 ?_)
   case c1 =>
    intro j u hj
    match j,hj with
    | 0,hj => simp at hj; subst hj; simp [Addr.add]
   case c2 => intro u hu; simp at hu; subst hu; rfl
   case c3 => unfold maxLen; omega
   case c4 => omega
   case c5 => have:=HB.out.size; simp; omega
   ·intro v' w2 hown' hgrow _
    rw [bv_of (m / 256 ^ 0) _ (by simp only [Nat.reducePow]; omega)] at hown'
    have R:=kq (midB_next HE.out HO.out HB.out hown' hgrow)
    clear hown' hgrow
    go_wp2
    go_roundw
    case rel => exact ⟨0,-1,by omega,by omega,rfl,R.out⟩
    case measure => first | (simp [intOf]; done) | (simp [intOf]; omega)
  ·obtain rfl : z = 1:=by omega
   clear hz
   obtain ⟨acc,he,hown,hb⟩:=hm2.out
   have HE:=kq he
   have HO:=kq hown
   have HB:=kq hb
   have hal : acc.length ≤ 4:=by have:=congrArg List.length he; simp only [List.length_append,beB_length] at this; omega
   clear he hown hb hm2
   go_wp2_with (at_builtin; refine wpList_append_own _ rfl _ _ 22 rfl w.heap.size 5 i0 (.int .u8 0) 1 1 Tryz.underlying22 hi hz0 hz1 hz2 rfl (by decide) _ _ _ rfl (World.ownsRow.alloc HO.out _) ⟨wr.heap.size,0,none⟩ 1 1 [.int .u8 ((m : Int) / 256 % 256)] rfl rfl ?c1 ?c2 ?c3 ?c4 ?c5 ?_)
   case c1 =>
    intro j u hj
    match j,hj with
    | 0,hj => simp at hj; subst hj; simp [Addr.add]
   case c2 => intro u hu; simp at hu; subst hu; rfl
   case c3 => unfold maxLen; omega
   case c4 => omega
   case c5 => have:=HB.out.size; simp; omega
   ·intro v' w2 hown' hgrow _
    rw [bv_of (m / 256 ^ 1) _ (by simp only [Nat.reducePow]; omega)] at hown'
    have R:=kq (midB_next HE.out HO.out HB.out hown' hgrow)
    clear hown' hgrow
    go_wp2
    go_roundw
    case rel => exact ⟨1,0,by omega,by omega,rfl,R.out⟩
    case measure => first | (simp [intOf]; done) | (simp [intOf]; omega)
  ·obtain rfl : z = 2:=by omega
   clear hz
   obtain ⟨acc,he,hown,hb⟩:=hm2.out
   have HE:=kq he
   have HO:=kq hown
   have HB:=kq hb
   have hal : acc.length ≤ 4:=by have:=congrArg List.length he; simp only [List.length_append,beB_length] at this; omega
   clear he hown hb hm2
   go_wp2_with (at_builtin; refine wpList_append_own _ rfl _ _ 22 rfl w.heap.size 5 i0 (.int .u8 0) 1 1 Tryz.underlying22 hi hz0 hz1 hz2 rfl (by decide) _ _ _ rfl (World.ownsRow.alloc HO.out _) ⟨wr.heap.size,0,none⟩ 1 1 [.int .u8 ((m : Int) / 65536 % 256)] rfl rfl ?c1 ?c2 ?c3 ?c4 ?c5 ?_)
   case c1 =>
    intro j u hj
    match j,hj with
    | 0,hj => simp at hj; subst hj; simp [Addr.add]
   case c2 => intro u hu; simp at hu; subst hu; rfl
   case c3 => unfold maxLen; omega
   case c4 => omega
   case c5 => have:=HB.out.size; simp; omega
   ·intro v' w2 hown' hgrow _
    rw [bv_of (m / 256 ^ 2) _ (by simp only [Nat.reducePow]; omega)] at hown'
    have R:=kq (midB_next HE.out HO.out HB.out hown' hgrow)
    clear hown' hgrow
    go_wp2
    go_roundw
    case rel => exact ⟨2,1,by omega,by omega,rfl,R.out⟩
    case measure => first | (simp [intOf]; done) | (simp [intOf]; omega)
  ·obtain rfl : z = 3:=by omega
   clear hz
   obtain ⟨acc,he,hown,hb⟩:=hm2.out
   have HE:=kq he
   have HO:=kq hown
   have HB:=kq hb
   have hal : acc.length ≤ 4:=by have:=congrArg List.length he; simp only [List.length_append,beB_length] at this; omega
   clear he hown hb hm2
   go_wp2_with (at_builtin; refine wpList_append_own _ rfl _ _ 22 rfl w.heap.size 5 i0 (.int .u8 0) 1 1 Tryz.underlying22 hi hz0 hz1 hz2 rfl (by decide) _ _ _ rfl (World.ownsRow.alloc HO.out _) ⟨wr.heap.size,0,none⟩ 1 1 [.int .u8 ((m : Int) / 16777216)] rfl rfl ?c1 ?c2 ?c3 ?c4 ?c5 ?_)
   case c1 =>
    intro j u hj
    match j,hj with
    | 0,hj => simp at hj; subst hj; simp [Addr.add]
   case c2 => intro u hu; simp at hu; subst hu; rfl
   case c3 => unfold maxLen; omega
   case c4 => omega
   case c5 => have:=HB.out.size; simp; omega
   ·intro v' w2 hown' hgrow _
    rw [bv_of (m / 256 ^ 3) _ (by simp only [Nat.reducePow]; omega)] at hown'
    have R:=kq (midB_next HE.out HO.out HB.out hown' hgrow)
    clear hown' hgrow
    go_wp2
    go_roundw
    case rel => exact ⟨3,2,by omega,by omega,rfl,R.out⟩
    case measure => first | (simp [intOf]; done) | (simp [intOf]; omega)
theorem empty_out (w : World) : BytesOut [] w (.returned (.slice (some ⟨w.heap.size,0,none⟩) 0 0)) (w.alloc (.cells #[] 5)):=midB_end (midB_start [] w)
theorem be_no (n s : Int) (w : World) (h : s < 1 ∨ 4 < s ∨ n < 0 ∨ (s = 1 ∧ 255 < n) ∨ (s = 2 ∧ 65535 < n) ∨ (s = 3 ∧ 16777215 < n) ∨ (s = 4 ∧ 4294967295 < n)) :
    Calls Tryz.prog 219 #[.int .i64 n,.int .i64 s] w (BytesOut [] w):=by
  by_cases h1 : s < 1
  · have g1 : ¬ 1 ≤ s:=by omega
    go_enter Tryz.func219,Tryz.ntmps219
    go_wp2
    go_ret
    exact empty_out w
  · have g1 : 1 ≤ s:=by omega
    by_cases h2 : 4 < s
    · have g2 : ¬ s ≤ 4:=by omega
      go_enter Tryz.func219,Tryz.ntmps219
      go_wp2
      go_ret
      exact empty_out w
    · obtain rfl | rfl | rfl | rfl : s = 1 ∨ s = 2 ∨ s = 3 ∨ s = 4:=by omega
      all_goals
        clear g1 h1 h2
        by_cases h3 : n < 0
        · have g3 : decide (0 ≤ n) = false:=by simp; omega
          clear h
          go_enter Tryz.func219,Tryz.ntmps219
          go_wp2
          go_ret
          exact empty_out w
        · have g3 : 0 ≤ n:=by omega
          first
            | (have g4 : decide (n ≤ 4294967295) = false:=by simp; omega
               clear h
               go_enter Tryz.func219,Tryz.ntmps219
               go_wp2
               go_ret
               exact empty_out w)
            | (have g4 : decide (n ≤ 16777215) = false:=by simp; omega
               clear h
               go_enter Tryz.func219,Tryz.ntmps219
               go_wp2
               go_ret
               exact empty_out w)
            | (have g4 : decide (n ≤ 65535) = false:=by simp; omega
               clear h
               go_enter Tryz.func219,Tryz.ntmps219
               go_wp2
               go_ret
               exact empty_out w)
            | (have g4 : decide (n ≤ 255) = false:=by simp; omega
               clear h
               go_enter Tryz.func219,Tryz.ntmps219
               go_wp2
               go_ret
               exact empty_out w)
def beOf (n s : Int) : List UInt8:=if 1 ≤ s ∧ s ≤ 4 ∧ 0 ≤ n ∧ n < 256 ^ s.toNat then beB n.toNat s.toNat else []
theorem be_spec (n s : Int) (w : World) : Calls Tryz.prog 219 #[.int .i64 n,.int .i64 s] w (BytesOut (beOf n s) w):=by
 by_cases h : 1 ≤ s ∧ s ≤ 4 ∧ 0 ≤ n ∧ n < 256 ^ s.toNat
 ·rw [show beOf n s = beB n.toNat s.toNat from if_pos h]
  obtain ⟨h1,h2,h3,h4⟩:=h
  obtain ⟨m,rfl⟩ : ∃ m : Nat,n = (m : Int):=⟨n.toNat,by omega⟩
  obtain rfl | rfl | rfl | rfl : s = 1 ∨ s = 2 ∨ s = 3 ∨ s = 4:=by omega
  ·exact be_yes1 m w (by have : (m : Int) < 256:=h4; omega)
  ·exact be_yes2 m w (by have : (m : Int) < 65536:=h4; omega)
  ·exact be_yes3 m w (by have : (m : Int) < 16777216:=h4; omega)
  ·exact be_yes4 m w (by have : (m : Int) < 4294967296:=h4; omega)
 ·rw [show beOf n s = [] from if_neg h]
  refine be_no n s w ?_
  by_cases h1 : s < 1
  ·exact .inl h1
  ·by_cases h2 : 4 < s
   ·exact .inr (.inl h2)
   ·by_cases h3 : n < 0
    ·exact .inr (.inr (.inl h3))
    ·have h4 : ¬ n < 256 ^ s.toNat:=fun h4 => h ⟨by omega,by omega,by omega,h4⟩
     obtain rfl | rfl | rfl | rfl : s = 1 ∨ s = 2 ∨ s = 3 ∨ s = 4:=by omega
     ·have : ¬ n < 256:=h4
      omega
     ·have : ¬ n < 65536:=h4
      omega
     ·have : ¬ n < 16777216:=h4
      omega
     ·have : ¬ n < 4294967296:=h4
      omega
theorem beOf_length (n s : Int) : (beOf n s).length ≤ 4:=by
 unfold beOf
 by_cases h : 1 ≤ s ∧ s ≤ 4 ∧ 0 ≤ n ∧ n < 256 ^ s.toNat
 ·rw [if_pos h,beB_length]; omega
 ·rw [if_neg h]; simp
def RelL (bs : List UInt8) (w : World) (v i : Value) (W : World) : Prop:=∃ (k : Nat) (z : Int),z = (k : Int) - 1 ∧ k ≤ bs.length ∧ i = .int .i64 z ∧ Hid (MidB (bs.take k).reverse bs.reverse v w W)
theorem take_rev (bs : List UInt8) (k : Nat) (h : k < bs.length) : (bs.take (k + 1)).reverse = bs[k] :: (bs.take k).reverse:=by
 rw [List.take_succ_eq_append_getElem h,List.reverse_append]; rfl
theorem bytesOut_below {bs : List UInt8} {w w1 : World} {e : Ending} {w2 : World} (hb : Below w.heap.size w w1) (h : BytesOut bs w1 e w2) : BytesOut bs w e w2:=by
 obtain ⟨a,cap,he,hf,hb2⟩:=h
 exact ⟨a,cap,he,hf.more hb.size,hb.trans (hb2.mono hb.size)⟩
def leOf (n s : Int) : List UInt8:=(beOf n s).reverse
theorem leOf_length (n s : Int) : (leOf n s).length ≤ 4:=by
 unfold leOf; rw [List.length_reverse]; exact beOf_length n s
def sumB : List UInt8 → Nat → Nat
 | [],n => n
 | b :: r,n => sumB r ((n + b.toNat) % 256)
theorem sumB_take (bs : List UInt8) : ∀ (n k : Nat) (h : k < bs.length),sumB (bs.take (k + 1)) n = (sumB (bs.take k) n + bs[k].toNat) % 256:=by
 induction bs with
 | nil => intro n k h; simp at h
 | cons b r ih =>
  intro n k h
  cases k with
  | zero => simp [sumB]
  | succ k =>
   simp only [List.take_succ_cons,sumB,List.getElem_cons_succ]
   exact ih _ k (by simpa using h)
theorem sumB_lt : ∀ (bs : List UInt8) (n : Nat),n < 256 → sumB bs n < 256
 | [],n,h => h
 | b :: r,n,h => sumB_lt r _ (Nat.mod_lt _ (by omega))
theorem sum_spec (a : Option Addr) (bs : List UInt8) (cap : Nat) (w : World) (hl : bs.length ≤ 1099511627776) (h : Rd a bs w) :
  Calls Tryz.prog 188 #[.slice a bs.length cap] w fun e w' => e = .returned (.int .i64 (sumB bs 0 : Nat)) ∧ w = w':=by
 have H:=kq h
 clear h
 go_enter Tryz.func188,Tryz.ntmps188
 go_wp2
 go_loop [3,4] (fun q i => ∃ k : Nat,k ≤ bs.length ∧ i = .int .i64 k ∧ q = .int .i64 ((sumB (bs.take k) 0 : Nat) : Int)) (fun _ i => bs.length - (intOf i).toNat)
 case atStart => exact ⟨0,Nat.zero_le _,rfl,rfl⟩
 case round =>
  obtain ⟨k,hk,rfl,rfl⟩:=hrel
  have hs:=sumB_lt (bs.take k) 0 (by omega)
  have k0 : (0 : Int) ≤ (k : Int):=by omega
  by_cases hlt : k < bs.length
  ·obtain ⟨b,off,rfl,hc⟩:=H.out k hlt
   have hx:=bs[k].toNat_lt
   have hn:=kq (sumB_take bs 0 k hlt)
   have k1 : (k : Int) < (bs.length : Int):=by omega
   go_wp2
   go_round
   case rel => exact ⟨k + 1,by omega,by go_num,by rw [hn.out]; go_num⟩
   case measure => simp [intOf]; omega
  ·have k1 : ¬ (k : Int) < (bs.length : Int):=by omega
   go_wp2
   go_ret
   exact ⟨ret_int (by rw [List.take_of_length_le (by omega)]),rfl⟩
def readB : List UInt8 → Nat → Nat
 | [],n => n
 | b :: r,n => readB r (n * 256 + b.toNat)
theorem readB_take (bs : List UInt8) : ∀ (n k : Nat) (h : k < bs.length),readB (bs.take (k + 1)) n = readB (bs.take k) n * 256 + bs[k].toNat:=by
 induction bs with
 | nil => intro n k h; simp at h
 | cons b r ih =>
  intro n k h
  cases k with
  | zero => simp [readB]
  | succ k =>
   simp only [List.take_succ_cons,readB,List.getElem_cons_succ]
   exact ih _ k (by simpa using h)
theorem readB_lt : ∀ (bs : List UInt8) (n : Nat),readB bs n < (n + 1) * 256 ^ bs.length
 | [],n => by simp [readB]
 | b :: r,n => by
  have h:=readB_lt r (n * 256 + b.toNat)
  have hb:=b.toNat_lt
  simp only [readB,List.length_cons]
  refine Nat.lt_of_lt_of_le h ?_
  rw [Nat.pow_succ,Nat.mul_comm (256 ^ r.length) 256,← Nat.mul_assoc]
  exact Nat.mul_le_mul_right _ (by omega)
theorem readB_le (bs : List UInt8) (k : Nat) (h : k ≤ 4) : readB (bs.take k) 0 < 4294967296:=by
 have h1:=readB_lt (bs.take k) 0
 have h2 : (bs.take k).length ≤ 4:=by rw [List.length_take]; omega
 have h3:=Nat.pow_le_pow_right (n:=256) (by omega) h2
 omega
def orderB (bs : List UInt8) (little : Bool) : List UInt8:=if little then bs.reverse else bs
theorem order_next (bs : List UInt8) (k m : Nat) (h : m < bs.length) (hm : m + k + 1 = bs.length) : readB ((orderB bs true).take (k + 1)) 0 = readB ((orderB bs true).take k) 0 * 256 + bs[m].toNat:=by
 have h1:=readB_take bs.reverse 0 k (by simp; omega)
 have e : bs.reverse[k]'(by simp; omega) = bs[m]:=by
  rw [List.getElem_reverse]
  congr 1; omega
 rw [e] at h1
 exact h1
def readI (bs : List UInt8) (little : Bool) : Nat:=if 4 < bs.length then 0 else readB (orderB bs little) 0
theorem read_spec (a : Option Addr) (bs : List UInt8) (cap : Nat) (little : Bool) (w : World) (hl : bs.length ≤ 1099511627776) (h : Rd a bs w) :
  Calls Tryz.prog 217 #[.slice a bs.length cap,.bool little] w fun e w' => e = .returned (.int .i64 (readI bs little : Nat)) ∧ w = w':=by
 have H:=kq h
 clear h
 by_cases h4 : 4 < bs.length
 ·have g4 : (4 : Int) < (bs.length : Int):=by omega
  have e:=kq (show 0 = readI bs little by unfold readI; rw [if_pos h4])
  go_enter Tryz.func217,Tryz.ntmps217
  go_wp2
  go_ret
  exact ⟨ret_int (by rw [← e.out]; rfl),rfl⟩
 ·have g4 : ¬ (4 : Int) < (bs.length : Int):=by omega
  have e:=kq (show readB (orderB bs little) 0 = readI bs little by unfold readI; rw [if_neg h4])
  have ol : (orderB bs little).length = bs.length:=by unfold orderB; cases little <;> simp
  have OL:=kq ol
  clear ol
  cases little
  ·go_enter Tryz.func217,Tryz.ntmps217
   go_wp2
   go_loop [5,6,7] (fun q i _ => ∃ k : Nat,k ≤ bs.length ∧ i = .int .i64 k ∧ q = .int .i64 ((readB ((orderB bs false).take k) 0 : Nat) : Int)) (fun _ i _ => bs.length - (intOf i).toNat)
   case atStart => exact ⟨0,Nat.zero_le _,rfl,rfl⟩
   case round =>
    obtain ⟨k,hk,rfl,rfl⟩:=hrel
    have hs:=readB_le (orderB bs false) k (by omega)
    have k0 : (0 : Int) ≤ (k : Int):=by omega
    by_cases hlt : k < bs.length
    ·obtain ⟨b,off,rfl,hc⟩:=H.out k hlt
     have hx:=bs[k].toNat_lt
     have hn:=kq (readB_take (orderB bs false) 0 k hlt)
     have k1 : (k : Int) < (bs.length : Int):=by omega
     go_wp2
     go_round
     case rel => exact ⟨k + 1,by omega,by go_num,by rw [hn.out]; show _ = Value.int _ (((readB _ 0 * 256 + bs[k].toNat : Nat)) : Int); go_num⟩
     case measure => simp [intOf]; omega
    ·have k1 : ¬ (k : Int) < (bs.length : Int):=by omega
     go_wp2
     go_ret
     exact ⟨ret_int (by rw [← e.out,List.take_of_length_le (by have:=OL.out; omega)]),rfl⟩
  ·go_enter Tryz.func217,Tryz.ntmps217
   go_wp2
   go_loop [5,6,7] (fun q i _ => ∃ k : Nat,k ≤ bs.length ∧ i = .int .i64 k ∧ q = .int .i64 ((readB ((orderB bs true).take k) 0 : Nat) : Int)) (fun _ i _ => bs.length - (intOf i).toNat)
   case atStart => exact ⟨0,Nat.zero_le _,rfl,rfl⟩
   case round =>
    obtain ⟨k,hk,rfl,rfl⟩:=hrel
    have hs:=readB_le (orderB bs true) k (by omega)
    have k0 : (0 : Int) ≤ (k : Int):=by omega
    by_cases hlt : k < bs.length
    ·obtain ⟨m,hm⟩ : ∃ m : Nat,(m : Int) = (bs.length : Int) - 1 - (k : Int):=⟨bs.length - 1 - k,by omega⟩
     have hml : m < bs.length:=by omega
     obtain ⟨b,off,rfl,hc⟩:=H.out m hml
     have hx:=bs[m].toNat_lt
     have hn:=kq (order_next bs k m hml (by omega))
     have k1 : (k : Int) < (bs.length : Int):=by omega
     have m0 : (bs.length : Int) - 1 - (k : Int) = (m : Int):=hm.symm
     clear hm
     go_wp2
     go_round
     case rel => exact ⟨k + 1,by omega,by go_num,by rw [hn.out]; go_num⟩
     case measure => simp [intOf]; omega
    ·have k1 : ¬ (k : Int) < (bs.length : Int):=by omega
     go_wp2
     go_ret
     exact ⟨ret_int (by rw [← e.out,List.take_of_length_le (by have:=OL.out; omega)]),rfl⟩
end Go.Proofs.YtefkhknfjohnaaaGreatDoor
