/- The contracts of ReadTerminated, the. -/
import Derived.Test.YtfmnjclnhppghaaGreatEM2
import Derived.Test.YtfmnjclnhppghaaGreatEQE
import Derived.Test.YtfmnjclnhppghaaGreatEGPu
import Derived.Test.YtfmnjclnhppghaaGreatEGNam
import Derived.Test.YtfmnjclnhppghaaGreatEM9
import Derived.IntWalk
namespace Go.Proofs.YtfmnjclnhppghaaGreat
open Go Go.RowKit
def TermOut (bs : List UInt8) (n : Int) (ok : Bool) (w : World) (e : Ending) (w' : World) : Prop :=
 ∃ a cap,e = .returned (.tuple #[.slice a bs.length cap,.int .i64 n,.bool ok]) ∧ Row w.heap.size a bs cap w' ∧ Below w.heap.size w w'
theorem push_own {x : UInt8} {acc : List UInt8} {v v' : Value} {w W W2 : World} {o : Obj} (hown : OwnB w.heap.size v acc W) (hb : Below w.heap.size w W)
  (hown' : W2.ownsRow w.heap.size 5 1 v' (acc.length + 1) (acc.map bv ++ [bv x])) (hg : (W.alloc o).grownBy W2 v.ownBlock) : OwnB w.heap.size v' (acc ++ [x]) W2 ∧ Below w.heap.size w W2:=by
 refine ⟨?_,?_⟩
 ·unfold OwnB; simpa using hown'
 ·exact (hb.alloc hb.size o).grown hg (by have:=hb.size; simp; omega) fun k hk => (World.ownsRow.lt (w:=W) hown k hk).1
theorem term_fail {bs : List UInt8} {n : Int} {t : UInt8} {b : Nat} {w W : World} (hbk : b = W.heap.size) (h : termO bs n t = none) (hb : Below w.heap.size w W) : TermOut (termL bs n t) (termN bs n t) (termK bs n t) w (.returned (.tuple #[.slice (some ⟨b,0,none⟩) 0 0,.int .i64 n,.bool false])) (W.alloc (.cells #[] 5)):=by
 subst hbk
 have e1 : termL bs n t = []:=by unfold termL; rw [h]
 have e2 : termN bs n t = n:=by unfold termN; rw [h]
 have e3 : termK bs n t = false:=by unfold termK; rw [h]; rfl
 rw [e1,e2,e3]
 exact ⟨_,_,rfl,⟨.inl rfl,Nat.le_refl _,fun e => by cases e⟩,hb.alloc hb.size _⟩
theorem term_hit {bs : List UInt8} {p k : Nat} {t : UInt8} {acc : List UInt8} {v : Value} {w W : World} {z : Int} (hp : p ≤ bs.length) (h : termR t (bs.drop p) false = some (acc,k - p + 1)) (hz : z = (k : Int) + 1) (hpk : p ≤ k) (hown : OwnB w.heap.size v acc W) (hb : Below w.heap.size w W) :
  TermOut (termL bs p t) (termN bs p t) (termK bs p t) w (.returned (.tuple #[v,.int .i64 z,.bool true])) W:=by
 have h0 : termO bs p t = some (acc,k - p + 1):=by unfold termO; rw [if_pos ⟨by omega,by omega⟩,Int.toNat_natCast]; exact h
 have e1 : termL bs p t = acc:=by unfold termL; rw [h0]
 have e2 : termN bs p t = (k : Int) + 1:=by unfold termN; rw [h0]; show (p : Int) + ((k - p + 1 : Nat) : Int) = _; omega
 have e3 : termK bs p t = true:=by unfold termK; rw [h0]; rfl
 rw [e1,e2,e3,hz]
 obtain ⟨a,cap,rfl,hr⟩:=hown.row
 exact ⟨a,cap,rfl,hr,hb⟩
theorem term_none {bs : List UInt8} {p : Nat} {t : UInt8} (hp : p ≤ bs.length) (h : termR t (bs.drop p) false = none) : termO bs p t = none:=by
 unfold termO; rw [if_pos ⟨by omega,by omega⟩,Int.toNat_natCast]; exact h
set_option maxRecDepth 100000 in
set_option maxHeartbeats 4000000 in
theorem term_specN (a : Option Addr) (bs : List UInt8) (cap p : Nat) (t : UInt8) (w : World) (hl : bs.length ≤ 1048576) (hp : p ≤ bs.length) (h : Rd a bs w) :
  Calls Tryz.prog 90 #[.slice a bs.length cap,.int .i64 (p : Int),.int .u8 (t.toNat : Int)] w (TermOut (termL bs p t) (termN bs p t) (termK bs p t) w):=by
 obtain ⟨i0,hi,hz0,hz1,hz2⟩:=infoParts
 have H:=kq h
 have hin : decide ((0 : Int) ≤ (p : Int) ∧ (p : Int) ≤ (bs.length : Int)) = true:=decide_eq_true ⟨by omega,by omega⟩
 have HS:=kq (TermAt.start bs p t)
 clear h
 go_enter Tryz.func90,Tryz.ntmps90
 go_wp2
 go_loopw [9,10] (fun v i W => ∃ (k : Nat) (acc : List UInt8),p ≤ k ∧ k ≤ bs.length ∧ i = .int .i64 (k : Int) ∧ acc.length ≤ k ∧ Hid (TermAt bs p t k false acc) ∧ Hid (OwnB w.heap.size v acc W) ∧ Hid (Below w.heap.size w W)) (fun _ i _ => bs.length - (intOf i).toNat)
 case atStart => exact ⟨p,[],Nat.le_refl _,hp,rfl,Nat.zero_le _,HS,OwnB.start w,(Below.refl _ _).alloc (Nat.le_refl _) _⟩
 case round =>
  clear HS
  obtain ⟨k,acc,hpk,hkl,rfl,hal,HT,hown,hb⟩:=hrel
  have k0 : (0 : Int) ≤ (k : Int):=by omega
  by_cases hlt : k < bs.length
  ·have k1 : (k : Int) < (bs.length : Int):=by omega
   obtain ⟨b,off,rfl,hc0⟩:=H.out k hlt
   have hc:=cellK hb.out (Nat.le_refl _) hc0
   have HBT:=kq (bs[k].toNat_lt)
   by_cases hx : bs[k] = t
   ·have e3 : ((bs[k].toNat : Int) == (t.toNat : Int)) = true:=by rw [hx]; simp
    have HX:=kq (HT.out.hit hlt hx)
    clear hx HT hal
    go_wp2_with ((go_at_call 43; refine (in_any _ _ _ true _ hin).mono ?_; rintro e wx ⟨rfl,rfl⟩))
    try go_wp2
    go_ret3
    exact term_hit hp HX.out (by rfl) hpk hown.out hb.out
   ·have e3 : ((bs[k].toNat : Int) == (t.toNat : Int)) = false:=by
     rw [beq_eq_false_iff_ne]
     intro h
     exact hx (UInt8.toNat_inj.1 (by omega))
    by_cases h92 : bs[k] = 92
    ·have e4 : ((bs[k].toNat : Int) == 92) = true:=by rw [h92]; rfl
     have HE:=kq (HT.out.esc hpk hlt hx h92)
     by_cases hlt2 : k + 1 < bs.length
     ·have k2 : (k : Int) + 1 < (bs.length : Int):=by omega
      have k3 : ((k : Int) + 1 == (bs.length : Int)) = false:=by rw [beq_eq_false_iff_ne]; omega
      obtain ⟨b',off',hab,hc10⟩:=H.out (k + 1) hlt2
      injection hab with hab
      injection hab with hb1 hb2
      subst hb1 hb2
      have hc1:=cellK hb.out (Nat.le_refl _) hc10
      have HBT1:=kq (bs[k + 1].toNat_lt)
      have HN:=kq (HE.out.take (by omega) hlt2 (.inl rfl))
      clear hx h92 HT HE hc0 hc10
      obtain ⟨y,hy⟩ : ∃ y,y = bs[k + 1]:=⟨_,rfl⟩
      rw [← hy] at hc1 HBT1 HN
      clear hy
      go_wp2_with (first | (go_at_call 43; refine (in_any _ _ _ true _ hin).mono ?_; rintro e wx ⟨rfl,rfl⟩) | (at_builtin; refine wpList_append_own _ rfl _ _ 22 rfl w.heap.size 5 i0 (.int .u8 0) 1 1 Tryz.underlying22 hi hz0 hz1 hz2 rfl (by decide) _ _ _ rfl (World.ownsRow.alloc hown.out _) ⟨wr.heap.size,0,none⟩ 1 1 [.int .u8 (y.toNat : Int)] rfl rfl ?c1 ?c2 ?c3 ?c4 ?c5 ?_))
      case c1 =>
       intro j u hj
       match j,hj with
       | 0,hj => simp at hj; subst hj; simp [Addr.add]
      case c2 => intro u hu; simp at hu; subst hu; rfl
      case c3 => unfold maxLen; omega
      case c4 => omega
      case c5 => have:=hb.out.size; simp; omega
      ·intro v' w2 hown' hgrow _
       obtain ⟨R1,R2⟩:=push_own (x:=y) hown.out hb.out hown' hgrow
       have HR1:=kq R1
       have HR2:=kq R2
       clear hown' hgrow R1 R2
       go_wp2
       go_roundw
       case rel => exact ⟨k + 2,acc ++ [y],by omega,by omega,by go_num,by simp; omega,HN,HR1,HR2⟩
       case measure => simp [intOf]; omega
     ·have k3 : ((k : Int) + 1 == (bs.length : Int)) = true:=by rw [beq_iff_eq]; omega
      have HX:=kq (term_none hp (HE.out.none (by omega)))
      clear hx h92 HT HE hc0
      go_wp2_with ((go_at_call 43; refine (in_any _ _ _ true _ hin).mono ?_; rintro e wx ⟨rfl,rfl⟩))
      try go_wp2
      go_ret3
      exact term_fail (by first | rfl | simp) HX.out hb.out
    ·have e4 : ((bs[k].toNat : Int) == 92) = false:=by
      rw [beq_eq_false_iff_ne]
      intro h
      exact h92 (UInt8.toNat_inj.1 (by have h2 : (92 : UInt8).toNat = 92:=rfl; omega))
     have HN:=kq (HT.out.take hpk hlt (.inr ⟨hx,h92⟩))
     clear hx h92 HT hc0
     obtain ⟨y,hy⟩ : ∃ y,y = bs[k]:=⟨_,rfl⟩
     rw [← hy] at hc HBT HN e3 e4
     clear hy
     go_wp2_with (first | (go_at_call 43; refine (in_any _ _ _ true _ hin).mono ?_; rintro e wx ⟨rfl,rfl⟩) | (at_builtin; refine wpList_append_own _ rfl _ _ 22 rfl w.heap.size 5 i0 (.int .u8 0) 1 1 Tryz.underlying22 hi hz0 hz1 hz2 rfl (by decide) _ _ _ rfl (World.ownsRow.alloc hown.out _) ⟨wr.heap.size,0,none⟩ 1 1 [.int .u8 (y.toNat : Int)] rfl rfl ?c1 ?c2 ?c3 ?c4 ?c5 ?_))
     case c1 =>
      intro j u hj
      match j,hj with
      | 0,hj => simp at hj; subst hj; simp [Addr.add]
     case c2 => intro u hu; simp at hu; subst hu; rfl
     case c3 => unfold maxLen; omega
     case c4 => omega
     case c5 => have:=hb.out.size; simp; omega
     ·intro v' w2 hown' hgrow _
      obtain ⟨R1,R2⟩:=push_own (x:=y) hown.out hb.out hown' hgrow
      have HR1:=kq R1
      have HR2:=kq R2
      clear hown' hgrow R1 R2
      go_wp2
      go_roundw
      case rel => exact ⟨k + 1,acc ++ [y],by omega,by omega,by go_num,by simp; omega,HN,HR1,HR2⟩
      case measure => simp [intOf]; omega
  ·have k1 : ¬ (k : Int) < (bs.length : Int):=by omega
   have HX:=kq (term_none hp (HT.out.none (by omega)))
   clear HT
   go_wp2_with ((go_at_call 43; refine (in_any _ _ _ true _ hin).mono ?_; rintro e wx ⟨rfl,rfl⟩))
   try go_wp2
   go_ret3
   exact term_fail (by first | rfl | simp) HX.out hb.out
end Go.Proofs.YtfmnjclnhppghaaGreat
