/- The contract of the laws' markText: -/
import Derived.Test.YtefkhknfjohnaaaGreatDoorEGBase
import Derived.Laws.BytesArg
import Derived.Deep.RegionWith
import Derived.Test.YtefkhknfjohnaaaGreatDoorEGRul
import Derived.Test.YtefkhknfjohnaaaGreatDoorRows
import Derived.ProofKit
import Derived.OpenShut
import Derived.SliceStrings
import Derived.Carry
import Derived.Deep.Slices
import Derived.StillTailTactics
set_option maxRecDepth 100000
set_option maxHeartbeats 1000000
namespace Go.Proofs.YtefkhknfjohnaaaGreatDoor
open Go Go.RowKit
theorem cons_bytes (c : UInt8) (l : List UInt8) : (⟨#[c]⟩ : ByteArray) ++ ⟨l.toArray⟩ = ⟨(c :: l).toArray⟩:=by
 rw [show (⟨#[c]⟩ : ByteArray) = ⟨[c].toArray⟩ from rfl,ByteArray.mk_append_mk]; rfl
theorem bytes_size (l : List UInt8) : (⟨l.toArray⟩ : ByteArray).size = l.length:=by simp [ByteArray.size]
def dgt (k : Int) : UInt8:=UInt8.ofNat (48 + k).toNat
theorem conv_one (W : World) (k : Int) :
    (convert 22 9 (.slice (some ⟨W.heap.size,0,none⟩) 1 1)).run Tryz.prog (W.alloc (.cells #[.int .u8 (48 + k)] 5)) = .ok (.string ⟨#[dgt k]⟩) (W.alloc (.cells #[.int .u8 (48 + k)] 5)):=by
  have h:=run_convert_bytes_arg (P:=Tryz.prog) (W.alloc (.cells #[.int .u8 (48 + k)] 5)) 22 5 Tryz.underlying22 Tryz.underlying5 W.heap.size 0 1 1 [48 + k] rfl
    (fun i hi => by obtain rfl : i = 0:=by omega
                    simp) 9 Tryz.underlying9
  exact h
theorem add_one (W : World) (c : UInt8) (l : List UInt8) (h : l.length ≤ 20) :
  (Op.stringOp .add ⟨#[c]⟩ ⟨l.toArray⟩).run Tryz.prog W = .ok (.string ⟨(c :: l).toArray⟩) W:=by
 rw [run_string_add_sum W _ _ (by have e1:=bytes_size l; have e2 : (⟨#[c]⟩ : ByteArray).size = 1:=rfl; omega),cons_bytes]
theorem digs_next {m : Int} {l : List UInt8} {u : Nat} (h0 : 0 < m) (h : Hid (digs m.natAbs ++ l = digs u)) : Hid (digs (m / 10).natAbs ++ dgt (m % 10) :: l = digs u):=by
 have h':=h.out
 rw [digs_step (by omega),show m.natAbs / 10 = (m / 10).natAbs by omega,show 48 + m.natAbs % 10 = (48 + m % 10).toNat by omega,List.append_assoc] at h'
 exact h'
def markT (k : Nat) : ByteArray:=⟨(109 :: digs k).toArray⟩
theorem mark_text (k : Nat) (w : World) (h0 : 0 < k) (h1 : k ≤ 1099511627776) :
  Calls Tryz.prog 84 #[.int .i64 (k : Int)] w fun e w' => e = .returned (.string (markT k)) ∧ Below w.heap.size w w':=by
 have hn : ¬ ((k : Int) ≤ 0):=by omega
 go_enter Tryz.func84,Tryz.ntmps84
 go_wp2
 clear hn
 go_loopw [0,3] (fun x s W => ∃ (m : Int) (l : List UInt8),0 ≤ m ∧ m ≤ k ∧ x = .int .i64 m ∧ s = .string ⟨l.toArray⟩ ∧ Hid (digs m.natAbs ++ l = digs k) ∧ Below w.heap.size w W) (fun x _ _ => (intOf x).toNat)
 case atStart => exact ⟨k,[],by omega,by omega,rfl,rfl,List.append_nil _,Below.refl _ _⟩
 case round =>
  obtain ⟨m,l,hm0,hm1,rfl,rfl,hl,hb⟩:=hrel
  have hlen : l.length ≤ 20:=rest_length hl.out (by omega)
  by_cases hz : m = 0
  ·subst hz
   have hadd:=add_one wr 109 l hlen
   go_wp2
   go_ret
   refine ⟨?_,hb⟩
   unfold markT
   rw [← hl.out]; rfl
  ·have hpos : 0 < m:=by omega
   have a1 : 0 ≤ m % 10:=by omega
   have a2 : m % 10 < 10:=by omega
   have a3 : 0 ≤ m / 10:=by omega
   have a4 : m / 10 < m:=by omega
   have hl':=digs_next (by omega) hl
   have hc:=conv_one wr (m % 10)
   have hadd:=add_one (wr.alloc (.cells #[.int .u8 (48 + m % 10)] 5)) (dgt (m % 10)) l hlen
   go_wp2
   go_roundw
   case rel => exact ⟨m / 10,dgt (m % 10) :: l,by omega,by omega,rfl,rfl,hl',hb.alloc hb.size _⟩
   case measure => simp [intOf]; omega
def marksS (k n : Nat) : List ByteArray:=(List.range n).map fun j => markT (k + j)
theorem marksS_length (k n : Nat) : (marksS k n).length = n:=by simp [marksS]
theorem marksS_at (k n j : Nat) (h : j < (marksS k n).length) : (marksS k n)[j] = markT (k + j):=by simp [marksS]
def MarkedS (b off n k i : Nat) (w W : World) : Prop :=
 w.grownBy W (some b) ∧ ∀ j,j < n → (∃ x : ByteArray,W.cell? ⟨b,off + j,none⟩ = some (.string x) ∧ (j < i → x = markT (k + j))) ∧ W.frozen? ⟨b,off + j,none⟩ = false
theorem MarkedS.below {b off n k i : Nat} {w W W' : World} (h : MarkedS b off n k i w W) (hb : Below W.heap.size W W') : MarkedS b off n k i w W':=by
 refine ⟨grown_below h.1 hb,fun j hj => ?_⟩
 obtain ⟨⟨x,hx,hxi⟩,hf⟩:=h.2 j hj
 exact ⟨⟨x,(hb.cell (cell_lt hx)).trans hx,hxi⟩,(hb.frozen (p:=⟨b,off + j,none⟩) (cell_lt hx)).trans hf⟩
theorem MarkedS.next {b off n k i : Nat} {w W : World} (h : MarkedS b off n k i w W) (hi : i < n) : MarkedS b off n k (i + 1) w (W.setCell ⟨b,off + i,none⟩ (.string (markT (k + i)))):=by
 refine ⟨grown_set h.1 (off + i) _,fun j hj => ⟨?_,by simpa using (h.2 j hj).2⟩⟩
 obtain ⟨⟨x,hx,hxi⟩,_⟩:=h.2 j hj
 by_cases e : j = i
 ·subst e
  exact ⟨_,World.cell?_setCell_same _ _ _ hx,fun _ => rfl⟩
 ·refine ⟨x,(World.cell?_setCell_other _ _ _ _ (fun he => e (by have:=congrArg Addr.off he; simp at this; omega))).trans hx,fun hlt => hxi (by omega)⟩
theorem marks_some (b off n cap k : Nat) (w : World) (hn : n ≤ 1073741824) (hk0 : 0 < k) (hk : k ≤ 1073741824) (h0 : MarkedS b off n k 0 w w) :
  Calls Tryz.prog 85 #[.slice (some ⟨b,off,none⟩) n cap,.int .i64 k] w fun e w' => e = .returned (.int .i64 ((k + n : Nat) : Int)) ∧ MarkedS b off n k n w w':=by
 have H0:=kq h0
 clear h0
 go_enter Tryz.func85,Tryz.ntmps85
 go_wp2
 go_loopw [1,5] (fun q i W => ∃ j : Nat,j ≤ n ∧ i = .int .i64 j ∧ q = .int .i64 ((k + j : Nat) : Int) ∧ Hid (MarkedS b off n k j w W)) (fun _ i _ => n - (intOf i).toNat)
 case atStart => exact ⟨0,Nat.zero_le _,rfl,rfl,H0.out⟩
 case round =>
  obtain ⟨j,hj,rfl,rfl,hm⟩:=hrel
  have k0 : (0 : Int) ≤ (j : Int):=by omega
  by_cases hlt : j < n
  ·have k1 : (j : Int) < (n : Int):=by omega
   go_wp2_with fail
   refine (mark_text (k + j) _ (by omega) (by omega)).mono ?_
   rintro e w1 ⟨rfl,hb1⟩
   have hm1:=kq (hm.out.below hb1)
   clear hm hb1
   obtain ⟨⟨x,hc,-⟩,hf⟩:=hm1.out.2 j hlt
   have hn':=kq (hm1.out.next hlt)
   generalize markT (k + j) = mt at hn' ⊢
   go_wp2
   go_roundw
   case rel => exact ⟨j + 1,by omega,by go_num,by go_num,hn'⟩
   case measure => simp [intOf]; omega
  ·have k1 : ¬ (j : Int) < (n : Int):=by omega
   obtain rfl : j = n:=by omega
   go_wp2
   go_ret
   exact ⟨rfl,hm.out⟩
theorem marks_none (a : Option Addr) (cap : Nat) (k : Int) (w : World) :
  Calls Tryz.prog 85 #[.slice a 0 cap,.int .i64 k] w fun e w' => e = .returned (.int .i64 k) ∧ w = w':=by
 go_enter Tryz.func85,Tryz.ntmps85
 go_wp2
 go_loop [1,5] (fun q i => i = .int .i64 0 ∧ q = .int .i64 k) (fun _ _ => 0)
 case atStart => exact ⟨rfl,rfl⟩
 case round =>
  obtain ⟨rfl,rfl⟩:=hrel
  go_wp2
  go_ret
  exact ⟨rfl,rfl⟩
def MarkOutS (B : Nat) (a : Option Addr) (n cap k : Nat) (w : World) (e : Ending) (w' : World) : Prop :=
 e = .returned (.int .i64 ((k + n : Nat) : Int)) ∧ RowS B a (marksS k n) cap w' ∧ Touch B a n w w'
theorem mark_strs (B : Nat) (a : Option Addr) (ss : List ByteArray) (cap k : Nat) (w : World) (hn : ss.length ≤ 1073741824) (hk0 : 0 < k) (hk : k ≤ 1073741824) (h : RowS B a ss cap w) :
  Calls Tryz.prog 85 #[.slice a ss.length cap,.int .i64 k] w (MarkOutS B a ss.length cap k w):=by
 have hcap : (marksS k ss.length).length ≤ cap ∧ (a = none → cap = 0):=by rw [marksS_length]; exact h.2
 by_cases hbs : ss = []
 ·subst hbs
  refine (marks_none a cap k w).mono ?_
  rintro e w' ⟨rfl,rfl⟩
  exact ⟨rfl,⟨.inl rfl,hcap⟩,.inl rfl⟩
 ·rcases h.1 with h | ⟨b,off,rfl,hB,hc⟩
  ·exact absurd h hbs
  ·refine (marks_some b off ss.length cap k w hn hk0 hk ⟨grown_refl w b,fun j hj => ⟨⟨_,(hc j hj).1,fun h => by omega⟩,(hc j hj).2⟩⟩).mono ?_
   rintro e w' ⟨rfl,hg,hm⟩
   refine ⟨rfl,⟨.inr ⟨b,off,rfl,hB,fun j hj => ?_⟩,hcap⟩,.inr ⟨fun h0 => hbs (List.eq_nil_of_length_eq_zero h0),b,off,rfl,hB,hg⟩⟩
   have hjn : j < ss.length:=by rw [marksS_length] at hj; exact hj
   obtain ⟨⟨x,hx,hx'⟩,hf⟩:=hm j hjn
   refine ⟨?_,hf⟩
   rw [hx,hx' hjn,marksS_at]
def sumTo (ss : List ByteArray) (k : Nat) : Nat:=((ss.take k).map ByteArray.size).sum
theorem sumTo_next (ss : List ByteArray) (k : Nat) (h : k < ss.length) : sumTo ss (k + 1) = sumTo ss k + ss[k].size:=by
 unfold sumTo
 rw [List.take_succ_eq_append_getElem h,List.map_append,List.sum_append]
 simp only [List.map_cons,List.map_nil,List.sum_cons,List.sum_nil,Nat.add_zero]
theorem sumTo_le (ss : List ByteArray) (k : Nat) : sumTo ss k ≤ sumTo ss ss.length:=by
 unfold sumTo
 have e : (ss.map ByteArray.size).sum = ((ss.take k).map ByteArray.size).sum + ((ss.drop k).map ByteArray.size).sum:=by
  rw [← List.sum_append,← List.map_append,List.take_append_drop]
 rw [List.take_length,e]
 exact Nat.le_add_right _ _
def sizeS (ss : List ByteArray) : Nat:=ss.length + sumTo ss ss.length
def leftN (L n : Nat) : Int:=if n ≤ L then (L : Int) - (n : Int) else -1
theorem sz_strsL (a : Option Addr) (ss : List ByteArray) (cap L : Nat) (w : World) (hL : L ≤ 1048576) (hl : ss.length ≤ 9223372036854775807) (hs : ∀ s ∈ ss,s.size ≤ 9223372036854775807) (h : RdS a ss w) :
  Calls Tryz.prog 129 #[.slice a ss.length cap,.int .i64 (L : Int)] w fun e w' => e = .returned (.int .i64 (leftN L (sizeS ss))) ∧ w = w':=by
 have H:=kq h
 have HS:=kq hs
 clear h hs
 by_cases hbig : L < ss.length
 ·have g1 : (L : Int) - (ss.length : Int) < 0:=by omega
  have hr : Hid (leftN L (sizeS ss) = -1):=by unfold Hid leftN; rw [if_neg (by unfold sizeS; omega)]
  go_enter Tryz.func129,Tryz.ntmps129
  go_wp2
  go_ret
  exact ⟨ret_int hr.out.symm,rfl⟩
 ·have g1 : ¬ ((L : Int) - (ss.length : Int) < 0):=by omega
  go_enter Tryz.func129,Tryz.ntmps129
  go_wp2
  clear g1
  go_loop [1,5] (fun q i => ∃ k r : Nat,k ≤ ss.length ∧ i = .int .i64 k ∧ q = .int .i64 (r : Int) ∧ r ≤ L ∧ Hid (r + ss.length + sumTo ss k = L)) (fun _ i => ss.length - (intOf i).toNat)
  case atStart => exact ⟨0,L - ss.length,Nat.zero_le _,rfl,by congr 1; omega,by omega,by unfold Hid sumTo; simp; omega⟩
  case round =>
   obtain ⟨k,r,hk,rfl,rfl,hr,hsum⟩:=hrel
   have k0 : (0 : Int) ≤ (k : Int):=by omega
   by_cases hlt : k < ss.length
   ·obtain ⟨b,off,rfl,hc⟩:=H.out k hlt
    have k1 : (k : Int) < (ss.length : Int):=by omega
    have hsz:=HS.out _ (List.getElem_mem hlt)
    have hnx:=kq (sumTo_next ss k hlt)
    have hto:=kq (sumTo_le ss (k + 1))
    generalize ss[k] = x at hc hsz hnx
    by_cases hle : x.size ≤ r
    ·have g2 : ¬ ((r : Int) - (x.size : Int) < 0):=by omega
     have hsum' : Hid (r - x.size + ss.length + sumTo ss (k + 1) = L):=by
      have h1:=hsum.out
      have h2:=hnx.out
      show _ = _
      omega
     go_wp2
     go_round
     case rel => exact ⟨k + 1,r - x.size,by omega,by go_num,by congr 1; omega,by omega,hsum'⟩
     case measure => simp [intOf]; omega
    ·have g2 : (r : Int) - (x.size : Int) < 0:=by omega
     have hres : Hid (leftN L (sizeS ss) = -1):=by
      have h1:=hsum.out
      have h2:=hnx.out
      have h3:=hto.out
      unfold Hid leftN
      rw [if_neg (by unfold sizeS; omega)]
     go_wp2
     go_ret
     exact ⟨ret_int hres.out.symm,rfl⟩
   ·have k1 : ¬ (k : Int) < (ss.length : Int):=by omega
    obtain rfl : k = ss.length:=by omega
    have hres : Hid (leftN L (sizeS ss) = (r : Int)):=by
     have h1:=hsum.out
     unfold Hid leftN
     rw [if_pos (by unfold sizeS; omega)]
     unfold sizeS
     omega
    go_wp2
    go_ret
    exact ⟨ret_int hres.out.symm,rfl⟩
theorem leftN_no {L n : Nat} (h : L < n) : leftN L n = -1:=by unfold leftN; rw [if_neg (by omega)]
theorem leftN_yes {L n : Nat} (h : n ≤ L) : leftN L n = ((L - n : Nat) : Int):=by unfold leftN; rw [if_pos h]; omega
theorem sz_bytes (a : Option Addr) (n cap L : Nat) (w : World) (hL : L ≤ 1048576) (hn : n ≤ 9223372036854775807) :
  Calls Tryz.prog 128 #[.slice a n cap,.int .i64 (L : Int)] w fun e w' => e = .returned (.int .i64 (leftN L n)) ∧ w = w':=by
 by_cases h : L < n
 ·have g : (L : Int) - (n : Int) < 0:=by omega
  go_enter Tryz.func128,Tryz.ntmps128
  go_wp2
  go_ret
  exact ⟨ret_int (leftN_no h).symm,rfl⟩
 ·have g : ¬ ((L : Int) - (n : Int) < 0):=by omega
  go_enter Tryz.func128,Tryz.ntmps128
  go_wp2
  go_ret
  exact ⟨ret_int (by rw [leftN_yes (by omega)]; omega),rfl⟩
theorem sz_ints (a : Option Addr) (n cap L : Nat) (w : World) (hL : L ≤ 1048576) (hn : n ≤ 9223372036854775807) :
  Calls Tryz.prog 130 #[.slice a n cap,.int .i64 (L : Int)] w fun e w' => e = .returned (.int .i64 (leftN L n)) ∧ w = w':=by
 by_cases h : L < n
 ·have g : (L : Int) - (n : Int) < 0:=by omega
  go_enter Tryz.func130,Tryz.ntmps130
  go_wp2
  go_ret
  exact ⟨ret_int (leftN_no h).symm,rfl⟩
 ·have g : ¬ ((L : Int) - (n : Int) < 0):=by omega
  go_enter Tryz.func130,Tryz.ntmps130
  go_wp2
  go_ret
  exact ⟨ret_int (by rw [leftN_yes (by omega)]; omega),rfl⟩
def ruleSize (r : RuleV) : Nat:=r.name.size + r.bytes.length + sizeS r.names + r.tags.length + r.kids.length
def Fits (r : RuleV) : Prop:=r.name.size ≤ 9223372036854775807 ∧ r.bytes.length ≤ 9223372036854775807 ∧ r.names.length ≤ 9223372036854775807 ∧ (∀ s ∈ r.names,s.size ≤ 9223372036854775807) ∧ r.tags.length ≤ 9223372036854775807 ∧ r.kids.length ≤ 9223372036854775807
theorem sz_rule (r : RuleV) (cs : List Value) (L : Nat) (w : World) (hL : L ≤ 1048576) (hf : Fits r) (h : IsRule r cs w) :
  Calls Tryz.prog 80 #[.agg cs.toArray,.int .i64 (L : Int)] w fun e w' => e = .returned (.int .i64 (leftN L (ruleSize r))) ∧ Below w.heap.size w w':=by
 obtain ⟨a4,c4,a5,c5,a6,c6,a7,c7,rfl,h4,h5,h6,h7⟩:=h
 obtain ⟨f0,f4,f5,f5',f6,f7⟩:=hf
 have HF:=kq f5'
 have hB : ∀ o,Below w.heap.size w (w.alloc o):=fun o => (Below.refl _ _).alloc (Nat.le_refl _) _
 have H5:=fun o => kq (h5.below (hB o))
 have HB:=fun o => kq (hB o)
 have hs : Hid (ruleSize r = r.name.size + r.bytes.length + sizeS r.names + r.tags.length + r.kids.length):=rfl
 clear f5' h4 h5 h6 h7 hB
 by_cases g0 : L < r.name.size
 ·have q0 : (L : Int) - (r.name.size : Int) < 0:=by omega
  go_enter Tryz.func80,Tryz.ntmps80
  go_wp2
  go_ret
  exact ⟨ret_int (leftN_no (by have:=hs.out; skip; omega)).symm,(HB _).out⟩
 obtain ⟨L1,e1⟩ : ∃ L1,L1 = L - r.name.size:=⟨_,rfl⟩
 have q0 : ¬ ((L : Int) - (r.name.size : Int) < 0):=by omega
 have q1 : (L : Int) - (r.name.size : Int) = (L1 : Int):=by omega
 have b1 : L1 ≤ L:=by omega
 have E1:=kq e1
 clear e1
 go_enter Tryz.func80,Tryz.ntmps80
 go_wp2_with fail
 refine (sz_bytes a4 r.bytes.length c4 L1 _ (by omega) f4).mono ?_
 rintro e w1 ⟨rfl,rfl⟩
 by_cases g1 : L1 < r.bytes.length
 ·rw [leftN_no g1]
  go_wp2
  go_ret
  exact ⟨ret_int (leftN_no (by have:=hs.out; have x1:=E1.out; omega)).symm,(HB _).out⟩
 rw [leftN_yes (by omega)]
 obtain ⟨L2,e2⟩ : ∃ x,x = L1 - r.bytes.length:=⟨_,rfl⟩
 rw [← e2]
 have b2 : L2 ≤ L:=by omega
 have E2:=kq e2
 clear e2
 go_wp2_with fail
 refine (sz_strsL a5 r.names c5 L2 _ (by omega) f5 HF.out (H5 _).out).mono ?_
 rintro e w1 ⟨rfl,rfl⟩
 by_cases g2 : L2 < sizeS r.names
 ·rw [leftN_no g2]
  go_wp2
  go_ret
  exact ⟨ret_int (leftN_no (by have:=hs.out; have x1:=E1.out; have x2:=E2.out; omega)).symm,(HB _).out⟩
 rw [leftN_yes (by omega)]
 obtain ⟨L3,e3⟩ : ∃ x,x = L2 - sizeS r.names:=⟨_,rfl⟩
 rw [← e3]
 have b3 : L3 ≤ L:=by omega
 have E3:=kq e3
 clear e3
 go_wp2_with fail
 refine (sz_ints a6 r.tags.length c6 L3 _ (by omega) f6).mono ?_
 rintro e w1 ⟨rfl,rfl⟩
 by_cases g3 : L3 < r.tags.length
 ·rw [leftN_no g3]
  go_wp2
  go_ret
  exact ⟨ret_int (leftN_no (by have:=hs.out; have x1:=E1.out; have x2:=E2.out; have x3:=E3.out; omega)).symm,(HB _).out⟩
 rw [leftN_yes (by omega)]
 obtain ⟨L4,e4⟩ : ∃ x,x = L3 - r.tags.length:=⟨_,rfl⟩
 rw [← e4]
 have b4 : L4 ≤ L:=by omega
 have E4:=kq e4
 clear e4
 go_wp2_with fail
 refine (sz_ints a7 r.kids.length c7 L4 _ (by omega) f7).mono ?_
 rintro e w1 ⟨rfl,rfl⟩
 by_cases g4 : L4 < r.kids.length
 ·rw [leftN_no g4]
  go_wp2
  go_ret
  exact ⟨ret_int (leftN_no (by have:=hs.out; have x1:=E1.out; have x2:=E2.out; have x3:=E3.out; have x4:=E4.out; omega)).symm,(HB _).out⟩
 rw [leftN_yes (by omega)]
 obtain ⟨L5,e5⟩ : ∃ x,x = L4 - r.kids.length:=⟨_,rfl⟩
 rw [← e5]
 have b5 : L5 ≤ L:=by omega
 have E5:=kq e5
 clear e5
 go_wp2
 go_ret
 have hN : ruleSize r ≤ L ∧ L5 = L - ruleSize r:=by
  have:=hs.out; have x1:=E1.out; have x2:=E2.out; have x3:=E3.out; have x4:=E4.out; have x5:=E5.out
  omega
 exact ⟨ret_int (by rw [leftN_yes hN.1,hN.2]),(HB _).out⟩
def sumR (rs : List RuleV) (k : Nat) : Nat:=((rs.take k).map ruleSize).sum
theorem sumR_next (rs : List RuleV) (k : Nat) (h : k < rs.length) : sumR rs (k + 1) = sumR rs k + ruleSize rs[k]:=by
 unfold sumR
 rw [List.take_succ_eq_append_getElem h,List.map_append,List.sum_append]
 simp only [List.map_cons,List.map_nil,List.sum_cons,List.sum_nil,Nat.add_zero]
theorem sumR_le (rs : List RuleV) (k : Nat) : sumR rs k ≤ sumR rs rs.length:=by
 unfold sumR
 have e : (rs.map ruleSize).sum = ((rs.take k).map ruleSize).sum + ((rs.drop k).map ruleSize).sum:=by
  rw [← List.sum_append,← List.map_append,List.take_append_drop]
 rw [List.take_length,e]
 exact Nat.le_add_right _ _
def sizeR (rs : List RuleV) : Nat:=rs.length + sumR rs rs.length
theorem ruleSize_le (rs : List RuleV) (j : Nat) (h : j < rs.length) : ruleSize rs[j] ≤ sizeR rs:=by
 have h1:=sumR_next rs j h
 have h2:=sumR_le rs (j + 1)
 unfold sizeR
 omega
theorem sz_rules (a : Option Addr) (rs : List RuleV) (cap L : Nat) (w : World) (hL : L ≤ 1048576) (hl : rs.length ≤ 9223372036854775807) (hf : ∀ r ∈ rs,Fits r) (h : RdR a rs w) :
  Calls Tryz.prog 46 #[.slice a rs.length cap,.int .i64 (L : Int)] w fun e w' => e = .returned (.int .i64 (leftN L (sizeR rs))) ∧ Below w.heap.size w w':=by
 have H:=kq h
 have HF:=kq hf
 clear h hf
 by_cases hbig : L < rs.length
 ·have g1 : (L : Int) - (rs.length : Int) < 0:=by omega
  have hr : Hid (leftN L (sizeR rs) = -1):=leftN_no (by unfold sizeR; omega)
  go_enter Tryz.func46,Tryz.ntmps46
  go_wp2
  go_ret
  exact ⟨ret_int hr.out.symm,Below.refl _ _⟩
 ·have g1 : ¬ ((L : Int) - (rs.length : Int) < 0):=by omega
  go_enter Tryz.func46,Tryz.ntmps46
  go_wp2
  clear g1
  go_loopw [1,5] (fun q i W => ∃ k x : Nat,k ≤ rs.length ∧ i = .int .i64 k ∧ q = .int .i64 (x : Int) ∧ x ≤ L ∧ Hid (x + rs.length + sumR rs k = L) ∧ Hid (Below w.heap.size w W)) (fun _ i _ => rs.length - (intOf i).toNat)
  case atStart => exact ⟨0,L - rs.length,Nat.zero_le _,rfl,by congr 1; omega,by omega,by unfold Hid sumR; simp; omega,Below.refl _ _⟩
  case round =>
   obtain ⟨k,x,hk,rfl,rfl,hx,hsum,hb⟩:=hrel
   have k0 : (0 : Int) ≤ (k : Int):=by omega
   by_cases hlt : k < rs.length
   ·have k1 : (k : Int) < (rs.length : Int):=by omega
    have hfit:=kq (HF.out _ (List.getElem_mem hlt))
    have hnx:=kq (sumR_next rs k hlt)
    have hto:=kq (sumR_le rs (k + 1))
    obtain ⟨b,off,a4,c4,a5,c5,a6,c6,a7,c7,rfl,⟨d0,d1,d2,d3,d4,d5,d6,d7⟩,h4,h5,h6,h7⟩:=(H.out.below hb.out).at k hlt
    have HR : Hid (IsRule rs[k] _ wr):=⟨a4,c4,a5,c5,a6,c6,a7,c7,rfl,h4,h5,h6,h7⟩
    clear h4 h5 h6 h7
    generalize rs[k] = r at d0 d1 d2 d3 d4 d5 d6 d7 HR hfit hnx
    go_wp2_with fail
    refine (sz_rule r _ x _ (by omega) hfit.out HR.out).mono ?_
    rintro e w1 ⟨rfl,hb1⟩
    have HB1:=kq (hb.out.trans (hb1.mono hb.out.size))
    clear hb1 d0 d1 d2 d3 d4 d5 d6 d7 HR
    by_cases hle : ruleSize r ≤ x
    ·obtain ⟨y,hy⟩ : ∃ y,y = x - ruleSize r:=⟨_,rfl⟩
     have hsum' : Hid (y + rs.length + sumR rs (k + 1) = L):=by
      have h1:=hsum.out
      have h2:=hnx.out
      show _ = _
      omega
     have hyL : y ≤ L:=by omega
     rw [leftN_yes hle,← hy]
     clear hy hle
     go_wp2
     go_roundw
     case rel => exact ⟨k + 1,y,by omega,by go_num,rfl,hyL,hsum',HB1⟩
     case measure => simp [intOf]; omega
    ·have hres : Hid (leftN L (sizeR rs) = -1):=by
      have h1:=hsum.out
      have h2:=hnx.out
      have h3:=hto.out
      exact leftN_no (by unfold sizeR; omega)
     rw [leftN_no (by omega)]
     go_wp2
     go_ret
     exact ⟨ret_int hres.out.symm,HB1.out⟩
   ·have k1 : ¬ (k : Int) < (rs.length : Int):=by omega
    obtain rfl : k = rs.length:=by omega
    have hres : Hid (leftN L (sizeR rs) = (x : Int)):=by
     have h1:=hsum.out
     show leftN L (sizeR rs) = (x : Int)
     rw [leftN_yes (by unfold sizeR; omega)]
     unfold sizeR
     omega
    go_wp2
    go_ret
    exact ⟨ret_int hres.out.symm,hb.out⟩
theorem sz_descr (a : Option Addr) (rs : List RuleV) (cap L : Nat) (w : World) (hL : L ≤ 1048576) (hl : rs.length ≤ 9223372036854775807) (hf : ∀ r ∈ rs,Fits r) (h : RdR a rs w) :
  Calls Tryz.prog 18 #[.agg #[.slice a rs.length cap],.int .i64 (L : Int)] w fun e w' => e = .returned (.int .i64 (leftN L (sizeR rs))) ∧ Below w.heap.size w w':=by
 have hB : ∀ o,Below w.heap.size w (w.alloc o):=fun o => (Below.refl _ _).alloc (Nat.le_refl _) _
 have H:=fun o => kq (h.below (hB o))
 have HB:=fun o => kq (hB o)
 have HF:=kq hf
 clear h hB hf
 go_enter Tryz.func18,Tryz.ntmps18
 go_wp2_with fail
 refine (sz_rules a rs cap L _ hL hl HF.out (H _).out).mono ?_
 rintro e w1 ⟨rfl,hb1⟩
 have HB1:=kq ((HB _).out.trans (hb1.mono (HB _).out.size))
 clear hb1
 by_cases g : sizeR rs ≤ L
 ·rw [leftN_yes g]
  go_wp2
  go_ret
  exact ⟨ret_int (leftN_yes g).symm,HB1.out⟩
 ·rw [leftN_no (by omega)]
  go_wp2
  go_ret
  exact ⟨ret_int (leftN_no (by omega)).symm,HB1.out⟩
theorem size_in {ss : List ByteArray} {s : ByteArray} (h : s ∈ ss) : s.size ≤ sizeS ss:=by
 obtain ⟨j,hj,rfl⟩:=List.getElem_of_mem h
 have h1:=sumTo_next ss j hj
 have h2:=sumTo_le ss (j + 1)
 unfold sizeS
 omega
theorem spelt_of {rs : List RuleV} (h : sizeR rs ≤ 1048576) : ∀ r ∈ rs,Spelt r:=fun r hr => by
 obtain ⟨j,hj,rfl⟩:=List.getElem_of_mem hr
 have h1:=ruleSize_le rs j hj
 unfold ruleSize at h1
 exact ⟨by omega,fun s hs => by have:=size_in hs; omega⟩
end Go.Proofs.YtefkhknfjohnaaaGreatDoor
namespace Go.Proofs.YtefkhknfjohnaaaGreatDoor
open Go Go.ChangeShapes Go.WideShapes Go.ChangeAt Go.RowKit
theorem own : ownKnob Tryz.prog.godebug = none:=by kernel_rfl
theorem laidOut : laidOutB Tryz.prog = true:=by kernel_rfl
theorem cellsU8 : Tryz.prog.cellsOf 5 = 1:=by kernel_rfl
def Arg (a : Option Addr) (bs : List UInt8) (cap : Nat) (w : World) : Prop:=Rd a bs w ∧ bs.length ≤ cap ∧ (a = none → cap = 0) ∧ cap ≤ 9223372036854775807
theorem bytes_arg {H : Type} {enc : TypeId × Value → H} {W : World} {a : Option Addr} {len cap : Nat} {d : DataW H} {p : List MemPlace}
  (h : DataW.Trod enc Tryz.prog W 0 (fun _ => true) true 22 (.slice a len cap) d p) : ∃ bs : List UInt8,len = bs.length ∧ Arg a bs cap W:=by
 obtain ⟨fuel,hf⟩:=h
 rcases open_ints Tryz.underlying22 Tryz.underlying5 cellsU8 hf with ⟨hcs,hx⟩ | ⟨ad,len',cap',zs,hcs,_,hl,hm,hz,hx,hcell,hwz⟩
 ·simp [Value.cells] at hcs
  obtain ⟨rfl,rfl,rfl⟩:=hcs
  exact ⟨[],rfl,fun j hj => by simp at hj,by simp,fun _ => rfl,by omega⟩
 ·simp [Value.cells] at hcs
  obtain ⟨rfl,rfl,rfl⟩:=hcs
  simp only [if_true] at hz
  have hlen : ((zs.take len).map fun z => UInt8.ofNat z.toNat).length = len:=by simp; omega
  refine ⟨(zs.take len).map fun z => UInt8.ofNat z.toNat,hlen.symm,fun j hj => ?_,by omega,(fun e => by cases e),by unfold maxLen at hm; omega⟩
  have hj2 : j < len:=by omega
  obtain ⟨b,off,rfl,hc⟩:=ints_at hcell (by omega)
  refine ⟨b,off,rfl,?_⟩
  have hjz : j < zs.length:=by omega
  have hmem : zs[j] ∈ zs:=List.getElem_mem hjz
  have h0:=hwz _ hmem
  have e1 : IntKind.u8.min = 0:=rfl
  have e2 : IntKind.u8.max = 255:=rfl
  simp only [Lit.wf,e1,e2,Bool.and_eq_true,decide_eq_true_eq] at h0
  rw [hc j hjz]
  simp only [List.getElem_map,List.getElem_take]
  rw [UInt8.toNat_ofNat',Nat.mod_eq_of_lt (by omega)]
  simp [List.getD,List.getElem?_eq_getElem hjz]
  omega
theorem i64_arg {n : Int} (h : (Lit.int .i64 n).wf = true) : I64 n:=by
 have e1 : IntKind.i64.min = -9223372036854775808:=rfl
 have e2 : IntKind.i64.max = 9223372036854775807:=rfl
 simp only [Lit.wf,e1,e2,Bool.and_eq_true,decide_eq_true_eq] at h
 exact h
def ArgS (a : Option Addr) (ss : List ByteArray) (cap : Nat) (w : World) : Prop:=RdF Value.string a ss w ∧ ss.length ≤ cap ∧ (a = none → cap = 0) ∧ cap ≤ 9223372036854775807 ∧ ∀ s ∈ ss,s.size ≤ 9223372036854775807
theorem strings_arg {H : Type} {enc : TypeId × Value → H} {W : World} {a : Option Addr} {len cap : Nat} {d : DataW H} {p : List MemPlace} {t e : TypeId} (ht : Tryz.prog.underlying t = some (.slice e)) (he : Tryz.prog.underlying e = some .string) (hce : Tryz.prog.cellsOf e = 1)
  (h : DataW.Trod enc Tryz.prog W 0 (fun _ => true) true t (.slice a len cap) d p) : ∃ ss : List ByteArray,len = ss.length ∧ ArgS a ss cap W:=by
 obtain ⟨fuel,hf⟩:=h
 rcases open_strings ht he hce hf with ⟨hcs,hx⟩ | ⟨ad,len',cap',ss,hcs,_,hl,hm,hz,hx,hcell,hwz⟩
 ·simp [Value.cells] at hcs
  obtain ⟨rfl,rfl,rfl⟩:=hcs
  exact ⟨[],rfl,fun j hj => by simp at hj,by simp,fun _ => rfl,by omega,fun s hs => by simp at hs⟩
 ·simp [Value.cells] at hcs
  obtain ⟨rfl,rfl,rfl⟩:=hcs
  simp only [if_true] at hz
  have hlen : (ss.take len).length = len:=by simp; omega
  refine ⟨ss.take len,hlen.symm,fun j hj => ?_,by omega,(fun e => by cases e),by unfold maxLen at hm; omega,fun s hs => by have:=hwz s (List.mem_of_mem_take hs); unfold maxLen at this; omega⟩
  have hj2 : j < len:=by omega
  obtain ⟨b,off,spot⟩:=ad
  have hspot : spot = none:=by simpa [Addr.add] using World.cell?_spot (hcell 0 (by omega))
  subst hspot
  refine ⟨b,off,rfl,?_⟩
  have hjz : j < ss.length:=by omega
  rw [← Go.WideShapes.add_plain,hcell j hjz,List.getElem_take]
  simp [List.getD,List.getElem?_eq_getElem hjz]
end Go.Proofs.YtefkhknfjohnaaaGreatDoor
namespace Go.Proofs.YtefkhknfjohnaaaGreatDoor
open Go Go.ChangeShapes Go.WideShapes Go.ChangeAt Go.RowKit Go.Deep
theorem cellsOne : Tryz.prog.cellsOf 9 = 1 ∧ Tryz.prog.cellsOf 3 = 1 ∧ Tryz.prog.cellsOf 4 = 1 ∧ Tryz.prog.cellsOf 22 = 1 ∧ Tryz.prog.cellsOf 59 = 1 ∧ Tryz.prog.cellsOf 61 = 1:=⟨by kernel_rfl,by kernel_rfl,by kernel_rfl,by kernel_rfl,by kernel_rfl,by kernel_rfl⟩
theorem cellsRule : Tryz.prog.cellsOf 106 = 8:=by kernel_rfl
theorem cellsDescr : Tryz.prog.cellsOf 37 = 1:=by kernel_rfl
theorem cellsRuleS : Tryz.prog.cellsOf 35 = 1:=by kernel_rfl
def Ranged (r : RuleV) : Prop:=I64 r.kind ∧ I64 r.size ∧ (∀ x ∈ r.tags,I64 x) ∧ (∀ x ∈ r.kids,I64 x)
section
variable {H : Type} {enc : TypeId × Value → H} {W : World}
theorem bytes_open {n : Nat} {v : Value} {y : DataW H × List MemPlace} (h : DataW.trod enc Tryz.prog W 0 (fun _ => true) true n 22 [v] = some y) : ∃ a bs cap,v = .slice a bs.length cap ∧ Arg a bs cap W:=by
 have h0:=h
 rcases open_ints Tryz.underlying22 Tryz.underlying5 cellsU8 h0 with ⟨hcs,_⟩ | ⟨ad,len,cap,zs,hcs,_⟩
 ·simp at hcs
  subst hcs
  obtain ⟨bs,hb,ha⟩:=bytes_arg (a:=none) (len:=0) (cap:=0) (p:=y.2) (d:=y.1) ⟨n,h⟩
  exact ⟨none,bs,0,by rw [← hb],ha⟩
 ·simp at hcs
  subst hcs
  obtain ⟨bs,hb,ha⟩:=bytes_arg (a:=some ad) (len:=len) (cap:=cap) (p:=y.2) (d:=y.1) ⟨n,h⟩
  exact ⟨some ad,bs,cap,by rw [← hb],ha⟩
theorem strs_open {n : Nat} {v : Value} {y : DataW H × List MemPlace} (h : DataW.trod enc Tryz.prog W 0 (fun _ => true) true n 59 [v] = some y) : ∃ a ss cap,v = .slice a ss.length cap ∧ ArgS a ss cap W:=by
 have h0:=h
 rcases open_strings Tryz.underlying59 Tryz.underlying9 cellsOne.1 h0 with ⟨hcs,_⟩ | ⟨ad,len,cap,zs,hcs,_⟩
 ·simp at hcs
  subst hcs
  obtain ⟨bs,hb,ha⟩:=strings_arg Tryz.underlying59 Tryz.underlying9 cellsOne.1 (a:=none) (len:=0) (cap:=0) (p:=y.2) (d:=y.1) ⟨n,h⟩
  exact ⟨none,bs,0,by rw [← hb],ha⟩
 ·simp at hcs
  subst hcs
  obtain ⟨bs,hb,ha⟩:=strings_arg Tryz.underlying59 Tryz.underlying9 cellsOne.1 (a:=some ad) (len:=len) (cap:=cap) (p:=y.2) (d:=y.1) ⟨n,h⟩
  exact ⟨some ad,bs,cap,by rw [← hb],ha⟩
def ArgI (a : Option Addr) (zs : List Int) (cap : Nat) (w : World) : Prop:=RdI a zs w ∧ zs.length ≤ cap ∧ (a = none → cap = 0) ∧ cap ≤ 9223372036854775807 ∧ ∀ x ∈ zs,I64 x
theorem ints_open {n : Nat} {v : Value} {y : DataW H × List MemPlace} (h : DataW.trod enc Tryz.prog W 0 (fun _ => true) true n 61 [v] = some y) : ∃ a zs cap,v = .slice a zs.length cap ∧ ArgI a zs cap W:=by
 rcases open_ints Tryz.underlying61 Tryz.underlying3 cellsOne.2.1 h with ⟨hcs,_⟩ | ⟨ad,len,cap,zs,hcs,_,hl,hm,hz,hx,hcell,hwz⟩
 ·simp at hcs
  subst hcs
  exact ⟨none,[],0,rfl,fun j hj => by simp at hj,Nat.le_refl _,fun _ => rfl,by omega,fun x hx => by simp at hx⟩
 ·simp at hcs
  subst hcs
  simp only [if_true] at hz
  have hlen : (zs.take len).length = len:=by simp; omega
  refine ⟨some ad,zs.take len,cap,by rw [hlen],fun j hj => ?_,by omega,(fun e => by cases e),by unfold maxLen at hm; omega,fun x hx => i64_arg (hwz x (List.mem_of_mem_take hx))⟩
  have hj2 : j < len:=by omega
  obtain ⟨b,off,rfl,hc⟩:=ints_at hcell (by omega)
  refine ⟨b,off,rfl,?_⟩
  have hjz : j < zs.length:=by omega
  rw [hc j hjz,List.getElem_take]
  simp [List.getD,List.getElem?_eq_getElem hjz]
theorem rule_open {n : Nat} {cs : List Value} {x : DataW H × List MemPlace} (h : DataW.trod enc Tryz.prog W 0 (fun _ => true) true n 106 cs = some x) : ∃ r : RuleV,IsRule r cs W ∧ Fits r ∧ Ranged r:=by
 obtain ⟨e1,e2,e3,-⟩:=cellsOne
 obtain ⟨xs,m,_,_,hlen,hxl,hf⟩:=DataW.trod_struct Tryz.underlying106 h
 rw [cellsRule] at hlen
 match cs,hlen with
 | [v0,v1,v2,v3,v4,v5,v6,v7],_ =>
  match xs,hxl with
  | [y0,y1,y2,y3,y4,y5,y6,y7],_ =>
   have h0:=hf 0 _ rfl
   have h1:=hf 1 _ rfl
   have h2:=hf 2 _ rfl
   have h3:=hf 3 _ rfl
   have h4:=hf 4 _ rfl
   have h5:=hf 5 _ rfl
   have h6:=hf 6 _ rfl
   have h7:=hf 7 _ rfl
   simp only [List.getElem?_cons_zero,List.getElem?_cons_succ] at h0 h1 h2 h3 h4 h5 h6 h7
   obtain ⟨s,q0,-,z0⟩:=DataW.trod_string Tryz.underlying9 h0
   obtain ⟨i1,q1,-,z1⟩:=DataW.trod_int Tryz.underlying3 h1
   obtain ⟨i2,q2,-,z2⟩:=DataW.trod_int Tryz.underlying3 h2
   obtain ⟨b3,q3,-⟩:=DataW.trod_bool Tryz.underlying4 h3
   obtain ⟨a4,bs,c4,rfl,r4⟩:=bytes_open h4
   obtain ⟨a5,ss,c5,rfl,r5⟩:=strs_open h5
   obtain ⟨a6,ts,c6,rfl,r6⟩:=ints_open h6
   obtain ⟨a7,ks,c7,rfl,r7⟩:=ints_open h7
   simp [e1] at q0
   simp [e2] at q1
   simp [e2] at q2
   simp [e3] at q3
   subst q0 q1 q2 q3
   refine ⟨⟨s,i1,i2,b3,bs,ss,ts,ks⟩,⟨a4,c4,a5,c5,a6,c6,a7,c7,rfl,r4.1,r5.1,r6.1,r7.1⟩,⟨by unfold maxLen at z0; show s.size ≤ _; omega,?_,?_,r5.2.2.2.2,?_,?_⟩,i64_arg z1,i64_arg z2,r6.2.2.2.2,r7.2.2.2.2⟩
   ·exact Nat.le_trans r4.2.1 r4.2.2.2
   ·exact Nat.le_trans r5.2.1 r5.2.2.2.1
   ·exact Nat.le_trans r6.2.1 r6.2.2.2.1
   ·exact Nat.le_trans r7.2.1 r7.2.2.2.1
def ArgD (a : Option Addr) (rs : List RuleV) (cap : Nat) (w : World) : Prop:=RdR a rs w ∧ (rs.length ≤ cap ∧ cap ≤ 9223372036854775807) ∧ (∀ r ∈ rs,Fits r) ∧ (∀ r ∈ rs,Ranged r)
theorem rules_open {n : Nat} {v : Value} {y : DataW H × List MemPlace} (h : DataW.trod enc Tryz.prog W 0 (fun _ => true) true n 35 [v] = some y) : ∃ a rs cap,v = .slice a rs.length cap ∧ ArgD a rs cap W:=by
 rcases open_slice Tryz.underlying35 h with ⟨hcs,_⟩ | ⟨ad,len,cap,m,n',D,Pl,hcs,_,hl,hm,hmm,_,hi⟩
 ·simp at hcs
  subst hcs
  exact ⟨none,[],0,rfl,fun j hj => by simp at hj,⟨Nat.le_refl _,by omega⟩,fun r hr => by simp at hr,fun r hr => by simp at hr⟩
 ·simp at hcs
  subst hcs
  simp only [if_true] at hmm
  rw [cellsRule] at hi
  have hr : ∀ i : Fin len,∃ r : RuleV,(∃ cs,IsRule r cs W ∧ ∀ j u,cs[j]? = some u → W.cell? (ad.add (i.val * 8 + j)) = some u) ∧ Fits r ∧ Ranged r:=fun i => by
   obtain ⟨cs,hc,ht⟩:=hi i.val (by have:=i.isLt; omega)
   obtain ⟨_,hcl,hat⟩:=World.cells?_some hc
   obtain ⟨r,h1,h2,h3⟩:=rule_open ht
   refine ⟨r,⟨cs,h1,fun j u hu => ?_⟩,h2,h3⟩
   have hj : j < 8:=by
    rcases Nat.lt_or_ge j 8 with h | h
    ·exact h
    ·rw [List.getElem?_eq_none (by omega)] at hu; cases hu
   have:=hat j hj
   rw [← Go.Deep.add_add,this,hu]
  have hch : ∃ R : Fin len → RuleV,∀ i,(∃ cs,IsRule (R i) cs W ∧ ∀ j u,cs[j]? = some u → W.cell? (ad.add (i.val * 8 + j)) = some u) ∧ Fits (R i) ∧ Ranged (R i):=⟨fun i => Classical.choose (hr i),fun i => Classical.choose_spec (hr i)⟩
  obtain ⟨R,hR⟩:=hch
  have hlen : (List.ofFn R).length = len:=by simp
  refine ⟨some ad,List.ofFn R,cap,by rw [hlen],fun j hj => ?_,⟨by rw [hlen]; exact hl,by unfold maxLen at hm; omega⟩,?_,?_⟩
  ·have hjl : j < len:=by omega
   obtain ⟨⟨cs,h1,h2⟩,_⟩:=hR ⟨j,hjl⟩
   obtain ⟨b,off,spot⟩:=ad
   have hspot : spot = none:=by
    obtain ⟨⟨cs',g1,g2⟩,_⟩:=hR ⟨0,by omega⟩
    obtain ⟨_,_,_,_,_,_,_,_,e,_⟩:=g1
    have h0:=g2 0 _ (by rw [e]; rfl)
    simpa [Addr.add] using World.cell?_spot h0
   subst hspot
   refine ⟨b,off,cs,rfl,by simpa using h1,fun i v hv => ?_⟩
   have:=h2 i v hv
   rw [Go.WideShapes.add_plain] at this
   rw [Nat.add_assoc]
   exact this
  ·intro r hr
   obtain ⟨i,rfl⟩:=(List.mem_ofFn).1 hr
   exact (hR i).2.1
  ·intro r hr
   obtain ⟨i,rfl⟩:=(List.mem_ofFn).1 hr
   exact (hR i).2.2
theorem descr_arg {v : Value} {d : DataW H} {p : List MemPlace} {r : Reach} {b0 : Nat} (hv : Value.okWide Tryz.prog W r b0 37 v) (h : DataW.Trod enc Tryz.prog W 0 (fun _ => true) true 37 v d p) : ∃ a rs cap,v = .agg #[.slice a rs.length cap] ∧ ArgD a rs cap W:=by
 obtain ⟨cs,rfl,hsz⟩:=okWide_struct Tryz.underlying37 hv
 rw [cellsDescr] at hsz
 obtain ⟨l⟩:=cs
 match l,hsz with
 | [c0],_ =>
  obtain ⟨fuel,hf⟩:=h
  obtain ⟨xs,n,_,hx,_,hlen,hg⟩:=DataW.trod_struct Tryz.underlying37 hf
  match xs,hlen with
  | [y0],_ =>
   have h0:=hg 0 _ rfl
   simp [Value.cells,cellsRuleS] at h0
   obtain ⟨a,rs,cap,rfl,ha⟩:=rules_open (v:=c0) h0
   exact ⟨a,rs,cap,rfl,ha⟩
end
theorem short_of {rs : List RuleV} (h : sizeR rs ≤ 1048576) : ∀ r ∈ rs,Short r:=fun r hr => by
 obtain ⟨j,hj,rfl⟩:=List.getElem_of_mem hr
 have h1:=ruleSize_le rs j hj
 unfold ruleSize sizeS at h1
 exact ⟨by omega,by omega,by omega,by omega⟩
theorem sz_descr0 (a : Option Addr) (rs : List RuleV) (cap : Nat) (w : World) (hl : rs.length ≤ 9223372036854775807) (hf : ∀ r ∈ rs,Fits r) (h : RdR a rs w) :
  Calls Tryz.prog 18 #[.agg #[.slice a rs.length cap],.int .i64 1048576] w fun e w' => e = .returned (.int .i64 (leftN 1048576 (sizeR rs))) ∧ Below w.heap.size w w':=sz_descr a rs cap 1048576 w (Nat.le_refl _) hl hf h
end Go.Proofs.YtefkhknfjohnaaaGreatDoor
namespace Go.Proofs.YtefkhknfjohnaaaGreatDoor
open Go Go.RowKit


theorem eq_rule (r : RuleV) (cs ds : List Value) (w : World) (hr : Short r) (h : IsRule r cs w) (k : IsRule r ds w) :
  Calls Tryz.prog 83 #[.agg cs.toArray,.agg ds.toArray] w fun e w' => e = .returned (.bool true) ∧ Below w.heap.size w w':=by
 obtain ⟨a4,c4,a5,c5,a6,c6,a7,c7,rfl,h4,h5,h6,h7⟩:=h
 obtain ⟨e4,f4,e5,f5,e6,f6,e7,f7,rfl,k4,k5,k6,k7⟩:=k
 obtain ⟨s4,s5,s6,s7⟩:=hr
 have hB : ∀ o p,Below w.heap.size w ((w.alloc o).alloc p):=fun o p => ((Below.refl _ _).alloc (Nat.le_refl _) _).alloc (by simp) _
 have H4:=fun o p => kq (h4.below (hB o p))
 have H5:=fun o p n => kq (show RdF Value.string a5 r.names (((w.alloc o).alloc p).drewN n) from h5.below (below_drewN (hB o p) n))
 have H6:=fun o p n => kq (show RdF (Value.int .i64) a6 r.tags (((w.alloc o).alloc p).drewN n) from h6.below (below_drewN (hB o p) n))
 have H7:=fun o p n => kq (show RdF (Value.int .i64) a7 r.kids (((w.alloc o).alloc p).drewN n) from h7.below (below_drewN (hB o p) n))
 have K4:=fun o p => kq (k4.below (hB o p))
 have K5:=fun o p n => kq (show RdF Value.string e5 r.names (((w.alloc o).alloc p).drewN n) from k5.below (below_drewN (hB o p) n))
 have K6:=fun o p n => kq (show RdF (Value.int .i64) e6 r.tags (((w.alloc o).alloc p).drewN n) from k6.below (below_drewN (hB o p) n))
 have K7:=fun o p n => kq (show RdF (Value.int .i64) e7 r.kids (((w.alloc o).alloc p).drewN n) from k7.below (below_drewN (hB o p) n))
 have HB:=fun o p => kq (hB o p)
 clear h4 h5 h6 h7 k4 k5 k6 k7 hB
 have t4 : decide (r.bytes = r.bytes) = true:=by simp
 have t5 : decide (r.names = r.names) = true:=by simp
 have t6 : decide (r.tags = r.tags) = true:=by simp
 have t7 : decide (r.kids = r.kids) = true:=by simp
 go_enter Tryz.func83,Tryz.ntmps83
 go_wp2_with fail
 refine (eq_any a4 e4 r.bytes r.bytes c4 f4 _ (by omega) (H4 _ _).out (K4 _ _).out).mono ?_
 rintro e w1 ⟨rfl,n1,rfl⟩
 go_wp2_with fail
 refine (eq_strs a5 e5 r.names r.names c5 f5 _ (by omega) (H5 _ _ _).out (K5 _ _ _).out).mono ?_
 rintro e w1 ⟨rfl,n2,rfl⟩
 go_wp2_with fail
 refine (eq_ints a6 e6 r.tags r.tags c6 f6 _ (by omega) (H6 _ _ _).out (K6 _ _ _).out).mono ?_
 rintro e w1 ⟨rfl,n3,rfl⟩
 go_wp2_with fail
 refine (eq_ints a7 e7 r.kids r.kids c7 f7 _ (by omega) (H7 _ _ _).out (K7 _ _ _).out).mono ?_
 rintro e w1 ⟨rfl,n4,rfl⟩
 go_wp2_with fail
 go_ret
 exact ⟨rfl,below_drewN (HB _ _).out _⟩
theorem eq_rules (a b : Option Addr) (rs : List RuleV) (ca cb : Nat) (w : World) (hl : rs.length ≤ 1048576) (hs : ∀ r ∈ rs,Short r) (ha : RdR a rs w) (hb : RdR b rs w) :
  Calls Tryz.prog 49 #[.slice a rs.length ca,.slice b rs.length cb] w fun e w' => e = .returned (.bool true) ∧ Below w.heap.size w w':=by
 have HA:=kq ha
 have HC:=kq hb
 have HS:=kq hs
 clear ha hb hs
 go_enter Tryz.func49,Tryz.ntmps49
 go_wp2
 go_loopw [5] (fun i W => ∃ k : Nat,k ≤ rs.length ∧ i = .int .i64 k ∧ Hid (Below w.heap.size w W)) (fun i _ => rs.length - (intOf i).toNat)
 case atStart => exact ⟨0,Nat.zero_le _,rfl,Below.refl _ _⟩
 case round =>
  obtain ⟨k,hk,rfl,hbw⟩:=hrel
  have k0 : (0 : Int) ≤ (k : Int):=by omega
  by_cases hlt : k < rs.length
  ·have k1 : (k : Int) < (rs.length : Int):=by omega
   have hsh:=kq (HS.out _ (List.getElem_mem hlt))
   obtain ⟨b1,o1,a4,c4,a5,c5,a6,c6,a7,c7,rfl,⟨d0,d1,d2,d3,d4,d5,d6,d7⟩,h4,h5,h6,h7⟩:=(HA.out.below hbw.out).at k hlt
   obtain ⟨b2,o2,x4,y4,x5,y5,x6,y6,x7,y7,rfl,⟨m0,m1,m2,m3,m4,m5,m6,m7⟩,j4,j5,j6,j7⟩:=(HC.out.below hbw.out).at k hlt
   have HR : Hid (IsRule rs[k] _ wr):=⟨a4,c4,a5,c5,a6,c6,a7,c7,rfl,h4,h5,h6,h7⟩
   have HQ : Hid (IsRule rs[k] _ wr):=⟨x4,y4,x5,y5,x6,y6,x7,y7,rfl,j4,j5,j6,j7⟩
   clear h4 h5 h6 h7 j4 j5 j6 j7
   generalize rs[k] = r at d0 d1 d2 d3 d4 d5 d6 d7 m0 m1 m2 m3 m4 m5 m6 m7 HR HQ hsh
   go_wp2
   go_still_tail 8,(by kernel_rfl)
   change wpList _ _ _ _ _ wr.drew
   have hbd : Below w.heap.size w wr.drew:=⟨hbw.out.os,hbw.out.tape,hbw.out.output,hbw.out.size,hbw.out.block⟩
   have HR2 : Hid (IsRule r _ wr.drew):=HR.out
   have HQ2 : Hid (IsRule r _ wr.drew):=HQ.out
   have HBD:=kq hbd
   clear HR HQ hbd d0 d1 d2 d3 d4 d5 d6 d7 m0 m1 m2 m3 m4 m5 m6 m7
   generalize wr.drew = w2 at HR2 HQ2 HBD ⊢
   go_wp2_with fail
   refine (eq_rule r _ _ _ hsh.out HR2.out HQ2.out).mono ?_
   rintro e w3 ⟨rfl,hb3⟩
   have HB3:=kq (HBD.out.trans (hb3.mono HBD.out.size))
   clear hb3
   go_wp2
   go_roundw
   case rel => exact ⟨k + 1,by omega,by go_num,HB3⟩
   case measure => simp [intOf]; omega
  ·have k1 : ¬ (k : Int) < (rs.length : Int):=by omega
   go_wp2
   go_ret
   exact ⟨rfl,hbw.out⟩
theorem eq_descr (a b : Option Addr) (rs : List RuleV) (ca cb : Nat) (w : World) (hl : rs.length ≤ 1048576) (hs : ∀ r ∈ rs,Short r) (ha : RdR a rs w) (hb : RdR b rs w) :
  Calls Tryz.prog 23 #[.agg #[.slice a rs.length ca],.agg #[.slice b rs.length cb]] w fun e w' => e = .returned (.bool true) ∧ Below w.heap.size w w':=by
 have hB : ∀ o p,Below w.heap.size w ((w.alloc o).alloc p):=fun o p => ((Below.refl _ _).alloc (Nat.le_refl _) _).alloc (by simp) _
 have HA:=fun o p => kq (ha.below (hB o p))
 have HC:=fun o p => kq (hb.below (hB o p))
 have HB:=fun o p => kq (hB o p)
 have HS:=kq hs
 clear ha hb hB hs
 go_enter Tryz.func23,Tryz.ntmps23
 go_wp2_with fail
 refine (eq_rules a b rs ca cb _ hl HS.out (HA _ _).out (HC _ _).out).mono ?_
 rintro e w1 ⟨rfl,hb1⟩
 have HB1:=kq ((HB _ _).out.trans (hb1.mono (HB _ _).out.size))
 clear hb1
 go_wp2
 go_ret
 exact ⟨rfl,HB1.out⟩
end Go.Proofs.YtefkhknfjohnaaaGreatDoor
