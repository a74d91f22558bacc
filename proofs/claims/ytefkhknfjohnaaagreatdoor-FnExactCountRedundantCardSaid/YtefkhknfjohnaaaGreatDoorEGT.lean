/- What may turn, cell by cell. -/
import Derived.Test.YtefkhknfjohnaaaGreatDoorEGV
import Derived.Test.YtefkhknfjohnaaaGreatDoorEGEnd
import Derived.IntWalk
import Derived.Laws.BitsLemmas
import Derived.Test.YtefkhknfjohnaaaGreatDoorEGD
import Derived.Test.YtefkhknfjohnaaaGreatDoorEGP
import Derived.BigQuiet
import Derived.Deep.RegionHeld3
import Derived.Deep.CutRange
import Derived.Test.YtefkhknfjohnaaaGreatDoorEShelf
set_option maxRecDepth 100000
set_option maxHeartbeats 4000000
namespace Go.Proofs.YtefkhknfjohnaaaGreatDoor
open Go Go.RowKit
structure Turn (S : Nat → Nat → Prop) (w w' : World) : Prop where
 os : w'.os = w.os
 tape : w'.tape = w.tape
 output : w'.output = w.output
 size : w.heap.size ≤ w'.heap.size
 block : ∀ k,k < w.heap.size → (∀ i,¬ S k i) → w'.heap[k]? = w.heap[k]?
 cell : ∀ k i,k < w.heap.size → ¬ S k i → w'.cell? ⟨k,i,none⟩ = w.cell? ⟨k,i,none⟩
 frozen : ∀ k i,k < w.heap.size → w'.frozen? ⟨k,i,none⟩ = w.frozen? ⟨k,i,none⟩
 alive : ∀ k i v,w.cell? ⟨k,i,none⟩ = some v → v.oneCell' = true → ∃ v',w'.cell? ⟨k,i,none⟩ = some v' ∧ v'.oneCell' = true
theorem Turn.refl (S : Nat → Nat → Prop) (w : World) : Turn S w w:=⟨rfl,rfl,rfl,Nat.le_refl _,fun _ _ _ => rfl,fun _ _ _ _ => rfl,fun _ _ _ => rfl,fun _ _ v h h1 => ⟨v,h,h1⟩⟩
theorem Turn.trans {S S' : Nat → Nat → Prop} {w w' w'' : World} (h : Turn S w w') (g : Turn S' w' w'') (hs : ∀ k i,k < w.heap.size → S' k i → S k i) : Turn S w w'' :=
 ⟨g.os.trans h.os,g.tape.trans h.tape,g.output.trans h.output,Nat.le_trans h.size g.size,
  fun k hk hn => (g.block k (Nat.lt_of_lt_of_le hk h.size) fun i hi => hn i (hs k i hk hi)).trans (h.block k hk hn),
  fun k i hk hn => (g.cell k i (Nat.lt_of_lt_of_le hk h.size) fun hi => hn (hs k i hk hi)).trans (h.cell k i hk hn),
  fun k i hk => (g.frozen k i (Nat.lt_of_lt_of_le hk h.size)).trans (h.frozen k i hk),
  fun k i v hv h1 => by obtain ⟨v',hv',h2⟩:=h.alive k i v hv h1; exact g.alive k i v' hv' h2⟩
theorem Turn.mono {S S' : Nat → Nat → Prop} {w w' : World} (h : Turn S w w') (hs : ∀ k i,k < w.heap.size → S k i → S' k i) : Turn S' w w' :=
 ⟨h.os,h.tape,h.output,h.size,fun k hk hn => h.block k hk fun i hi => hn i (hs k i hk hi),fun k i hk hn => h.cell k i hk fun hi => hn (hs k i hk hi),h.frozen,h.alive⟩
theorem Turn.of_below (S : Nat → Nat → Prop) {w w' : World} (h : Below w.heap.size w w') : Turn S w w' :=
 ⟨h.os,h.tape,h.output,h.size,fun k hk _ => h.block k hk,fun k i hk _ => h.cell (p:=⟨k,i,none⟩) hk,fun k i hk => h.frozen (p:=⟨k,i,none⟩) hk,fun k i v hv h1 => ⟨v,(h.cell (p:=⟨k,i,none⟩) (cell_lt hv)).trans hv,h1⟩⟩
theorem Turn.below {S : Nat → Nat → Prop} {B : Nat} {w0 w w' : World} (h : Below B w0 w) (g : Turn S w w') (hB : B ≤ w.heap.size) (hs : ∀ k i,S k i → B ≤ k) : Below B w0 w' :=
 ⟨g.os.trans h.os,g.tape.trans h.tape,g.output.trans h.output,Nat.le_trans h.size g.size,fun k hk => (g.block k (Nat.lt_of_lt_of_le hk hB) (fun i hi => by have:=hs k i hi; omega)).trans (h.block k hk)⟩
theorem Turn.set {S : Nat → Nat → Prop} {w : World} {b i : Nat} {v : Value} (hb : S b i) (hone : v.oneCell' = true:=by rfl) : Turn S w (w.setCell ⟨b,i,none⟩ v):=by
 have hg:=grown_set (grown_refl w b) i v
 refine ⟨hg.os,hg.tape,hg.output,hg.size,fun k hk hn => hg.block k hk fun e => ?_,fun k j hk hn => ?_,fun k j hk => World.frozen?_setCell _ _ _ _,fun k j u hu h1 => ?_⟩
 ·injection e with e
  subst e
  exact hn i hb
 ·refine World.cell?_setCell_other _ _ _ _ fun e => ?_
  injection e with e1 e2
  subst e1 e2
  exact hn hb
 ·by_cases e : (⟨b,i,none⟩ : Addr) = ⟨k,j,none⟩
  ·rw [← e] at hu ⊢
   exact ⟨v,World.cell?_setCell_same _ _ _ hu,hone⟩
  ·exact ⟨u,(World.cell?_setCell_other _ _ _ _ e).trans hu,h1⟩
theorem Turn.kept {S : Nat → Nat → Prop} {w w' : World} {k i : Nat} {v : Value} (h : Turn S w w') (hn : ¬ S k i) (hc : w.cell? ⟨k,i,none⟩ = some v ∧ w.frozen? ⟨k,i,none⟩ = false) : w'.cell? ⟨k,i,none⟩ = some v ∧ w'.frozen? ⟨k,i,none⟩ = false :=
 ⟨(h.cell k i (cell_lt hc.1) hn).trans hc.1,(h.frozen k i (cell_lt hc.1)).trans hc.2⟩
def InV (Z o : Nat) (k i : Nat) : Prop:=k = Z ∧ o ≤ i ∧ i < o + 3
def PlacedAt (Z o : Nat) (cs : List Value) (w : World) : Prop:=∀ i u,cs[i]? = some u → w.cell? ⟨Z,o + i,none⟩ = some u ∧ w.frozen? ⟨Z,o + i,none⟩ = false
theorem PlacedAt.kept {S : Nat → Nat → Prop} {Z o : Nat} {cs : List Value} {w w' : World} (h : PlacedAt Z o cs w) (g : Turn S w w') (hn : ∀ i,i < cs.length → ¬ S Z (o + i)) : PlacedAt Z o cs w':=fun i u hu => by
 have hi : i < cs.length:=by
  rcases Nat.lt_or_ge i cs.length with h | h
  ·exact h
  ·rw [List.getElem?_eq_none h] at hu; cases hu
 exact g.kept (hn i hi) (h i u hu)
theorem PlacedAt.below {Z o : Nat} {cs : List Value} {w w' : World} (h : PlacedAt Z o cs w) (g : Below w.heap.size w w') : PlacedAt Z o cs w':=h.kept (Turn.of_below (fun _ _ => False) g) fun _ _ h => h
theorem PlacedAt.set {Z o : Nat} {cs : List Value} {w : World} (h : PlacedAt Z o cs w) (i : Nat) (v : Value) (hi : i < cs.length) : PlacedAt Z o (cs.set i v) (w.setCell ⟨Z,o + i,none⟩ v):=fun j u hu => by
 by_cases e : i = j
 ·subst e
  rw [List.getElem?_set_self hi] at hu
  injection hu with hu
  subst hu
  obtain ⟨h1,h2⟩:=h i cs[i] (List.getElem?_eq_getElem hi)
  exact ⟨World.cell?_setCell_same _ _ _ h1,(World.frozen?_setCell _ _ _ _).trans h2⟩
 ·rw [List.getElem?_set_ne e] at hu
  obtain ⟨h1,h2⟩:=h j u hu
  exact ⟨(World.cell?_setCell_other _ _ _ _ (fun e2 => by injection e2 with _ e3; omega)).trans h1,(World.frozen?_setCell _ _ _ _).trans h2⟩
theorem PlacedAt.far {Z o b i : Nat} {cs : List Value} {w : World} {v : Value} (h : PlacedAt Z o cs w) (hn : b ≠ Z ∨ i < o ∨ o + cs.length ≤ i) (hone : v.oneCell' = true:=by rfl) : PlacedAt Z o cs (w.setCell ⟨b,i,none⟩ v) :=
 h.kept (S:=fun k j => k = b ∧ j = i) (Turn.set ⟨rfl,rfl⟩ hone) fun j hj h2 => by obtain ⟨h3,h4⟩:=h2; omega
theorem PlacedAt.lt {Z o : Nat} {cs : List Value} {w : World} (h : PlacedAt Z o cs w) (hl : 0 < cs.length) : Z < w.heap.size:=cell_lt (h 0 cs[0] (List.getElem?_eq_getElem hl)).1
theorem OwnT.turn {S : Nat → Nat → Prop} {n : Nat} {bl : List Nat} {v : ValueV} {cs : List Value} {w w' : World} (h : OwnT n bl v cs w) (g : Turn S w w') (hn : ∀ b ∈ bl,∀ i,¬ S b i) : OwnT n bl v cs w':=by
 classical
 have hg : ∀ k,k < w.heap.size → k ∈ bl → w'.heap[k]? = w.heap[k]?:=fun k hk hm => g.block k hk (hn k hm)
 have h2 : ∀ {n : Nat} {bl' : List Nat} {v : ValueV} {cs : List Value},OwnT n bl' v cs w → (∀ b ∈ bl',b ∈ bl) → OwnT n bl' v cs w':=by
  intro n
  induction n with
  | zero => intro bl' v cs h _; exact h.elim
  | succ n ih =>
   intro bl' v cs h hs
   obtain ⟨ab,cb,ai,ci,b1,b0,bls,e,hcap,h1,rfl,hnd,h0,hl,hr⟩:=h
   have hcell : ∀ b i v,b ∈ bl → (w.cell? ⟨b,i,none⟩ = some v ∧ w.frozen? ⟨b,i,none⟩ = false) → w'.cell? ⟨b,i,none⟩ = some v ∧ w'.frozen? ⟨b,i,none⟩ = false:=fun b i v hb hc => by
    have e:=hg b (cell_lt hc.1) hb
    exact ⟨(World.cell?_of_block (a:=⟨b,i,none⟩) e).trans hc.1,(World.frozen?_of_block (a:=⟨b,i,none⟩) e).trans hc.2⟩
   refine ⟨ab,cb,ai,ci,b1,b0,bls,e,hcap,?_,rfl,hnd,h0,hl,fun j hj hj' => ?_⟩
   ·rcases h1 with h1 | ⟨⟨b,off,ha,rfl,hc⟩,h3⟩
    ·exact .inl h1
    ·exact .inr ⟨⟨b,off,ha,rfl,fun j hj => hcell b _ _ (hs b (by simp)) (hc j hj)⟩,h3⟩
   ·obtain ⟨b,off,cs',ha,hb0,ho,hc⟩:=hr j hj hj'
    refine ⟨b,off,cs',ha,hb0,ih ho fun q hq => hs q ?_,fun i u hu => hcell b _ _ (hs b (by simp [hb0])) (hc i u hu)⟩
    exact List.mem_append_right _ (List.mem_append_right _ (List.mem_flatten.2 ⟨_,List.getElem_mem hj',hq⟩))
 exact h2 h fun b hb => hb
theorem CellsAt.turn {S : Nat → Nat → Prop} {b : Nat} {vs : List Value} {w w' : World} (h : CellsAt b vs w) (g : Turn S w w') (hn : ∀ i,i < vs.length → ¬ S b i) : CellsAt b vs w':=fun i v hv => by
 have hi : i < vs.length:=by
  rcases Nat.lt_or_ge i vs.length with h | h
  ·exact h
  ·rw [List.getElem?_eq_none h] at hv; cases hv
 exact g.kept (hn i hi) (h i v hv)
theorem sum_impl (a : Option Addr) (bs : List UInt8) (cap : Nat) (w : World) (hl : bs.length ≤ 1099511627776) (h : Rd a bs w) :
  Calls Tryz.prog 208 #[.slice a bs.length cap] w fun e w' => e = .returned (.int .i64 (sumB bs 0 : Nat)) ∧ Below w.heap.size w w':=by
 have H:=kq h
 clear h
 go_enter Tryz.func208,Tryz.ntmps208
 go_wp2
 go_loop [3,5,8] (fun q _ i => ∃ k : Nat,k ≤ bs.length ∧ i = .int .i64 k ∧ q = .int .u8 ((sumB (bs.take k) 0 : Nat) : Int)) (fun _ _ i => bs.length - (intOf i).toNat)
 case atStart => exact ⟨0,Nat.zero_le _,rfl,rfl⟩
 case round =>
  obtain ⟨k,hk,rfl,rfl⟩:=hrel
  have hs:=sumB_lt (bs.take k) 0 (by omega)
  have k0 : (0 : Int) ≤ (k : Int):=by omega
  by_cases hlt : k < bs.length
  ·obtain ⟨b,off,rfl,hc⟩:=H.out k hlt
   have hx:=bs[k].toNat_lt
   have hn:=kq (sumB_take bs 0 k hlt)
   have k1 : (k : Int) < (bs.length : Int):=by omega
   go_wp2
   go_round
   case rel => exact ⟨k + 1,by omega,by go_num,by rw [hn.out]; go_num⟩
   case measure => simp [intOf]; omega
  ·have k1 : ¬ (k : Int) < (bs.length : Int):=by omega
   go_wp2
   go_ret
   exact ⟨ret_int (by rw [List.take_of_length_le (by omega)]),Below.refl _ _⟩
theorem or_hi (x y : Int) (i : Nat) (hx0 : 0 ≤ x) (hx : x % 2 ^ i = 0) (hx1 : x < 4611686018427387904) (hy0 : 0 ≤ y) (hy : y < 2 ^ i) (hy1 : y < 4611686018427387904) : bits .or .i64 x y = x + y :=
 bits_join .i64 62 (by decide) (fun n h0 h1 => by rw [IntKind.wrap_i64]; omega) i x y hx0 hx (by omega) hy0 hy (by omega)
theorem or_comm64 (x y : Int) : bits .or .i64 x y = bits .or .i64 y x:=by
 simp only [bits,BitVec.or_comm]
theorem or_lo (x y : Int) (i : Nat) (hx0 : 0 ≤ x) (hx : x % 2 ^ i = 0) (hx1 : x < 4611686018427387904) (hy0 : 0 ≤ y) (hy : y < 2 ^ i) (hy1 : y < 4611686018427387904) : bits .or .i64 y x = x + y:=by
 rw [or_comm64]; exact or_hi x y i hx0 hx hx1 hy0 hy hy1
theorem readB_add : ∀ (bs : List UInt8) (n : Nat),readB bs n = n * 256 ^ bs.length + readB bs 0
 | [],n => by simp [readB]
 | b :: r,n => by
  simp only [readB,List.length_cons]
  rw [readB_add r (n * 256 + b.toNat),readB_add r (0 * 256 + b.toNat),Nat.pow_succ]
  have e : n * (256 ^ r.length * 256) = n * 256 * 256 ^ r.length:=by rw [Nat.mul_comm (256 ^ r.length),← Nat.mul_assoc]
  rw [e,Nat.add_mul,Nat.zero_mul,Nat.zero_add]
  omega
def hiB (bs : List UInt8) (k : Nat) : Nat:=readB (bs.take k) 0 * 256 ^ (bs.length - k)
def loB (bs : List UInt8) (k : Nat) : Nat:=readB (bs.take k).reverse 0
theorem hiB_step (bs : List UInt8) (k m : Nat) (h : k < bs.length) (hm : m + k + 1 = bs.length) : hiB bs (k + 1) = hiB bs k + bs[k].toNat * 256 ^ m:=by
 unfold hiB
 rw [readB_take bs 0 k h,show bs.length - (k + 1) = m by omega,show bs.length - k = m + 1 by omega,Nat.pow_succ,Nat.add_mul,Nat.mul_comm (256 ^ m) 256,← Nat.mul_assoc]
theorem hiB_mod (bs : List UInt8) (k m : Nat) (hm : m + k + 1 = bs.length) : hiB bs k % 256 ^ (m + 1) = 0:=by
 unfold hiB
 rw [show bs.length - k = m + 1 by omega,Nat.mul_mod_left]
theorem hiB_lt (bs : List UInt8) (k : Nat) (hk : k ≤ bs.length) (h : bs.length ≤ 4) : hiB bs k < 4294967296:=by
 unfold hiB
 have h1:=readB_lt (bs.take k) 0
 rw [Nat.zero_add,Nat.one_mul,List.length_take,Nat.min_eq_left hk] at h1
 have h2 : readB (bs.take k) 0 * 256 ^ (bs.length - k) < 256 ^ k * 256 ^ (bs.length - k):=Nat.mul_lt_mul_of_pos_right h1 (Nat.pow_pos (by omega))
 rw [← Nat.pow_add,show k + (bs.length - k) = bs.length by omega] at h2
 have h3:=Nat.pow_le_pow_right (n:=256) (by omega) h
 omega
theorem loB_step (bs : List UInt8) (k : Nat) (h : k < bs.length) : loB bs (k + 1) = loB bs k + bs[k].toNat * 256 ^ k:=by
 unfold loB
 rw [List.take_succ_eq_append_getElem h,List.reverse_append,List.reverse_singleton,List.singleton_append,readB,readB_add,List.length_reverse,List.length_take,Nat.min_eq_left (by omega)]
 simp
 omega
theorem loB_lt (bs : List UInt8) (k : Nat) (hk : k ≤ bs.length) : loB bs k < 256 ^ k:=by
 unfold loB
 have h1:=readB_lt (bs.take k).reverse 0
 rw [Nat.zero_add,Nat.one_mul,List.length_reverse,List.length_take,Nat.min_eq_left hk] at h1
 exact h1
theorem hiB_end (bs : List UInt8) : hiB bs bs.length = readB (orderB bs false) 0:=by
 unfold hiB orderB
 simp
theorem loB_end (bs : List UInt8) : loB bs bs.length = readB (orderB bs true) 0:=by
 unfold loB orderB
 simp
theorem read_impl (a : Option Addr) (bs : List UInt8) (cap : Nat) (little : Bool) (w : World) (hl : bs.length ≤ 1099511627776) (h : Rd a bs w) :
  Calls Tryz.prog 205 #[.slice a bs.length cap,.bool little] w fun e w' => e = .returned (.int .i64 (readI bs little : Nat)) ∧ Below w.heap.size w w':=by
 have H:=kq h
 clear h
 by_cases h4 : 4 < bs.length
 ·have g4 : (4 : Int) < (bs.length : Int):=by omega
  have e:=kq (show 0 = readI bs little by unfold readI; rw [if_pos h4])
  go_enter Tryz.func205,Tryz.ntmps205
  go_wp2
  go_ret
  exact ⟨ret_int (by rw [← e.out]; rfl),Below.refl _ _⟩
 ·have g4 : ¬ (4 : Int) < (bs.length : Int):=by omega
  have e:=kq (show readB (orderB bs little) 0 = readI bs little by unfold readI; rw [if_neg h4])
  cases little
  ·have E:=kq (hiB_end bs)
   go_enter Tryz.func205,Tryz.ntmps205
   go_wp2
   go_loop [5,6,7,8,14] (fun q _ _ _ i => ∃ k : Nat,k ≤ bs.length ∧ i = .int .i64 k ∧ q = .int .i64 ((hiB bs k : Nat) : Int)) (fun _ _ _ _ i => bs.length - (intOf i).toNat)
   case atStart => exact ⟨0,Nat.zero_le _,rfl,by simp [hiB,readB]⟩
   case round =>
    obtain ⟨k,hk,rfl,rfl⟩:=hrel
    have k0 : (0 : Int) ≤ (k : Int):=by omega
    by_cases hlt : k < bs.length
    ·obtain ⟨m,hm⟩ : ∃ m : Nat,(m : Int) = (bs.length : Int) - 1 - (k : Int):=⟨bs.length - 1 - k,by omega⟩
     obtain ⟨b,off,rfl,hc⟩:=H.out k hlt
     have hx:=bs[k].toNat_lt
     have HS:=kq (hiB_step bs k m hlt (by omega))
     have hz:=hiB_lt bs k hk (by omega)
     have hd:=hiB_mod bs k m (by omega)
     have k1 : (k : Int) < (bs.length : Int):=by omega
     generalize hiB bs k = X at *
     generalize bs[k].toNat = c at *
     obtain rfl | rfl | rfl | rfl : m = 0 ∨ m = 1 ∨ m = 2 ∨ m = 3:=by omega
     ·have m0 : (bs.length : Int) - 1 - (k : Int) = 0:=by omega
      have ho : bits .or .i64 (X : Int) (c : Int) = (X : Int) + (c : Int):=or_hi _ _ 8 (by omega) (by omega) (by omega) (by omega) (by omega) (by omega)
      clear hm
      go_wp2
      go_round
      case rel => exact ⟨k + 1,by omega,by go_num,by rw [HS.out]; go_num⟩
      case measure => simp [intOf]; omega
     ·have m0 : (bs.length : Int) - 1 - (k : Int) = 1:=by omega
      have ho : bits .or .i64 (X : Int) ((c : Int) * 256) = (X : Int) + (c : Int) * 256:=or_hi _ _ 16 (by omega) (by omega) (by omega) (by omega) (by omega) (by omega)
      clear hm
      go_wp2
      go_round
      case rel => exact ⟨k + 1,by omega,by go_num,by rw [HS.out]; go_num⟩
      case measure => simp [intOf]; omega
     ·have m0 : (bs.length : Int) - 1 - (k : Int) = 2:=by omega
      have ho : bits .or .i64 (X : Int) ((c : Int) * 65536) = (X : Int) + (c : Int) * 65536:=or_hi _ _ 24 (by omega) (by omega) (by omega) (by omega) (by omega) (by omega)
      clear hm
      go_wp2
      go_round
      case rel => exact ⟨k + 1,by omega,by go_num,by rw [HS.out]; go_num⟩
      case measure => simp [intOf]; omega
     ·have m0 : (bs.length : Int) - 1 - (k : Int) = 3:=by omega
      have ho : bits .or .i64 (X : Int) ((c : Int) * 16777216) = (X : Int) + (c : Int) * 16777216:=or_hi _ _ 32 (by omega) (by omega) (by omega) (by omega) (by omega) (by omega)
      clear hm
      go_wp2
      go_round
      case rel => exact ⟨k + 1,by omega,by go_num,by rw [HS.out]; go_num⟩
      case measure => simp [intOf]; omega
    ·have k1 : ¬ (k : Int) < (bs.length : Int):=by omega
     obtain rfl : k = bs.length:=by omega
     go_wp2
     go_ret
     exact ⟨ret_int (by rw [← e.out,← E.out]),Below.refl _ _⟩
  ·have E:=kq (loB_end bs)
   go_enter Tryz.func205,Tryz.ntmps205
   go_wp2
   go_loop [5,6,7,8,14] (fun q _ _ _ i => ∃ k : Nat,k ≤ bs.length ∧ i = .int .i64 k ∧ q = .int .i64 ((loB bs k : Nat) : Int)) (fun _ _ _ _ i => bs.length - (intOf i).toNat)
   case atStart => exact ⟨0,Nat.zero_le _,rfl,by simp [loB,readB]⟩
   case round =>
    obtain ⟨k,hk,rfl,rfl⟩:=hrel
    by_cases hlt : k < bs.length
    ·obtain ⟨b,off,rfl,hc⟩:=H.out k hlt
     have hx:=bs[k].toNat_lt
     have HS:=kq (loB_step bs k hlt)
     have hz:=loB_lt bs k hk
     have k1 : (k : Int) < (bs.length : Int):=by omega
     generalize hX : loB bs k = X at *
     generalize hC : bs[k].toNat = c at *
     clear hX hC
     obtain rfl | rfl | rfl | rfl : k = 0 ∨ k = 1 ∨ k = 2 ∨ k = 3:=by omega
     ·have ho : bits .or .i64 (X : Int) (c : Int) = (c : Int) + (X : Int):=or_lo _ _ 0 (by omega) (by omega) (by omega) (by omega) (by omega) (by omega)
      rw [Nat.add_zero] at hc
      go_wp2
      go_round
      case rel => exact ⟨1,by omega,by go_num,by rw [HS.out]; go_num⟩
      case measure => simp [intOf]; omega
     ·have ho : bits .or .i64 (X : Int) ((c : Int) * 256) = (c : Int) * 256 + (X : Int):=or_lo _ _ 8 (by omega) (by omega) (by omega) (by omega) (by omega) (by omega)
      go_wp2
      go_round
      case rel => exact ⟨2,by omega,by go_num,by rw [HS.out]; go_num⟩
      case measure => simp [intOf]; omega
     ·have ho : bits .or .i64 (X : Int) ((c : Int) * 65536) = (c : Int) * 65536 + (X : Int):=or_lo _ _ 16 (by omega) (by omega) (by omega) (by omega) (by omega) (by omega)
      go_wp2
      go_round
      case rel => exact ⟨3,by omega,by go_num,by rw [HS.out]; go_num⟩
      case measure => simp [intOf]; omega
     ·have ho : bits .or .i64 (X : Int) ((c : Int) * 16777216) = (c : Int) * 16777216 + (X : Int):=or_lo _ _ 24 (by omega) (by omega) (by omega) (by omega) (by omega) (by omega)
      go_wp2
      go_round
      case rel => exact ⟨4,by omega,by go_num,by rw [HS.out]; go_num⟩
      case measure => simp [intOf]; omega
    ·have k1 : ¬ (k : Int) < (bs.length : Int):=by omega
     obtain rfl : k = bs.length:=by omega
     go_wp2
     go_ret
     exact ⟨ret_int (by rw [← e.out,← E.out]),Below.refl _ _⟩
def RErr (p c : Int) : Value:=.iface 99 (.agg #[.int .i64 p,.int .i64 c])
def rdCells (a : Option Addr) (n cap : Nat) (ab : Option Addr) (m cb : Nat) (p : Int) : List Value:=[.slice a n cap,.slice ab m cb,.int .i64 p]
def AtR (Rb k i : Nat) : Prop:=k = Rb ∧ i = 2
theorem turn_drewN (S : Nat → Nat → Prop) (w : World) (n : Nat) : Turn S w (w.drewN n):=Turn.of_below S (below_drewN (Below.refl _ w) n)
theorem rd_set {a ab : Option Addr} {n cap m cb Rb : Nat} {p q : Int} {w : World} (h : CellsAt Rb (rdCells a n cap ab m cb p) w) : CellsAt Rb (rdCells a n cap ab m cb q) (w.setCell ⟨Rb,2,none⟩ (.int .i64 q)):=by
 have h1:=h.set 2 (.int .i64 q) (by simp [rdCells])
 exact h1
theorem quiet_call {P : Program} {f : FuncId} {args : Array Value} {w : World} {q n : Nat} {v : Value} (h : Calls P f args (w.drewN (q + n)) fun e w' => e = .returned v ∧ w' = w.drewN (q + n)) : Calls P f args (w.drewN (q + n)) fun e w'' => e = .returned v ∧ ∃ m,w'' = w.drewN (q + m) :=
 h.mono fun _ _ ⟨he,hm⟩ => ⟨he,n,hm⟩
theorem take_ok (a ab : Option Addr) (n cap cb p k Rb : Nat) (L : List UInt8) (w : World) (hR : CellsAt Rb (rdCells a n cap ab L.length cb p) w) (hs : SrcB ab L cb w) (hl : L.length ≤ 1048576) (hk : p + k ≤ L.length) :
  Calls Tryz.prog 204 #[.pointer (some ⟨Rb,0,none⟩),.int .i64 (k : Int)] w fun e w' => (∃ A,e = .returned (.tuple #[.slice A k k,.nilIface]) ∧ ∀ W,SrcB ab L cb W → SrcB A ((L.drop p).take k) k W) ∧ Turn (AtR Rb) w w' ∧ CellsAt Rb (rdCells a n cap ab L.length cb ((p + k : Nat) : Int)) w':=by
 obtain ⟨A,hcall,hA⟩:=part_impl ab L cb p (p + k) w (by omega) hk hs
 rw [Nat.add_sub_cancel_left] at hcall hA
 have HP:=kq hcall
 have HA:=kq hA
 have HR:=kq hR
 have c0:=(hR 0 _ rfl).1
 have c1:=(hR 1 _ rfl).1
 obtain ⟨c2,f2⟩:=hR 2 _ rfl
 have e1 : ((p + k : Nat) : Int) = (p : Int) + (k : Int):=Int.natCast_add p k
 have g1 : ¬ ((L.length : Int) - (p : Int) < (k : Int)):=by omega
 have g2 : (p : Int) + (k : Int) ≤ 1048576:=by omega
 rw [e1] at HP ⊢
 clear hcall hA hR hs e1
 go_enter Tryz.func204,Tryz.ntmps204
 go_wp2
 go_quiet (fail)
 go_wp2
 go_quiet ((go_at_call 209; with_reducible exact quiet_call (HP.out _)))
 go_wp2
 go_ret2
 exact ⟨⟨A,rfl,HA.out⟩,(turn_drewN (AtR Rb) w _).trans (Turn.set (S:=AtR Rb) ⟨rfl,rfl⟩) (fun _ _ _ h => h),rd_set (HR.out.below (below_drewN (Below.refl _ w) _))⟩
theorem take_short (a ab : Option Addr) (n cap cb p Rb : Nat) (k : Int) (L : List UInt8) (w : World) (hR : CellsAt Rb (rdCells a n cap ab L.length cb p) w) (_hl : L.length ≤ 1048576) (hp : p ≤ L.length) (hk : (L.length : Int) < (p : Int) + k) (hkb : k ≤ 1099511627776) :
  Calls Tryz.prog 204 #[.pointer (some ⟨Rb,0,none⟩),.int .i64 k] w fun e w' => e = .returned (.tuple #[.slice none 0 0,RErr p 1]) ∧ Below w.heap.size w w':=by
 have c0:=(hR 0 _ rfl).1
 have c1:=(hR 1 _ rfl).1
 obtain ⟨c2,f2⟩:=hR 2 _ rfl
 have g1 : (L.length : Int) - (p : Int) < k:=by omega
 clear hR
 go_enter Tryz.func204,Tryz.ntmps204
 go_wp2
 go_quiet (fail)
 go_wp2
 go_quiet (fail)
 go_wp2
 go_ret2
 exact ⟨rfl,below_drewN (below_drewN (Below.refl _ _) _) _⟩
def AtN (Rb Z o k i : Nat) : Prop:=AtR Rb k i ∨ (k = Z ∧ i = o)
theorem number_impl (a ab : Option Addr) (n cap cb p Rb Z o : Nat) (L : List UInt8) (r : RuleV) (cs : List Value) (u : Value) (w : World) (hR : CellsAt Rb (rdCells a n cap ab L.length cb p) w) (hs : SrcB ab L cb w) (hl : L.length ≤ 1048576) (hp : p ≤ L.length) (hir : IsRule r cs w) (h0 : 0 ≤ r.size) (h4 : r.size ≤ 4)
  (hz : w.cell? ⟨Z,o,none⟩ = some u ∧ w.frozen? ⟨Z,o,none⟩ = false) (hZR : Z ≠ Rb) (hab : ∀ w',Turn (AtR Rb) w w' → SrcB ab L cb w') :
  Calls Tryz.prog 162 #[.pointer (some ⟨Rb,0,none⟩),.agg cs.toArray,.pointer (some ⟨Z,o,none⟩)] w fun e w' => (match gotInt r L p with
   | .ok x q => e = .returned .nilIface ∧ CellsAt Rb (rdCells a n cap ab L.length cb q) w' ∧ w'.cell? ⟨Z,o,none⟩ = some (.int .i64 x)
   | .bad q c => e = .returned (RErr q c) ∧ ∃ x,w'.cell? ⟨Z,o,none⟩ = some x) ∧ w'.frozen? ⟨Z,o,none⟩ = false ∧ Turn (AtN Rb Z o) w w':=by
 obtain ⟨a4,c4,a5,c5,a6,c6,a7,c7,rfl,-,-,-,-⟩:=hir
 obtain ⟨w0,hw0⟩ : ∃ w0,w0 = w.alloc (.cells #[.string r.name,.int .i64 r.kind,.int .i64 r.size,.bool r.little,.slice a4 r.bytes.length c4,.slice a5 r.names.length c5,.slice a6 r.tags.length c6,.slice a7 r.kids.length c7] 63):=⟨_,rfl⟩
 have hB : Below w.heap.size w w0:=by subst hw0; exact (Below.refl _ _).alloc (Nat.le_refl _) _
 have hC : CellsAt w.heap.size [.string r.name,.int .i64 r.kind,.int .i64 r.size,.bool r.little,.slice a4 r.bytes.length c4,.slice a5 r.names.length c5,.slice a6 r.tags.length c6,.slice a7 r.kids.length c7] w0:=by subst hw0; exact CellsAt.new w _ _
 have hZl : Z < w.heap.size:=cell_lt hz.1
 have hRl : Rb < w.heap.size:=cell_lt (hR 0 _ rfl).1
 have hz0 : w0.cell? ⟨Z,o,none⟩ = some u ∧ w0.frozen? ⟨Z,o,none⟩ = false:=⟨(hB.cell (p:=⟨Z,o,none⟩) hZl).trans hz.1,(hB.frozen (p:=⟨Z,o,none⟩) hZl).trans hz.2⟩
 have HR0:=kq (hR.below hB)
 have HB:=kq hB
 have HC:=kq hC
 have HW:=kq hw0
 have HS0:=kq (hs.below hB)
 have HAB : Hid (∀ w',Turn (AtR Rb) w0 w' → SrcB ab L cb w'):=fun w' g => hab w' ((Turn.of_below _ hB).trans g fun _ _ _ h => h)
 have k2:=(hC 2 _ rfl).1
 obtain ⟨zz,hzz⟩ : ∃ zz : Nat,r.size = (zz : Int):=⟨r.size.toNat,by omega⟩
 have hzt : r.size.toNat = zz:=by omega
 have hgi : gotInt r L p = if L.length < p + zz then .bad p 1 else .ok (readI ((L.drop p).take zz) r.little : Int) (p + zz):=by unfold gotInt; rw [hzt]
 rw [hgi]
 rw [hzz] at k2
 have hzb : zz ≤ 4:=by omega
 have HZ:=kq hz0
 clear hB hC hw0 hR hz hs hab hgi hz0 hzt hzz h0 h4
 by_cases hf : L.length < p + zz
 ·rw [if_pos hf]
  go_enter Tryz.func162,Tryz.ntmps162
  go_upto_region 1 with fail
  rw [← HW.out]
  clear HW
  go_wp2_with fail
  refine (take_short a ab n cap cb p Rb (zz : Int) L w0 HR0.out hl hp (by omega) (by omega)).mono ?_
  rintro e w1 ⟨rfl,hb1⟩
  have hz1:=hb1.size
  have hw01:=HB.out.size
  have y3:=(HC.out.below hb1 3 _ rfl).1
  have HB1:=kq (HB.out.trans (hb1.mono HB.out.size))
  clear hb1
  go_wp2_with fail
  refine (read_impl none [] 0 r.little w1 (by simp) (fun j h => by simp at h)).mono ?_
  rintro e w2 ⟨rfl,hb2⟩
  have HB2:=kq (HB1.out.trans (hb2.mono HB1.out.size))
  obtain ⟨z2,f2⟩ : w2.cell? ⟨Z,o,none⟩ = some u ∧ w2.frozen? ⟨Z,o,none⟩ = false:=⟨(HB2.out.cell (p:=⟨Z,o,none⟩) hZl).trans ((HB.out.cell (p:=⟨Z,o,none⟩) hZl).symm.trans HZ.out.1),(HB2.out.frozen (p:=⟨Z,o,none⟩) hZl).trans ((HB.out.frozen (p:=⟨Z,o,none⟩) hZl).symm.trans HZ.out.2)⟩
  clear hb2 y3 HB1
  go_wp2_with fail
  go_ret
  refine ⟨⟨rfl,_,World.cell?_setCell_same _ _ _ z2⟩,(World.frozen?_setCell _ _ _ _).trans f2,(Turn.of_below _ HB2.out).trans (Turn.set (S:=AtN Rb Z o) (.inr ⟨rfl,rfl⟩)) fun _ _ _ h => h⟩
 ·rw [if_neg hf]
  have hlen : ((L.drop p).take zz).length = zz:=by rw [List.length_take,List.length_drop]; omega
  obtain ⟨bs,hbs⟩ : ∃ bs,bs = (L.drop p).take zz:=⟨_,rfl⟩
  have HBS:=kq hbs
  rw [← hbs] at hlen ⊢
  clear hbs
  go_enter Tryz.func162,Tryz.ntmps162
  go_upto_region 1 with fail
  rw [← HW.out]
  clear HW
  go_wp2_with fail
  refine (take_ok a ab n cap cb p zz Rb L w0 HR0.out HS0.out hl (by omega)).mono ?_
  rintro e w1 ⟨⟨A,rfl,hA⟩,ht1,hr1⟩
  have y3:=(HC.out.turn ht1 (fun i _ h => by have h1:=h.1; omega) 3 _ rfl).1
  have HA : Hid (Rd A bs w1):=by show Rd A bs w1; rw [HBS.out]; exact (hA w1 (HAB.out w1 ht1)).1
  have HT1:=kq ((Turn.of_below (AtR Rb) HB.out).trans ht1 fun _ _ _ h => h)
  have HR1:=kq hr1
  have HZ1 : Hid (w1.cell? ⟨Z,o,none⟩ = some u ∧ w1.frozen? ⟨Z,o,none⟩ = false):=ht1.kept (fun h => hZR h.1) HZ.out
  clear ht1 hr1 hA HZ HR0 HAB HS0
  have hread:=read_impl A bs zz r.little w1 (by omega) HA.out
  rw [hlen] at hread
  go_wp2_with fail
  refine hread.mono ?_
  rintro e w2 ⟨rfl,hb2⟩
  have HT2:=kq (HT1.out.trans (Turn.of_below (AtR Rb) hb2) fun _ _ _ h => h)
  have HR2:=kq (HR1.out.below hb2)
  have hZ1 : Z < w1.heap.size:=cell_lt HZ1.out.1
  obtain ⟨z2,f2⟩ : w2.cell? ⟨Z,o,none⟩ = some u ∧ w2.frozen? ⟨Z,o,none⟩ = false:=⟨(hb2.cell (p:=⟨Z,o,none⟩) hZ1).trans HZ1.out.1,(hb2.frozen (p:=⟨Z,o,none⟩) hZ1).trans HZ1.out.2⟩
  clear hb2 y3 HT1 HR1 HZ1
  go_wp2_with fail
  go_ret
  refine ⟨⟨rfl,HR2.out.far (fun e => hZR e),World.cell?_setCell_same _ _ _ z2⟩,(World.frozen?_setCell _ _ _ _).trans f2,(HT2.out.mono (fun _ _ _ h => .inl h)).trans (Turn.set (S:=AtN Rb Z o) (.inr ⟨rfl,rfl⟩)) fun _ _ _ h => h⟩
def RowT (n G B : Nat) (bls : List (List Nat)) (vs : List ValueV) (w : World) : Prop :=
 bls.length = vs.length ∧ bls.flatten.Nodup ∧ (∀ b ∈ bls.flatten,B ≤ b) ∧ ∀ j (h : j < vs.length) (h' : j < bls.length),∃ cs',OwnT n bls[j] vs[j] cs' w ∧ PlacedAt G (j * 3) cs' w
theorem RowT.start (n G B : Nat) (w : World) : RowT n G B [] [] w:=⟨rfl,by simp,by simp,fun j h => by simp at h⟩
theorem RowT.lt {n G B : Nat} {bls : List (List Nat)} {vs : List ValueV} {w : World} (h : RowT n G B bls vs w) : ∀ b ∈ bls.flatten,b < w.heap.size:=fun b hb => by
 obtain ⟨h1,h2,h3,h4⟩:=h
 obtain ⟨l,hl,hb⟩:=List.mem_flatten.1 hb
 obtain ⟨j,hj,rfl⟩:=List.getElem_of_mem hl
 obtain ⟨cs',ho,_⟩:=h4 j (by omega) hj
 exact ho.lt b hb
theorem RowT.turn {S : Nat → Nat → Prop} {n G B : Nat} {bls : List (List Nat)} {vs : List ValueV} {w w' : World} (h : RowT n G B bls vs w) (g : Turn S w w') (hG : ∀ i,i < vs.length * 3 → ¬ S G i) (hn : ∀ b,B ≤ b → ∀ i,¬ S b i) : RowT n G B bls vs w':=by
 obtain ⟨h1,h2,h3,h4⟩:=h
 refine ⟨h1,h2,h3,fun j hj hj' => ?_⟩
 obtain ⟨cs',ho,hp⟩:=h4 j hj hj'
 refine ⟨cs',ho.turn g fun b hb i => hn b (h3 b (List.mem_flatten.2 ⟨_,List.getElem_mem hj',hb⟩)) i,hp.kept g fun i hi => hG _ ?_⟩
 rw [ho.length] at hi
 have : (j + 1) * 3 ≤ vs.length * 3:=Nat.mul_le_mul_right 3 (by omega)
 omega
theorem RowT.snoc {S : Nat → Nat → Prop} {n G B : Nat} {bls : List (List Nat)} {bl : List Nat} {vs : List ValueV} {v : ValueV} {cs : List Value} {w w' : World} (h : RowT n G B bls vs w) (g : Turn S w w') (hG : ∀ i,i < vs.length * 3 → ¬ S G i) (hn : ∀ b,B ≤ b → ∀ i,¬ S b i)
  (ho : OwnT n bl v cs w') (hp : PlacedAt G (vs.length * 3) cs w') (hb : ∀ b ∈ bl,w.heap.size ≤ b) (hB : B ≤ w.heap.size) : RowT n G B (bls ++ [bl]) (vs ++ [v]) w':=by
 have hlt:=h.lt
 obtain ⟨h1,h2,h3,h4⟩:=h.turn g hG hn
 refine ⟨by simp [h1],?_,?_,fun j hj hj' => ?_⟩
 ·rw [List.flatten_append,List.nodup_append]
  refine ⟨h2,by simpa using ho.nodup,fun x hx y hy e => ?_⟩
  have h5:=hlt x hx
  have h6:=hb y (by simpa using hy)
  omega
 ·intro b hb'
  rw [List.flatten_append,List.mem_append] at hb'
  rcases hb' with hb' | hb'
  ·exact h3 b hb'
  ·have:=hb b (by simpa using hb'); omega
 ·by_cases hjl : j < vs.length
  ·obtain ⟨cs',h5,h6⟩:=h4 j hjl (by omega)
   refine ⟨cs',?_,h6⟩
   rw [List.getElem_append_left hjl,List.getElem_append_left (by omega)]
   exact h5
  ·have hje : j = vs.length:=by simp at hj; omega
   subst hje
   refine ⟨cs,?_,hp⟩
   rw [List.getElem_append_right (by omega),List.getElem_append_right (by omega)]
   simpa [h1] using ho
theorem RowT.tree {n G B c1 c2 : Nat} {bls : List (List Nat)} {vs : List ValueV} {num : Int} {bs : List UInt8} {ab : Option Addr} {b1 : List Nat} {w : World} (h : RowT n G B bls vs w) (hcap : bs.length ≤ c1 ∧ (ab = none → c1 = 0)) (hb1 : BytT b1 ab bs w) (hn1 : b1.Nodup) (hlo : ∀ b ∈ b1,b < G) (hG : G < B) :
  ∃ bl,OwnT (n + 1) bl (.mk num bs vs) [.int .i64 num,.slice ab bs.length c1,.slice (some ⟨G,0,none⟩) vs.length c2] w ∧ ∀ b ∈ bl,b ∈ b1 ∨ G ≤ b:=by
 obtain ⟨h1,h2,h3,h4⟩:=h
 refine ⟨b1 ++ ((if vs = [] then [] else [G]) ++ bls.flatten),⟨ab,c1,some ⟨G,0,none⟩,c2,b1,if vs = [] then [] else [G],bls,rfl,hcap,hb1,rfl,?_,fun e => if_pos e,h1,fun j hj hj' => ?_⟩,fun b hb => ?_⟩
 ·rw [List.nodup_append,List.nodup_append]
  refine ⟨hn1,⟨by split <;> simp,h2,fun x hx y hy e => ?_⟩,fun x hx y hy e => ?_⟩
  ·have h5:=h3 y hy
   split at hx
   ·cases hx
   ·simp at hx; omega
  ·have h5:=hlo x hx
   rw [List.mem_append] at hy
   rcases hy with hy | hy
   ·split at hy
    ·cases hy
    ·simp at hy; omega
   ·have:=h3 y hy; omega
 ·have hj2 : j < vs.length:=hj
  obtain ⟨cs',ho,hp⟩:=h4 j hj2 hj'
  refine ⟨G,0,cs',rfl,?_,ho,fun i u hu => ?_⟩
  ·rw [if_neg]
   intro e
   rw [show (ValueV.mk num bs vs).items = vs from rfl] at hj
   rw [e] at hj2
   simp at hj2
  ·rw [Nat.zero_add]
   exact hp i u hu
 ·rw [List.mem_append,List.mem_append] at hb
  rcases hb with hb | hb | hb
  ·exact .inl hb
  ·split at hb
   ·cases hb
   ·simp at hb; exact .inr (by omega)
  ·have:=h3 b hb; exact .inr (by omega)
theorem leaf_tree {n : Nat} {num : Int} {bs : List UInt8} {ab ai : Option Addr} {c1 c2 : Nat} {b1 : List Nat} {w : World} (hcap : bs.length ≤ c1 ∧ (ab = none → c1 = 0)) (hb1 : BytT b1 ab bs w) (hn1 : b1.Nodup) :
  OwnT (n + 1) b1 (.mk num bs []) [.int .i64 num,.slice ab bs.length c1,.slice ai 0 c2] w :=
 ⟨ab,c1,ai,c2,b1,[],[],rfl,hcap,hb1,by simp,hn1,fun _ => rfl,rfl,fun j hj => by simp [ValueV.items] at hj⟩
theorem BytT.none0 (w : World) (a : Option Addr) : BytT [] a [] w:=.inl ⟨rfl,rfl⟩
theorem cloneB (a : Option Addr) (bs : List UInt8) (cap : Nat) (w : World) (hl : bs.length ≤ 1048576) (hs : SrcB a bs cap w) :
  Calls Tryz.prog 206 #[.slice a bs.length cap] w fun e w' => ∃ a' c',e = .returned (.slice a' bs.length c') ∧ Row w.heap.size a' bs c' w' ∧ Below w.heap.size w w':=by
 rcases a with _ | ad
 ·have hbs : bs = []:=by
   cases bs with
   | nil => rfl
   | cons c r => obtain ⟨b,off,h,_⟩:=hs.1 0 (by simp); cases h
  subst hbs
  refine (Tryz.bytes_Clone_nil 0 cap w).mono ?_
  rintro e w' ⟨rfl,rfl⟩
  exact ⟨none,0,rfl,⟨.inl rfl,Nat.le_refl _,fun _ => rfl⟩,Below.refl _ _⟩
 ·refine (Tryz.bytes_Clone_at ad bs.length cap (bs.map fun b => (b.toNat : Int)) w (by simp) (by omega) (fun i hi => ?_)).mono ?_
  ·obtain ⟨b,off,hab,hc⟩:=hs.1 i hi
   injection hab with hab
   subst hab
   rw [Go.WideShapes.add_plain,hc]
   simp [List.getD,hi]
  ·rintro e w' ⟨v,rfl,ho,_,hb⟩
   have ho2 : OwnB w.heap.size v bs w':=by
    unfold OwnB
    rw [List.map_map] at ho
    exact ho
   obtain ⟨a2,c2,rfl,hr⟩:=ho2.row
   exact ⟨a2,c2,rfl,hr,hb⟩
def AtV (Rb Z o k i : Nat) : Prop:=AtR Rb k i ∨ InV Z o k i
def GotAt (a ab : Option Addr) (n cap cb m Rb Z o h : Nat) (g : Got ValueV) (w : World) (e : Ending) (w' : World) : Prop :=
 (match g with
  | .ok v q => e = .returned .nilIface ∧ CellsAt Rb (rdCells a n cap ab m cb q) w' ∧ ∃ bl cs,OwnT h bl v cs w' ∧ PlacedAt Z o cs w' ∧ ∀ b ∈ bl,w.heap.size ≤ b
  | .bad q c => e = .returned (RErr q c) ∧ ∃ cs,cs.length = 3 ∧ PlacedAt Z o cs w') ∧ Turn (AtV Rb Z o) w w'
structure Site (w0 : World) (a ab : Option Addr) (n cap cb : Nat) (L : List UInt8) (Rb Z o : Nat) (w : World) : Prop where
 below : Below w0.heap.size w0 w
 rb : w0.heap.size ≤ Rb
 z : w0.heap.size ≤ Z
 ne : Z ≠ Rb
 src : SrcB ab L cb w0
 len : L.length ≤ 1048576
theorem Site.srcAt {w0 w : World} {a ab : Option Addr} {n cap cb Rb Z o : Nat} {L : List UInt8} (h : Site w0 a ab n cap cb L Rb Z o w) : SrcB ab L cb w:=h.src.below h.below
theorem Site.next {w0 w w' : World} {a ab : Option Addr} {n cap cb Rb Z o : Nat} {L : List UInt8} (h : Site w0 a ab n cap cb L Rb Z o w) (g : Turn (AtV Rb Z o) w w') : Site w0 a ab n cap cb L Rb Z o w' :=
  ⟨g.below h.below h.below.size (fun k i hk => by rcases hk with hk | hk; · have:=h.rb; have:=hk.1; omega
                                                  · have:=h.z; have:=hk.1; omega),h.rb,h.z,h.ne,h.src,h.len⟩
theorem placed3 {Z o : Nat} {c0 c1 c2 : Value} {w : World} (h : PlacedAt Z o [c0,c1,c2] w) (x : Value) : PlacedAt Z o [c0,x,c2] (w.setCell ⟨Z,o + 1,none⟩ x):=by
 have:=h.set 1 x (by simp)
 exact this
theorem content_impl (w0 : World) (a ab : Option Addr) (n cap cb p k Rb Z o h : Nat) (L : List UInt8) (w : World) (hS : Site w0 a ab n cap cb L Rb Z o w) (hR : CellsAt Rb (rdCells a n cap ab L.length cb p) w) (hp : p ≤ L.length) (hk : k ≤ 4294967296)
  (hz : PlacedAt Z o [.int .i64 0,.slice none 0 0,.slice none 0 0] w) :
  Calls Tryz.prog 164 #[.pointer (some ⟨Rb,0,none⟩),.int .i64 (k : Int),.pointer (some ⟨Z,o,none⟩)] w (GotAt a ab n cap cb L.length Rb Z o (h + 1) (gotBytes L p k) w):=by
 have hne:=hS.ne
 have hl:=hS.len
 have HR:=kq hR
 have HZ:=kq hz
 have HS:=kq hS
 have hZl : Z < w.heap.size:=hz.lt (by simp)
 have HSA : Hid (∀ w1 : World,Turn (AtR Rb) w w1 → PlacedAt Z o [.int .i64 0,.slice none 0 0,.slice none 0 0] w1):=fun w1 g => HZ.out.kept g fun i _ h => hne h.1
 unfold gotBytes
 clear hR hz hS
 by_cases hf : L.length < p + k
 ·rw [if_pos hf]
  go_enter Tryz.func164,Tryz.ntmps164
  go_wp2_with fail
  refine (take_short a ab n cap cb p Rb (k : Int) L w HR.out hl hp (by omega) (by omega)).mono ?_
  rintro e w1 ⟨rfl,hb1⟩
  have HB1:=kq hb1
  clear hb1
  go_wp2_with fail
  refine (cloneB none [] 0 w1 (by simp) ⟨fun j h => by simp at h,Nat.le_refl _,fun _ => rfl⟩).mono ?_
  rintro e w2 ⟨a2,c2,rfl,hrow,hb2⟩
  have HB2:=kq (HB1.out.trans (hb2.mono HB1.out.size))
  have HZ2:=kq (HZ.out.below HB2.out)
  obtain ⟨z1,f1⟩:=HZ2.out 1 _ rfl
  clear hb2 hrow HB1
  go_wp2_with fail
  go_ret
  exact ⟨⟨rfl,_,rfl,placed3 HZ2.out _⟩,(Turn.of_below _ HB2.out).trans (Turn.set (S:=AtV Rb Z o) (.inr ⟨rfl,by omega,by omega⟩)) fun _ _ _ h => h⟩
 ·rw [if_neg hf]
  have hlen : ((L.drop p).take k).length = k:=by rw [List.length_take,List.length_drop]; omega
  obtain ⟨bs,hbs⟩ : ∃ bs,bs = (L.drop p).take k:=⟨_,rfl⟩
  have HBS:=kq hbs
  rw [← hbs] at hlen ⊢
  clear hbs
  go_enter Tryz.func164,Tryz.ntmps164
  go_wp2_with fail
  refine (take_ok a ab n cap cb p k Rb L w HR.out HS.out.srcAt hl (by omega)).mono ?_
  rintro e w1 ⟨⟨A,rfl,hA⟩,ht1,hr1⟩
  have hA1 : SrcB A bs k w1:=by rw [HBS.out]; exact hA w1 (HS.out.next (ht1.mono fun _ _ _ h => .inl h)).srcAt
  have HT1:=kq ht1
  have HR1:=kq hr1
  have hcl:=cloneB A bs k w1 (by omega) hA1
  rw [hlen] at hcl
  clear ht1 hr1 hA hA1
  go_wp2_with fail
  refine hcl.mono ?_
  rintro e w2 ⟨a2,c2,rfl,hrow,hb2⟩
  have HZ2:=kq ((HSA.out w1 HT1.out).below hb2)
  have HT2:=kq (HT1.out.trans (Turn.of_below (AtR Rb) hb2) fun _ _ _ h => h)
  have HR2:=kq (HR1.out.below hb2)
  have HROW:=kq hrow
  have HSZ : Hid (w.heap.size ≤ w1.heap.size):=HT1.out.size
  obtain ⟨z1,f1⟩:=HZ2.out 1 _ rfl
  clear hb2 hrow hcl HT1 HR1
  go_wp2_with fail
  go_ret
  obtain ⟨b1,hb1,hn1,hB1⟩:=HROW.out.1.tree
  have hZw : ∀ b ∈ b1,b ≠ Z:=fun b hb => by have h1:=hB1 b hb; have h2:=HSZ.out; omega
  have hg : Turn (fun k i => k = Z ∧ i = o + 1) w2 (w2.setCell ⟨Z,o + 1,none⟩ (.slice a2 k c2)):=Turn.set ⟨rfl,rfl⟩
  have hlf:=leaf_tree (n:=h) (num:=0) (ai:=none) (c2:=0) HROW.out.2 hb1 hn1
  rw [hlen] at hlf
  refine ⟨⟨rfl,HR2.out.far (fun e => hne e),b1,_,hlf.turn hg (fun b hb i hi => hZw b hb hi.1),placed3 HZ2.out _,fun b hb => by have h1:=hB1 b hb; have h2:=HSZ.out; omega⟩,(HT2.out.mono fun _ _ _ h => .inl h).trans (Turn.set (S:=AtV Rb Z o) (.inr ⟨rfl,by omega,by omega⟩)) fun _ _ _ h => h⟩
theorem termO_at {L : List UInt8} {p : Nat} {t : UInt8} (hp : p ≤ L.length) : termO L p t = termR t (L.drop p) false:=by unfold termO; rw [if_pos ⟨by omega,by omega⟩,Int.toNat_natCast]
theorem rterm_impl (w0 : World) (a ab : Option Addr) (n cap cb p Rb Z o h : Nat) (t : UInt8) (L : List UInt8) (w : World) (hS : Site w0 a ab n cap cb L Rb Z o w) (hR : CellsAt Rb (rdCells a n cap ab L.length cb p) w) (hp : p ≤ L.length)
  (hz : PlacedAt Z o [.int .i64 0,.slice none 0 0,.slice none 0 0] w) :
  Calls Tryz.prog 165 #[.pointer (some ⟨Rb,0,none⟩),.int .u8 (t.toNat : Int),.pointer (some ⟨Z,o,none⟩)] w (GotAt a ab n cap cb L.length Rb Z o (h + 1) (gotTerm L p t) w):=by
 have hne:=hS.ne
 have hl:=hS.len
 have HR:=kq hR
 have HZ:=kq hz
 have HS:=kq hS
 have hZl : Z < w.heap.size:=hz.lt (by simp)
 have hRl : Rb < w.heap.size:=cell_lt (hR 0 _ rfl).1
 have c0:=(hR 0 _ rfl).1
 have c1:=(hR 1 _ rfl).1
 have c2:=(hR 2 _ rfl).1
 have hT:=termO_at (t:=t) hp
 have ht:=term_impl ab L cb (p : Int) t
 have HT:=kq ht
 have HW0 : Hid (Below w.heap.size w w.drew):=below_drewN (Below.refl _ w) 1
 have HK : Hid (∀ W,Below w.heap.size w W → W.cell? ⟨Rb,1,none⟩ = some (.slice ab L.length cb) ∧ W.cell? ⟨Rb,2,none⟩ = some (.int .i64 (p : Int))):=fun W hb => ⟨(hb.cell (p:=⟨Rb,1,none⟩) hRl).trans c1,(hb.cell (p:=⟨Rb,2,none⟩) hRl).trans c2⟩
 clear hR hz hS ht
 cases hr : termR t (L.drop p) false with
 | none =>
  rw [hr] at hT
  have e1 : gotTerm L p t = .bad p 1:=by unfold gotTerm; rw [hr]
  have e2 : termK L p t = false:=by unfold termK; rw [hT]; rfl
  rw [e1]
  rw [e2] at HT
  clear hr hT e1 e2
  go_enter Tryz.func165,Tryz.ntmps165
  go_upto_region 1 with fail
  go_region_held3 (fun W => W.cell? ⟨Rb,1,none⟩ = some (.slice ab L.length cb) ∧ W.cell? ⟨Rb,2,none⟩ = some (.int .i64 (p : Int))) (first | exact HK.out _ HW0.out | exact HK.out _ (HW0.out.trans (hb.mono HW0.out.size))) ((go_at_call 207; refine (HT.out _ hl (HS.out.srcAt.below HW0.out)).mono ?_; rintro e w1 ⟨xb,xc,rfl,hrow,hb⟩))
  have HB1:=kq (HW0.out.trans (hb.mono HW0.out.size))
  have HROW:=kq hrow
  clear hb hrow c0 c1 c2
  obtain ⟨c1,c2⟩:=HK.out _ HB1.out
  go_wp2
  go_ret
  exact ⟨⟨rfl,_,rfl,HZ.out.below HB1.out⟩,Turn.of_below _ HB1.out⟩
 | some q =>
  rw [hr] at hT
  have hq:=termR_len t _ _ q hr
  rw [List.length_drop] at hq
  have e1 : gotTerm L p t = .ok (.mk 0 q.1 []) (p + q.2):=by unfold gotTerm; rw [hr]
  have e2 : termK L p t = true:=by unfold termK; rw [hT]; rfl
  have e3 : termL L p t = q.1:=by unfold termL; rw [hT]
  have e4 : termN L p t = ((p + q.2 : Nat) : Int):=by unfold termN; rw [hT]; show (p : Int) + (q.2 : Int) = _; omega
  rw [e1]
  rw [e2,e3,e4] at HT
  clear hr hT e1 e2 e3 e4
  obtain ⟨bs,np⟩:=q
  dsimp only at hq HT ⊢
  go_enter Tryz.func165,Tryz.ntmps165
  go_upto_region 1 with fail
  go_region_held3 (fun W => W.cell? ⟨Rb,1,none⟩ = some (.slice ab L.length cb) ∧ W.cell? ⟨Rb,2,none⟩ = some (.int .i64 (p : Int))) (first | exact HK.out _ HW0.out | exact HK.out _ (HW0.out.trans (hb.mono HW0.out.size))) ((go_at_call 207; refine (HT.out _ hl (HS.out.srcAt.below HW0.out)).mono ?_; rintro e w1 ⟨xb,xc,rfl,hrow,hb⟩))
  have HB1:=kq (HW0.out.trans (hb.mono HW0.out.size))
  have HROW:=kq hrow
  clear hb hrow c0 c1 c2
  obtain ⟨c1,c2⟩:=HK.out _ HB1.out
  have HZ1:=kq (HZ.out.below HB1.out)
  have HR1:=kq (HR.out.below HB1.out)
  obtain ⟨z1,f1⟩:=HZ1.out 1 _ rfl
  obtain ⟨r2,g2⟩:=HR1.out 2 _ rfl
  have r3 : (w1.setCell ⟨Z,o + 1,none⟩ (.slice xb bs.length xc)).cell? ⟨Rb,2,none⟩ = some (.int .i64 (p : Int)):=by rw [World.cell?_setCell_other (h:=show (⟨Z,o + 1,none⟩ : Addr) ≠ ⟨Rb,2,none⟩ from fun e => hne (congrArg Addr.block e))]; exact c2
  go_wp2
  go_ret
  obtain ⟨b1,hb1,hn1,hB1⟩:=HROW.out.1.tree
  have hwd : w.drew.heap.size = w.heap.size:=by simp
  have hZw : ∀ b ∈ b1,b ≠ Z ∧ b ≠ Rb:=fun b hb => by have h1:=hB1 b hb; omega
  have hg : Turn (AtV Rb Z o) w1 ((w1.setCell ⟨Z,o + 1,none⟩ (.slice xb bs.length xc)).setCell ⟨Rb,2,none⟩ (.int .i64 ((p + np : Nat) : Int))):=(Turn.set (S:=AtV Rb Z o) (.inr ⟨rfl,by omega,by omega⟩)).trans (Turn.set (S:=AtV Rb Z o) (.inl ⟨rfl,rfl⟩)) fun _ _ _ h => h
  have hlf:=leaf_tree (n:=h) (num:=0) (ai:=none) (c2:=0) HROW.out.2 hb1 hn1
  refine ⟨⟨rfl,rd_set (HR1.out.far (fun e => hne e)),b1,_,hlf.turn hg (fun b hb i hi => ?_),(placed3 HZ1.out _).far (.inl fun e => hne e.symm),fun b hb => by have h1:=hB1 b hb; omega⟩,(Turn.of_below _ HB1.out).trans hg fun _ _ _ h => h⟩
  rcases hi with hi | hi
  ·exact (hZw b hb).2 hi.1
  ·exact (hZw b hb).1 hi.1
theorem const_more {p i : Nat} {want M : List UInt8} (h : i < want.length) (h2 : i < M.length) (he : M[i] = want[i]) : gotConst p (want.drop i) (M.drop i) i = gotConst p (want.drop (i + 1)) (M.drop (i + 1)) (i + 1):=by
 rw [List.drop_eq_getElem_cons h,List.drop_eq_getElem_cons h2,gotConst,if_pos he]
theorem const_diff {p i : Nat} {want M : List UInt8} (h : i < want.length) (h2 : i < M.length) (he : ¬ M[i] = want[i]) : gotConst p (want.drop i) (M.drop i) i = .bad (p + i) 2:=by
 rw [List.drop_eq_getElem_cons h,List.drop_eq_getElem_cons h2,gotConst,if_neg he]
theorem const_short {p i : Nat} {want M : List UInt8} (h : i < want.length) (h2 : M.length ≤ i) : gotConst p (want.drop i) (M.drop i) i = .bad p 1:=by
 rw [List.drop_eq_getElem_cons h,List.drop_eq_nil_of_le h2,gotConst]
theorem const_end {p i : Nat} {want M : List UInt8} (h : want.length ≤ i) : gotConst p (want.drop i) (M.drop i) i = .ok (.mk 0 [] []) (p + i):=by
 rw [List.drop_eq_nil_of_le h,gotConst]
def ConstAt (a ab : Option Addr) (n cap cb m Rb : Nat) (g : Got ValueV) (w : World) (e : Ending) (w' : World) : Prop :=
 (match g with
  | .ok _ q => e = .returned .nilIface ∧ CellsAt Rb (rdCells a n cap ab m cb q) w'
  | .bad q c => e = .returned (RErr q c)) ∧ Turn (AtR Rb) w w'
theorem const_bad {a ab : Option Addr} {n cap cb m Rb q c : Nat} {z : Int} {w W : World} (h : z = (q : Int)) (hb : Below w.heap.size w W) :
  ConstAt a ab n cap cb m Rb (.bad q c) w (.returned (.iface 99 (.agg #[.int .i64 z,.int .i64 (c : Int)]))) W:=by
 subst h
 exact ⟨rfl,Turn.of_below _ hb⟩
theorem const_impl (a ab aw : Option Addr) (n cap cb cw p Rb : Nat) (L want : List UInt8) (w : World) (hs : SrcB ab L cb w) (hl : L.length ≤ 1048576) (hR : CellsAt Rb (rdCells a n cap ab L.length cb p) w) (hp : p ≤ L.length) (hw : Rd aw want w) (hwl : want.length ≤ 1048576) :
  Calls Tryz.prog 163 #[.pointer (some ⟨Rb,0,none⟩),.slice aw want.length cw] w (ConstAt a ab n cap cb L.length Rb (gotConst p want (L.drop p) 0) w):=by
 obtain ⟨A,C,hsl,hA⟩:=cut_from ab L cb p w hp hs
 obtain ⟨M,hM⟩ : ∃ M,M = L.drop p:=⟨_,rfl⟩
 have hml : M.length = L.length - p:=by rw [hM,List.length_drop]
 have HM : Hid (Rd A M w):=by show Rd A M w; rw [hM]; exact hA w hs.1
 rw [← hM]
 rw [← hml] at hsl
 obtain ⟨G,hG⟩ : ∃ G,G = gotConst p want M 0:=⟨_,rfl⟩
 rw [← hG]
 have HG : Hid (G = gotConst p (want.drop 0) (M.drop 0) 0):=by show _ = _; rw [List.drop_zero,List.drop_zero]; exact hG
 have HW:=kq hw
 have HR:=kq hR
 have HML:=kq hml
 have c0:=(hR 0 _ rfl).1
 have c1:=(hR 1 _ rfl).1
 obtain ⟨c2,f2⟩:=hR 2 _ rfl
 have hmb : M.length ≤ 1048576:=by omega
 have hpb : (p : Int) ≤ 1048576:=by omega
 clear hs hA hM hG hw hR hml
 go_enter Tryz.func163,Tryz.ntmps163
 go_wp2
 go_quiet (fail)
 go_wp2
 go_loopw [6,7,19] (fun _ _ iv W => ∃ i : Nat,i ≤ want.length ∧ i ≤ M.length ∧ iv = .int .i64 (i : Int) ∧ Hid (G = gotConst p (want.drop i) (M.drop i) i) ∧ Hid (Below w.heap.size w W) ∧ W.cell? ⟨Rb,2,none⟩ = some (.int .i64 (p : Int)) ∧ W.frozen? ⟨Rb,2,none⟩ = false) (fun _ _ iv _ => want.length - (intOf iv).toNat)
 case atStart => exact ⟨0,by omega,by omega,rfl,HG,below_drewN (Below.refl _ w) _,by simpa using c2,by simpa using f2⟩
 case round =>
  clear HG c0 c1 c2 f2
  obtain ⟨i,hiw,him,rfl,HG,HB,c2,f2⟩:=hrel
  have i0 : (0 : Int) ≤ (i : Int):=by omega
  by_cases hlt : i < want.length
  ·have i1 : (i : Int) < (want.length : Int):=by omega
   obtain ⟨bw,ow,rfl,hcw0⟩:=HW.out i hlt
   obtain ⟨y,hy⟩ : ∃ y,y = want[i]:=⟨_,rfl⟩
   have hcw : wr.cell? ⟨bw,ow + i,none⟩ = some (.int .u8 (y.toNat : Int)):=by rw [hy]; exact cellK HB.out (Nat.le_refl _) hcw0
   have HY:=kq hy
   clear hcw0 hy
   by_cases hm : i < M.length
   ·have k1 : ((i : Int) == (M.length : Int)) = false:=by rw [beq_eq_false_iff_ne]; omega
    have k2 : (i : Int) < (M.length : Int):=by omega
    obtain ⟨bm,om,rfl,hcm0⟩:=HM.out i hm
    obtain ⟨z,hz⟩ : ∃ z,z = M[i]:=⟨_,rfl⟩
    have hcm : wr.cell? ⟨bm,om + i,none⟩ = some (.int .u8 (z.toNat : Int)):=by rw [hz]; exact cellK HB.out (Nat.le_refl _) hcm0
    have HZ:=kq hz
    clear hcm0 hz
    by_cases he : z = y
    ·have e3 : ((z.toNat : Int) != (y.toNat : Int)) = false:=by rw [he]; simp
     have HN : Hid (G = gotConst p (want.drop (i + 1)) (M.drop (i + 1)) (i + 1)):=by
      show _ = _
      rw [HG.out]
      exact const_more hlt hm (by rw [← HZ.out,← HY.out]; exact he)
     clear he HG
     go_wp2
     go_roundw
     case rel => exact ⟨i + 1,by omega,by omega,by go_num,HN,HB,c2,f2⟩
     case measure => simp [intOf]; omega
    ·have e3 : ((z.toNat : Int) != (y.toNat : Int)) = true:=by
      rw [bne_iff_ne]
      intro h
      exact he (UInt8.toNat_inj.1 (by omega))
     have HN : Hid (G = .bad (p + i) 2):=by
      show _ = _
      rw [HG.out]
      exact const_diff hlt hm (by rw [← HZ.out,← HY.out]; exact he)
     have HE : Hid ((p : Int) + (i : Int) = ((p + i : Nat) : Int)):=(Int.natCast_add p i).symm
     have hpi : (p : Int) + (i : Int) ≤ 2097152:=by omega
     clear he HG
     go_wp2
     try go_quiet (fail)
     try go_wp2
     go_ret
     rw [HN.out]
     exact const_bad (c:=2) HE.out HB.out
   ·have k1 : ((i : Int) == (M.length : Int)) = true:=by rw [beq_iff_eq]; omega
    have HN : Hid (G = .bad p 1):=by
     show _ = _
     rw [HG.out]
     exact const_short hlt (by omega)
    clear HG
    go_wp2
    go_ret
    rw [HN.out]
    exact ⟨rfl,Turn.of_below _ HB.out⟩
  ·have i1 : ¬ (i : Int) < (want.length : Int):=by omega
   have HN : Hid (G = .ok (.mk 0 [] []) (p + want.length)):=by
    show _ = _
    rw [HG.out,const_end (by omega)]
    congr 1
    omega
   have HE : Hid ((p : Int) + (want.length : Int) = ((p + want.length : Nat) : Int)):=(Int.natCast_add p want.length).symm
   have hpi : (p : Int) + (want.length : Int) ≤ 2097152:=by omega
   have HR1:=kq (HR.out.below HB.out)
   clear HG
   go_wp2
   go_ret
   rw [HN.out]
   exact ⟨⟨rfl,by rw [← HE.out]; exact rd_set HR1.out⟩,(Turn.of_below _ HB.out).trans (Turn.set (S:=AtR Rb) ⟨rfl,rfl⟩) fun _ _ _ h => h⟩
end Go.Proofs.YtefkhknfjohnaaaGreatDoor
