/- Contracts of the functions that draw: -/
import Derived.Test.YtefkhknfjohnaaaGreatDoorChecked
import Derived.WalkKit
import Derived.ProofKit
import Derived.LoopTactic
import Derived.Lib.Hide
import Derived.Deep.QuietTactic
import Derived.BigQuiet
import Derived.Laws.AppendOwn
import Derived.OwnWalk
import Derived.Lib.BufferOwn
import Derived.Deep.AppendLies
import Derived.Deep.OwnRows
import Derived.Lib.Strings
import Derived.Laws.Strings2
import Derived.Lib.ItoaNum
set_option maxRecDepth 100000
namespace Go.Proofs.YtefkhknfjohnaaaGreatDoor
open Go Go.RowKit
theorem kq {p : Prop} (h : p) : Hid p:=Lib.hid h
theorem grown_set {a w : World} {c : Nat} (h : a.grownBy w (some c)) (i : Nat) (v : Value) : a.grownBy (w.setCell ⟨c,i,none⟩ v) (some c):=Lib.grownBy_setB h i v
theorem grown_refl (w : World) (c : Nat) : w.grownBy w (some c):=World.grownBy.refl w _
theorem cell_lt {w : World} {p : Addr} {v : Value} (h : w.cell? p = some v) : p.block < w.heap.size:=by
 rcases Nat.lt_or_ge p.block w.heap.size with h1 | h1
 ·exact h1
 ·unfold World.cell? at h
  simp [Array.getElem?_eq_none h1] at h
section
variable {α : Type} {f : α → Value}
def RdF (f : α → Value) (a : Option Addr) (xs : List α) (w : World) : Prop:=∀ j (h : j < xs.length),∃ b off,a = some ⟨b,off,none⟩ ∧ w.cell? ⟨b,off + j,none⟩ = some (f xs[j])
def FreshF (f : α → Value) (B : Nat) (a : Option Addr) (xs : List α) (w : World) : Prop :=
 xs = [] ∨ ∃ b off,a = some ⟨b,off,none⟩ ∧ B ≤ b ∧ ∀ j (h : j < xs.length),w.cell? ⟨b,off + j,none⟩ = some (f xs[j]) ∧ w.frozen? ⟨b,off + j,none⟩ = false
theorem FreshF.rd {B : Nat} {a : Option Addr} {xs : List α} {w : World} (h : FreshF f B a xs w) : RdF f a xs w:=fun j hj => by
 rcases h with rfl | ⟨b,off,ha,_,hc⟩
 ·simp at hj
 ·exact ⟨b,off,ha,(hc j hj).1⟩
theorem RdF.below {a : Option Addr} {xs : List α} {w w' : World} (h : RdF f a xs w) (hb : Below w.heap.size w w') : RdF f a xs w':=fun j hj => by
 obtain ⟨b,off,ha,hc⟩:=h j hj
 exact ⟨b,off,ha,(hb.cell (cell_lt hc)).trans hc⟩
theorem FreshF.below {B : Nat} {a : Option Addr} {xs : List α} {w w' : World} (h : FreshF f B a xs w) (hb : Below w.heap.size w w') : FreshF f B a xs w':=by
 rcases h with rfl | ⟨b,off,ha,hB,hc⟩
 ·exact .inl rfl
 ·exact .inr ⟨b,off,ha,hB,fun j hj => ⟨(hb.cell (cell_lt (hc j hj).1)).trans (hc j hj).1,(hb.frozen (p:=⟨b,off + j,none⟩) (cell_lt (hc j hj).1)).trans (hc j hj).2⟩⟩
theorem FreshF.more {B B' : Nat} {a : Option Addr} {xs : List α} {w : World} (h : FreshF f B a xs w) (hB : B' ≤ B) : FreshF f B' a xs w:=by
 rcases h with rfl | ⟨b,off,ha,hb,hc⟩
 ·exact .inl rfl
 ·exact .inr ⟨b,off,ha,Nat.le_trans hB hb,hc⟩
def RowF (f : α → Value) (B : Nat) (a : Option Addr) (xs : List α) (cap : Nat) (w : World) : Prop:=FreshF f B a xs w ∧ xs.length ≤ cap ∧ (a = none → cap = 0)
theorem RowF.rd {B cap : Nat} {a : Option Addr} {xs : List α} {w : World} (h : RowF f B a xs cap w) : RdF f a xs w:=h.1.rd
theorem RowF.below {B cap : Nat} {a : Option Addr} {xs : List α} {w w' : World} (h : RowF f B a xs cap w) (hb : Below w.heap.size w w') : RowF f B a xs cap w':=⟨h.1.below hb,h.2⟩
theorem RowF.more {B B' cap : Nat} {a : Option Addr} {xs : List α} {w : World} (h : RowF f B a xs cap w) (hB : B' ≤ B) : RowF f B' a xs cap w:=⟨h.1.more hB,h.2⟩
def ListOut (f : α → Value) (xs : List α) (w : World) (e : Ending) (w' : World) : Prop :=
 ∃ a cap,e = .returned (.slice a xs.length cap) ∧ RowF f w.heap.size a xs cap w' ∧ Below w.heap.size w w'
def HalfF (f : α → Value) (z : Value) (xs : List α) (k N : Nat) (w W : World) : Prop :=
 Below w.heap.size w W ∧ ∀ j (h : j < xs.length),W.cell? ⟨N,j,none⟩ = some (if j < k then f xs[j] else z) ∧ W.frozen? ⟨N,j,none⟩ = false
theorem HalfF.next {z : Value} {xs : List α} {k N : Nat} {w W : World} (h : HalfF f z xs k N w W) (hN : w.heap.size ≤ N) (hk : k < xs.length) : HalfF f z xs (k + 1) N w (W.setCell ⟨N,k,none⟩ (f xs[k])):=by
 refine ⟨h.1.setCell (p:=⟨N,k,none⟩) hN _,fun j hj => ⟨?_,by simpa using (h.2 j hj).2⟩⟩
 by_cases e : j = k
 ·subst e
  rw [World.cell?_setCell_same _ _ _ (h.2 j hj).1,if_pos (by omega)]
 ·rw [World.cell?_setCell_other _ _ _ _ (fun he => e (by have:=congrArg Addr.off he; simpa using this.symm)),(h.2 j hj).1]
  by_cases hlt : j < k
  ·rw [if_pos hlt,if_pos (by omega)]
  ·rw [if_neg hlt,if_neg (by omega)]
theorem HalfF.start (z : Value) (xs : List α) (t : TypeId) (w : World) : HalfF f z xs 0 w.heap.size w (w.alloc (.cells (madeCells #[z] xs.length) t)):=by
 have hr:=World.rowIs_made w z xs.length t
 exact ⟨(Below.refl _ _).alloc (Nat.le_refl _) _,fun j hj => ⟨by rw [hr.cell hj,if_neg (by omega)],hr.frozen j⟩⟩
theorem HalfF.end {z : Value} {xs : List α} {w W : World} (h : HalfF f z xs xs.length w.heap.size w W) : FreshF f w.heap.size (some ⟨w.heap.size,0,none⟩) xs W:=by
 refine .inr ⟨w.heap.size,0,rfl,Nat.le_refl _,fun j hj => ?_⟩
 have:=h.2 j hj
 rw [if_pos hj] at this
 simpa using this
theorem takeNext {bs cs : List α} {k : Nat} (h : bs.take k = cs.take k) (hb : k < bs.length) (hc : k < cs.length) (e : bs[k] = cs[k]) : bs.take (k + 1) = cs.take (k + 1):=by
 rw [List.take_succ_eq_append_getElem hb,List.take_succ_eq_append_getElem hc,h,e]
theorem takeNot {bs cs : List α} {k : Nat} (hb : k < bs.length) (hc : k < cs.length) (e : bs[k] ≠ cs[k]) : bs ≠ cs:=fun h => e (by subst h; rfl)
end
theorem ret_int {k : IntKind} {x y : Int} (h : x = y) : Ending.returned (.int k x) = .returned (.int k y):=by rw [h]
theorem ret_str {x y : ByteArray} (h : x = y) : Ending.returned (.string x) = .returned (.string y):=by rw [h]
theorem ret_bool {x y : Bool} (h : x = y) : Ending.returned (.bool x) = .returned (.bool y):=by rw [h]
theorem below_drewN {B : Nat} {a w : World} (h : Below B a w) (n : Nat) : Below B a (w.drewN n):=⟨h.os,h.tape,h.output,h.size,h.block⟩
theorem grown_below {w W W' : World} {row : Option Nat} (hg : w.grownBy W row) (hb : Below W.heap.size W W') : w.grownBy W' row :=
 ⟨hb.os.trans hg.os,hb.tape.trans hg.tape,hb.output.trans hg.output,Nat.le_trans hg.size hb.size,fun k hk hr => (hb.block k (Nat.lt_of_lt_of_le hk hg.size)).trans (hg.block k hk hr)⟩
def Touch (B : Nat) (a : Option Addr) (n : Nat) (w w' : World) : Prop:=w' = w ∨ (n ≠ 0 ∧ ∃ b off,a = some ⟨b,off,none⟩ ∧ B ≤ b ∧ w.grownBy w' (some b))
section
variable {α : Type} {f : α → Value}
theorem FreshF.grown {B : Nat} {a : Option Addr} {xs : List α} {w w' : World} {c : Nat} (h : FreshF f B a xs w) (hg : w.grownBy w' (some c)) (hne : ∀ b off,a = some ⟨b,off,none⟩ → xs ≠ [] → b ≠ c) : FreshF f B a xs w':=by
 rcases h with rfl | ⟨b,off,ha,hB,hc⟩
 ·exact .inl rfl
 ·by_cases hbs : xs = []
  ·exact .inl hbs
  ·have hb:=hne b off ha hbs
   refine .inr ⟨b,off,ha,hB,fun j hj => ⟨hg.cell (hc j hj).1 (by simpa using hb),?_⟩⟩
   exact (World.frozen?_of_block (a:=⟨b,off + j,none⟩) (hg.block b (cell_lt (hc j hj).1) (by simpa using hb))).trans (hc j hj).2
end
def Rd (a : Option Addr) (bs : List UInt8) (w : World) : Prop:=∀ j (h : j < bs.length),∃ b off,a = some ⟨b,off,none⟩ ∧ w.cell? ⟨b,off + j,none⟩ = some (.int .u8 (bs[j].toNat : Int))
theorem Rd.below {a : Option Addr} {bs : List UInt8} {w w' : World} (h : Rd a bs w) (hb : Below w.heap.size w w') : Rd a bs w':=fun j hj => by
 obtain ⟨b,off,ha,hc⟩:=h j hj
 exact ⟨b,off,ha,(hb.cell (cell_lt hc)).trans hc⟩
def CellsAt (b : Nat) (vs : List Value) (w : World) : Prop:=∀ i v,vs[i]? = some v → w.cell? ⟨b,i,none⟩ = some v ∧ w.frozen? ⟨b,i,none⟩ = false
theorem CellsAt.new (w : World) (vs : List Value) (t : TypeId) : CellsAt w.heap.size vs (w.alloc (.cells vs.toArray t)):=fun i v hv => by
 have h1:=World.cell?_alloc_mark w vs.toArray t (0,0) i
 refine ⟨h1.trans (by simpa using hv),?_⟩
 simp
theorem CellsAt.below {b : Nat} {vs : List Value} {w w' : World} (h : CellsAt b vs w) (hb : Below w.heap.size w w') : CellsAt b vs w':=fun i v hv => by
 obtain ⟨h1,h2⟩:=h i v hv
 exact ⟨(hb.cell (cell_lt h1)).trans h1,(hb.frozen (p:=⟨b,i,none⟩) (cell_lt h1)).trans h2⟩
theorem CellsAt.set {b : Nat} {vs : List Value} {w : World} (h : CellsAt b vs w) (i : Nat) (v : Value) (hi : i < vs.length) : CellsAt b (vs.set i v) (w.setCell ⟨b,i,none⟩ v):=fun j u hu => by
 rw [List.getElem?_set] at hu
 by_cases e : i = j
 ·subst e
  rw [if_pos rfl,if_pos hi] at hu
  injection hu with hu
  subst hu
  obtain ⟨h1,h2⟩:=h i _ (List.getElem?_eq_getElem hi)
  exact ⟨World.cell?_setCell_same _ _ _ h1,by simpa using h2⟩
 ·rw [if_neg e] at hu
  obtain ⟨h1,h2⟩:=h j u hu
  exact ⟨(World.cell?_setCell_other _ _ _ _ (fun he => e (by have:=congrArg Addr.off he; simpa using this))).trans h1,by simpa using h2⟩
theorem CellsAt.far {b b' j : Nat} {vs : List Value} {w : World} {v : Value} (h : CellsAt b vs w) (hne : b' ≠ b) : CellsAt b vs (w.setCell ⟨b',j,none⟩ v):=fun i u hu => by
 obtain ⟨h1,h2⟩:=h i u hu
 exact ⟨(World.cell?_setCell_other _ _ _ _ (fun he => hne (by have:=congrArg Addr.block he; simpa using this))).trans h1,by simpa using h2⟩
end Go.Proofs.YtefkhknfjohnaaaGreatDoor
namespace Go.Proofs.YtefkhknfjohnaaaGreatDoor
open Go
def txt (l : List UInt8) : ByteArray:=⟨l.toArray⟩
def lst (s : ByteArray) : List UInt8:=s.data.toList
theorem txt_lst (s : ByteArray) : txt (lst s) = s:=by cases s; simp [txt,lst]
theorem lst_inj {a b : ByteArray} (h : lst a = lst b) : a = b:=by rw [← txt_lst a,h,txt_lst]
theorem str_ne {x y : ByteArray} (h : x ≠ y) : (x.toList == y.toList) = false:=by
 rw [beq_eq_false_iff_ne,ByteArray.toList_eq,ByteArray.toList_eq]
 exact fun e => h (lst_inj e)
theorem str_eq {x y : ByteArray} (h : x = y) : (x.toList == y.toList) = true:=by rw [h,beq_self_eq_true]
end Go.Proofs.YtefkhknfjohnaaaGreatDoor
namespace Go.Proofs.YtefkhknfjohnaaaGreatDoor
open Go Go.RowKit
theorem infoStr : (Tryz.prog.info? 9).map (fun i => (i.zero,i.size,i.bytes)) = some (some (.string ⟨#[]⟩),1,16):=by kernel_rfl
theorem infoPartsS : ∃ i,Tryz.prog.info? 9 = some i ∧ i.zero = some (.string ⟨#[]⟩) ∧ i.size = 1 ∧ i.bytes = 16:=by
 obtain ⟨i,hi,h⟩:=Option.map_eq_some_iff.1 infoStr
 simp only [Prod.mk.injEq] at h
 exact ⟨i,hi,h.1,h.2.1,h.2.2⟩
abbrev RdS:=RdF Value.string
abbrev RowS:=RowF Value.string
abbrev StrsOut:=ListOut Value.string
theorem make_strs (n : Nat) (hn : n ≤ 1099511627776) (W : World) : (Instr.makeSlice 59 (.int .i64 (n : Int)) (.int .i64 (n : Int))).run Tryz.prog W = .ok (.slice (some ⟨W.heap.size,0,none⟩) n n) (W.alloc (.cells (madeCells #[.string ⟨#[]⟩] n) 9)):=by
 obtain ⟨i0,hi,hz0,hz1,hz2⟩:=infoPartsS
 have hr:=run_make (P:=Tryz.prog) W 59 9 i0 (.string ⟨#[]⟩) Tryz.underlying59 hi hz0 .i64 .i64 (n : Int) (n : Int) (by omega) (by omega) (by rw [hz2]; omega) (by omega)
 rw [hr,hz1]
 simp [Value.cells]
theorem to_strs (a : Option Addr) (ss : List ByteArray) (cap : Nat) (w : World) (hl : ss.length ≤ 1099511627776) (h : RdS a ss w) :
  Calls Tryz.prog 132 #[.slice a ss.length cap] w (StrsOut ss w):=by
 have H:=kq h
 clear h
 have hmk:=make_strs ss.length hl
 go_enter Tryz.func132,Tryz.ntmps132
 go_wp2
 clear hmk
 go_loopw [4] (fun i W => ∃ k : Nat,k ≤ ss.length ∧ i = .int .i64 k ∧ Hid (HalfF Value.string (.string ⟨#[]⟩) ss k w.heap.size w W)) (fun i _ => ss.length - (intOf i).toNat)
 case atStart => exact ⟨0,Nat.zero_le _,rfl,HalfF.start _ ss _ w⟩
 case round =>
  obtain ⟨k,hk,rfl,hh⟩:=hrel
  by_cases hlt : k < ss.length
  ·obtain ⟨b,off,rfl,hc0⟩:=H.out k hlt
   have hc : wr.cell? ⟨b,off + k,none⟩ = some (.string ss[k]):=(hh.out.1.cell (cell_lt hc0)).trans hc0
   have hbn : b < w.heap.size:=cell_lt hc0
   clear hc0
   obtain ⟨hd,hf⟩:=hh.out.2 k hlt
   rw [if_neg (by omega)] at hd
   have hn:=kq (hh.out.next (Nat.le_refl _) hlt)
   have k0 : (0 : Int) ≤ (k : Int):=by omega
   have k1 : (k : Int) < (ss.length : Int):=by omega
   generalize ss[k] = sk at hc hn
   go_wp2
   go_roundw
   case rel => exact ⟨k + 1,by omega,by go_num,hn⟩
   case measure => simp [intOf]; omega
  ·have k1 : ¬ (k : Int) < (ss.length : Int):=by omega
   obtain rfl : k = ss.length:=by omega
   go_wp2
   go_ret
   exact ⟨_,_,rfl,⟨hh.out.end,Nat.le_refl _,(fun e => by cases e)⟩,hh.out.1⟩
def EqOutS (bs cs : List ByteArray) (w : World) (e : Ending) (w' : World) : Prop:=e = .returned (.bool (decide (bs = cs))) ∧ ∃ n,w' = w.drewN n
theorem eq_strs (a b : Option Addr) (bs cs : List ByteArray) (ca cb : Nat) (w : World) (hl : bs.length ≤ 1099511627776) (ha : RdS a bs w) (hb : RdS b cs w) :
  Calls Tryz.prog 134 #[.slice a bs.length ca,.slice b cs.length cb] w (EqOutS bs cs w):=by
 have HA:=kq ha
 have HB:=kq hb
 clear ha hb
 by_cases hlen : bs.length = cs.length
 ·have h1 : ((bs.length : Int) != (cs.length : Int)) = false:=by simp [hlen]
  have HL:=kq hlen
  have hle : cs.length ≤ bs.length:=by omega
  have hge : bs.length ≤ cs.length:=by omega
  clear hlen
  go_enter Tryz.func134,Tryz.ntmps134
  go_wp2
  clear h1
  go_loopw [5] (fun i W => ∃ k n : Nat,k ≤ bs.length ∧ i = .int .i64 k ∧ W = w.drewN n ∧ Hid (bs.take k = cs.take k)) (fun i _ => bs.length - (intOf i).toNat)
  case atStart => exact ⟨0,0,Nat.zero_le _,rfl,rfl,rfl⟩
  case round =>
   obtain ⟨k,n,hk,rfl,rfl,ht⟩:=hrel
   have k0 : (0 : Int) ≤ (k : Int):=by omega
   by_cases hlt : k < bs.length
   ·obtain ⟨b1,o1,rfl,c1⟩:=HA.out k hlt
    obtain ⟨b2,o2,rfl,c2⟩:=HB.out k (by omega)
    have k1 : (k : Int) < (bs.length : Int):=by omega
    have k2 : (k : Int) < (cs.length : Int):=by omega
    by_cases he : bs[k] = cs[k]
    ·have ht':=kq (takeNext ht.out hlt (by omega) he)
     rw [← he] at c2
     clear he
     generalize bs[k] = x at c1 c2
     go_wp2
     go_quiet (fail)
     go_wp2
     go_roundw
     case rel => exact ⟨k + 1,_,by omega,by go_num,rfl,ht'⟩
     case measure => simp [intOf]; omega
    ·have hne:=kq (takeNot hlt (by omega) he)
     have he' : Hid (bs[k] ≠ cs[k]):=he
     clear he
     generalize bs[k] = x at c1 he'
     generalize cs[k] = y at c2 he'
     have e1:=str_ne he'.out
     go_wp2
     go_quiet (fail)
     go_wp2
     go_ret
     exact ⟨ret_bool (decide_eq_false hne.out).symm,_,by rw [World.drewN_drewN]⟩
   ·have k1 : ¬ (k : Int) < (bs.length : Int):=by omega
    have heq : Hid (bs = cs):=by
     have h2:=ht.out
     rw [List.take_of_length_le (by omega),List.take_of_length_le (by omega)] at h2
     exact h2
    go_wp2
    go_ret
    exact ⟨ret_bool (decide_eq_true heq.out).symm,_,rfl⟩
 ·have h1 : ((bs.length : Int) != (cs.length : Int)) = true:=by simp; omega
  have hne : Hid (bs ≠ cs):=fun h => hlen (by rw [h])
  clear hlen
  go_enter Tryz.func134,Tryz.ntmps134
  go_wp2
  go_ret
  exact ⟨ret_bool (decide_eq_false hne.out).symm,0,rfl⟩
theorem infoInt : (Tryz.prog.info? 3).map (fun i => (i.zero,i.size,i.bytes)) = some (some (.int .i64 0),1,8):=by kernel_rfl
theorem infoPartsI : ∃ i,Tryz.prog.info? 3 = some i ∧ i.zero = some (.int .i64 0) ∧ i.size = 1 ∧ i.bytes = 8:=by
 obtain ⟨i,hi,h⟩:=Option.map_eq_some_iff.1 infoInt
 simp only [Prod.mk.injEq] at h
 exact ⟨i,hi,h.1,h.2.1,h.2.2⟩
abbrev RdI:=RdF (Value.int .i64)
abbrev RowI:=RowF (Value.int .i64)
abbrev IntsOut:=ListOut (Value.int .i64)
theorem make_ints (n : Nat) (hn : n ≤ 1099511627776) (W : World) : (Instr.makeSlice 61 (.int .i64 (n : Int)) (.int .i64 (n : Int))).run Tryz.prog W = .ok (.slice (some ⟨W.heap.size,0,none⟩) n n) (W.alloc (.cells (madeCells #[.int .i64 0] n) 3)):=by
 obtain ⟨i0,hi,hz0,hz1,hz2⟩:=infoPartsI
 have hr:=run_make (P:=Tryz.prog) W 61 3 i0 (.int .i64 0) Tryz.underlying61 hi hz0 .i64 .i64 (n : Int) (n : Int) (by omega) (by omega) (by rw [hz2]; omega) (by omega)
 rw [hr,hz1]
 simp [Value.cells]
theorem to_ints (a : Option Addr) (ss : List Int) (cap : Nat) (w : World) (hl : ss.length ≤ 1099511627776) (h : RdI a ss w) :
  Calls Tryz.prog 133 #[.slice a ss.length cap] w (IntsOut ss w):=by
 have H:=kq h
 clear h
 have hmk:=make_ints ss.length hl
 go_enter Tryz.func133,Tryz.ntmps133
 go_wp2
 clear hmk
 go_loopw [4] (fun i W => ∃ k : Nat,k ≤ ss.length ∧ i = .int .i64 k ∧ Hid (HalfF (Value.int .i64) (.int .i64 0) ss k w.heap.size w W)) (fun i _ => ss.length - (intOf i).toNat)
 case atStart => exact ⟨0,Nat.zero_le _,rfl,HalfF.start _ ss _ w⟩
 case round =>
  obtain ⟨k,hk,rfl,hh⟩:=hrel
  by_cases hlt : k < ss.length
  ·obtain ⟨b,off,rfl,hc0⟩:=H.out k hlt
   have hc : wr.cell? ⟨b,off + k,none⟩ = some (.int .i64 ss[k]):=(hh.out.1.cell (cell_lt hc0)).trans hc0
   have hbn : b < w.heap.size:=cell_lt hc0
   clear hc0
   obtain ⟨hd,hf⟩:=hh.out.2 k hlt
   rw [if_neg (by omega)] at hd
   have hn:=kq (hh.out.next (Nat.le_refl _) hlt)
   have k0 : (0 : Int) ≤ (k : Int):=by omega
   have k1 : (k : Int) < (ss.length : Int):=by omega
   generalize ss[k] = sk at hc hn
   go_wp2
   go_roundw
   case rel => exact ⟨k + 1,by omega,by go_num,hn⟩
   case measure => simp [intOf]; omega
  ·have k1 : ¬ (k : Int) < (ss.length : Int):=by omega
   obtain rfl : k = ss.length:=by omega
   go_wp2
   go_ret
   exact ⟨_,_,rfl,⟨hh.out.end,Nat.le_refl _,(fun e => by cases e)⟩,hh.out.1⟩
def EqOutI (bs cs : List Int) (w : World) (e : Ending) (w' : World) : Prop:=e = .returned (.bool (decide (bs = cs))) ∧ ∃ n,w' = w.drewN n
theorem eq_ints (a b : Option Addr) (bs cs : List Int) (ca cb : Nat) (w : World) (hl : bs.length ≤ 1099511627776) (ha : RdI a bs w) (hb : RdI b cs w) :
  Calls Tryz.prog 135 #[.slice a bs.length ca,.slice b cs.length cb] w (EqOutI bs cs w):=by
 have HA:=kq ha
 have HB:=kq hb
 clear ha hb
 by_cases hlen : bs.length = cs.length
 ·have h1 : ((bs.length : Int) != (cs.length : Int)) = false:=by simp [hlen]
  have HL:=kq hlen
  have hle : cs.length ≤ bs.length:=by omega
  have hge : bs.length ≤ cs.length:=by omega
  clear hlen
  go_enter Tryz.func135,Tryz.ntmps135
  go_wp2
  clear h1
  go_loopw [5] (fun i W => ∃ k n : Nat,k ≤ bs.length ∧ i = .int .i64 k ∧ W = w.drewN n ∧ Hid (bs.take k = cs.take k)) (fun i _ => bs.length - (intOf i).toNat)
  case atStart => exact ⟨0,0,Nat.zero_le _,rfl,rfl,rfl⟩
  case round =>
   obtain ⟨k,n,hk,rfl,rfl,ht⟩:=hrel
   have k0 : (0 : Int) ≤ (k : Int):=by omega
   by_cases hlt : k < bs.length
   ·obtain ⟨b1,o1,rfl,c1⟩:=HA.out k hlt
    obtain ⟨b2,o2,rfl,c2⟩:=HB.out k (by omega)
    have k1 : (k : Int) < (bs.length : Int):=by omega
    have k2 : (k : Int) < (cs.length : Int):=by omega
    by_cases he : bs[k] = cs[k]
    ·have ht':=kq (takeNext ht.out hlt (by omega) he)
     rw [← he] at c2
     clear he
     generalize bs[k] = x at c1 c2
     go_wp2
     go_quiet (fail)
     go_wp2
     go_roundw
     case rel => exact ⟨k + 1,_,by omega,by go_num,rfl,ht'⟩
     case measure => simp [intOf]; omega
    ·have hne:=kq (takeNot hlt (by omega) he)
     have he' : Hid (bs[k] ≠ cs[k]):=he
     clear he
     generalize bs[k] = x at c1 he'
     generalize cs[k] = y at c2 he'
     have e1 : (x != y) = true:=by simpa using he'.out
     go_wp2
     go_quiet (fail)
     go_wp2
     go_ret
     exact ⟨ret_bool (decide_eq_false hne.out).symm,_,by rw [World.drewN_drewN]⟩
   ·have k1 : ¬ (k : Int) < (bs.length : Int):=by omega
    have heq : Hid (bs = cs):=by
     have h2:=ht.out
     rw [List.take_of_length_le (by omega),List.take_of_length_le (by omega)] at h2
     exact h2
    go_wp2
    go_ret
    exact ⟨ret_bool (decide_eq_true heq.out).symm,_,rfl⟩
 ·have h1 : ((bs.length : Int) != (cs.length : Int)) = true:=by simp; omega
  have hne : Hid (bs ≠ cs):=fun h => hlen (by rw [h])
  clear hlen
  go_enter Tryz.func135,Tryz.ntmps135
  go_wp2
  go_ret
  exact ⟨ret_bool (decide_eq_false hne.out).symm,0,rfl⟩
def marksI (k n : Nat) : List Int:=(List.range n).map fun j => ((k + j : Nat) : Int)
theorem marksI_length (k n : Nat) : (marksI k n).length = n:=by simp [marksI]
theorem marksI_at (k n j : Nat) (h : j < (marksI k n).length) : (marksI k n)[j] = ((k + j : Nat) : Int):=by simp [marksI]
def MarkedI (b off n k i : Nat) (w W : World) : Prop :=
 w.grownBy W (some b) ∧ ∀ j,j < n → (∃ x : Int,W.cell? ⟨b,off + j,none⟩ = some (.int .i64 x) ∧ (j < i → x = ((k + j : Nat) : Int))) ∧ W.frozen? ⟨b,off + j,none⟩ = false
theorem MarkedI.next {b off n k i : Nat} {w W : World} (h : MarkedI b off n k i w W) (hi : i < n) : MarkedI b off n k (i + 1) w (W.setCell ⟨b,off + i,none⟩ (.int .i64 ((k + i : Nat) : Int))):=by
 refine ⟨grown_set h.1 (off + i) _,fun j hj => ⟨?_,by simpa using (h.2 j hj).2⟩⟩
 obtain ⟨⟨x,hx,hxi⟩,_⟩:=h.2 j hj
 by_cases e : j = i
 ·subst e
  exact ⟨_,World.cell?_setCell_same _ _ _ hx,fun _ => rfl⟩
 ·refine ⟨x,(World.cell?_setCell_other _ _ _ _ (fun he => e (by have:=congrArg Addr.off he; simp at this; omega))).trans hx,fun hlt => hxi (by omega)⟩
theorem marksI_some (b off n cap k : Nat) (w : World) (hn : n ≤ 1073741824) (hk : k ≤ 1073741824) (h0 : MarkedI b off n k 0 w w) :
  Calls Tryz.prog 86 #[.slice (some ⟨b,off,none⟩) n cap,.int .i64 k] w fun e w' => e = .returned (.int .i64 ((k + n : Nat) : Int)) ∧ MarkedI b off n k n w w':=by
 have H0:=kq h0
 clear h0
 go_enter Tryz.func86,Tryz.ntmps86
 go_wp2
 go_loopw [1,5] (fun q i W => ∃ j : Nat,j ≤ n ∧ i = .int .i64 j ∧ q = .int .i64 ((k + j : Nat) : Int) ∧ Hid (MarkedI b off n k j w W)) (fun _ i _ => n - (intOf i).toNat)
 case atStart => exact ⟨0,Nat.zero_le _,rfl,rfl,H0.out⟩
 case round =>
  obtain ⟨j,hj,rfl,rfl,hm⟩:=hrel
  have k0 : (0 : Int) ≤ (j : Int):=by omega
  by_cases hlt : j < n
  ·have k1 : (j : Int) < (n : Int):=by omega
   obtain ⟨⟨x,hc,-⟩,hf⟩:=hm.out.2 j hlt
   have hn':=kq (hm.out.next hlt)
   go_wp2
   go_roundw
   case rel => exact ⟨j + 1,by omega,by go_num,by go_num,hn'⟩
   case measure => simp [intOf]; omega
  ·have k1 : ¬ (j : Int) < (n : Int):=by omega
   obtain rfl : j = n:=by omega
   go_wp2
   go_ret
   exact ⟨rfl,hm.out⟩
theorem marksI_none (a : Option Addr) (cap : Nat) (k : Int) (w : World) :
  Calls Tryz.prog 86 #[.slice a 0 cap,.int .i64 k] w fun e w' => e = .returned (.int .i64 k) ∧ w = w':=by
 go_enter Tryz.func86,Tryz.ntmps86
 go_wp2
 go_loop [1,5] (fun q i => i = .int .i64 0 ∧ q = .int .i64 k) (fun _ _ => 0)
 case atStart => exact ⟨rfl,rfl⟩
 case round =>
  obtain ⟨rfl,rfl⟩:=hrel
  go_wp2
  go_ret
  exact ⟨rfl,rfl⟩
def MarkOutI (B : Nat) (a : Option Addr) (n cap k : Nat) (w : World) (e : Ending) (w' : World) : Prop :=
 e = .returned (.int .i64 ((k + n : Nat) : Int)) ∧ RowI B a (marksI k n) cap w' ∧ Touch B a n w w'
theorem mark_ints (B : Nat) (a : Option Addr) (ss : List Int) (cap k : Nat) (w : World) (hn : ss.length ≤ 1073741824) (hk : k ≤ 1073741824) (h : RowI B a ss cap w) :
  Calls Tryz.prog 86 #[.slice a ss.length cap,.int .i64 k] w (MarkOutI B a ss.length cap k w):=by
 have hcap : (marksI k ss.length).length ≤ cap ∧ (a = none → cap = 0):=by rw [marksI_length]; exact h.2
 by_cases hbs : ss = []
 ·subst hbs
  refine (marksI_none a cap k w).mono ?_
  rintro e w' ⟨rfl,rfl⟩
  exact ⟨rfl,⟨.inl rfl,hcap⟩,.inl rfl⟩
 ·rcases h.1 with h | ⟨b,off,rfl,hB,hc⟩
  ·exact absurd h hbs
  ·refine (marksI_some b off ss.length cap k w hn hk ⟨grown_refl w b,fun j hj => ⟨⟨_,(hc j hj).1,fun h => by omega⟩,(hc j hj).2⟩⟩).mono ?_
   rintro e w' ⟨rfl,hg,hm⟩
   refine ⟨rfl,⟨.inr ⟨b,off,rfl,hB,fun j hj => ?_⟩,hcap⟩,.inr ⟨fun h0 => hbs (List.eq_nil_of_length_eq_zero h0),b,off,rfl,hB,hg⟩⟩
   have hjn : j < ss.length:=by rw [marksI_length] at hj; exact hj
   obtain ⟨⟨x,hx,hx'⟩,hf⟩:=hm j hjn
   refine ⟨?_,hf⟩
   rw [hx,hx' hjn,marksI_at]
structure RuleV where
 name : ByteArray
 kind : Int
 size : Int
 little : Bool
 bytes : List UInt8
 names : List ByteArray
 tags : List Int
 kids : List Int

abbrev RdStr:=RdF Value.string
def IsRule (r : RuleV) (cs : List Value) (w : World) : Prop :=
 ∃ a4 c4 a5 c5 a6 c6 a7 c7,cs = [.string r.name,.int .i64 r.kind,.int .i64 r.size,.bool r.little,.slice a4 r.bytes.length c4,.slice a5 r.names.length c5,.slice a6 r.tags.length c6,.slice a7 r.kids.length c7] ∧
  Rd a4 r.bytes w ∧ RdStr a5 r.names w ∧ RdI a6 r.tags w ∧ RdI a7 r.kids w
theorem IsRule.below {r : RuleV} {cs : List Value} {w w' : World} (h : IsRule r cs w) (hb : Below w.heap.size w w') : IsRule r cs w':=by
 obtain ⟨a4,c4,a5,c5,a6,c6,a7,c7,e,h4,h5,h6,h7⟩:=h
 exact ⟨a4,c4,a5,c5,a6,c6,a7,c7,e,h4.below hb,h5.below hb,h6.below hb,h7.below hb⟩
def RdR (a : Option Addr) (rs : List RuleV) (w : World) : Prop :=
 ∀ j (h : j < rs.length),∃ b off cs,a = some ⟨b,off,none⟩ ∧ IsRule rs[j] cs w ∧ ∀ i v,cs[i]? = some v → w.cell? ⟨b,off + j * 8 + i,none⟩ = some v
theorem RdR.below {a : Option Addr} {rs : List RuleV} {w w' : World} (h : RdR a rs w) (hb : Below w.heap.size w w') : RdR a rs w':=fun j hj => by
 obtain ⟨b,off,cs,ha,hr,hc⟩:=h j hj
 exact ⟨b,off,cs,ha,hr.below hb,fun i v hi => (hb.cell (cell_lt (hc i v hi))).trans (hc i v hi)⟩
theorem RdR.at {a : Option Addr} {rs : List RuleV} {w : World} (h : RdR a rs w) (j : Nat) (hj : j < rs.length) : ∃ b off a4 c4 a5 c5 a6 c6 a7 c7,a = some ⟨b,off,none⟩ ∧
  (w.cell? ⟨b,off + j * 8,none⟩ = some (.string rs[j].name) ∧ w.cell? ⟨b,off + j * 8 + 1,none⟩ = some (.int .i64 rs[j].kind) ∧ w.cell? ⟨b,off + j * 8 + 2,none⟩ = some (.int .i64 rs[j].size) ∧ w.cell? ⟨b,off + j * 8 + 3,none⟩ = some (.bool rs[j].little) ∧
  w.cell? ⟨b,off + j * 8 + 4,none⟩ = some (.slice a4 rs[j].bytes.length c4) ∧ w.cell? ⟨b,off + j * 8 + 5,none⟩ = some (.slice a5 rs[j].names.length c5) ∧ w.cell? ⟨b,off + j * 8 + 6,none⟩ = some (.slice a6 rs[j].tags.length c6) ∧ w.cell? ⟨b,off + j * 8 + 7,none⟩ = some (.slice a7 rs[j].kids.length c7)) ∧
  Rd a4 rs[j].bytes w ∧ RdStr a5 rs[j].names w ∧ RdI a6 rs[j].tags w ∧ RdI a7 rs[j].kids w:=by
 obtain ⟨b,off,cs,ha,⟨a4,c4,a5,c5,a6,c6,a7,c7,rfl,h4,h5,h6,h7⟩,hc⟩:=h j hj
 exact ⟨b,off,a4,c4,a5,c5,a6,c6,a7,c7,ha,⟨hc 0 _ rfl,hc 1 _ rfl,hc 2 _ rfl,hc 3 _ rfl,hc 4 _ rfl,hc 5 _ rfl,hc 6 _ rfl,hc 7 _ rfl⟩,h4,h5,h6,h7⟩
def findFrom (x : ByteArray) : List RuleV → Nat → Int
 | [],_ => -1
 | r :: rs,k => if r.name = x then (k : Int) else findFrom x rs (k + 1)
theorem findFrom_yes {x : ByteArray} {rs : List RuleV} {k : Nat} (h : k < rs.length) (hx : rs[k].name = x) : findFrom x (rs.drop k) k = (k : Int):=by
 rw [List.drop_eq_getElem_cons h]
 simp only [findFrom,if_pos hx]
theorem findFrom_no {x : ByteArray} {rs : List RuleV} {k : Nat} (h : k < rs.length) (hx : rs[k].name ≠ x) : findFrom x (rs.drop k) k = findFrom x (rs.drop (k + 1)) (k + 1):=by
 rw [List.drop_eq_getElem_cons h]
 simp only [findFrom,if_neg hx]
def I64 (x : Int) : Prop:=-9223372036854775808 ≤ x ∧ x ≤ 9223372036854775807
def Fresh (B : Nat) (a : Option Addr) (bs : List UInt8) (w : World) : Prop :=
 bs = [] ∨ ∃ b off,a = some ⟨b,off,none⟩ ∧ B ≤ b ∧ ∀ j (h : j < bs.length),w.cell? ⟨b,off + j,none⟩ = some (.int .u8 (bs[j].toNat : Int)) ∧ w.frozen? ⟨b,off + j,none⟩ = false
theorem Fresh.rd {B : Nat} {a : Option Addr} {bs : List UInt8} {w : World} (h : Fresh B a bs w) : Rd a bs w:=fun j hj => by
 rcases h with rfl | ⟨b,off,ha,_,hc⟩
 ·simp at hj
 ·exact ⟨b,off,ha,(hc j hj).1⟩
theorem Fresh.below {B : Nat} {a : Option Addr} {bs : List UInt8} {w w' : World} (h : Fresh B a bs w) (hb : Below w.heap.size w w') : Fresh B a bs w':=by
 rcases h with rfl | ⟨b,off,ha,hB,hc⟩
 ·exact .inl rfl
 ·exact .inr ⟨b,off,ha,hB,fun j hj => ⟨(hb.cell (cell_lt (hc j hj).1)).trans (hc j hj).1,(hb.frozen (p:=⟨b,off + j,none⟩) (cell_lt (hc j hj).1)).trans (hc j hj).2⟩⟩
theorem Fresh.more {B B' : Nat} {a : Option Addr} {bs : List UInt8} {w : World} (h : Fresh B a bs w) (hB : B' ≤ B) : Fresh B' a bs w:=by
 rcases h with rfl | ⟨b,off,ha,hb,hc⟩
 ·exact .inl rfl
 ·exact .inr ⟨b,off,ha,Nat.le_trans hB hb,hc⟩
def Row (B : Nat) (a : Option Addr) (bs : List UInt8) (cap : Nat) (w : World) : Prop:=Fresh B a bs w ∧ bs.length ≤ cap ∧ (a = none → cap = 0)
theorem Row.rd {B cap : Nat} {a : Option Addr} {bs : List UInt8} {w : World} (h : Row B a bs cap w) : Rd a bs w:=h.1.rd
theorem Row.below {B cap : Nat} {a : Option Addr} {bs : List UInt8} {w w' : World} (h : Row B a bs cap w) (hb : Below w.heap.size w w') : Row B a bs cap w':=⟨h.1.below hb,h.2⟩
theorem Row.more {B B' cap : Nat} {a : Option Addr} {bs : List UInt8} {w : World} (h : Row B a bs cap w) (hB : B' ≤ B) : Row B' a bs cap w:=⟨h.1.more hB,h.2⟩
def BytesOut (bs : List UInt8) (w : World) (e : Ending) (w' : World) : Prop :=
 ∃ a cap,e = .returned (.slice a bs.length cap) ∧ Row w.heap.size a bs cap w' ∧ Below w.heap.size w w'
def Half (bs : List UInt8) (k N : Nat) (w W : World) : Prop :=
 Below w.heap.size w W ∧ ∀ j (h : j < bs.length),W.cell? ⟨N,j,none⟩ = some (.int .u8 (if j < k then (bs[j].toNat : Int) else 0)) ∧ W.frozen? ⟨N,j,none⟩ = false
theorem Half.next {bs : List UInt8} {k N : Nat} {w W : World} (h : Half bs k N w W) (hN : w.heap.size ≤ N) (hk : k < bs.length) : Half bs (k + 1) N w (W.setCell ⟨N,k,none⟩ (.int .u8 (bs[k].toNat : Int))):=by
 refine ⟨h.1.setCell (p:=⟨N,k,none⟩) hN _,fun j hj => ⟨?_,by simpa using (h.2 j hj).2⟩⟩
 by_cases e : j = k
 ·subst e
  rw [World.cell?_setCell_same _ _ _ (h.2 j hj).1,if_pos (by omega)]
 ·rw [World.cell?_setCell_other _ _ _ _ (fun he => e (by have:=congrArg Addr.off he; simpa using this.symm)),(h.2 j hj).1]
  by_cases hlt : j < k
  ·rw [if_pos hlt,if_pos (by omega)]
  ·rw [if_neg hlt,if_neg (by omega)]
theorem infoU8 : (Tryz.prog.info? 5).map (fun i => (i.zero,i.size,i.bytes)) = some (some (.int .u8 0),1,1):=by kernel_rfl
theorem half_start (bs : List UInt8) (w : World) : Half bs 0 w.heap.size w (w.alloc (.cells (madeCells #[.int .u8 0] bs.length) 5)):=by
 have hr:=World.rowIs_made w (.int .u8 0) bs.length 5
 exact ⟨(Below.refl _ _).alloc (Nat.le_refl _) _,fun j hj => ⟨by rw [hr.cell hj,if_neg (by omega)],hr.frozen j⟩⟩
theorem half_end {bs : List UInt8} {w W : World} (h : Half bs bs.length w.heap.size w W) : Fresh w.heap.size (some ⟨w.heap.size,0,none⟩) bs W:=by
 refine .inr ⟨w.heap.size,0,rfl,Nat.le_refl _,fun j hj => ?_⟩
 have:=h.2 j hj
 rw [if_pos hj] at this
 simpa using this
theorem to_any (a : Option Addr) (bs : List UInt8) (cap : Nat) (w : World) (hl : bs.length ≤ 1099511627776) (h : Rd a bs w) :
  Calls Tryz.prog 21 #[.slice a bs.length cap] w (BytesOut bs w):=by
 have H:=kq h
 clear h
 have hmk:=run_make_row' (P:=Tryz.prog) 22 5 (.int .u8 0) 1 Tryz.underlying22 infoU8 rfl .i64 .i64 bs.length (by omega) (by omega)
 go_enter Tryz.func21,Tryz.ntmps21
 go_wp2
 clear hmk
 go_loopw [4] (fun i W => ∃ k : Nat,k ≤ bs.length ∧ i = .int .i64 k ∧ Hid (Half bs k w.heap.size w W)) (fun i _ => bs.length - (intOf i).toNat)
 case atStart => exact ⟨0,Nat.zero_le _,rfl,half_start bs w⟩
 case round =>
  obtain ⟨k,hk,rfl,hh⟩:=hrel
  by_cases hlt : k < bs.length
  ·obtain ⟨b,off,rfl,hc0⟩:=H.out k hlt
   have hc : wr.cell? ⟨b,off + k,none⟩ = some (.int .u8 (bs[k].toNat : Int)):=(hh.out.1.cell (cell_lt hc0)).trans hc0
   have hbn : b < w.heap.size:=cell_lt hc0
   clear hc0
   obtain ⟨hd,hf⟩:=hh.out.2 k hlt
   have hn:=kq (hh.out.next (Nat.le_refl _) hlt)
   have k0 : (0 : Int) ≤ (k : Int):=by omega
   have k1 : (k : Int) < (bs.length : Int):=by omega
   go_wp2
   go_roundw
   case rel => exact ⟨k + 1,by omega,by go_num,hn⟩
   case measure => simp [intOf]; omega
  ·have k1 : ¬ (k : Int) < (bs.length : Int):=by omega
   obtain rfl : k = bs.length:=by omega
   go_wp2
   go_ret
   exact ⟨_,_,rfl,⟨half_end hh.out,Nat.le_refl _,(fun e => by cases e)⟩,hh.out.1⟩
theorem take_next {bs cs : List UInt8} {k : Nat} (h : bs.take k = cs.take k) (hb : k < bs.length) (hc : k < cs.length) (e : bs[k] = cs[k]) : bs.take (k + 1) = cs.take (k + 1):=by
 rw [List.take_succ_eq_append_getElem hb,List.take_succ_eq_append_getElem hc,h,e]
theorem take_not {bs cs : List UInt8} {k : Nat} (hb : k < bs.length) (hc : k < cs.length) (e : bs[k] ≠ cs[k]) : bs ≠ cs:=fun h => e (by subst h; rfl)
theorem byte_ne {x y : UInt8} (h : x ≠ y) : ((x.toNat : Int) != (y.toNat : Int)) = true:=by
 simp only [bne_iff_ne,ne_eq,Int.natCast_inj]
 exact fun e => h (UInt8.toNat_inj.1 e)
def EqOut (bs cs : List UInt8) (w : World) (e : Ending) (w' : World) : Prop:=e = .returned (.bool (decide (bs = cs))) ∧ ∃ n,w' = w.drewN n
theorem eq_any (a b : Option Addr) (bs cs : List UInt8) (ca cb : Nat) (w : World) (hl : bs.length ≤ 1099511627776) (ha : Rd a bs w) (hb : Rd b cs w) :
  Calls Tryz.prog 22 #[.slice a bs.length ca,.slice b cs.length cb] w (EqOut bs cs w):=by
 have HA:=kq ha
 have HB:=kq hb
 clear ha hb
 by_cases hlen : bs.length = cs.length
 ·have h1 : ((bs.length : Int) != (cs.length : Int)) = false:=by simp [hlen]
  have HL:=kq hlen
  have hle : cs.length ≤ bs.length:=by omega
  have hge : bs.length ≤ cs.length:=by omega
  clear hlen
  go_enter Tryz.func22,Tryz.ntmps22
  go_wp2
  clear h1
  go_loopw [5] (fun i W => ∃ k n : Nat,k ≤ bs.length ∧ i = .int .i64 k ∧ W = w.drewN n ∧ Hid (bs.take k = cs.take k)) (fun i _ => bs.length - (intOf i).toNat)
  case atStart => exact ⟨0,0,Nat.zero_le _,rfl,rfl,rfl⟩
  case round =>
   obtain ⟨k,n,hk,rfl,rfl,ht⟩:=hrel
   have k0 : (0 : Int) ≤ (k : Int):=by omega
   by_cases hlt : k < bs.length
   ·obtain ⟨b1,o1,rfl,c1⟩:=HA.out k hlt
    obtain ⟨b2,o2,rfl,c2⟩:=HB.out k (by omega)
    have k1 : (k : Int) < (bs.length : Int):=by omega
    have k2 : (k : Int) < (cs.length : Int):=by omega
    by_cases he : bs[k] = cs[k]
    ·have ht':=kq (take_next ht.out hlt (by omega) he)
     have e1 : ((bs[k].toNat : Int) != ((cs[k]'(by omega)).toNat : Int)) = false:=by simp [he]
     clear he
     go_wp2
     go_quiet (fail)
     go_wp2
     go_roundw
     case rel => exact ⟨k + 1,_,by omega,by go_num,rfl,ht'⟩
     case measure => simp [intOf]; omega
    ·have hne:=kq (take_not hlt (by omega) he)
     have e1:=byte_ne he
     clear he
     go_wp2
     go_quiet (fail)
     go_wp2
     go_ret
     exact ⟨ret_bool (decide_eq_false hne.out).symm,_,by rw [World.drewN_drewN]⟩
   ·have k1 : ¬ (k : Int) < (bs.length : Int):=by omega
    have heq : Hid (bs = cs):=by
     have h2:=ht.out
     rw [List.take_of_length_le (by omega),List.take_of_length_le (by omega)] at h2
     exact h2
    go_wp2
    go_ret
    exact ⟨ret_bool (decide_eq_true heq.out).symm,_,rfl⟩
 ·have h1 : ((bs.length : Int) != (cs.length : Int)) = true:=by simp; omega
  have hne : Hid (bs ≠ cs):=fun h => hlen (by rw [h])
  clear hlen
  go_enter Tryz.func22,Tryz.ntmps22
  go_wp2
  go_ret
  exact ⟨ret_bool (decide_eq_false hne.out).symm,0,rfl⟩
def marks (k : Nat) : Nat → List UInt8
 | 0 => []
 | n + 1 => UInt8.ofNat k :: marks (k + 1) n
theorem marks_length : ∀ (k n : Nat),(marks k n).length = n
 | _,0 => rfl
 | k,n + 1 => by simp [marks,marks_length (k + 1) n]
theorem marks_at : ∀ (k n j : Nat) (h : j < (marks k n).length),(marks k n)[j] = UInt8.ofNat (k + j)
 | k,0,j,h => by simp [marks] at h
 | k,n + 1,0,h => by simp [marks]
 | k,n + 1,j + 1,h => by
  simp only [marks,List.getElem_cons_succ]
  rw [marks_at (k + 1) n j]
  congr 1; omega
def Marked (b off n k i : Nat) (w W : World) : Prop :=
 w.grownBy W (some b) ∧ ∀ j,j < n → (∃ x : Int,W.cell? ⟨b,off + j,none⟩ = some (.int .u8 x) ∧ (j < i → x = ((k + j) % 256 : Nat))) ∧ W.frozen? ⟨b,off + j,none⟩ = false
theorem Marked.next {b off n k i : Nat} {w W : World} (h : Marked b off n k i w W) (hi : i < n) : Marked b off n k (i + 1) w (W.setCell ⟨b,off + i,none⟩ (.int .u8 (((k + i) % 256 : Nat) : Int))):=by
 refine ⟨grown_set h.1 (off + i) _,fun j hj => ⟨?_,by simpa using (h.2 j hj).2⟩⟩
 obtain ⟨⟨x,hx,hxi⟩,_⟩:=h.2 j hj
 by_cases e : j = i
 ·subst e
  exact ⟨_,World.cell?_setCell_same _ _ _ hx,fun _ => rfl⟩
 ·refine ⟨x,(World.cell?_setCell_other _ _ _ _ (fun he => e (by have:=congrArg Addr.off he; simp at this; omega))).trans hx,fun hlt => hxi (by omega)⟩
theorem mark_some (b off n cap k : Nat) (w : World) (hn : n ≤ 1099511627776) (hk : k ≤ 1099511627776) (h0 : Marked b off n k 0 w w) :
  Calls Tryz.prog 25 #[.slice (some ⟨b,off,none⟩) n cap,.int .i64 k] w fun e w' => e = .returned (.int .i64 ((k + n : Nat) : Int)) ∧ Marked b off n k n w w':=by
 have H0:=kq h0
 clear h0
 go_enter Tryz.func25,Tryz.ntmps25
 go_wp2
 go_loopw [1,5] (fun q i W => ∃ j : Nat,j ≤ n ∧ i = .int .i64 j ∧ q = .int .i64 ((k + j : Nat) : Int) ∧ Hid (Marked b off n k j w W)) (fun _ i _ => n - (intOf i).toNat)
 case atStart => exact ⟨0,Nat.zero_le _,rfl,rfl,H0.out⟩
 case round =>
  obtain ⟨j,hj,rfl,rfl,hm⟩:=hrel
  have k0 : (0 : Int) ≤ (j : Int):=by omega
  by_cases hlt : j < n
  ·obtain ⟨⟨x,hc,-⟩,hf⟩:=hm.out.2 j hlt
   have hn':=kq (hm.out.next hlt)
   have k1 : (j : Int) < (n : Int):=by omega
   go_wp2
   go_roundw
   case rel => exact ⟨j + 1,by omega,by go_num,by go_num,hn'⟩
   case measure => simp [intOf]; omega
  ·have k1 : ¬ (j : Int) < (n : Int):=by omega
   obtain rfl : j = n:=by omega
   go_wp2
   go_ret
   exact ⟨rfl,hm.out⟩
theorem mark_none (a : Option Addr) (cap : Nat) (k : Int) (w : World) :
  Calls Tryz.prog 25 #[.slice a 0 cap,.int .i64 k] w fun e w' => e = .returned (.int .i64 k) ∧ w = w':=by
 go_enter Tryz.func25,Tryz.ntmps25
 go_wp2
 go_loop [1,5] (fun q i => i = .int .i64 0 ∧ q = .int .i64 k) (fun _ _ => 0)
 case atStart => exact ⟨rfl,rfl⟩
 case round =>
  obtain ⟨rfl,rfl⟩:=hrel
  go_wp2
  go_ret
  exact ⟨rfl,rfl⟩
theorem Fresh.grown {B : Nat} {a : Option Addr} {bs : List UInt8} {w w' : World} {c : Nat} (h : Fresh B a bs w) (hg : w.grownBy w' (some c)) (hne : ∀ b off,a = some ⟨b,off,none⟩ → bs ≠ [] → b ≠ c) : Fresh B a bs w':=by
 rcases h with rfl | ⟨b,off,ha,hB,hc⟩
 ·exact .inl rfl
 ·by_cases hbs : bs = []
  ·exact .inl hbs
  ·have hb:=hne b off ha hbs
   refine .inr ⟨b,off,ha,hB,fun j hj => ⟨hg.cell (hc j hj).1 (by simpa using hb),?_⟩⟩
   exact (World.frozen?_of_block (a:=⟨b,off + j,none⟩) (hg.block b (cell_lt (hc j hj).1) (by simpa using hb))).trans (hc j hj).2
def MarkOut (B : Nat) (a : Option Addr) (n cap k : Nat) (w : World) (e : Ending) (w' : World) : Prop :=
 e = .returned (.int .i64 ((k + n : Nat) : Int)) ∧ Row B a (marks k n) cap w' ∧ Touch B a n w w'
theorem mark_any (B : Nat) (a : Option Addr) (bs : List UInt8) (cap k : Nat) (w : World) (hn : bs.length ≤ 1099511627776) (hk : k ≤ 1099511627776) (h : Row B a bs cap w) :
  Calls Tryz.prog 25 #[.slice a bs.length cap,.int .i64 k] w (MarkOut B a bs.length cap k w):=by
 have hcap : (marks k bs.length).length ≤ cap ∧ (a = none → cap = 0):=by rw [marks_length]; exact h.2
 by_cases hbs : bs = []
 ·subst hbs
  refine (mark_none a cap k w).mono ?_
  rintro e w' ⟨rfl,rfl⟩
  exact ⟨rfl,⟨.inl rfl,hcap⟩,.inl rfl⟩
 ·rcases h.1 with h | ⟨b,off,rfl,hB,hc⟩
  ·exact absurd h hbs
  ·refine (mark_some b off bs.length cap k w hn hk ⟨grown_refl w b,fun j hj => ⟨⟨_,(hc j hj).1,fun h => by omega⟩,(hc j hj).2⟩⟩).mono ?_
   rintro e w' ⟨rfl,hg,hm⟩
   refine ⟨rfl,⟨.inr ⟨b,off,rfl,hB,fun j hj => ?_⟩,hcap⟩,.inr ⟨fun h0 => hbs (List.eq_nil_of_length_eq_zero h0),b,off,rfl,hB,hg⟩⟩
   have hjn : j < bs.length:=by rw [marks_length] at hj; exact hj
   obtain ⟨⟨x,hx,hx'⟩,hf⟩:=hm j hjn
   refine ⟨?_,hf⟩
   rw [hx,hx' hjn,marks_at,UInt8.toNat_ofNat']
theorem held_any (a : Option Addr) (n cap k : Nat) (w : World) (hn : n ≤ 1099511627776) (hk : k ≤ 1099511627776) (h : Rd a (marks k n) w) :
  Calls Tryz.prog 26 #[.slice a n cap,.int .i64 k] w fun e w' => e = .returned (.int .i64 ((k + n : Nat) : Int)) ∧ w = w':=by
 have H:=kq h
 clear h
 go_enter Tryz.func26,Tryz.ntmps26
 go_wp2
 go_loop [1,5] (fun q i => ∃ j : Nat,j ≤ n ∧ i = .int .i64 j ∧ q = .int .i64 ((k + j : Nat) : Int)) (fun _ i => n - (intOf i).toNat)
 case atStart => exact ⟨0,Nat.zero_le _,rfl,rfl⟩
 case round =>
  obtain ⟨j,hj,rfl,rfl⟩:=hrel
  have k0 : (0 : Int) ≤ (j : Int):=by omega
  by_cases hlt : j < n
  ·have hl : j < (marks k n).length:=by rw [marks_length]; exact hlt
   obtain ⟨b,off,rfl,hc0⟩:=H.out j hl
   have hc : w.cell? ⟨b,off + j,none⟩ = some (.int .u8 (((k + j) % 256 : Nat) : Int)):=by
    rw [hc0,marks_at,UInt8.toNat_ofNat']
   clear hc0
   have k1 : (j : Int) < (n : Int):=by omega
   go_wp2
   go_round
   case rel => exact ⟨j + 1,by omega,by go_num,by go_num⟩
   case measure => simp [intOf]; omega
  ·have k1 : ¬ (j : Int) < (n : Int):=by omega
   obtain rfl : j = n:=by omega
   go_wp2
   go_ret
   exact ⟨rfl,rfl⟩
end Go.Proofs.YtefkhknfjohnaaaGreatDoor
namespace Go.Proofs.YtefkhknfjohnaaaGreatDoor
open Go
def digs (v : Nat) : List UInt8:=if v = 0 then [] else Lib.decDigits v
theorem digs_zero : digs 0 = []:=rfl
theorem digs_pos {v : Nat} (h : v ≠ 0) : digs v = Lib.decDigits v:=if_neg h
theorem digs_step {v : Nat} (h : v ≠ 0) : digs v = digs (v / 10) ++ [UInt8.ofNat (48 + v % 10)]:=by
 rw [digs_pos h]
 by_cases h10 : v < 10
 ·have e : v / 10 = 0:=by omega
  rw [e,digs_zero,Lib.decDigits_one h10,Nat.mod_eq_of_lt h10]; rfl
 ·rw [Lib.decDigits,dif_neg h10,digs_pos (by omega)]
theorem nDigits_le : ∀ (k v : Nat),v < 10 ^ k → 1 ≤ k → Lib.nDigits v ≤ k
 | 0,_,_,h => by omega
 | k + 1,v,hv,_ => by
  by_cases h10 : v < 10
  ·rw [Lib.nDigits_small h10]; omega
  ·rw [Lib.nDigits_big h10]
   rw [Nat.pow_succ] at hv
   have h1 : 1 ≤ k:=by
    rcases k with _ | k
    ·simp at hv; omega
    ·omega
   have:=nDigits_le k (v / 10) (by omega) h1
   omega
theorem digs_length (v : Nat) (h : v < 10 ^ 20) : (digs v).length ≤ 20:=by
 by_cases h0 : v = 0
 ·subst h0; simp [digs_zero]
 ·rw [digs_pos h0,Lib.decDigits_length]; exact nDigits_le 20 v h (by omega)
theorem rest_length {v u : Nat} {l : List UInt8} (h : digs v ++ l = digs u) (hu : u < 10 ^ 20) : l.length ≤ 20:=by
 have h1:=congrArg List.length h
 have h2:=digs_length u hu
 rw [List.length_append] at h1
 omega
end Go.Proofs.YtefkhknfjohnaaaGreatDoor
namespace Go.Proofs.YtefkhknfjohnaaaGreatDoor
open Go Go.RowKit
end Go.Proofs.YtefkhknfjohnaaaGreatDoor
