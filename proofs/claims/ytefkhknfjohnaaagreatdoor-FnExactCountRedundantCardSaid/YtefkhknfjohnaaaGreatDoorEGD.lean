/- Appending what a slice holds to bytes that the call owns (out of Splice: -/
import Derived.Test.YtefkhknfjohnaaaGreatDoorEK
import Derived.Test.YtefkhknfjohnaaaGreatDoorEGPu
import Derived.Laws.AppendOwnNone
import Derived.Deep.RegionLaw
import Derived.Test.YtefkhknfjohnaaaGreatDoorEGBase
import Derived.Test.YtefkhknfjohnaaaGreatDoorEGEnd
import Derived.IntWalk
import Derived.Test.YtefkhknfjohnaaaGreatDoorEGNam
import Derived.Test.YtefkhknfjohnaaaGreatDoorEGP
import Derived.Test.YtefkhknfjohnaaaGreatDoorEGV
import Derived.BigQuiet
import Derived.Deep.RegionHeld3
import Derived.Deep.CutRange
import Derived.StillTailTactics
set_option maxRecDepth 100000
set_option maxHeartbeats 4000000
namespace Go.Proofs.YtefkhknfjohnaaaGreatDoor
open Go Go.RowKit
def Src1 (a : Option Addr) (bs : List UInt8) (cap : Nat) (w : World) : Prop:=Rd a bs w ∧ (a = none → cap = 0)
theorem run_app (base : Nat) (ty : TypeId) (v : Value) (acc cs : List UInt8) (a : Option Addr) (cap : Nat) (w : World) (hown : OwnB base v acc w) (hs : Src1 a cs cap w) (hl : acc.length + cs.length ≤ 1099511627776) (hbase : base ≤ w.heap.size) :
  ∃ v' w',(Builtin.append_ #[22,22] ty #[v,.slice a cs.length cap]).run Tryz.prog w = .ok v' w' ∧ OwnB base v' (acc ++ cs) w' ∧ w.grownBy w' v.ownBlock:=by
 obtain ⟨i0,hi,hz0,hz1,hz2⟩:=infoParts
 rcases a with _ | ad
 ·have hcs : cs = []:=by
   cases cs with
   | nil => rfl
   | cons c r => obtain ⟨b,off,h,_⟩:=hs.1 0 (by simp); cases h
  subst hcs
  obtain rfl:=hs.2 rfl
  exact ⟨v,w,run_append_owned_none (P:=Tryz.prog) (w:=w) base 22 ty 5 i0 1 Tryz.underlying22 hi v acc.length (acc.map bv) hown,by simpa using hown,World.grownBy.refl _ _⟩
 ·obtain ⟨v',w',hr,ho,hg,_⟩:=run_append_own (P:=Tryz.prog) w base 22 ty 5 i0 (.int .u8 0) 1 1 Tryz.underlying22 hi hz0 hz1 hz2 rfl (by omega) v acc.length (acc.map bv) hown ad cs.length cap (cs.map bv) (by simp)
   (fun j u hj => by
    have hjl : j < cs.length:=by
     rcases Nat.lt_or_ge j cs.length with h | h
     ·exact h
     ·rw [List.getElem?_eq_none (by simpa using h)] at hj; cases hj
    obtain ⟨b,off,hab,hc⟩:=hs.1 j hjl
    injection hab with hab
    subst hab
    rw [Go.WideShapes.add_plain,hc]
    simp [hjl] at hj
    subst hj
    rfl)
   (fun u hu => by
    obtain ⟨b,_,rfl⟩:=List.mem_map.1 hu
    rfl)
   (by unfold maxLen; omega) (by omega) hbase
  refine ⟨v',w',hr,?_,hg⟩
  unfold OwnB
  rw [List.length_append,List.map_append]
  exact ho
theorem wp_app {ops : Array Oper} {rest : List Oper} {o : Oper} {A : Act} {Q : Exit → Act → World → Prop} (hgd : o.guard = none) (s x : Operand)
  (ho : o.op = .call { callee:=.builtin .append,args:=#[s,x],argTypes:=#[22,22] })
  (base : Nat) (v : Value) (acc cs : List UInt8) (a : Option Addr) (cap : Nat) (w : World) (hsv : A.eval s = v) (hxv : A.eval x = .slice a cs.length cap)
  (hown : OwnB base v acc w) (hs : Src1 a cs cap w) (hl : acc.length + cs.length ≤ 1099511627776) (hbase : base ≤ w.heap.size)
  (h : ∀ v' w',OwnB base v' (acc ++ cs) w' → w.grownBy w' v.ownBlock → wpList Tryz.prog ops Q rest (A.put o.dst v') w') : wpList Tryz.prog ops Q (o :: rest) A w:=by
 refine wpList_plain hgd fun K hK => ?_
 obtain ⟨v',w',hr,h2,h3⟩:=run_app base o.type v acc cs a cap w hown hs hl hbase
 unfold Oper.wp
 simp [execOp,ho,resolve,invoke,builtin,hsv,hxv,hr,Result.andThen]
 exact hK _ _ (h v' w' h2 h3)
theorem step_app {ops : Array Oper} {o : Oper} {A : Act} {w : World} {K : Act → World → Prop} {Q : Exit → Act → World → Prop} {E : Prop} (hgd : o.guard = none) (s x : Operand)
  (ho : o.op = .call { callee:=.builtin .append,args:=#[s,x],argTypes:=#[22,22] })
  (base : Nat) (v : Value) (acc cs : List UInt8) (a : Option Addr) (cap : Nat) (hsv : A.eval s = v) (hxv : A.eval x = .slice a cs.length cap)
  (hown : OwnB base v acc w) (hs : Src1 a cs cap w) (hl : acc.length + cs.length ≤ 1099511627776) (hbase : base ≤ w.heap.size)
  (h : ∀ v' w',OwnB base v' (acc ++ cs) w' → w.grownBy w' v.ownBlock → K (A.put o.dst v') w') :
  if Region.wanted o (yielded ops A.tmps) = true then Oper.wp Tryz.prog o A w K Q else E:=by
 have hw : Region.wanted o (yielded ops A.tmps) = true:=by simp [Region.wanted,hgd]
 rw [if_pos hw]
 obtain ⟨v',w',hr,h2,h3⟩:=run_app base o.type v acc cs a cap w hown hs hl hbase
 unfold Oper.wp
 simp [execOp,ho,resolve,invoke,builtin,hsv,hxv,hr,Result.andThen]
 exact h v' w' h2 h3
theorem app_frame {B : Nat} {w W W' : World} {v : Value} {acc : List UInt8} (hb : Below B w W) (hB : B ≤ W.heap.size) (ho : OwnB B v acc W) (hg : W.grownBy W' v.ownBlock) : Below B w W' :=
 hb.grown hg hB fun j hj => (World.ownsRow.lt (w:=W) ho j hj).1
theorem Src1.below {a : Option Addr} {bs : List UInt8} {cap : Nat} {w w' : World} (h : Src1 a bs cap w) (hb : Below w.heap.size w w') : Src1 a bs cap w':=⟨h.1.below hb,h.2⟩
theorem Row.src {B cap : Nat} {a : Option Addr} {bs : List UInt8} {w : World} (h : Row B a bs cap w) : Src1 a bs cap w:=⟨h.rd,h.2.2⟩
theorem cellK {B : Nat} {w w' : World} {b i : Nat} {v : Value} (h : Below B w w') (hB : w.heap.size ≤ B) (hc : w.cell? ⟨b,i,none⟩ = some v) : w'.cell? ⟨b,i,none⟩ = some v :=
 (h.cell (p:=⟨b,i,none⟩) (Nat.lt_of_lt_of_le (cell_lt hc) hB)).trans hc
def SrcB (a : Option Addr) (bs : List UInt8) (cap : Nat) (w : World) : Prop:=Rd a bs w ∧ bs.length ≤ cap ∧ (a = none → cap = 0)
theorem SrcB.below {a : Option Addr} {bs : List UInt8} {cap : Nat} {w w' : World} (h : SrcB a bs cap w) (hb : Below w.heap.size w w') : SrcB a bs cap w':=⟨h.1.below hb,h.2⟩
theorem Row.srcB {B cap : Nat} {a : Option Addr} {bs : List UInt8} {w : World} (h : Row B a bs cap w) : SrcB a bs cap w:=⟨h.rd,h.2⟩
theorem elem8 : Tryz.prog.underlying 22 = some (.slice (Tryz.prog.elem 22)):=by kernel_rfl
theorem size8 (w : World) : (sizeOf (Tryz.prog.elem 22)).run Tryz.prog w = .ok 1 w:=by kernel_rfl
theorem cut_from (a : Option Addr) (bs : List UInt8) (cap m : Nat) (w : World) (hp : m ≤ bs.length) (hs : SrcB a bs cap w) :
  ∃ A C,(∀ W,(Instr.slice 22 (.slice a bs.length cap) (some (.int .i64 (m : Int))) none none).run Tryz.prog W = .ok (.slice A (bs.length - m) C) W) ∧ ∀ W,Rd a bs W → Rd A (bs.drop m) W:=by
 have hc:=hs.2.1
 refine ⟨if cap = m then a else a.map (·.add (m * 1)),cap - m,fun W => ?_,?_⟩
 ·rw [run_slice_l W 22 a bs.length cap elem8 .i64 (m : Int) (by omega) (by omega),size8]
  simp [Result.andThen,sliced]
 ·intro W hr j hj
  have hjl : m + j < bs.length:=by rw [List.length_drop] at hj; omega
  obtain ⟨b,off,rfl,hcell⟩:=hr (m + j) hjl
  refine ⟨b,off + m,?_,?_⟩
  ·rw [if_neg (by omega)]
   simp [Go.WideShapes.add_plain]
  ·rw [Nat.add_assoc,hcell,List.getElem_drop]
theorem cut_part (a : Option Addr) (bs : List UInt8) (cap p q : Nat) (w : World) (hpq : p ≤ q) (hq : q ≤ bs.length) (hs : SrcB a bs cap w) :
  ∃ A,(∀ W,(Instr.slice 22 (.slice a bs.length cap) (some (.int .i64 (p : Int))) (some (.int .i64 (q : Int))) (some (.int .i64 (q : Int)))).run Tryz.prog W = .ok (.slice A (q - p) (q - p)) W) ∧ ∀ W,SrcB a bs cap W → SrcB A ((bs.drop p).take (q - p)) (q - p) W:=by
 have hc:=hs.2.1
 have hlen : ((bs.drop p).take (q - p)).length = q - p:=by rw [List.length_take,List.length_drop]; omega
 refine ⟨if q = p then a else a.map (·.add (p * 1)),fun W => ?_,fun W hr => ⟨?_,by omega,?_⟩⟩
 ·rw [run_slice_lhm W 22 a bs.length cap elem8 .i64 .i64 .i64 (p : Int) (q : Int) (q : Int) (by omega) (by omega) (by omega) (by omega),size8]
  simp [Result.andThen,sliced]
 ·intro j hj
  have hj2 : j < q - p:=by omega
  obtain ⟨b,off,rfl,hcell⟩:=hr.1 (p + j) (by omega)
  refine ⟨b,off + p,?_,?_⟩
  ·rw [if_neg (by omega)]
   simp [Go.WideShapes.add_plain]
  ·rw [Nat.add_assoc,hcell,List.getElem_take,List.getElem_drop]
 ·intro h
  by_cases h0 : q = p
  ·omega
  ·rw [if_neg h0] at h
   have:=hr.2.2 (by cases a with
    | none => rfl
    | some x => simp at h)
   omega
theorem part_impl (a : Option Addr) (bs : List UInt8) (cap p q : Nat) (w : World) (hpq : p ≤ q) (hq : q ≤ bs.length) (hs : SrcB a bs cap w) :
  ∃ A,(∀ W,Calls Tryz.prog 209 #[.slice a bs.length cap,.int .i64 (p : Int),.int .i64 (q : Int)] W fun e w' => e = .returned (.slice A (q - p) (q - p)) ∧ w' = W) ∧ ∀ W,SrcB a bs cap W → SrcB A ((bs.drop p).take (q - p)) (q - p) W:=by
 obtain ⟨A,hr,hs1⟩:=cut_part a bs cap p q w hpq hq hs
 refine ⟨A,fun W => ?_,hs1⟩
 generalize q - p = d at *
 clear hs hs1 hpq hq
 go_enter Tryz.func209,Tryz.ntmps209
 go_wp2
 go_ret
 exact ⟨rfl,rfl⟩
theorem cut_two (a : Option Addr) (bs : List UInt8) (cap p q : Nat) (w : World) (hpq : p ≤ q) (hq : q ≤ bs.length) (hs : SrcB a bs cap w) :
  ∃ A C,(∀ W,(Instr.slice 22 (.slice a bs.length cap) (some (.int .i64 (p : Int))) (some (.int .i64 (q : Int))) none).run Tryz.prog W = .ok (.slice A (q - p) C) W) ∧ ∀ W,SrcB a bs cap W → SrcB A ((bs.drop p).take (q - p)) C W:=by
 have hc:=hs.2.1
 have hlen : ((bs.drop p).take (q - p)).length = q - p:=by rw [List.length_take,List.length_drop]; omega
 refine ⟨if cap = p then a else a.map (·.add (p * 1)),cap - p,fun W => ?_,fun W hr => ⟨?_,by omega,?_⟩⟩
 ·rw [run_slice_lh W 22 a bs.length cap elem8 .i64 .i64 (p : Int) (q : Int) (by omega) (by omega) (by omega),size8]
  simp [Result.andThen,sliced]
 ·intro j hj
  have hj2 : j < q - p:=by omega
  obtain ⟨b,off,rfl,hcell⟩:=hr.1 (p + j) (by omega)
  refine ⟨b,off + p,?_,?_⟩
  ·rw [if_neg (by omega)]
   simp [Go.WideShapes.add_plain]
  ·rw [Nat.add_assoc,hcell,List.getElem_take,List.getElem_drop]
 ·intro h
  by_cases h0 : cap = p
  ·omega
  ·rw [if_neg h0] at h
   have:=hr.2.2 (by cases a with
    | none => rfl
    | some x => simp at h)
   omega
def hexD (n : Nat) : UInt8:=if n < 10 then UInt8.ofNat (48 + n) else UInt8.ofNat (87 + n)
def hexL : List UInt8 → List UInt8
 | [] => []
 | b :: r => hexD (b.toNat / 16) :: hexD (b.toNat % 16) :: hexL r
theorem hexL_length : ∀ bs : List UInt8,(hexL bs).length = 2 * bs.length
 | [] => rfl
 | b :: r => by simp [hexL,hexL_length r]; omega
theorem hexL_take (bs : List UInt8) : ∀ (k : Nat) (h : k < bs.length),hexL (bs.take (k + 1)) = hexL (bs.take k) ++ [hexD (bs[k].toNat / 16),hexD (bs[k].toNat % 16)]:=by
 induction bs with
 | nil => intro k h; simp at h
 | cons b r ih =>
  intro k h
  cases k with
  | zero => simp [hexL]
  | succ k =>
   simp only [List.take_succ_cons,hexL,List.getElem_cons_succ,List.cons_append]
   rw [ih k (by simpa using h)]
def hexText : ByteArray:=⟨#[48,49,50,51,52,53,54,55,56,57,97,98,99,100,101,102]⟩
theorem hexText_at : ∀ p : Fin 16,hexText.extract p.val (p.val + 1) = ⟨#[hexD p.val]⟩:=by decide +kernel
theorem run_digit (p : Nat) (h : p < 16) (W : World) :
  (Instr.slice 9 (.string ⟨#[48,49,50,51,52,53,54,55,56,57,97,98,99,100,101,102]⟩) (some (.int .i64 (p : Int))) (some (.int .i64 ((p : Int) + 1))) none).run Tryz.prog W = .ok (.string ⟨#[hexD p]⟩) W:=by
 have e : (⟨#[48,49,50,51,52,53,54,55,56,57,97,98,99,100,101,102]⟩ : ByteArray) = hexText:=rfl
 have hz : hexText.size = 16:=rfl
 rw [e,run_slice_string _ _ _ _ _ _ _ Tryz.underlying9 (by omega) (by omega) (by rw [hz]; omega)]
 have h1:=hexText_at ⟨p,h⟩
 rw [show ((p : Int)).toNat = p by omega,show ((p : Int) + 1).toNat = p + 1 by omega,h1]
theorem add_last (W : World) (l : List UInt8) (c : UInt8) (h : l.length ≤ 4611686018427387904) :
  (Op.stringOp .add ⟨l.toArray⟩ ⟨#[c]⟩).run Tryz.prog W = .ok (.string ⟨(l ++ [c]).toArray⟩) W:=by
 have e1 : (⟨l.toArray⟩ : ByteArray).size = l.length:=by simp [ByteArray.size]
 have e2 : (⟨#[c]⟩ : ByteArray).size = 1:=rfl
 rw [run_string_add_sum W _ _ (by omega),show (⟨#[c]⟩ : ByteArray) = ⟨[c].toArray⟩ from rfl,ByteArray.mk_append_mk]
theorem fmthex_spec (a : Option Addr) (bs : List UInt8) (cap : Nat) (w : World) (hl : bs.length ≤ 1099511627776) (h : Rd a bs w) :
  Calls Tryz.prog 145 #[.slice a bs.length cap] w fun e w' => e = .returned (.string ⟨(hexL bs).toArray⟩) ∧ ∃ n,w' = w.drewN n:=by
 have H:=kq h
 clear h
 go_enter Tryz.func145,Tryz.ntmps145
 go_wp2
 go_loopw [4,5,6,7] (fun s i _ _ W => ∃ k n : Nat,k ≤ bs.length ∧ i = .int .i64 k ∧ s = .string ⟨(hexL (bs.take k)).toArray⟩ ∧ W = w.drewN n) (fun _ i _ _ _ => bs.length - (intOf i).toNat)
 case atStart => exact ⟨0,0,Nat.zero_le _,rfl,rfl,rfl⟩
 case round =>
  obtain ⟨k,n,hk,rfl,rfl,rfl⟩:=hrel
  have k0 : (0 : Int) ≤ (k : Int):=by omega
  by_cases hlt : k < bs.length
  ·obtain ⟨b,off,rfl,hc⟩:=H.out k hlt
   have k1 : (k : Int) < (bs.length : Int):=by omega
   have hx:=bs[k].toNat_lt
   have HN:=kq (hexL_take bs k hlt)
   have hlen : (hexL (bs.take k)).length ≤ 4398046511104:=by rw [hexL_length,List.length_take]; omega
   obtain ⟨p,hp⟩ : ∃ p : Nat,(bs[k].toNat : Int) / 16 = (p : Int):=⟨bs[k].toNat / 16,by omega⟩
   obtain ⟨q,hq⟩ : ∃ q : Nat,(bs[k].toNat : Int) % 16 = (q : Int):=⟨bs[k].toNat % 16,by omega⟩
   have HP:=kq (show bs[k].toNat / 16 = p by omega)
   have HQ:=kq (show bs[k].toNat % 16 = q by omega)
   have p1 : p < 16:=by omega
   have q1 : q < 16:=by omega
   have hw1 : IntKind.i64.wrap ((p : Int) + 1) = (p : Int) + 1:=IntWalk.i64_in _ (by omega)
   have hw2 : IntKind.i64.wrap ((q : Int) + 1) = (q : Int) + 1:=IntWalk.i64_in _ (by omega)
   have hd1:=run_digit p p1
   have hd2:=run_digit q q1
   have ha1:=fun W => add_last W (hexL (bs.take k)) (hexD p) (by omega)
   have ha2:=fun W => add_last W (hexL (bs.take k) ++ [hexD p]) (hexD q) (by simp; omega)
   go_wp2
   go_quiet (fail)
   clear hw1 hw2 hd1 hd2 ha1 ha2
   go_wp2
   go_roundw
   case rel => exact ⟨k + 1,_,by omega,by go_num,by rw [HN.out,HP.out,HQ.out],rfl⟩
   case measure => simp [intOf]; omega
  ·have k1 : ¬ (k : Int) < (bs.length : Int):=by omega
   go_wp2
   go_ret
   exact ⟨ret_str (by rw [List.take_of_length_le (by omega)]),_,rfl⟩
theorem ownB_push {x : UInt8} {acc : List UInt8} {v v' : Value} {w W W2 : World} {o : Obj} (hown : OwnB w.heap.size v acc W) (hb : Below w.heap.size w W)
  (hown' : W2.ownsRow w.heap.size 5 1 v' (acc.length + 1) (acc.map bv ++ [bv x])) (hg : (W.alloc o).grownBy W2 v.ownBlock) : OwnB w.heap.size v' (acc ++ [x]) W2 ∧ Below w.heap.size w W2:=by
 refine ⟨?_,?_⟩
 ·unfold OwnB; simpa using hown'
 ·exact (hb.alloc hb.size o).grown hg (by have:=hb.size; simp; omega) fun k hk => (World.ownsRow.lt (w:=W) hown k hk).1
theorem inR_impl (x lo hi : Int) (b : Bool) (w : World) (hb : decide (lo ≤ x ∧ x ≤ hi) = b) :
  Calls Tryz.prog 123 #[.int .i64 x,.int .i64 lo,.int .i64 hi] w fun e w' => e = .returned (.bool b) ∧ w = w':=by
 subst hb
 by_cases ha : lo ≤ x
 ·by_cases hc : x ≤ hi
  ·go_enter Tryz.func123,Tryz.ntmps123
   go_wp2
   go_ret
   exact ⟨ret_bool (decide_eq_true ⟨ha,hc⟩).symm,rfl⟩
  ·have hd : decide (x ≤ hi) = false:=by simp [hc]
   go_enter Tryz.func123,Tryz.ntmps123
   go_wp2
   go_ret
   first | exact ⟨rfl,rfl⟩ | exact ⟨ret_bool (decide_eq_false (by omega)).symm,rfl⟩ | exact ⟨ret_bool (by simp; omega),rfl⟩
 ·have hd : decide (lo ≤ x) = false:=by simp [ha]
  go_enter Tryz.func123,Tryz.ntmps123
  go_wp2
  go_ret
  first | exact ⟨rfl,rfl⟩ | exact ⟨ret_bool (decide_eq_false (by omega)).symm,rfl⟩ | exact ⟨ret_bool (by simp; omega),rfl⟩
def TermOut (bs : List UInt8) (n : Int) (ok : Bool) (w : World) (e : Ending) (w' : World) : Prop :=
 ∃ a cap,e = .returned (.tuple #[.slice a bs.length cap,.int .i64 n,.bool ok]) ∧ Row w.heap.size a bs cap w' ∧ Below w.heap.size w w'
theorem push_own {x : UInt8} {acc : List UInt8} {v v' : Value} {w W W2 : World} {o : Obj} (hown : OwnB w.heap.size v acc W) (hb : Below w.heap.size w W)
  (hown' : W2.ownsRow w.heap.size 5 1 v' (acc.length + 1) (acc.map bv ++ [bv x])) (hg : (W.alloc o).grownBy W2 v.ownBlock) : OwnB w.heap.size v' (acc ++ [x]) W2 ∧ Below w.heap.size w W2:=by
 refine ⟨?_,?_⟩
 ·unfold OwnB; simpa using hown'
 ·exact (hb.alloc hb.size o).grown hg (by have:=hb.size; simp; omega) fun k hk => (World.ownsRow.lt (w:=W) hown k hk).1
theorem term_fail {bs : List UInt8} {n : Int} {t : UInt8} {b : Nat} {w W : World} (hbk : b = W.heap.size) (h : termO bs n t = none) (hb : Below w.heap.size w W) : TermOut (termL bs n t) (termN bs n t) (termK bs n t) w (.returned (.tuple #[.slice (some ⟨b,0,none⟩) 0 0,.int .i64 n,.bool false])) (W.alloc (.cells #[] 5)):=by
 subst hbk
 have e1 : termL bs n t = []:=by unfold termL; rw [h]
 have e2 : termN bs n t = n:=by unfold termN; rw [h]
 have e3 : termK bs n t = false:=by unfold termK; rw [h]; rfl
 rw [e1,e2,e3]
 exact ⟨_,_,rfl,⟨.inl rfl,Nat.le_refl _,fun e => by cases e⟩,hb.alloc hb.size _⟩
theorem term_hit {bs : List UInt8} {p k : Nat} {t : UInt8} {acc : List UInt8} {v : Value} {w W : World} {z : Int} (hp : p ≤ bs.length) (h : termR t (bs.drop p) false = some (acc,k - p + 1)) (hz : z = (k : Int) + 1) (hpk : p ≤ k) (hown : OwnB w.heap.size v acc W) (hb : Below w.heap.size w W) :
  TermOut (termL bs p t) (termN bs p t) (termK bs p t) w (.returned (.tuple #[v,.int .i64 z,.bool true])) W:=by
 have h0 : termO bs p t = some (acc,k - p + 1):=by unfold termO; rw [if_pos ⟨by omega,by omega⟩,Int.toNat_natCast]; exact h
 have e1 : termL bs p t = acc:=by unfold termL; rw [h0]
 have e2 : termN bs p t = (k : Int) + 1:=by unfold termN; rw [h0]; show (p : Int) + ((k - p + 1 : Nat) : Int) = _; omega
 have e3 : termK bs p t = true:=by unfold termK; rw [h0]; rfl
 rw [e1,e2,e3,hz]
 obtain ⟨a,cap,rfl,hr⟩:=hown.row
 exact ⟨a,cap,rfl,hr,hb⟩
theorem term_none {bs : List UInt8} {p : Nat} {t : UInt8} (hp : p ≤ bs.length) (h : termR t (bs.drop p) false = none) : termO bs p t = none:=by
 unfold termO; rw [if_pos ⟨by omega,by omega⟩,Int.toNat_natCast]; exact h
theorem TermAt.takeY {bs : List UInt8} {p k : Nat} {t y : UInt8} {e : Bool} {acc : List UInt8} (h : TermAt bs p t k e acc) (hp : p ≤ k) (hk : k < bs.length) (hy : y = bs[k]) (hc : e = true ∨ (¬ y = t ∧ ¬ y = 92)) : TermAt bs p t (k + 1) false (acc ++ [y]):=by
 subst hy; exact h.take hp hk hc
theorem TermAt.hitY {bs : List UInt8} {p k : Nat} {t y : UInt8} {acc : List UInt8} (h : TermAt bs p t k false acc) (hk : k < bs.length) (hy : y = bs[k]) (hc : y = t) : termR t (bs.drop p) false = some (acc,k - p + 1):=by
 subst hy; exact h.hit hk hc
theorem TermAt.escY {bs : List UInt8} {p k : Nat} {t y : UInt8} {acc : List UInt8} (h : TermAt bs p t k false acc) (hp : p ≤ k) (hk : k < bs.length) (hy : y = bs[k]) (hc : ¬ y = t) (he : y = 92) : TermAt bs p t (k + 1) true acc:=by
 subst hy; exact h.esc hp hk hc he
theorem term_specN (a : Option Addr) (bs : List UInt8) (cap p : Nat) (t : UInt8) (w : World) (hl : bs.length ≤ 1048576) (hp : p ≤ bs.length) (h : Rd a bs w) :
  Calls Tryz.prog 182 #[.slice a bs.length cap,.int .i64 (p : Int),.int .u8 (t.toNat : Int)] w (TermOut (termL bs p t) (termN bs p t) (termK bs p t) w):=by
 obtain ⟨i0,hi,hz0,hz1,hz2⟩:=infoParts
 have H:=kq h
 have hin : decide ((0 : Int) ≤ (p : Int) ∧ (p : Int) ≤ (bs.length : Int)) = true:=decide_eq_true ⟨by omega,by omega⟩
 have HS:=kq (TermAt.start bs p t)
 clear h
 go_enter Tryz.func182,Tryz.ntmps182
 go_wp2
 go_loopw [9,10] (fun v i W => ∃ (k : Nat) (acc : List UInt8),p ≤ k ∧ k ≤ bs.length ∧ i = .int .i64 (k : Int) ∧ acc.length ≤ k ∧ Hid (TermAt bs p t k false acc) ∧ Hid (OwnB w.heap.size v acc W) ∧ Hid (Below w.heap.size w W)) (fun _ i _ => bs.length - (intOf i).toNat)
 case atStart => exact ⟨p,[],Nat.le_refl _,hp,rfl,Nat.zero_le _,HS,OwnB.start w,(Below.refl _ _).alloc (Nat.le_refl _) _⟩
 case round =>
  clear HS
  obtain ⟨k,acc,hpk,hkl,rfl,hal,HT,hown,hb⟩:=hrel
  have k0 : (0 : Int) ≤ (k : Int):=by omega
  by_cases hlt : k < bs.length
  ·have k1 : (k : Int) < (bs.length : Int):=by omega
   obtain ⟨b,off,rfl,hc0⟩:=H.out k hlt
   have hc:=cellK hb.out (Nat.le_refl _) hc0
   have HBT:=kq (bs[k].toNat_lt)
   by_cases hx : bs[k] = t
   ·have e3 : ((bs[k].toNat : Int) == (t.toNat : Int)) = true:=by rw [hx]; simp
    have HX:=kq (HT.out.hit hlt hx)
    clear hx HT hal
    go_wp2_with ((go_at_call 87; refine (in_any _ _ _ true _ hin).mono ?_; rintro e wx ⟨rfl,rfl⟩))
    try go_wp2
    go_ret3
    exact term_hit hp HX.out (by rfl) hpk hown.out hb.out
   ·have e3 : ((bs[k].toNat : Int) == (t.toNat : Int)) = false:=by
     rw [beq_eq_false_iff_ne]
     intro h
     exact hx (UInt8.toNat_inj.1 (by omega))
    by_cases h92 : bs[k] = 92
    ·have e4 : ((bs[k].toNat : Int) == 92) = true:=by rw [h92]; rfl
     have HE:=kq (HT.out.esc hpk hlt hx h92)
     by_cases hlt2 : k + 1 < bs.length
     ·have k2 : (k : Int) + 1 < (bs.length : Int):=by omega
      have k3 : ((k : Int) + 1 == (bs.length : Int)) = false:=by rw [beq_eq_false_iff_ne]; omega
      obtain ⟨b',off',hab,hc10⟩:=H.out (k + 1) hlt2
      injection hab with hab
      injection hab with hb1 hb2
      subst hb1 hb2
      have hc1:=cellK hb.out (Nat.le_refl _) hc10
      have HBT1:=kq (bs[k + 1].toNat_lt)
      have HN:=kq (HE.out.take (by omega) hlt2 (.inl rfl))
      clear hx h92 HT HE hc0 hc10
      obtain ⟨y,hy⟩ : ∃ y,y = bs[k + 1]:=⟨_,rfl⟩
      rw [← hy] at hc1 HBT1 HN
      clear hy
      go_wp2_with (first | (go_at_call 87; refine (in_any _ _ _ true _ hin).mono ?_; rintro e wx ⟨rfl,rfl⟩) | (at_builtin; refine wpList_append_own _ rfl _ _ 22 rfl w.heap.size 5 i0 (.int .u8 0) 1 1 Tryz.underlying22 hi hz0 hz1 hz2 rfl (by decide) _ _ _ rfl (World.ownsRow.alloc hown.out _) ⟨wr.heap.size,0,none⟩ 1 1 [.int .u8 (y.toNat : Int)] rfl rfl ?c1 ?c2 ?c3 ?c4 ?c5 ?_))
      case c1 =>
       intro j u hj
       match j,hj with
       | 0,hj => simp at hj; subst hj; simp [Addr.add]
      case c2 => intro u hu; simp at hu; subst hu; rfl
      case c3 => unfold maxLen; omega
      case c4 => omega
      case c5 => have:=hb.out.size; simp; omega
      ·intro v' w2 hown' hgrow _
       obtain ⟨R1,R2⟩:=push_own (x:=y) hown.out hb.out hown' hgrow
       have HR1:=kq R1
       have HR2:=kq R2
       clear hown' hgrow R1 R2
       go_wp2
       go_roundw
       case rel => exact ⟨k + 2,acc ++ [y],by omega,by omega,by go_num,by simp; omega,HN,HR1,HR2⟩
       case measure => simp [intOf]; omega
     ·have k3 : ((k : Int) + 1 == (bs.length : Int)) = true:=by rw [beq_iff_eq]; omega
      have HX:=kq (term_none hp (HE.out.none (by omega)))
      clear hx h92 HT HE hc0
      go_wp2_with ((go_at_call 87; refine (in_any _ _ _ true _ hin).mono ?_; rintro e wx ⟨rfl,rfl⟩))
      try go_wp2
      go_ret3
      exact term_fail (by first | rfl | simp) HX.out hb.out
    ·have e4 : ((bs[k].toNat : Int) == 92) = false:=by
      rw [beq_eq_false_iff_ne]
      intro h
      exact h92 (UInt8.toNat_inj.1 (by have h2 : (92 : UInt8).toNat = 92:=rfl; omega))
     have HN:=kq (HT.out.take hpk hlt (.inr ⟨hx,h92⟩))
     clear hx h92 HT hc0
     obtain ⟨y,hy⟩ : ∃ y,y = bs[k]:=⟨_,rfl⟩
     rw [← hy] at hc HBT HN e3 e4
     clear hy
     go_wp2_with (first | (go_at_call 87; refine (in_any _ _ _ true _ hin).mono ?_; rintro e wx ⟨rfl,rfl⟩) | (at_builtin; refine wpList_append_own _ rfl _ _ 22 rfl w.heap.size 5 i0 (.int .u8 0) 1 1 Tryz.underlying22 hi hz0 hz1 hz2 rfl (by decide) _ _ _ rfl (World.ownsRow.alloc hown.out _) ⟨wr.heap.size,0,none⟩ 1 1 [.int .u8 (y.toNat : Int)] rfl rfl ?c1 ?c2 ?c3 ?c4 ?c5 ?_))
     case c1 =>
      intro j u hj
      match j,hj with
      | 0,hj => simp at hj; subst hj; simp [Addr.add]
     case c2 => intro u hu; simp at hu; subst hu; rfl
     case c3 => unfold maxLen; omega
     case c4 => omega
     case c5 => have:=hb.out.size; simp; omega
     ·intro v' w2 hown' hgrow _
      obtain ⟨R1,R2⟩:=push_own (x:=y) hown.out hb.out hown' hgrow
      have HR1:=kq R1
      have HR2:=kq R2
      clear hown' hgrow R1 R2
      go_wp2
      go_roundw
      case rel => exact ⟨k + 1,acc ++ [y],by omega,by omega,by go_num,by simp; omega,HN,HR1,HR2⟩
      case measure => simp [intOf]; omega
  ·have k1 : ¬ (k : Int) < (bs.length : Int):=by omega
   have HX:=kq (term_none hp (HT.out.none (by omega)))
   clear HT
   go_wp2_with ((go_at_call 87; refine (in_any _ _ _ true _ hin).mono ?_; rintro e wx ⟨rfl,rfl⟩))
   try go_wp2
   go_ret3
   exact term_fail (by first | rfl | simp) HX.out hb.out
theorem term_spec (a : Option Addr) (bs : List UInt8) (cap : Nat) (n : Int) (t : UInt8) (w : World) (hl : bs.length ≤ 1048576) (h : Rd a bs w) :
  Calls Tryz.prog 182 #[.slice a bs.length cap,.int .i64 n,.int .u8 (t.toNat : Int)] w (TermOut (termL bs n t) (termN bs n t) (termK bs n t) w):=by
 by_cases hn : 0 ≤ n ∧ n ≤ (bs.length : Int)
 ·obtain ⟨p,rfl⟩ : ∃ p : Nat,n = (p : Int):=⟨n.toNat,by omega⟩
  exact term_specN a bs cap p t w hl (by omega) h
 ·have HX : Hid (termO bs n t = none):=by show termO bs n t = none; unfold termO; rw [if_neg hn]
  have hin : decide ((0 : Int) ≤ n ∧ n ≤ (bs.length : Int)) = false:=decide_eq_false hn
  go_enter Tryz.func182,Tryz.ntmps182
  go_wp2
  refine wp_loop_rounds 1 ?_
  rw [rounds_succ]
  go_wp2_with ((go_at_call 87; refine (in_any _ _ _ false _ hin).mono ?_; rintro e wx ⟨rfl,rfl⟩))
  try go_wp2
  go_ret3
  exact term_fail (by first | rfl | simp) HX.out ((Below.refl _ _).alloc (Nat.le_refl _) _)
theorem term_implN (a : Option Addr) (bs : List UInt8) (cap p : Nat) (t : UInt8) (w : World) (hl : bs.length ≤ 1048576) (hp : p ≤ bs.length) (hsrc : SrcB a bs cap w) :
  Calls Tryz.prog 207 #[.slice a bs.length cap,.int .i64 (p : Int),.int .u8 (t.toNat : Int)] w (TermOut (termL bs p t) (termN bs p t) (termK bs p t) w):=by
 obtain ⟨i0,hi,hz0,hz1,hz2⟩:=infoParts
 obtain ⟨A,C,hsl,hA⟩:=cut_from a bs cap p w hp hsrc
 have H:=kq (hA w hsrc.1)
 have hin : decide ((0 : Int) ≤ (p : Int) ∧ (p : Int) ≤ (bs.length : Int)) = true:=decide_eq_true ⟨by omega,by omega⟩
 have HS:=kq (TermAt.start bs p t)
 obtain ⟨m,hm⟩ : ∃ m,m = bs.length - p:=⟨_,rfl⟩
 rw [← hm] at hsl
 have HM:=kq hm
 clear hsrc hA hm
 go_enter Tryz.func207,Tryz.ntmps207
 go_wp2_with ((go_at_call 123; refine (inR_impl _ _ _ true _ hin).mono ?_; rintro e wx ⟨rfl,rfl⟩))
 go_loopw [9,10,11,12,25] (fun v e _ _ i W => ∃ (k : Nat) (acc : List UInt8) (es : Bool),p ≤ k ∧ k ≤ bs.length ∧ i = .int .i64 ((k - p : Nat) : Int) ∧ e = .bool es ∧ acc.length ≤ k ∧ Hid (TermAt bs p t k es acc) ∧ Hid (OwnB w.heap.size v acc W) ∧ Hid (Below w.heap.size w W)) (fun _ _ _ _ i _ => m - (intOf i).toNat)
 case atStart => exact ⟨p,[],false,Nat.le_refl _,hp,by simp,rfl,Nat.zero_le _,HS,OwnB.start w,(Below.refl _ _).alloc (Nat.le_refl _) _⟩
 case round =>
  clear HS
  obtain ⟨k,acc,es,hpk,hkl,rfl,rfl,hal,HT,hown,hb⟩:=hrel
  obtain ⟨j,hj⟩ : ∃ j,j = k - p:=⟨_,rfl⟩
  rw [← hj]
  have j0 : (0 : Int) ≤ (j : Int):=by omega
  have jb : (j : Int) ≤ 1048576:=by omega
  have jp : (p : Int) + (j : Int) ≤ 1048576:=by omega
  by_cases hlt : k < bs.length
  ·have j1 : (j : Int) < (m : Int):=by have:=HM.out; omega
   have HJ:=kq hj
   have hjl : j < (bs.drop p).length:=by rw [List.length_drop]; omega
   obtain ⟨b,off,rfl,hc0⟩:=H.out j hjl
   have hge : (bs.drop p)[j] = bs[k]:=by rw [List.getElem_drop]; congr 1; omega
   obtain ⟨y,hy⟩ : ∃ y,y = bs[k]:=⟨_,rfl⟩
   have hc : wr.cell? ⟨b,off + j,none⟩ = some (.int .u8 (y.toNat : Int)):=by rw [hy,← hge]; exact cellK hb.out (Nat.le_refl _) hc0
   have HBT:=kq (y.toNat_lt)
   have HY:=kq hy
   clear hc0 hge hjl hy hj
   have HLK:=kq hlt
   cases es with
   | true =>
    have HN:=kq (HT.out.takeY hpk hlt HY.out (.inl rfl))
    clear HT
    go_wp2_with (at_builtin; refine wpList_append_own _ rfl _ _ 22 rfl w.heap.size 5 i0 (.int .u8 0) 1 1 Tryz.underlying22 hi hz0 hz1 hz2 rfl (by decide) _ _ _ rfl (World.ownsRow.alloc hown.out _) ⟨wr.heap.size,0,none⟩ 1 1 [.int .u8 (y.toNat : Int)] rfl rfl ?c1 ?c2 ?c3 ?c4 ?c5 ?_)
    case c1 =>
     intro j u hj
     match j,hj with
     | 0,hj => simp at hj; subst hj; simp [Addr.add]
    case c2 => intro u hu; simp at hu; subst hu; rfl
    case c3 => unfold maxLen; omega
    case c4 => omega
    case c5 => have:=hb.out.size; simp; omega
    ·intro v' w2 hown' hgrow _
     obtain ⟨R1,R2⟩:=push_own (x:=y) hown.out hb.out hown' hgrow
     have HR1:=kq R1
     have HR2:=kq R2
     clear hown' hgrow R1 R2
     go_wp2
     go_roundw
     case rel => exact ⟨k + 1,acc ++ [y],false,by omega,by omega,(by have:=HJ.out; go_num),rfl,by simp; omega,HN,HR1,HR2⟩
     case measure => simp [intOf]; have:=HM.out; have:=HJ.out; omega
   | false =>
    by_cases hx : y = t
    ·have e3 : ((y.toNat : Int) == (t.toNat : Int)) = true:=by rw [hx]; simp
     have HX:=kq (HT.out.hitY hlt HY.out hx)
     clear hx HT hal
     go_wp2
     go_ret3
     exact term_hit hp HX.out (by have:=HJ.out; omega) hpk hown.out hb.out
    ·have e3 : ((y.toNat : Int) == (t.toNat : Int)) = false:=by
      rw [beq_eq_false_iff_ne]
      intro h
      exact hx (UInt8.toNat_inj.1 (by omega))
     by_cases h92 : y = 92
     ·have e4 : ((y.toNat : Int) == 92) = true:=by rw [h92]; rfl
      have HN:=kq (HT.out.escY hpk hlt HY.out hx h92)
      clear hx h92 HT
      go_wp2
      go_roundw
      case rel => exact ⟨k + 1,acc,true,by omega,by omega,(by have:=HJ.out; go_num),rfl,by omega,HN,hown,hb⟩
      case measure => simp [intOf]; have:=HM.out; have:=HJ.out; omega
     ·have e4 : ((y.toNat : Int) == 92) = false:=by
       rw [beq_eq_false_iff_ne]
       intro h
       exact h92 (UInt8.toNat_inj.1 (by have h2 : (92 : UInt8).toNat = 92:=rfl; omega))
      have HN:=kq (HT.out.takeY hpk hlt HY.out (.inr ⟨hx,h92⟩))
      clear hx h92 HT
      go_wp2_with (at_builtin; refine wpList_append_own _ rfl _ _ 22 rfl w.heap.size 5 i0 (.int .u8 0) 1 1 Tryz.underlying22 hi hz0 hz1 hz2 rfl (by decide) _ _ _ rfl (World.ownsRow.alloc hown.out _) ⟨wr.heap.size,0,none⟩ 1 1 [.int .u8 (y.toNat : Int)] rfl rfl ?c1 ?c2 ?c3 ?c4 ?c5 ?_)
      case c1 =>
       intro j u hj
       match j,hj with
       | 0,hj => simp at hj; subst hj; simp [Addr.add]
      case c2 => intro u hu; simp at hu; subst hu; rfl
      case c3 => unfold maxLen; omega
      case c4 => omega
      case c5 => have:=hb.out.size; simp; omega
      ·intro v' w2 hown' hgrow _
       obtain ⟨R1,R2⟩:=push_own (x:=y) hown.out hb.out hown' hgrow
       have HR1:=kq R1
       have HR2:=kq R2
       clear hown' hgrow R1 R2
       go_wp2
       go_roundw
       case rel => exact ⟨k + 1,acc ++ [y],false,by omega,by omega,(by have:=HJ.out; go_num),rfl,by simp; omega,HN,HR1,HR2⟩
       case measure => simp [intOf]; have:=HM.out; have:=HJ.out; omega
  ·have j1 : ¬ (j : Int) < (m : Int):=by have:=HM.out; omega
   have HX:=kq (term_none hp (HT.out.none (by omega)))
   clear HT hj
   go_wp2
   go_ret3
   exact term_fail (by first | rfl | simp) HX.out hb.out
theorem term_impl (a : Option Addr) (bs : List UInt8) (cap : Nat) (n : Int) (t : UInt8) (w : World) (hl : bs.length ≤ 1048576) (h : SrcB a bs cap w) :
  Calls Tryz.prog 207 #[.slice a bs.length cap,.int .i64 n,.int .u8 (t.toNat : Int)] w (TermOut (termL bs n t) (termN bs n t) (termK bs n t) w):=by
 by_cases hn : 0 ≤ n ∧ n ≤ (bs.length : Int)
 ·obtain ⟨p,rfl⟩ : ∃ p : Nat,n = (p : Int):=⟨n.toNat,by omega⟩
  exact term_implN a bs cap p t w hl (by omega) h
 ·have HX : Hid (termO bs n t = none):=by show termO bs n t = none; unfold termO; rw [if_neg hn]
  have hin : decide ((0 : Int) ≤ n ∧ n ≤ (bs.length : Int)) = false:=decide_eq_false hn
  go_enter Tryz.func207,Tryz.ntmps207
  go_wp2_with ((go_at_call 123; refine (inR_impl _ _ _ false _ hin).mono ?_; rintro e wx ⟨rfl,rfl⟩))
  try go_wp2
  go_ret3
  exact term_fail (by first | rfl | simp) HX.out (Below.refl _ _)
theorem quiet_base {P : Program} {f : FuncId} {args : Array Value} {w : World} {n : Nat} {v : Value} (h : Calls P f args (w.drewN n) fun e w' => e = .returned v ∧ w.drewN n = w') : Calls P f args (w.drewN n) fun e w'' => e = .returned v ∧ ∃ m,w'' = w.drewN m :=
 h.mono fun _ _ ⟨he,hm⟩ => ⟨he,n,hm.symm⟩
def SIntAt (g : Got Int) (p : Nat) (w : World) (e : Ending) (w' : World) : Prop :=
 (match g with
  | .ok x q => e = .returned (.tuple #[.int .i64 x,.int .i64 (q : Int),.bool true])
  | .bad _ _ => e = .returned (.tuple #[.int .i64 0,.int .i64 (p : Int),.bool false])) ∧ Below w.heap.size w w'
theorem sint_ok {x z : Int} {q p : Nat} {w w' : World} (h : z = (q : Int)) (hb : Below w.heap.size w w') : SIntAt (.ok x q) p w (.returned (.tuple #[.int .i64 x,.int .i64 z,.bool true])) w':=by
 subst h
 exact ⟨rfl,hb⟩
theorem sint_spec (a ab : Option Addr) (rs : List RuleV) (cap cb m p : Nat) (L : List UInt8) (w : World) (hm : m < rs.length) (h0 : 0 ≤ rs[m].size) (h4 : rs[m].size ≤ 4) (hl : L.length ≤ 1048576) (hp : p ≤ L.length) (hrd : RdR a rs w) (hs : SrcB ab L cb w) :
  Calls Tryz.prog 179 #[.agg #[.slice a rs.length cap],.int .i64 (m : Int),.slice ab L.length cb,.int .i64 (p : Int)] w (SIntAt (gotInt rs[m] L p) p w):=by
 obtain ⟨b0,off,a4,c4,a5,c5,a6,c6,a7,c7,rfl,⟨d0,d1,d2,d3,d4,d5,d6,d7⟩,-,-,-,-⟩:=hrd.at m hm
 obtain ⟨r,hr⟩ : ∃ r,r = rs[m]:=⟨_,rfl⟩
 rw [← hr] at h0 h4 d0 d1 d2 d3 d4 d5 d6 d7 ⊢
 clear hr
 obtain ⟨wd,hwd⟩ : ∃ wd,wd = w.alloc (.cells #[.slice (some ⟨b0,off,none⟩) rs.length cap] 26):=⟨_,rfl⟩
 have hBd:=zb1 hwd
 have hD:=zk1 hwd
 obtain ⟨w1,hw1⟩ : ∃ w1,w1 = wd.alloc (.cells #[.string r.name,.int .i64 r.kind,.int .i64 r.size,.bool r.little,.slice a4 r.bytes.length c4,.slice a5 r.names.length c5,.slice a6 r.tags.length c6,.slice a7 r.kids.length c7] 63):=⟨_,rfl⟩
 have hb1:=zb1 hw1
 have hC:=zk1 hw1
 have hB1:=hBd.trans (hb1.mono hBd.size)
 have e0:=cellK hBd (Nat.le_refl _) d0
 have e1:=cellK hBd (Nat.le_refl _) d1
 have e2:=cellK hBd (Nat.le_refl _) d2
 have e3:=cellK hBd (Nat.le_refl _) d3
 have e4:=cellK hBd (Nat.le_refl _) d4
 have e5:=cellK hBd (Nat.le_refl _) d5
 have e6:=cellK hBd (Nat.le_refl _) d6
 have e7:=cellK hBd (Nat.le_refl _) d7
 obtain ⟨B,hBB⟩ : ∃ B,B = wd.heap.size:=⟨_,rfl⟩
 rw [← hBB] at hC
 obtain ⟨zz,hzz⟩ : ∃ zz : Nat,r.size = (zz : Int):=⟨r.size.toNat,by omega⟩
 have hzt : r.size.toNat = zz:=by omega
 have hzb : zz ≤ 4:=by omega
 have hgi : gotInt r L p = if L.length < p + zz then .bad p 1 else .ok (readI ((L.drop p).take zz) r.little : Int) (p + zz):=by unfold gotInt; rw [hzt]
 rw [hgi]
 have k2:=(hC 2 _ rfl).1
 have k3:=(hC 3 _ rfl).1
 rw [hzz] at k2
 have HZZ:=kq hzz
 have HB1:=kq hB1
 have HWD:=kq hwd
 have HW1:=kq hw1
 have HBB:=kq hBB
 have bx:=(hD 0 _ rfl).1
 have m0 : (0 : Int) ≤ (m : Int):=by omega
 have m1 : (m : Int) < (rs.length : Int):=by omega
 have hs1:=hs.below hB1
 clear hgi hzt h0 h4 hBd hD hb1 hC hB1 hwd hw1 hBB hzz d0 d1 d2 d3 d4 d5 d6 d7 hrd hs
 by_cases hf : L.length < p + zz
 ·have g1 : (L.length : Int) - (p : Int) < (zz : Int):=by omega
  rw [if_pos hf]
  go_enter Tryz.func179,Tryz.ntmps179
  go_upto_region 1 with fail
  rw [← HWD.out]
  clear HWD
  go_upto_region 2 with fail
  rw [← HW1.out,← HBB.out]
  clear HW1 HBB e0 e1 e2 e3 e4 e5 e6 e7
  go_wp2
  go_ret3
  exact ⟨rfl,HB1.out⟩
 ·have g1 : ¬ ((L.length : Int) - (p : Int) < (zz : Int)):=by omega
  rw [if_neg hf]
  obtain ⟨A,C,hsl,hA⟩:=cut_two ab L cb p (p + zz) w1 (by omega) (by omega) hs1
  rw [Nat.add_sub_cancel_left] at hsl hA
  have hlen : ((L.drop p).take zz).length = zz:=by rw [List.length_take,List.length_drop]; omega
  obtain ⟨bs,hbs⟩ : ∃ bs,bs = (L.drop p).take zz:=⟨_,rfl⟩
  rw [← hbs] at hlen hA ⊢
  have HRI : Hid (∀ n,Calls Tryz.prog 217 #[.slice A zz C,.bool r.little] (w1.drewN n) fun e w' => e = .returned (.int .i64 (readI bs r.little : Nat)) ∧ w1.drewN n = w'):=fun n => by
   have h1:=read_spec A bs C r.little (w1.drewN n) (by omega) (hA _ (hs1.below (below_drewN (Below.refl _ _) n))).1
   rw [hlen] at h1
   exact h1
  have e9 : ((p + zz : Nat) : Int) = (p : Int) + (zz : Int):=Int.natCast_add p zz
  rw [e9] at hsl
  have HE : Hid ((p : Int) + (zz : Int) = ((p + zz : Nat) : Int)):=e9.symm
  clear hbs hA hlen e9
  go_enter Tryz.func179,Tryz.ntmps179
  go_upto_region 1 with fail
  rw [← HWD.out]
  clear HWD
  go_upto_region 2 with fail
  rw [← HW1.out,← HBB.out]
  clear HW1 HBB e0 e1 e2 e3 e4 e5 e6 e7
  go_wp2
  go_quiet ((go_at_call 217; with_reducible exact quiet_base (HRI.out _)))
  go_wp2
  go_ret3
  exact sint_ok HE.out (below_drewN HB1.out _)
def SGot (h : Nat) (g : Got ValueV) (w : World) (e : Ending) (w' : World) : Prop :=
 (match g with
  | .ok v q => ∃ cs,e = .returned (.tuple #[.agg cs.toArray,.int .i64 (q : Int),.int .i64 0]) ∧ OwnV (fun b => w.heap.size ≤ b) h v cs w'
  | .bad q c => e = .returned (.tuple #[.agg #[.int .i64 0,.slice none 0 0,.slice none 0 0],.int .i64 (q : Int),.int .i64 (c : Int)])) ∧ Below w.heap.size w w'
theorem sgot_bad {h q c : Nat} {x : Int} {w w' : World} (hx : x = (q : Int)) (hb : Below w.heap.size w w') : SGot h (.bad q c) w (.returned (.tuple #[.agg #[.int .i64 0,.slice none 0 0,.slice none 0 0],.int .i64 x,.int .i64 (c : Int)])) w':=by
 subst hx
 exact ⟨rfl,hb⟩
theorem sgot_ok {h q : Nat} {x : Int} {v : ValueV} {cs : List Value} {w w' : World} (hx : x = (q : Int)) (ho : OwnV (fun b => w.heap.size ≤ b) h v cs w') (hb : Below w.heap.size w w') : SGot h (.ok v q) w (.returned (.tuple #[.agg cs.toArray,.int .i64 x,.int .i64 0])) w':=by
 subst hx
 exact ⟨⟨cs,rfl,ho⟩,hb⟩
theorem below3 {B Z : Nat} {w W : World} (h : Below B w W) (hZ : B ≤ Z) (u0 u1 u2 : Value) : Below B w (((W.setCell ⟨Z,0,none⟩ u0).setCell ⟨Z,1,none⟩ u1).setCell ⟨Z,2,none⟩ u2) :=
 ((h.setCell (p:=⟨Z,0,none⟩) hZ _).setCell (p:=⟨Z,1,none⟩) hZ _).setCell (p:=⟨Z,2,none⟩) hZ _
theorem OwnV.set3 {f : Nat → Prop} {n Z : Nat} {v : ValueV} {cs : List Value} {W : World} (h : OwnV f n v cs W) (hf : ∀ b,f b → b ≠ Z) (u0 u1 u2 : Value) : OwnV f n v cs (((W.setCell ⟨Z,0,none⟩ u0).setCell ⟨Z,1,none⟩ u1).setCell ⟨Z,2,none⟩ u2) :=
 h.grown (grown_set (grown_set (grown_set (grown_refl W Z) 0 _) 1 _) 2 _) fun b _ hb => ⟨hb,fun e => by injection e with e; exact hf b hb e⟩
theorem OwnV.leaf {f : Nat → Prop} {n : Nat} {num : Int} {bs : List UInt8} {a1 : Option Addr} {c1 : Nat} {W : World} (hrd : RdN a1 bs c1 W) (hbl : ∀ b off,a1 = some ⟨b,off,none⟩ → bs.length ≠ 0 → f b) : OwnV f (n + 1) (.mk num bs []) [.int .i64 num,.slice a1 bs.length c1,.slice none 0 0] W :=
 ⟨a1,c1,none,0,rfl,hrd,hbl,fun j hj => by simp [ValueV.items] at hj⟩
theorem ownB_more {B B' : Nat} {v : Value} {bs : List UInt8} {w : World} (h : OwnB B v bs w) (hB : B' ≤ B) : OwnB B' v bs w:=by
 refine ⟨h.1,?_⟩
 rcases h.2 with h | ⟨g,cap,cur,e,hb',rest⟩
 ·exact .inl h
 ·exact .inr ⟨g,cap,cur,e,by omega,rest⟩
theorem RdN.nil0 (w : World) : RdN none [] 0 w:=⟨fun j h => by simp at h,fun _ => rfl⟩
theorem sbytes_spec (ab : Option Addr) (cb p k h : Nat) (L : List UInt8) (w : World) (hl : L.length ≤ 1048576) (hp : p ≤ L.length) (hk : k ≤ 4294967296) (hs : SrcB ab L cb w) :
  Calls Tryz.prog 181 #[.slice ab L.length cb,.int .i64 (p : Int),.int .i64 (k : Int)] w (SGot (h + 1) (gotBytes L p k) w):=by
 obtain ⟨w1,hw1⟩ : ∃ w1,w1 = w.alloc (.cells #[.int .i64 0,.slice none 0 0,.slice none 0 0] 48):=⟨_,rfl⟩
 have hB:=zb1 hw1
 have hZ:=zk1 hw1
 have hz1 : w1.heap.size = w.heap.size + 1:=by subst hw1; simp
 have HW:=kq hw1
 have HB:=kq hB
 have HZ:=kq hZ
 have hs1:=hs.below hB
 unfold gotBytes
 by_cases hf : L.length < p + k
 ·rw [if_pos hf]
  have g1 : (L.length : Int) - (p : Int) < (k : Int):=by omega
  clear hw1 hB hZ hs hs1 hz1
  go_enter Tryz.func181,Tryz.ntmps181
  go_upto_region 1 with fail
  rw [← HW.out]
  clear HW
  obtain ⟨z0,t0⟩:=HZ.out 0 _ rfl
  obtain ⟨z1,t1⟩:=HZ.out 1 _ rfl
  obtain ⟨z2,t2⟩:=HZ.out 2 _ rfl
  go_wp2
  (try simp only [Exit.inBlock,Exit.then])
  refine bodyPost_ret (v:=.tuple #[.agg #[.int .i64 0,.slice none 0 0,.slice none 0 0],.int .i64 (p : Int),.int .i64 1]) ?_ rfl ?_
  ·simp [results,Tryz.results181,go_sem,z0,z1,z2]
  ·exact sgot_bad (c:=1) rfl (below3 HB.out (Nat.le_refl _) _ _ _)
 ·rw [if_neg hf]
  have g1 : ¬ ((L.length : Int) - (p : Int) < (k : Int)):=by omega
  obtain ⟨A,C,hsl,hA⟩:=cut_two ab L cb p (p + k) w1 (by omega) (by omega) hs1
  rw [Nat.add_sub_cancel_left] at hsl hA
  have hlen : ((L.drop p).take k).length = k:=by rw [List.length_take,List.length_drop]; omega
  obtain ⟨bs,hbs⟩ : ∃ bs,bs = (L.drop p).take k:=⟨_,rfl⟩
  rw [← hbs] at hlen hA ⊢
  have hb2 : Below w1.heap.size w1 (w1.alloc (.cells #[] 5)):=(Below.refl _ _).alloc (Nat.le_refl _) _
  have HOWN : Hid (OwnB w1.heap.size (.slice (some ⟨w1.heap.size,0,none⟩) 0 0) [] (w1.alloc (.cells #[] 5))):=OwnB.start w1
  have HSRC : Hid (Src1 A bs C (w1.alloc (.cells #[] 5))):=⟨(hA _ (hs1.below hb2)).1,(hA _ (hs1.below hb2)).2.2⟩
  have HB2:=kq hb2
  have HZ2:=kq (HZ.out.below hb2)
  have HZ1:=kq hz1
  have hbk : bs.length ≤ 1048576:=by omega
  have hpk : (p : Int) + (bs.length : Int) ≤ 1048576:=by omega
  clear hw1 hB hZ hs hs1 hz1 hbs hA hb2
  subst hlen
  have e9 : ((p + bs.length : Nat) : Int) = (p : Int) + (bs.length : Int):=Int.natCast_add p bs.length
  have HE : Hid ((p : Int) + (bs.length : Int) = ((p + bs.length : Nat) : Int)):=e9.symm
  rw [e9] at hsl
  clear e9
  go_enter Tryz.func181,Tryz.ntmps181
  go_upto_region 1 with fail
  rw [← HW.out]
  clear HW
  go_wp2_with (at_builtin; refine wp_app rfl _ _ rfl w1.heap.size (.slice (some ⟨w1.heap.size,0,none⟩) 0 0) [] bs A C _ rfl rfl HOWN.out HSRC.out (by simp; omega) (by simp) ?_)
  intro v' w3 hown3 hg3
  have HB3:=kq (app_frame (HB.out.trans (HB2.out.mono HB.out.size)) (by have:=HZ1.out; simp; omega) (B:=w.heap.size) (v:=.slice (some ⟨w1.heap.size,0,none⟩) 0 0) (acc:=[]) (by exact ownB_more HOWN.out (by have:=HZ1.out; omega)) hg3)
  have HZ3 : Hid (CellsAt w.heap.size [.int .i64 0,.slice none 0 0,.slice none 0 0] w3):=HZ2.out.grown hg3 (by simp [Value.ownBlock]; have:=HZ1.out; omega)
  obtain ⟨a3,c3,rfl,hrow3⟩:=hown3.row
  have HROW:=kq hrow3
  obtain ⟨z0,t0⟩:=HZ3.out 0 _ rfl
  obtain ⟨z1,t1⟩:=HZ3.out 1 _ rfl
  obtain ⟨z2,t2⟩:=HZ3.out 2 _ rfl
  clear hown3 hg3 hrow3
  go_wp2
  (try simp only [Exit.inBlock,Exit.then])
  refine bodyPost_ret (v:=.tuple #[.agg #[.int .i64 0,.slice a3 bs.length c3,.slice none 0 0],.int .i64 ((p : Int) + (bs.length : Int)),.int .i64 0]) ?_ rfl ?_
  ·simp [results,Tryz.results181,go_sem,z0,z1,z2]
  ·have hZ1:=HZ1.out
   refine sgot_ok (cs:=[.int .i64 0,.slice a3 bs.length c3,.slice none 0 0]) HE.out (OwnV.set3 (f:=fun b => w1.heap.size ≤ b) (OwnV.leaf ⟨HROW.out.rd,HROW.out.2.2⟩ fun b off e hn => ?_) (fun b hb => by omega) _ _ _ |>.mono fun b _ hb => by omega) (below3 HB3.out (Nat.le_refl _) _ _ _)
   rcases HROW.out.1 with h1 | ⟨b',off',ha,hB',_⟩
   ·rw [h1] at hn; exact absurd rfl hn
   ·rw [e] at ha
    injection ha with ha
    injection ha with e1
    omega
theorem sconst_more {p i : Nat} {want M : List UInt8} (h : i < want.length) (h2 : i < M.length) (he : M[i] = want[i]) : gotConst p (want.drop i) (M.drop i) i = gotConst p (want.drop (i + 1)) (M.drop (i + 1)) (i + 1):=by
 rw [List.drop_eq_getElem_cons h,List.drop_eq_getElem_cons h2,gotConst,if_pos he]
theorem sconst_diff {p i : Nat} {want M : List UInt8} (h : i < want.length) (h2 : i < M.length) (he : ¬ M[i] = want[i]) : gotConst p (want.drop i) (M.drop i) i = .bad (p + i) 2:=by
 rw [List.drop_eq_getElem_cons h,List.drop_eq_getElem_cons h2,gotConst,if_neg he]
theorem sconst_short {p i : Nat} {want M : List UInt8} (h : i < want.length) (h2 : M.length ≤ i) : gotConst p (want.drop i) (M.drop i) i = .bad p 1:=by
 rw [List.drop_eq_getElem_cons h,List.drop_eq_nil_of_le h2,gotConst]
theorem sconst_end {p i : Nat} {want M : List UInt8} (h : want.length ≤ i) : gotConst p (want.drop i) (M.drop i) i = .ok (.mk 0 [] []) (p + i):=by
 rw [List.drop_eq_nil_of_le h,gotConst]
theorem sconst_spec (ab : Option Addr) (cb p h : Nat) (L : List UInt8) (r : RuleV) (cs : List Value) (w : World) (hl : L.length ≤ 1048576) (hp : p ≤ L.length) (hs : SrcB ab L cb w) (hir : IsRule r cs w) (hwl : r.bytes.length ≤ 1048576) :
  Calls Tryz.prog 180 #[.agg cs.toArray,.slice ab L.length cb,.int .i64 (p : Int)] w (SGot (h + 1) (gotConst p r.bytes (L.drop p) 0) w):=by
 obtain ⟨a4,c4,a5,c5,a6,c6,a7,c7,rfl,r4,-,-,-⟩:=hir
 obtain ⟨w1,hw1⟩ : ∃ w1,w1 = (w.alloc (.cells #[.string r.name,.int .i64 r.kind,.int .i64 r.size,.bool r.little,.slice a4 r.bytes.length c4,.slice a5 r.names.length c5,.slice a6 r.tags.length c6,.slice a7 r.kids.length c7] 63)).alloc (.cells #[.int .i64 0,.slice none 0 0,.slice none 0 0] 48):=⟨_,rfl⟩
 have hB:=zb2 hw1
 have hC:=zk2 hw1
 have hZ:=zk3 hw1
 obtain ⟨M,hM⟩ : ∃ M,M = L.drop p:=⟨_,rfl⟩
 have hml : M.length = L.length - p:=by rw [hM,List.length_drop]
 have hMi : ∀ i (h : i < M.length) (h2 : p + i < L.length),M[i] = L[p + i]:=fun i h h2 => by subst hM; rw [List.getElem_drop]
 rw [← hM]
 obtain ⟨G,hG⟩ : ∃ G,G = gotConst p r.bytes M 0:=⟨_,rfl⟩
 rw [← hG]
 have HG : Hid (G = gotConst p (r.bytes.drop 0) (M.drop 0) 0):=by show _ = _; rw [List.drop_zero,List.drop_zero]; exact hG
 have HS:=kq (hs.below hB)
 have HR4:=kq (r4.below hB)
 have HMI:=kq hMi
 have HML:=kq hml
 have HB:=kq hB
 have HC:=kq hC
 have HZ:=kq hZ
 have HW:=kq hw1
 have hmb : M.length ≤ 1048576:=by omega
 have hpb : (p : Int) ≤ 1048576:=by omega
 obtain ⟨N,hN⟩ : ∃ N,N = w.heap.size + 1:=⟨_,rfl⟩
 rw [← hN] at HZ
 have HNW : Hid (w.heap.size ≤ N):=by show _ ≤ _; omega
 have HN:=kq hN.symm
 clear hs hM hMi hG hml hB hC hZ hw1 r4 hN
 go_enter Tryz.func180,Tryz.ntmps180
 go_upto_region 1 with fail
 rw [← HW.out,HN.out]
 clear HW HN
 go_wp2
 go_loopw [9] (fun iv W => ∃ i : Nat,i ≤ r.bytes.length ∧ i ≤ M.length ∧ iv = .int .i64 (i : Int) ∧ Hid (G = gotConst p (r.bytes.drop i) (M.drop i) i) ∧ Hid (Below w1.heap.size w1 W)) (fun iv _ => r.bytes.length - (intOf iv).toNat)
 case atStart => exact ⟨0,by omega,by omega,rfl,HG,Below.refl _ _⟩
 case round =>
  clear HG
  obtain ⟨i,hiw,him,rfl,HG,HBW⟩:=hrel
  have i0 : (0 : Int) ≤ (i : Int):=by omega
  have y4:=(HC.out.below HBW.out 4 _ rfl).1
  have HZW:=kq (HZ.out.below HBW.out)
  have HFB:=kq (HB.out.trans (HBW.out.mono HB.out.size))
  by_cases hlt : i < r.bytes.length
  ·have i1 : (i : Int) < (r.bytes.length : Int):=by omega
   obtain ⟨bw,ow,rfl,hcw0⟩:=HR4.out i hlt
   obtain ⟨y,hy⟩ : ∃ y,y = r.bytes[i]:=⟨_,rfl⟩
   have hcw : wr.cell? ⟨bw,ow + i,none⟩ = some (.int .u8 (y.toNat : Int)):=by rw [hy]; exact cellK HBW.out (Nat.le_refl _) hcw0
   have HY:=kq hy
   clear hcw0 hy
   by_cases hm : i < M.length
   ·have hpi : p + i < L.length:=by have:=HML.out; omega
    have k1 : ¬ ((p : Int) + (i : Int) ≥ (L.length : Int)):=by omega
    have k2 : (p : Int) + (i : Int) < (L.length : Int):=by omega
    have k3 : (0 : Int) ≤ (p : Int) + (i : Int):=by omega
    obtain ⟨bm,om,rfl,hcm0⟩:=HS.out.1 (p + i) hpi
    obtain ⟨z,hz⟩ : ∃ z,z = M[i]:=⟨_,rfl⟩
    have hcm : wr.cell? ⟨bm,om + (p + i),none⟩ = some (.int .u8 (z.toNat : Int)):=by rw [hz,HMI.out i hm hpi]; exact cellK HBW.out (Nat.le_refl _) hcm0
    have HZZ:=kq hz
    obtain ⟨pi,hpie⟩ : ∃ pi,pi = p + i:=⟨_,rfl⟩
    have hpii : (p : Int) + (i : Int) = (pi : Int):=by omega
    rw [← hpie] at hcm
    have HPI:=kq hpie
    rw [hpii] at k1 k2 k3
    clear hcm0 hz hpi hpie
    by_cases he : z = y
    ·have e3 : ((z.toNat : Int) != (y.toNat : Int)) = false:=by rw [he]; simp
     have HNX : Hid (G = gotConst p (r.bytes.drop (i + 1)) (M.drop (i + 1)) (i + 1)):=by
      show _ = _
      rw [HG.out]
      exact sconst_more hlt hm (by rw [← HZZ.out,← HY.out]; exact he)
     clear he HG HZW HFB
     go_wp2
     go_quiet (fail)
     go_wp2
     go_roundw
     case rel => exact ⟨i + 1,by omega,by omega,by go_num,HNX,below_drewN HBW.out _⟩
     case measure => simp [intOf]; omega
    ·have e3 : ((z.toNat : Int) != (y.toNat : Int)) = true:=by
      rw [bne_iff_ne]
      intro h
      exact he (UInt8.toNat_inj.1 (by omega))
     have HNX : Hid (G = .bad (p + i) 2):=by
      show _ = _
      rw [HG.out]
      exact sconst_diff hlt hm (by rw [← HZZ.out,← HY.out]; exact he)
     obtain ⟨z0,t0⟩:=HZW.out 0 _ rfl
     obtain ⟨z1,t1⟩:=HZW.out 1 _ rfl
     obtain ⟨z2,t2⟩:=HZW.out 2 _ rfl
     clear he HG
     go_wp2
     go_quiet (fail)
     go_wp2
     (try simp only [Exit.inBlock,Exit.then])
     refine bodyPost_ret (v:=.tuple #[.agg #[.int .i64 0,.slice none 0 0,.slice none 0 0],.int .i64 (pi : Int),.int .i64 2]) ?_ rfl ?_
     ·simp [results,Tryz.results180,go_sem,z0,z1,z2]
     ·(rw [HNX.out]; exact sgot_bad (c:=2) (by rw [HPI.out]) (below3 (below_drewN HFB.out _) HNW.out _ _ _))
   ·have k1 : (p : Int) + (i : Int) ≥ (L.length : Int):=by have:=HML.out; omega
    have HNX : Hid (G = .bad p 1):=by
     show _ = _
     rw [HG.out]
     exact sconst_short hlt (by omega)
    obtain ⟨z0,t0⟩:=HZW.out 0 _ rfl
    obtain ⟨z1,t1⟩:=HZW.out 1 _ rfl
    obtain ⟨z2,t2⟩:=HZW.out 2 _ rfl
    clear HG
    go_wp2
    (try simp only [Exit.inBlock,Exit.then])
    refine bodyPost_ret (v:=.tuple #[.agg #[.int .i64 0,.slice none 0 0,.slice none 0 0],.int .i64 (p : Int),.int .i64 1]) ?_ rfl ?_
    ·simp [results,Tryz.results180,go_sem,z0,z1,z2]
    ·(rw [HNX.out]; exact sgot_bad (c:=1) rfl (below3 HFB.out HNW.out _ _ _))
  ·have i1 : ¬ (i : Int) < (r.bytes.length : Int):=by omega
   have HNX : Hid (G = .ok (.mk 0 [] []) (p + r.bytes.length)):=by
    show _ = _
    rw [HG.out,sconst_end (by omega)]
    congr 1
    omega
   have hpl : (p : Int) + (r.bytes.length : Int) ≤ 2097152:=by omega
   clear HG
   have hwr : IntKind.i64.wrap ((p : Int) + (r.bytes.length : Int)) = (p : Int) + (r.bytes.length : Int):=by rw [IntKind.wrap_i64]; omega
   obtain ⟨z0,t0⟩:=HZW.out 0 _ rfl
   obtain ⟨z1,t1⟩:=HZW.out 1 _ rfl
   obtain ⟨z2,t2⟩:=HZW.out 2 _ rfl
   have hdw : Below wr.heap.size wr wr.drew:=below_drewN (Below.refl _ wr) 1
   have HFD:=kq (HFB.out.trans (hdw.mono HFB.out.size))
   clear hdw HBW HZW HFB
   go_upto_region 8 with fail
   go_region
   all_goals go_wp2
   (try simp only [Exit.inBlock,Exit.then])
   all_goals refine bodyPost_ret (v:=.tuple #[.agg #[.int .i64 0,.slice none 0 0,.slice none 0 0],.int .i64 ((p : Int) + (r.bytes.length : Int)),.int .i64 0]) ?_ rfl ?_
   all_goals first | (simp [results,Tryz.results180,go_sem,z0,z1,z2]; done) | skip
   all_goals (rw [HNX.out]; exact sgot_ok (cs:=[.int .i64 0,.slice none 0 0,.slice none 0 0]) (Int.natCast_add _ _).symm (OwnV.leaf (RdN.nil0 _) (fun b off e => by cases e)) (below3 HFD.out HNW.out _ _ _))
end Go.Proofs.YtefkhknfjohnaaaGreatDoor
