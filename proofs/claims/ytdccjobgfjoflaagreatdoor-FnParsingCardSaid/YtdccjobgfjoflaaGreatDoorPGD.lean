/- Appending what a slice holds to bytes that the call owns (out of Splice: never import both). Parts of a slice of bytes: from an index on; between two, with no room behind (takeBytes). A slice of bytes between two indexes, with the room behind it. Contracts of the model's functions on hexadecimal digits. Contract of the model's ParseHex. Numbers and hexadecimal digits that are read out of a text, as data. No program is walked here. The contracts of ReadDigits, the model's and the program's. The contracts of ReadTerminated, the model's and the program's. The model's l11Integer. The model's l11Bytes and l11Const. The model's l11Const. -/
import Derived.Test.YtdccjobgfjoflaaGreatDoorPGPu
import Derived.Laws.AppendOwnNone
import Derived.Deep.RegionLaw
import Derived.Test.YtdccjobgfjoflaaGreatDoorPGBase
import Derived.Test.YtdccjobgfjoflaaGreatDoorPGEnd
import Derived.IntWalk
import Derived.Test.YtdccjobgfjoflaaGreatDoorPGNam
import Derived.Test.YtdccjobgfjoflaaGreatDoorPGP
import Derived.Test.YtdccjobgfjoflaaGreatDoorPGV
import Derived.BigQuiet
import Derived.Deep.RegionHeld3
import Derived.Deep.CutRange
import Derived.StillTailTactics
set_option maxRecDepth 100000
namespace Go.Proofs.YtdccjobgfjoflaaGreatDoor
open Go Go.RowKit
def Src1 (a : Option Addr) (bs : List UInt8) (cap : Nat) (w : World) : Prop := Rd a bs w ∧ (a = none → cap = 0)
theorem run_app (base : Nat) (ty : TypeId) (v : Value) (acc cs : List UInt8) (a : Option Addr) (cap : Nat) (w : World) (hown : OwnB base v acc w) (hs : Src1 a cs cap w) (hl : acc.length + cs.length ≤ 1099511627776) (hbase : base ≤ w.heap.size) :
  ∃ v' w', (Builtin.append_ #[22, 22] ty #[v, .slice a cs.length cap]).run Tryz.prog w = .ok v' w' ∧ OwnB base v' (acc ++ cs) w' ∧ w.grownBy w' v.ownBlock := by
 obtain ⟨i0, hi, hz0, hz1, hz2⟩ := infoParts
 rcases a with _ | ad
 ·have hcs : cs = [] := by
   cases cs with
   | nil => rfl
   | cons c r => obtain ⟨b, off, h, _⟩ := hs.1 0 (by simp); cases h
  subst hcs
  obtain rfl := hs.2 rfl
  exact ⟨v, w, run_append_owned_none (P := Tryz.prog) (w := w) base 22 ty 5 i0 1 Tryz.underlying22 hi v acc.length (acc.map bv) hown, by simpa using hown, World.grownBy.refl _ _⟩
 ·obtain ⟨v', w', hr, ho, hg, _⟩ := run_append_own (P := Tryz.prog) w base 22 ty 5 i0 (.int .u8 0) 1 1 Tryz.underlying22 hi hz0 hz1 hz2 rfl (by omega) v acc.length (acc.map bv) hown ad cs.length cap (cs.map bv) (by simp)
   (fun j u hj => by
    have hjl : j < cs.length := by
     rcases Nat.lt_or_ge j cs.length with h | h
     ·exact h
     ·rw [List.getElem?_eq_none (by simpa using h)] at hj; cases hj
    obtain ⟨b, off, hab, hc⟩ := hs.1 j hjl
    injection hab with hab
    subst hab
    rw [Go.WideShapes.add_plain, hc]
    simp [hjl] at hj
    subst hj
    rfl)
   (fun u hu => by
    obtain ⟨b, _, rfl⟩ := List.mem_map.1 hu
    rfl)
   (by unfold maxLen; omega) (by omega) hbase
  refine ⟨v', w', hr, ?_, hg⟩
  unfold OwnB
  rw [List.length_append, List.map_append]
  exact ho
theorem wp_app {ops : Array Oper} {rest : List Oper} {o : Oper} {A : Act} {Q : Exit → Act → World → Prop} (hgd : o.guard = none) (s x : Operand)
  (ho : o.op = .call { callee := .builtin .append, args := #[s, x], argTypes := #[22, 22] })
  (base : Nat) (v : Value) (acc cs : List UInt8) (a : Option Addr) (cap : Nat) (w : World) (hsv : A.eval s = v) (hxv : A.eval x = .slice a cs.length cap)
  (hown : OwnB base v acc w) (hs : Src1 a cs cap w) (hl : acc.length + cs.length ≤ 1099511627776) (hbase : base ≤ w.heap.size)
  (h : ∀ v' w', OwnB base v' (acc ++ cs) w' → w.grownBy w' v.ownBlock → wpList Tryz.prog ops Q rest (A.put o.dst v') w') : wpList Tryz.prog ops Q (o :: rest) A w := by
 refine wpList_plain hgd fun K hK => ?_
 obtain ⟨v', w', hr, h2, h3⟩ := run_app base o.type v acc cs a cap w hown hs hl hbase
 unfold Oper.wp
 simp [execOp, ho, resolve, invoke, builtin, hsv, hxv, hr, Result.andThen]
 exact hK _ _ (h v' w' h2 h3)
theorem step_app {ops : Array Oper} {o : Oper} {A : Act} {w : World} {K : Act → World → Prop} {Q : Exit → Act → World → Prop} {E : Prop} (hgd : o.guard = none) (s x : Operand)
  (ho : o.op = .call { callee := .builtin .append, args := #[s, x], argTypes := #[22, 22] })
  (base : Nat) (v : Value) (acc cs : List UInt8) (a : Option Addr) (cap : Nat) (hsv : A.eval s = v) (hxv : A.eval x = .slice a cs.length cap)
  (hown : OwnB base v acc w) (hs : Src1 a cs cap w) (hl : acc.length + cs.length ≤ 1099511627776) (hbase : base ≤ w.heap.size)
  (h : ∀ v' w', OwnB base v' (acc ++ cs) w' → w.grownBy w' v.ownBlock → K (A.put o.dst v') w') :
  if Region.wanted o (yielded ops A.tmps) = true then Oper.wp Tryz.prog o A w K Q else E := by
 have hw : Region.wanted o (yielded ops A.tmps) = true := by simp [Region.wanted, hgd]
 rw [if_pos hw]
 obtain ⟨v', w', hr, h2, h3⟩ := run_app base o.type v acc cs a cap w hown hs hl hbase
 unfold Oper.wp
 simp [execOp, ho, resolve, invoke, builtin, hsv, hxv, hr, Result.andThen]
 exact h v' w' h2 h3
theorem app_frame {B : Nat} {w W W' : World} {v : Value} {acc : List UInt8} (hb : Below B w W) (hB : B ≤ W.heap.size) (ho : OwnB B v acc W) (hg : W.grownBy W' v.ownBlock) : Below B w W' :=
 hb.grown hg hB fun j hj => (World.ownsRow.lt (w := W) ho j hj).1
theorem Src1.below {a : Option Addr} {bs : List UInt8} {cap : Nat} {w w' : World} (h : Src1 a bs cap w) (hb : Below w.heap.size w w') : Src1 a bs cap w' := ⟨h.1.below hb, h.2⟩
theorem Row.src {B cap : Nat} {a : Option Addr} {bs : List UInt8} {w : World} (h : Row B a bs cap w) : Src1 a bs cap w := ⟨h.rd, h.2.2⟩
def SrcB (a : Option Addr) (bs : List UInt8) (cap : Nat) (w : World) : Prop := Rd a bs w ∧ bs.length ≤ cap ∧ (a = none → cap = 0)
theorem SrcB.below {a : Option Addr} {bs : List UInt8} {cap : Nat} {w w' : World} (h : SrcB a bs cap w) (hb : Below w.heap.size w w') : SrcB a bs cap w' := ⟨h.1.below hb, h.2⟩
theorem Row.srcB {B cap : Nat} {a : Option Addr} {bs : List UInt8} {w : World} (h : Row B a bs cap w) : SrcB a bs cap w := ⟨h.rd, h.2⟩
theorem elem8 : Tryz.prog.underlying 22 = some (.slice (Tryz.prog.elem 22)) := by kernel_rfl
theorem size8 (w : World) : (sizeOf (Tryz.prog.elem 22)).run Tryz.prog w = .ok 1 w := by kernel_rfl
theorem cut_from (a : Option Addr) (bs : List UInt8) (cap m : Nat) (w : World) (hp : m ≤ bs.length) (hs : SrcB a bs cap w) :
  ∃ A C, (∀ W, (Instr.slice 22 (.slice a bs.length cap) (some (.int .i64 (m : Int))) none none).run Tryz.prog W = .ok (.slice A (bs.length - m) C) W) ∧ ∀ W, Rd a bs W → Rd A (bs.drop m) W := by
 have hc := hs.2.1
 refine ⟨if cap = m then a else a.map (·.add (m * 1)), cap - m, fun W => ?_, ?_⟩
 ·rw [run_slice_l W 22 a bs.length cap elem8 .i64 (m : Int) (by omega) (by omega), size8]
  simp [Result.andThen, sliced]
 ·intro W hr j hj
  have hjl : m + j < bs.length := by rw [List.length_drop] at hj; omega
  obtain ⟨b, off, rfl, hcell⟩ := hr (m + j) hjl
  refine ⟨b, off + m, ?_, ?_⟩
  ·rw [if_neg (by omega)]
   simp [Go.WideShapes.add_plain]
  ·rw [Nat.add_assoc, hcell, List.getElem_drop]
theorem cut_part (a : Option Addr) (bs : List UInt8) (cap p q : Nat) (w : World) (hpq : p ≤ q) (hq : q ≤ bs.length) (hs : SrcB a bs cap w) :
  ∃ A, (∀ W, (Instr.slice 22 (.slice a bs.length cap) (some (.int .i64 (p : Int))) (some (.int .i64 (q : Int))) (some (.int .i64 (q : Int)))).run Tryz.prog W = .ok (.slice A (q - p) (q - p)) W) ∧ ∀ W, SrcB a bs cap W → SrcB A ((bs.drop p).take (q - p)) (q - p) W := by
 have hc := hs.2.1
 have hlen : ((bs.drop p).take (q - p)).length = q - p := by rw [List.length_take, List.length_drop]; omega
 refine ⟨if q = p then a else a.map (·.add (p * 1)), fun W => ?_, fun W hr => ⟨?_, by omega, ?_⟩⟩
 ·rw [run_slice_lhm W 22 a bs.length cap elem8 .i64 .i64 .i64 (p : Int) (q : Int) (q : Int) (by omega) (by omega) (by omega) (by omega), size8]
  simp [Result.andThen, sliced]
 ·intro j hj
  have hj2 : j < q - p := by omega
  obtain ⟨b, off, rfl, hcell⟩ := hr.1 (p + j) (by omega)
  refine ⟨b, off + p, ?_, ?_⟩
  ·rw [if_neg (by omega)]
   simp [Go.WideShapes.add_plain]
  ·rw [Nat.add_assoc, hcell, List.getElem_take, List.getElem_drop]
 ·intro h
  by_cases h0 : q = p
  ·omega
  ·rw [if_neg h0] at h
   have := hr.2.2 (by cases a with
    | none => rfl
    | some x => simp at h)
   omega
theorem part_impl (a : Option Addr) (bs : List UInt8) (cap p q : Nat) (w : World) (hpq : p ≤ q) (hq : q ≤ bs.length) (hs : SrcB a bs cap w) :
  ∃ A, (∀ W, Calls Tryz.prog 188 #[.slice a bs.length cap, .int .i64 (p : Int), .int .i64 (q : Int)] W fun e w' => e = .returned (.slice A (q - p) (q - p)) ∧ w' = W) ∧ ∀ W, SrcB a bs cap W → SrcB A ((bs.drop p).take (q - p)) (q - p) W := by
 obtain ⟨A, hr, hs1⟩ := cut_part a bs cap p q w hpq hq hs
 refine ⟨A, fun W => ?_, hs1⟩
 generalize q - p = d at *
 clear hs hs1 hpq hq
 go_enter Tryz.func188, Tryz.ntmps188
 go_wp2
 go_ret
 exact ⟨rfl, rfl⟩
theorem inR_impl (x lo hi : Int) (b : Bool) (w : World) (hb : decide (lo ≤ x ∧ x ≤ hi) = b) :
  Calls Tryz.prog 61 #[.int .i64 x, .int .i64 lo, .int .i64 hi] w fun e w' => e = .returned (.bool b) ∧ w = w' := by
 subst hb
 by_cases ha : lo ≤ x
 ·by_cases hc : x ≤ hi
  ·go_enter Tryz.func61, Tryz.ntmps61
   go_wp2
   go_ret
   exact ⟨ret_bool (decide_eq_true ⟨ha, hc⟩).symm, rfl⟩
  ·have hd : decide (x ≤ hi) = false := by simp [hc]
   go_enter Tryz.func61, Tryz.ntmps61
   go_wp2
   go_ret
   first | exact ⟨rfl, rfl⟩ | exact ⟨ret_bool (decide_eq_false (by omega)).symm, rfl⟩ | exact ⟨ret_bool (by simp; omega), rfl⟩
 ·have hd : decide (lo ≤ x) = false := by simp [ha]
  go_enter Tryz.func61, Tryz.ntmps61
  go_wp2
  go_ret
  first | exact ⟨rfl, rfl⟩ | exact ⟨ret_bool (decide_eq_false (by omega)).symm, rfl⟩ | exact ⟨ret_bool (by simp; omega), rfl⟩
def TermOut (bs : List UInt8) (n : Int) (ok : Bool) (w : World) (e : Ending) (w' : World) : Prop :=
 ∃ a cap, e = .returned (.tuple #[.slice a bs.length cap, .int .i64 n, .bool ok]) ∧ Row w.heap.size a bs cap w' ∧ Below w.heap.size w w'
theorem cellK {B : Nat} {w w' : World} {b i : Nat} {v : Value} (h : Below B w w') (hB : w.heap.size ≤ B) (hc : w.cell? ⟨b, i, none⟩ = some v) : w'.cell? ⟨b, i, none⟩ = some v :=
 (h.cell (p := ⟨b, i, none⟩) (Nat.lt_of_lt_of_le (cell_lt hc) hB)).trans hc
theorem push_own {x : UInt8} {acc : List UInt8} {v v' : Value} {w W W2 : World} {o : Obj} (hown : OwnB w.heap.size v acc W) (hb : Below w.heap.size w W)
  (hown' : W2.ownsRow w.heap.size 5 1 v' (acc.length + 1) (acc.map bv ++ [bv x])) (hg : (W.alloc o).grownBy W2 v.ownBlock) : OwnB w.heap.size v' (acc ++ [x]) W2 ∧ Below w.heap.size w W2 := by
 refine ⟨?_, ?_⟩
 ·unfold OwnB; simpa using hown'
 ·exact (hb.alloc hb.size o).grown hg (by have := hb.size; simp; omega) fun k hk => (World.ownsRow.lt (w := W) hown k hk).1
theorem term_fail {bs : List UInt8} {n : Int} {t : UInt8} {b : Nat} {w W : World} (hbk : b = W.heap.size) (h : termO bs n t = none) (hb : Below w.heap.size w W) : TermOut (termL bs n t) (termN bs n t) (termK bs n t) w (.returned (.tuple #[.slice (some ⟨b, 0, none⟩) 0 0, .int .i64 n, .bool false])) (W.alloc (.cells #[] 5)) := by
 subst hbk
 have e1 : termL bs n t = [] := by unfold termL; rw [h]
 have e2 : termN bs n t = n := by unfold termN; rw [h]
 have e3 : termK bs n t = false := by unfold termK; rw [h]; rfl
 rw [e1, e2, e3]
 exact ⟨_, _, rfl, ⟨.inl rfl, Nat.le_refl _, fun e => by cases e⟩, hb.alloc hb.size _⟩
theorem term_hit {bs : List UInt8} {p k : Nat} {t : UInt8} {acc : List UInt8} {v : Value} {w W : World} {z : Int} (hp : p ≤ bs.length) (h : termR t (bs.drop p) false = some (acc, k - p + 1)) (hz : z = (k : Int) + 1) (hpk : p ≤ k) (hown : OwnB w.heap.size v acc W) (hb : Below w.heap.size w W) :
  TermOut (termL bs p t) (termN bs p t) (termK bs p t) w (.returned (.tuple #[v, .int .i64 z, .bool true])) W := by
 have h0 : termO bs p t = some (acc, k - p + 1) := by unfold termO; rw [if_pos ⟨by omega, by omega⟩, Int.toNat_natCast]; exact h
 have e1 : termL bs p t = acc := by unfold termL; rw [h0]
 have e2 : termN bs p t = (k : Int) + 1 := by unfold termN; rw [h0]; show (p : Int) + ((k - p + 1 : Nat) : Int) = _; omega
 have e3 : termK bs p t = true := by unfold termK; rw [h0]; rfl
 rw [e1, e2, e3, hz]
 obtain ⟨a, cap, rfl, hr⟩ := hown.row
 exact ⟨a, cap, rfl, hr, hb⟩
theorem term_none {bs : List UInt8} {p : Nat} {t : UInt8} (hp : p ≤ bs.length) (h : termR t (bs.drop p) false = none) : termO bs p t = none := by
 unfold termO; rw [if_pos ⟨by omega, by omega⟩, Int.toNat_natCast]; exact h
theorem TermAt.takeY {bs : List UInt8} {p k : Nat} {t y : UInt8} {e : Bool} {acc : List UInt8} (h : TermAt bs p t k e acc) (hp : p ≤ k) (hk : k < bs.length) (hy : y = bs[k]) (hc : e = true ∨ (¬ y = t ∧ ¬ y = 92)) : TermAt bs p t (k + 1) false (acc ++ [y]) := by
 subst hy; exact h.take hp hk hc
theorem TermAt.hitY {bs : List UInt8} {p k : Nat} {t y : UInt8} {acc : List UInt8} (h : TermAt bs p t k false acc) (hk : k < bs.length) (hy : y = bs[k]) (hc : y = t) : termR t (bs.drop p) false = some (acc, k - p + 1) := by
 subst hy; exact h.hit hk hc
theorem TermAt.escY {bs : List UInt8} {p k : Nat} {t y : UInt8} {acc : List UInt8} (h : TermAt bs p t k false acc) (hp : p ≤ k) (hk : k < bs.length) (hy : y = bs[k]) (hc : ¬ y = t) (he : y = 92) : TermAt bs p t (k + 1) true acc := by
 subst hy; exact h.esc hp hk hc he
set_option maxHeartbeats 4000000 in
theorem term_implN (a : Option Addr) (bs : List UInt8) (cap p : Nat) (t : UInt8) (w : World) (hl : bs.length ≤ 1048576) (hp : p ≤ bs.length) (hsrc : SrcB a bs cap w) :
  Calls Tryz.prog 186 #[.slice a bs.length cap, .int .i64 (p : Int), .int .u8 (t.toNat : Int)] w (TermOut (termL bs p t) (termN bs p t) (termK bs p t) w) := by
 obtain ⟨i0, hi, hz0, hz1, hz2⟩ := infoParts
 obtain ⟨A, C, hsl, hA⟩ := cut_from a bs cap p w hp hsrc
 have H := kq (hA w hsrc.1)
 have hin : decide ((0 : Int) ≤ (p : Int) ∧ (p : Int) ≤ (bs.length : Int)) = true := decide_eq_true ⟨by omega, by omega⟩
 have HS := kq (TermAt.start bs p t)
 obtain ⟨m, hm⟩ : ∃ m, m = bs.length - p := ⟨_, rfl⟩
 rw [← hm] at hsl
 have HM := kq hm
 clear hsrc hA hm
 go_enter Tryz.func186, Tryz.ntmps186
 go_wp2_with ((go_at_call 61; refine (inR_impl _ _ _ true _ hin).mono ?_; rintro e wx ⟨rfl, rfl⟩))
 go_loopw [9, 10, 11, 12, 25] (fun v e _ _ i W => ∃ (k : Nat) (acc : List UInt8) (es : Bool), p ≤ k ∧ k ≤ bs.length ∧ i = .int .i64 ((k - p : Nat) : Int) ∧ e = .bool es ∧ acc.length ≤ k ∧ Hid (TermAt bs p t k es acc) ∧ Hid (OwnB w.heap.size v acc W) ∧ Hid (Below w.heap.size w W)) (fun _ _ _ _ i _ => m - (intOf i).toNat)
 case atStart => exact ⟨p, [], false, Nat.le_refl _, hp, by simp, rfl, Nat.zero_le _, HS, OwnB.start w, (Below.refl _ _).alloc (Nat.le_refl _) _⟩
 case round =>
  clear HS
  obtain ⟨k, acc, es, hpk, hkl, rfl, rfl, hal, HT, hown, hb⟩ := hrel
  obtain ⟨j, hj⟩ : ∃ j, j = k - p := ⟨_, rfl⟩
  rw [← hj]
  have j0 : (0 : Int) ≤ (j : Int) := by omega
  have jb : (j : Int) ≤ 1048576 := by omega
  have jp : (p : Int) + (j : Int) ≤ 1048576 := by omega
  by_cases hlt : k < bs.length
  ·have j1 : (j : Int) < (m : Int) := by have := HM.out; omega
   have HJ := kq hj
   have hjl : j < (bs.drop p).length := by rw [List.length_drop]; omega
   obtain ⟨b, off, rfl, hc0⟩ := H.out j hjl
   have hge : (bs.drop p)[j] = bs[k] := by rw [List.getElem_drop]; congr 1; omega
   obtain ⟨y, hy⟩ : ∃ y, y = bs[k] := ⟨_, rfl⟩
   have hc : wr.cell? ⟨b, off + j, none⟩ = some (.int .u8 (y.toNat : Int)) := by rw [hy, ← hge]; exact cellK hb.out (Nat.le_refl _) hc0
   have HBT := kq (y.toNat_lt)
   have HY := kq hy
   clear hc0 hge hjl hy hj
   have HLK := kq hlt
   cases es with
   | true =>
    have HN := kq (HT.out.takeY hpk hlt HY.out (.inl rfl))
    clear HT
    go_wp2_with (at_builtin; refine wpList_append_own _ rfl _ _ 22 rfl w.heap.size 5 i0 (.int .u8 0) 1 1 Tryz.underlying22 hi hz0 hz1 hz2 rfl (by decide) _ _ _ rfl (World.ownsRow.alloc hown.out _) ⟨wr.heap.size, 0, none⟩ 1 1 [.int .u8 (y.toNat : Int)] rfl rfl ?c1 ?c2 ?c3 ?c4 ?c5 ?_)
    case c1 =>
     intro j u hj
     match j, hj with
     | 0, hj => simp at hj; subst hj; simp [Addr.add]
    case c2 => intro u hu; simp at hu; subst hu; rfl
    case c3 => unfold maxLen; omega
    case c4 => omega
    case c5 => have := hb.out.size; simp; omega
    ·intro v' w2 hown' hgrow _
     obtain ⟨R1, R2⟩ := push_own (x := y) hown.out hb.out hown' hgrow
     have HR1 := kq R1
     have HR2 := kq R2
     clear hown' hgrow R1 R2
     go_wp2
     go_roundw
     case rel => exact ⟨k + 1, acc ++ [y], false, by omega, by omega, (by have := HJ.out; go_num), rfl, by simp; omega, HN, HR1, HR2⟩
     case measure => simp [intOf]; have := HM.out; have := HJ.out; omega
   | false =>
    by_cases hx : y = t
    ·have e3 : ((y.toNat : Int) == (t.toNat : Int)) = true := by rw [hx]; simp
     have HX := kq (HT.out.hitY hlt HY.out hx)
     clear hx HT hal
     go_wp2
     go_ret3
     exact term_hit hp HX.out (by have := HJ.out; omega) hpk hown.out hb.out
    ·have e3 : ((y.toNat : Int) == (t.toNat : Int)) = false := by
      rw [beq_eq_false_iff_ne]
      intro h
      exact hx (UInt8.toNat_inj.1 (by omega))
     by_cases h92 : y = 92
     ·have e4 : ((y.toNat : Int) == 92) = true := by rw [h92]; rfl
      have HN := kq (HT.out.escY hpk hlt HY.out hx h92)
      clear hx h92 HT
      go_wp2
      go_roundw
      case rel => exact ⟨k + 1, acc, true, by omega, by omega, (by have := HJ.out; go_num), rfl, by omega, HN, hown, hb⟩
      case measure => simp [intOf]; have := HM.out; have := HJ.out; omega
     ·have e4 : ((y.toNat : Int) == 92) = false := by
       rw [beq_eq_false_iff_ne]
       intro h
       exact h92 (UInt8.toNat_inj.1 (by have h2 : (92 : UInt8).toNat = 92 := rfl; omega))
      have HN := kq (HT.out.takeY hpk hlt HY.out (.inr ⟨hx, h92⟩))
      clear hx h92 HT
      go_wp2_with (at_builtin; refine wpList_append_own _ rfl _ _ 22 rfl w.heap.size 5 i0 (.int .u8 0) 1 1 Tryz.underlying22 hi hz0 hz1 hz2 rfl (by decide) _ _ _ rfl (World.ownsRow.alloc hown.out _) ⟨wr.heap.size, 0, none⟩ 1 1 [.int .u8 (y.toNat : Int)] rfl rfl ?c1 ?c2 ?c3 ?c4 ?c5 ?_)
      case c1 =>
       intro j u hj
       match j, hj with
       | 0, hj => simp at hj; subst hj; simp [Addr.add]
      case c2 => intro u hu; simp at hu; subst hu; rfl
      case c3 => unfold maxLen; omega
      case c4 => omega
      case c5 => have := hb.out.size; simp; omega
      ·intro v' w2 hown' hgrow _
       obtain ⟨R1, R2⟩ := push_own (x := y) hown.out hb.out hown' hgrow
       have HR1 := kq R1
       have HR2 := kq R2
       clear hown' hgrow R1 R2
       go_wp2
       go_roundw
       case rel => exact ⟨k + 1, acc ++ [y], false, by omega, by omega, (by have := HJ.out; go_num), rfl, by simp; omega, HN, HR1, HR2⟩
       case measure => simp [intOf]; have := HM.out; have := HJ.out; omega
  ·have j1 : ¬ (j : Int) < (m : Int) := by have := HM.out; omega
   have HX := kq (term_none hp (HT.out.none (by omega)))
   clear HT hj
   go_wp2
   go_ret3
   exact term_fail (by first | rfl | simp) HX.out hb.out
theorem term_impl (a : Option Addr) (bs : List UInt8) (cap : Nat) (n : Int) (t : UInt8) (w : World) (hl : bs.length ≤ 1048576) (h : SrcB a bs cap w) :
  Calls Tryz.prog 186 #[.slice a bs.length cap, .int .i64 n, .int .u8 (t.toNat : Int)] w (TermOut (termL bs n t) (termN bs n t) (termK bs n t) w) := by
 by_cases hn : 0 ≤ n ∧ n ≤ (bs.length : Int)
 ·obtain ⟨p, rfl⟩ : ∃ p : Nat, n = (p : Int) := ⟨n.toNat, by omega⟩
  exact term_implN a bs cap p t w hl (by omega) h
 ·have HX : Hid (termO bs n t = none) := by show termO bs n t = none; unfold termO; rw [if_neg hn]
  have hin : decide ((0 : Int) ≤ n ∧ n ≤ (bs.length : Int)) = false := decide_eq_false hn
  go_enter Tryz.func186, Tryz.ntmps186
  go_wp2_with ((go_at_call 61; refine (inR_impl _ _ _ false _ hin).mono ?_; rintro e wx ⟨rfl, rfl⟩))
  try go_wp2
  go_ret3
  exact term_fail (by first | rfl | simp) HX.out (Below.refl _ _)
theorem below3 {B Z : Nat} {w W : World} (h : Below B w W) (hZ : B ≤ Z) (u0 u1 u2 : Value) : Below B w (((W.setCell ⟨Z, 0, none⟩ u0).setCell ⟨Z, 1, none⟩ u1).setCell ⟨Z, 2, none⟩ u2) :=
 ((h.setCell (p := ⟨Z, 0, none⟩) hZ _).setCell (p := ⟨Z, 1, none⟩) hZ _).setCell (p := ⟨Z, 2, none⟩) hZ _
theorem RdN.nil0 (w : World) : RdN none [] 0 w := ⟨fun j h => by simp at h, fun _ => rfl⟩
end Go.Proofs.YtdccjobgfjoflaaGreatDoor
