/- Contracts of the model's functions on hexadecimal digits. Contracts of strings.Builder as this program holds it: copyCheck, WriteByte. The contract of the program's FormatHex. Contracts of the model's BigEndian and LittleEndian. Contract of the model's ParseHex. Contracts of the program's SumOfBytes and ReadInteger. Contract of the program's ParseHex. -/
import Derived.Test.YtndjefednfcmmaaGreatDoorBytesSpec
import Derived.IntWalk
import Derived.Test.YtndjefednfcmmaaGreatDoorShelf
import Derived.Test.YtndjefednfcmmaaGreatDoorPush
import Derived.Lib.Builder
import Derived.Lib.UnsafeStr
import Derived.WalkKit
import Derived.Laws.Externs
import Derived.Laws.BitsLemmas
import Derived.Laws.MakeOwn
set_option maxRecDepth 100000
namespace Go.Proofs.YtndjefednfcmmaaGreatDoor
open Go Go.RowKit
def hexD (n : Nat) : UInt8 := if n < 10 then UInt8.ofNat (48 + n) else UInt8.ofNat (87 + n)
def hexL : List UInt8 → List UInt8
 | [] => []
 | b :: r => hexD (b.toNat / 16) :: hexD (b.toNat % 16) :: hexL r
theorem hexL_length : ∀ bs : List UInt8, (hexL bs).length = 2 * bs.length
 | [] => rfl
 | b :: r => by simp [hexL, hexL_length r]; omega
theorem hexL_take (bs : List UInt8) : ∀ (k : Nat) (h : k < bs.length), hexL (bs.take (k + 1)) = hexL (bs.take k) ++ [hexD (bs[k].toNat / 16), hexD (bs[k].toNat % 16)] := by
 induction bs with
 | nil => intro k h; simp at h
 | cons b r ih =>
  intro k h
  cases k with
  | zero => simp [hexL]
  | succ k =>
   simp only [List.take_succ_cons, hexL, List.getElem_cons_succ, List.cons_append]
   rw [ih k (by simpa using h)]
def hexText : ByteArray := ⟨#[48, 49, 50, 51, 52, 53, 54, 55, 56, 57, 97, 98, 99, 100, 101, 102]⟩
theorem hexText_at : ∀ p : Fin 16, hexText.extract p.val (p.val + 1) = ⟨#[hexD p.val]⟩ := by decide +kernel
theorem run_digit (p : Nat) (h : p < 16) (W : World) :
  (Instr.slice 9 (.string ⟨#[48, 49, 50, 51, 52, 53, 54, 55, 56, 57, 97, 98, 99, 100, 101, 102]⟩) (some (.int .i64 (p : Int))) (some (.int .i64 ((p : Int) + 1))) none).run Tryz.prog W = .ok (.string ⟨#[hexD p]⟩) W := by
 have e : (⟨#[48, 49, 50, 51, 52, 53, 54, 55, 56, 57, 97, 98, 99, 100, 101, 102]⟩ : ByteArray) = hexText := rfl
 have hz : hexText.size = 16 := rfl
 rw [e, run_slice_string _ _ _ _ _ _ _ Tryz.underlying9 (by omega) (by omega) (by rw [hz]; omega)]
 have h1 := hexText_at ⟨p, h⟩
 rw [show ((p : Int)).toNat = p by omega, show ((p : Int) + 1).toNat = p + 1 by omega, h1]
theorem add_last (W : World) (l : List UInt8) (c : UInt8) (h : l.length ≤ 4611686018427387904) :
  (Op.stringOp .add ⟨l.toArray⟩ ⟨#[c]⟩).run Tryz.prog W = .ok (.string ⟨(l ++ [c]).toArray⟩) W := by
 have e1 : (⟨l.toArray⟩ : ByteArray).size = l.length := by simp [ByteArray.size]
 have e2 : (⟨#[c]⟩ : ByteArray).size = 1 := rfl
 rw [run_string_add_sum W _ _ (by omega), show (⟨#[c]⟩ : ByteArray) = ⟨[c].toArray⟩ from rfl, ByteArray.mk_append_mk]
theorem fmthex_spec (a : Option Addr) (bs : List UInt8) (cap : Nat) (w : World) (hl : bs.length ≤ 1099511627776) (h : Rd a bs w) :
  Calls Tryz.prog 105 #[.slice a bs.length cap] w fun e w' => e = .returned (.string ⟨(hexL bs).toArray⟩) ∧ ∃ n, w' = w.drewN n := by
 have H := Lib.hid h
 clear h
 go_enter Tryz.func105, Tryz.ntmps105
 go_wp2
 go_loopw [4, 5, 6, 7] (fun s i _ _ W => ∃ k n : Nat, k ≤ bs.length ∧ i = .int .i64 k ∧ s = .string ⟨(hexL (bs.take k)).toArray⟩ ∧ W = w.drewN n) (fun _ i _ _ _ => bs.length - (intOf i).toNat)
 case atStart => exact ⟨0, 0, Nat.zero_le _, rfl, rfl, rfl⟩
 case round =>
  obtain ⟨k, n, hk, rfl, rfl, rfl⟩ := hrel
  have k0 : (0 : Int) ≤ (k : Int) := by omega
  by_cases hlt : k < bs.length
  ·obtain ⟨b, off, rfl, hc⟩ := H.out k hlt
   have k1 : (k : Int) < (bs.length : Int) := by omega
   have hx := bs[k].toNat_lt
   have HN := Lib.hid (hexL_take bs k hlt)
   have hlen : (hexL (bs.take k)).length ≤ 4398046511104 := by rw [hexL_length, List.length_take]; omega
   obtain ⟨p, hp⟩ : ∃ p : Nat, (bs[k].toNat : Int) / 16 = (p : Int) := ⟨bs[k].toNat / 16, by omega⟩
   obtain ⟨q, hq⟩ : ∃ q : Nat, (bs[k].toNat : Int) % 16 = (q : Int) := ⟨bs[k].toNat % 16, by omega⟩
   have HP := Lib.hid (show bs[k].toNat / 16 = p by omega)
   have HQ := Lib.hid (show bs[k].toNat % 16 = q by omega)
   have p1 : p < 16 := by omega
   have q1 : q < 16 := by omega
   have hw1 : IntKind.i64.wrap ((p : Int) + 1) = (p : Int) + 1 := IntWalk.i64_in _ (by omega)
   have hw2 : IntKind.i64.wrap ((q : Int) + 1) = (q : Int) + 1 := IntWalk.i64_in _ (by omega)
   have hd1 := run_digit p p1
   have hd2 := run_digit q q1
   have ha1 := fun W => add_last W (hexL (bs.take k)) (hexD p) (by omega)
   have ha2 := fun W => add_last W (hexL (bs.take k) ++ [hexD p]) (hexD q) (by simp; omega)
   go_wp2
   go_quiet (fail)
   clear hw1 hw2 hd1 hd2 ha1 ha2
   go_wp2
   go_roundw
   case rel => exact ⟨k + 1, _, by omega, by go_num, by rw [HN.out, HP.out, HQ.out], rfl⟩
   case measure => simp [intOf]; omega
  ·have k1 : ¬ (k : Int) < (bs.length : Int) := by omega
   go_wp2
   go_ret
   exact ⟨ret_str (by rw [List.take_of_length_le (by omega)]), _, rfl⟩
theorem sizeBuilder : (Tryz.prog.info? 43).map (·.size) = some 2 := by kernel_rfl
theorem liesBuilder : liesAt Tryz.prog Tryz.prog.depth 43 (2 / Tryz.prog.cellsOf 43) 0 43 1 = true := by kernel_rfl
theorem check_used (b : Nat) (w : World) (h0 : w.cell? ⟨b, 0, none⟩ = some (.pointer (some ⟨b, 0, none⟩))) :
  Calls Tryz.prog 43 #[.pointer (some ⟨b, 0, none⟩)] w fun e w' => e = .returned (.tuple #[]) ∧ w' = w := by
 obtain ⟨j, hj, _⟩ := Option.map_eq_some_iff.1 sizeBuilder
 go_enter Tryz.func43, Tryz.ntmps43
 go_wp2
 rw [Lib.run_neq_ptr_same w _ Tryz.underlying41 hj]
 go_wp2
 go_end0
 exact ⟨rfl, rfl⟩
theorem check_fresh (b : Nat) (w : World) (h0 : w.cell? ⟨b, 0, none⟩ = some (.pointer none)) (hsh : w.shape? b = some (43, 2)) (hfz : w.frozen? ⟨b, 0, none⟩ = false) :
  Calls Tryz.prog 43 #[.pointer (some ⟨b, 0, none⟩)] w fun e w' => e = .returned (.tuple #[]) ∧ w' = w.setCell ⟨b, 0, none⟩ (.pointer (some ⟨b, 0, none⟩)) := by
 obtain ⟨j, hj, hjs⟩ := Option.map_eq_some_iff.1 sizeBuilder
 go_enter Tryz.func43, Tryz.ntmps43
 go_wp2
 rw [Lib.run_to_unsafe w ⟨b, 0, none⟩ Tryz.underlying41 Tryz.underlying96 hj (by rw [hjs]; decide) hsh (Nat.zero_lt_succ 1)]
 simp only [Result.andThen]
 rw [Oper.upon_value]
 go_wp2
 rw [run_callFunc_extern Tryz.func84 (by kernel_rfl) (by kernel_rfl) (by kernel_rfl) (e := Extern.AbiNoEscape.same) (by kernel_rfl)]
 rw [Lib.run_noEscape]
 simp only [Result.andThen]
 rw [Oper.upon_value]
 go_wp2
 rw [Lib.run_from_unsafe w ⟨b, 0, none⟩ Tryz.underlying96 Tryz.underlying41 hj hsh liesBuilder]
 simp only [Result.andThen]
 rw [Oper.upon_value]
 go_wp2
 go_end0
 exact ⟨rfl, rfl⟩
def Bld (B b : Nat) (l : List UInt8) (w : World) : Prop := Lib.IsBuilder 43 5 B b (Lib.byteCells l) w
theorem check_any (B b : Nat) (l : List Value) (w : World) (h : Lib.IsBuilder 43 5 B b l w) :
  Calls Tryz.prog 43 #[.pointer (some ⟨b, 0, none⟩)] w fun e w' => e = .returned (.tuple #[]) ∧ Lib.BuilderAt 43 5 B b (.pointer (some ⟨b, 0, none⟩)) l w' ∧ Below B w w' := by
 rcases h with h | h
 ·refine (check_fresh b w h.cell0 h.shape h.frozen0).mono ?_
  rintro e w' ⟨rfl, rfl⟩
  exact ⟨rfl, h.used _, (Below.refl B w).setCell (p := ⟨b, 0, none⟩) h.1 _⟩
 ·refine (check_used b w h.cell0).mono ?_
  rintro e w' ⟨rfl, rfl⟩
  exact ⟨rfl, h, Below.refl B _⟩
set_option maxHeartbeats 1000000 in
theorem writeByte (B b : Nat) (l : List UInt8) (c : UInt8) (w : World) (h : Bld B b l w) (hlen : l.length + 1 ≤ 140737488355328) (hBw : B ≤ w.heap.size) :
  Calls Tryz.prog 24 #[.pointer (some ⟨b, 0, none⟩), .int .u8 (c.toNat : Int)] w fun e w' => e = .returned .nilIface ∧ Bld B b (l ++ [c]) w' ∧ Below B w w' := by
 obtain ⟨i0, hi, hz0, hz1, hz2⟩ := infoParts
 have hll : (Lib.byteCells l).length = l.length := by simp [Lib.byteCells]
 have hne5 : (43 : TypeId) ≠ 5 := by decide
 go_enter Tryz.func24, Tryz.ntmps24
 go_wp2_with fail
 refine (check_any B b (Lib.byteCells l) _ h).mono ?_
 rintro e w1 ⟨rfl, h1, hb1⟩
 obtain ⟨hB, v, hbk, hown, hne⟩ := h1
 have c0 : w1.cell? ⟨b, 0, none⟩ = some (.pointer (some ⟨b, 0, none⟩)) := by rw [Lib.cell_of_heap hbk]; rfl
 have c1 : w1.cell? ⟨b, 1, none⟩ = some v := by rw [Lib.cell_of_heap hbk]; rfl
 have HK := Lib.hid hbk
 have HO := Lib.hid hown
 have HN := Lib.hid hne
 have H1 := Lib.hid hb1
 have HH := Lib.hid h
 clear hbk hown hne hb1 h
 go_wp2_with (at_builtin; refine wpList_append_own _ rfl _ _ 22 rfl B 5 i0 (.int .u8 0) 1 1 Tryz.underlying22 hi hz0 hz1 hz2 rfl (by decide) _ _ _ rfl (HO.out.alloc _) ⟨w1.heap.size, 0, none⟩ 1 1 [.int .u8 (c.toNat : Int)] rfl rfl ?c1 ?c2 ?c3 ?c4 ?c5 ?_)
 case c1 =>
  intro j u hj
  match j, hj with
  | 0, hj => simp at hj; subst hj; simp [Addr.add]
 case c2 => intro u hu; simp at hu; subst hu; rfl
 case c3 => unfold maxLen; omega
 case c4 => omega
 case c5 => have := H1.out.size; simp; omega
 intro v' w2 hown' hgrow _
 have hlt : b < w1.heap.size := cell_lt c0
 have hb2 : w2.heap[b]? = some (.cells #[.pointer (some ⟨b, 0, none⟩), v] 43 (0, 0)) := by
  rw [hgrow.block b (by simp; omega) (fun e => HN.out e.symm), Lib.alloc_old w1 _ b hlt]
  exact HK.out
 have d0 : w2.cell? ⟨b, 0, none⟩ = some (.pointer (some ⟨b, 0, none⟩)) := by rw [Lib.cell_of_heap hb2]; rfl
 have d1 : w2.cell? ⟨b, 1, none⟩ = some v := by rw [Lib.cell_of_heap hb2]; rfl
 have f1 : w2.frozen? ⟨b, 1, none⟩ = false := Lib.frozen_of_heap hb2 1
 obtain ⟨g, cap, rfl⟩ : ∃ g cap, v' = .slice (some ⟨g, 0, none⟩) (l.length + 1) cap := by
  rcases hown'.2 with ⟨_, h0⟩ | ⟨g, cap, cur, hv, _⟩
  ·omega
  ·exact ⟨g, cap, hv⟩
 have P1 := Lib.hid (Lib.BuilderAt.put (T := 43) (e := 5) hB hb2 (bs' := Lib.byteCells l ++ [.int .u8 (c.toNat : Int)]) (by simpa [hll] using hown') hne5)
 have P2 := Lib.hid (((H1.out.alloc (by have := H1.out.size; omega) _).grown hgrow (by have := H1.out.size; simp; omega) (fun k hk => (HO.out.lt k hk).1)).setCell (p := ⟨b, 1, none⟩) hB (.slice (some ⟨g, 0, none⟩) (l.length + 1) cap))
 clear hown' hgrow hb2
 go_wp2
 go_ret
 refine ⟨rfl, .inr ?_, P2.out⟩
 have e1 : Lib.byteCells (l ++ [c]) = Lib.byteCells l ++ [.int .u8 (c.toNat : Int)] := by simp [Lib.byteCells]
 rw [e1]
 exact P1.out
def RelF (bs : List UInt8) (w : World) (i : Value) (W : World) : Prop :=
 ∃ k : Nat, k ≤ bs.length ∧ i = .int .i64 k ∧ Hid (Bld w.heap.size w.heap.size (hexL (bs.take k)) W) ∧ Hid (Below w.heap.size w W)
theorem hexAt_fin : ∀ p : Fin 16, hexText.data[p.val]! = hexD p.val := by decide +kernel
theorem hexT_at (p : Nat) (h : p < (⟨#[48, 49, 50, 51, 52, 53, 54, 55, 56, 57, 97, 98, 99, 100, 101, 102]⟩ : ByteArray).size) : (⟨#[48, 49, 50, 51, 52, 53, 54, 55, 56, 57, 97, 98, 99, 100, 101, 102]⟩ : ByteArray)[p] = hexD p := by
 have h2 : p < 16 := h
 have h3 := hexAt_fin ⟨p, h2⟩
 rw [← h3]
 exact (getElem!_pos hexText.data p h).symm
set_option maxHeartbeats 1000000 in
theorem fmthex_impl (a : Option Addr) (bs : List UInt8) (cap : Nat) (w : World) (hl : bs.length ≤ 1099511627776) (h : Rd a bs w) :
  Calls Tryz.prog 86 #[.slice a bs.length cap] w fun e w' => e = .returned (.string ⟨(hexL bs).toArray⟩) ∧ Below w.heap.size w w' := by
 have H := Lib.hid h
 clear h
 go_enter Tryz.func86, Tryz.ntmps86
 go_wp2_with fail
 go_loopw [5, 8] (fun _ i W => RelF bs w i W) (fun _ i _ => bs.length - (intOf i).toNat)
 case atStart => exact ⟨0, Nat.zero_le _, rfl, Lib.fresh_isBuilder _ _ w, (Below.refl _ _).alloc (Nat.le_refl _) _⟩
 case round =>
  obtain ⟨k, hk, rfl, hB, hb⟩ := hrel
  have k0 : (0 : Int) ≤ (k : Int) := by omega
  by_cases hlt : k < bs.length
  ·obtain ⟨b, off, rfl, hc0⟩ := H.out k hlt
   have hc : wr.cell? ⟨b, off + k, none⟩ = some (.int .u8 (bs[k].toNat : Int)) := (hb.out.cell (cell_lt hc0)).trans hc0
   clear hc0
   have k1 : (k : Int) < (bs.length : Int) := by omega
   have hx := bs[k].toNat_lt
   have HN := Lib.hid (hexL_take bs k hlt)
   have hlen : (hexL (bs.take k)).length ≤ 4398046511104 := by rw [hexL_length, List.length_take]; omega
   generalize bs[k].toNat = c at *
   have ha := u8_and15 (c : Int) (by omega) (by omega)
   go_wp2_with fail
   rw [hexT_at]
   refine (writeByte w.heap.size w.heap.size _ (hexD (c / 16)) _ hB.out (by omega) hb.out.size).mono ?_
   rintro e w1 ⟨rfl, hB1, hb1⟩
   have HB1 := Lib.hid hB1
   have Hb1 := Lib.hid (hb.out.trans hb1)
   clear hB1 hb1 hB hb
   go_wp2_with fail
   rw [hexT_at]
   refine (writeByte w.heap.size w.heap.size _ (hexD (c % 16)) _ HB1.out (by simp; omega) Hb1.out.size).mono ?_
   rintro e w2 ⟨rfl, hB2, hb2⟩
   have HB2 := Lib.hid hB2
   have Hb2 := Lib.hid (Hb1.out.trans hb2)
   clear hB2 hb2 HB1 Hb1
   go_wp2_with fail
   go_roundw
   case rel => exact ⟨k + 1, by omega, by go_num, by rw [HN.out]; have h2 := HB2.out; rw [List.append_assoc] at h2; exact h2, Hb2.out⟩
   case measure => simp [intOf]; omega
  ·have k1 : ¬ (k : Int) < (bs.length : Int) := by omega
   obtain rfl : k = bs.length := by omega
   have hb2 := hB.out
   rw [List.take_of_length_le (Nat.le_refl _)] at hb2
   have HB2 := Lib.hid hb2
   clear hB hb2
   go_wp2_with fail
   refine (Tryz.Builder_String_any w.heap.size w.heap.size (hexL bs) _ HB2.out hb.out.size).mono ?_
   rintro e w1 ⟨rfl, hb1⟩
   have HB3 := Lib.hid (hb.out.trans hb1)
   clear hb1
   go_wp2_with fail
   go_ret
   exact ⟨rfl, HB3.out⟩
theorem bv_of (y : Nat) (z : Int) (h : z = ((y % 256 : Nat) : Int)) : Value.int .u8 z = bv (UInt8.ofNat y) := by
 unfold bv; rw [UInt8.toNat_ofNat', h]
def hexV (c : UInt8) : Int := if 48 ≤ c.toNat ∧ c.toNat ≤ 57 then (c.toNat : Int) - 48 else if 97 ≤ c.toNat ∧ c.toNat ≤ 102 then (c.toNat : Int) - 87 else -1
theorem hexV_bounds (c : UInt8) : -1 ≤ hexV c ∧ hexV c ≤ 15 := by
 unfold hexV
 by_cases h1 : 48 ≤ c.toNat ∧ c.toNat ≤ 57
 ·rw [if_pos h1]; omega
 ·rw [if_neg h1]
  by_cases h2 : 97 ≤ c.toNat ∧ c.toNat ≤ 102
  ·rw [if_pos h2]; omega
  ·rw [if_neg h2]; omega
def unhex : List UInt8 → Option (List UInt8)
 | [] => some []
 | [_] => none
 | a :: b :: r => if 0 ≤ hexV a ∧ 0 ≤ hexV b then (unhex r).map (UInt8.ofNat (hexV a * 16 + hexV b).toNat :: ·) else none
theorem dig_spec (c : UInt8) (w : World) : Calls Tryz.prog 142 #[.int .u8 (c.toNat : Int)] w fun e w' => e = .returned (.int .i64 (hexV c)) ∧ w = w' := by
 have hc := c.toNat_lt
 have hv : Hid (hexV c = if 48 ≤ c.toNat ∧ c.toNat ≤ 57 then (c.toNat : Int) - 48 else if 97 ≤ c.toNat ∧ c.toNat ≤ 102 then (c.toNat : Int) - 87 else -1) := rfl
 by_cases h1 : 48 ≤ c.toNat
 ·by_cases h2 : c.toNat ≤ 57
  ·have g1 : (48 : Int) ≤ (c.toNat : Int) := by omega
   have g2 : (c.toNat : Int) ≤ 57 := by omega
   go_enter Tryz.func142, Tryz.ntmps142
   go_wp2
   go_ret
   exact ⟨ret_int (by rw [hv.out, if_pos ⟨h1, h2⟩]), rfl⟩
  ·have g1 : (48 : Int) ≤ (c.toNat : Int) := by omega
   have g2 : ¬ (c.toNat : Int) ≤ 57 := by omega
   by_cases h3 : 97 ≤ c.toNat
   ·have g3 : (97 : Int) ≤ (c.toNat : Int) := by omega
    by_cases h4 : c.toNat ≤ 102
    ·have g4 : (c.toNat : Int) ≤ 102 := by omega
     go_enter Tryz.func142, Tryz.ntmps142
     go_wp2
     go_ret
     exact ⟨ret_int (by rw [hv.out, if_neg (by omega), if_pos ⟨h3, h4⟩]; omega), rfl⟩
    ·have g4 : ¬ (c.toNat : Int) ≤ 102 := by omega
     go_enter Tryz.func142, Tryz.ntmps142
     go_wp2
     go_ret
     exact ⟨ret_int (by rw [hv.out, if_neg (by omega), if_neg (by omega)]), rfl⟩
   ·have g3 : ¬ (97 : Int) ≤ (c.toNat : Int) := by omega
    go_enter Tryz.func142, Tryz.ntmps142
    go_wp2
    go_ret
    exact ⟨ret_int (by rw [hv.out, if_neg (by omega), if_neg (by omega)]), rfl⟩
 ·have g1 : ¬ (48 : Int) ≤ (c.toNat : Int) := by omega
  have g3 : ¬ (97 : Int) ≤ (c.toNat : Int) := by omega
  go_enter Tryz.func142, Tryz.ntmps142
  go_wp2
  go_ret
  exact ⟨ret_int (by rw [hv.out, if_neg (by omega), if_neg (by omega)]), rfl⟩
def BytesOkOut (bs : List UInt8) (ok : Bool) (w : World) (e : Ending) (w' : World) : Prop :=
 ∃ a cap, e = .returned (.tuple #[.slice a bs.length cap, .bool ok]) ∧ Row w.heap.size a bs cap w' ∧ Below w.heap.size w w'
def parseHexOf (l : List UInt8) : List UInt8 × Bool := match unhex l with
 | some bs => (bs, true)
 | none => ([], false)
theorem unhex_odd : ∀ (n : Nat) (l : List UInt8), l.length = 2 * n + 1 → unhex l = none
 | 0, l, h => by
  match l, h with
  | [a], _ => rfl
 | n + 1, l, h => by
  match l, h with
  | a :: b :: r, h =>
   have hr := unhex_odd n r (by simp at h; omega)
   simp [unhex, hr]
theorem bytes_len (s : ByteArray) : s.data.toList.length = s.size := by show s.data.toList.length = s.data.size; simp
def RelX (s : ByteArray) (w : World) (v i : Value) (W : World) : Prop :=
 ∃ (p : Nat) (acc : List UInt8), p ≤ s.size ∧ Hid (p % 2 = 0) ∧ acc.length ≤ p ∧ i = .int .i64 (p : Int) ∧ Hid (unhex s.data.toList = (unhex (s.data.toList.drop p)).map (acc ++ ·)) ∧ Hid (OwnB w.heap.size v acc W) ∧ Hid (Below w.heap.size w W)
theorem unhex_start (l : List UInt8) : unhex l = (unhex (l.drop 0)).map ([] ++ ·) := by
 simp only [List.drop_zero, List.nil_append]
 cases unhex l <;> rfl
theorem hex_some {s : ByteArray} {acc : List UInt8} {v : Value} {w W : World} {p : Nat} (hp : s.size ≤ p) (h : unhex s.data.toList = (unhex (s.data.toList.drop p)).map (acc ++ ·)) (hown : OwnB w.heap.size v acc W) (hb : Below w.heap.size w W) :
  BytesOkOut (parseHexOf s.data.toList).1 (parseHexOf s.data.toList).2 w (.returned (.tuple #[v, .bool true])) W := by
 rw [List.drop_of_length_le (by rw [bytes_len]; exact hp)] at h
 have e : unhex s.data.toList = some acc := by rw [h]; simp [unhex]
 unfold parseHexOf
 rw [e]
 obtain ⟨a, cap, rfl, hf⟩ := hown.row
 exact ⟨a, cap, rfl, hf, hb⟩
theorem ownB_push {x : UInt8} {acc : List UInt8} {v v' : Value} {w W W2 : World} {o : Obj} (hown : OwnB w.heap.size v acc W) (hb : Below w.heap.size w W)
  (hown' : W2.ownsRow w.heap.size 5 1 v' (acc.length + 1) (acc.map bv ++ [bv x])) (hg : (W.alloc o).grownBy W2 v.ownBlock) : OwnB w.heap.size v' (acc ++ [x]) W2 ∧ Below w.heap.size w W2 := by
 refine ⟨?_, ?_⟩
 ·unfold OwnB; simpa using hown'
 ·exact (hb.alloc hb.size o).grown hg (by have := hb.size; simp; omega) fun k hk => (World.ownsRow.lt (w := W) hown k hk).1
theorem drop_two (s : ByteArray) (k : Nat) (h : k + 1 < s.size) : s.data.toList.drop k = s[k] :: s[k + 1] :: s.data.toList.drop (k + 2) := by
 have h1 : k < s.data.toList.length := by rw [bytes_len]; omega
 have h2 : k + 1 < s.data.toList.length := by rw [bytes_len]; omega
 rw [List.drop_eq_getElem_cons h1, List.drop_eq_getElem_cons h2]
 rfl
theorem unhex_step {l r acc : List UInt8} {a b : UInt8} (h : unhex l = (unhex (a :: b :: r)).map (acc ++ ·)) (ha : 0 ≤ hexV a) (hb : 0 ≤ hexV b) :
  unhex l = (unhex r).map ((acc ++ [UInt8.ofNat (hexV a * 16 + hexV b).toNat]) ++ ·) := by
 rw [h, unhex, if_pos ⟨ha, hb⟩]
 cases unhex r <;> simp
theorem unhex_bad {l r acc : List UInt8} {a b : UInt8} (h : unhex l = (unhex (a :: b :: r)).map (acc ++ ·)) (hn : ¬ (0 ≤ hexV a ∧ 0 ≤ hexV b)) : unhex l = none := by
 rw [h, unhex, if_neg hn]; rfl
theorem hex_none {s : ByteArray} {w W : World} (h : unhex s.data.toList = none) (hb : Below w.heap.size w W) :
  BytesOkOut (parseHexOf s.data.toList).1 (parseHexOf s.data.toList).2 w (.returned (.tuple #[.slice (some ⟨W.heap.size, 0, none⟩) 0 0, .bool false])) (W.alloc (.cells #[] 5)) := by
 unfold parseHexOf
 rw [h]
 exact ⟨_, _, rfl, ⟨.inl rfl, Nat.le_refl _, (fun e => by cases e)⟩, hb.alloc hb.size _⟩
set_option maxHeartbeats 2000000 in
theorem parsehex_spec (s : ByteArray) (w : World) (hs : s.size ≤ 1099511627776) :
  Calls Tryz.prog 125 #[.string s] w (BytesOkOut (parseHexOf s.data.toList).1 (parseHexOf s.data.toList).2 w) := by
 obtain ⟨i0, hi, hz0, hz1, hz2⟩ := infoParts
 by_cases hodd : s.size % 2 = 1
 ·have hn := Lib.hid (hex_none (w := w) (unhex_odd (s.size / 2) s.data.toList (by rw [bytes_len]; omega)) (Below.refl _ _))
  have g1 : (((s.size : Int) % 2) != 0) = true := by simp; omega
  clear hodd
  go_enter Tryz.func125, Tryz.ntmps125
  go_wp2
  go_ret2
  exact hn.out
 ·have g1 : (((s.size : Int) % 2) != 0) = false := by simp; omega
  obtain ⟨h, hh⟩ : ∃ h : Nat, s.size = 2 * h := ⟨s.size / 2, by omega⟩
  have HH := Lib.hid hh
  have he1 : s.size ≤ 2 * h := by omega
  have he2 : 2 * h ≤ s.size := by omega
  clear hodd hh
  go_enter Tryz.func125, Tryz.ntmps125
  go_wp2
  clear g1
  go_loopw [4, 5, 6, 7] (fun v i _ _ W => RelX s w v i W) (fun _ i _ _ _ => s.size - (intOf i).toNat)
  case atStart => exact ⟨0, [], by omega, rfl, Nat.le_refl _, rfl, unhex_start _, OwnB.start w, (Below.refl _ _).alloc (Nat.le_refl _) _⟩
  case round =>
   obtain ⟨p, acc, hp, hev, hal, rfl, hu, hown, hb⟩ := hrel
   have p0 : (0 : Int) ≤ (p : Int) := by omega
   by_cases hlt : p < s.size
   ·have hlt1 : p + 1 < s.size := by have h1 := hev.out; have h2 := HH.out; omega
    have p1 : (p : Int) < (s.size : Int) := by omega
    have p2 : (p : Int) + 1 < (s.size : Int) := by omega
    have hu' := hu.out
    rw [drop_two s p hlt1] at hu'
    have HU := Lib.hid hu'
    have ba := hexV_bounds s[p]
    have bb := hexV_bounds s[p + 1]
    clear hu hu'
    go_wp2_with fail
    refine (dig_spec s[p] _).mono ?_
    rintro e w1 ⟨rfl, rfl⟩
    go_wp2_with fail
    refine (dig_spec s[p + 1] _).mono ?_
    rintro e w1 ⟨rfl, rfl⟩
    obtain ⟨a0, a1⟩ := ba
    obtain ⟨b0, b1⟩ := bb
    by_cases ha : 0 ≤ hexV s[p]
    ·have ga : decide (hexV s[p] < 0) = false := by simp; omega
     by_cases hb2 : 0 ≤ hexV s[p + 1]
     ·have gb : decide (hexV s[p + 1] < 0) = false := by simp; omega
      have HN := Lib.hid (unhex_step HU.out ha hb2)
      clear HU
      generalize hexV s[p] = x at *
      generalize hexV s[p + 1] = y at *
      go_wp2_with (at_builtin; refine wpList_append_own _ rfl _ _ 22 rfl w.heap.size 5 i0 (.int .u8 0) 1 1 Tryz.underlying22 hi hz0 hz1 hz2 rfl (by decide) _ _ _ rfl (World.ownsRow.alloc hown.out _) ⟨wr.heap.size, 0, none⟩ 1 1 [.int .u8 (x * 16 + y)] rfl rfl ?c1 ?c2 ?c3 ?c4 ?c5 ?_)
      case c1 =>
       intro j u hj
       match j, hj with
       | 0, hj => simp at hj; subst hj; simp [Addr.add]
      case c2 => intro u hu; simp at hu; subst hu; rfl
      case c3 => unfold maxLen; omega
      case c4 => omega
      case c5 => have := hb.out.size; simp; omega
      ·intro v' w2 hown' hgrow _
       rw [bv_of (x * 16 + y).toNat _ (by omega)] at hown'
       obtain ⟨R1, R2⟩ := ownB_push hown.out hb.out hown' hgrow
       have HR1 := Lib.hid R1
       have HR2 := Lib.hid R2
       clear hown' hgrow R1 R2
       go_wp2
       go_roundw
       case rel => exact ⟨p + 2, _, by omega, by have := hev.out; show (p + 2) % 2 = 0; omega, by simp; omega, by go_num, HN.out, HR1.out, HR2.out⟩
       case measure => simp [intOf]; omega
     ·have gb : decide (hexV s[p + 1] < 0) = true := by simp; omega
      have HX := Lib.hid (hex_none (unhex_bad HU.out (fun h => hb2 h.2)) hb.out)
      go_wp2
      go_ret2
      exact HX.out
    ·have ga : decide (hexV s[p] < 0) = true := by simp; omega
     have HX := Lib.hid (hex_none (unhex_bad HU.out (fun h => ha h.1)) hb.out)
     go_wp2
     go_ret2
     exact HX.out
   ·have p1 : ¬ (p : Int) < (s.size : Int) := by omega
    go_wp2
    go_ret2
    exact hex_some (by omega) hu.out hown.out hb.out
theorem unhex_length : ∀ (n : Nat) (l bs : List UInt8), l.length ≤ n → unhex l = some bs → bs.length ≤ l.length
 | _, [], bs, _, h => by
  simp only [unhex, Option.some.injEq] at h
  subst h; simp
 | _, [_], bs, _, h => by simp [unhex] at h
 | 0, a :: b :: r, bs, hn, h => by simp at hn
 | n + 1, a :: b :: r, bs, hn, h => by
  rw [unhex] at h
  by_cases hab : 0 ≤ hexV a ∧ 0 ≤ hexV b
  ·rw [if_pos hab] at h
   cases hr : unhex r with
   | none => simp [hr] at h
   | some cs =>
    have := unhex_length n r cs (by simp at hn; omega) hr
    simp only [hr, Option.map_some, Option.some.injEq] at h
    subst h
    simp; omega
  ·rw [if_neg hab] at h; cases h
theorem parseHexOf_length (s : ByteArray) : (parseHexOf s.data.toList).1.length ≤ s.size := by
 unfold parseHexOf
 cases h : unhex s.data.toList with
 | none => simp
 | some bs =>
  have := unhex_length _ _ _ (Nat.le_refl _) h
  rw [bytes_len] at this
  exact this
theorem or_hi (x y : Int) (i : Nat) (hx0 : 0 ≤ x) (hx : x % 2 ^ i = 0) (hx1 : x < 4611686018427387904) (hy0 : 0 ≤ y) (hy : y < 2 ^ i) (hy1 : y < 4611686018427387904) : bits .or .i64 x y = x + y :=
 bits_join .i64 62 (by decide) (fun n h0 h1 => by rw [IntKind.wrap_i64]; omega) i x y hx0 hx (by omega) hy0 hy (by omega)
theorem idx_fin : ∀ c : Fin 256, Lib.indexByte [48, 49, 50, 51, 52, 53, 54, 55, 56, 57, 97, 98, 99, 100, 101, 102] (UInt8.ofNat c.val) = hexV (UInt8.ofNat c.val) := by decide +kernel
theorem idx_hex (c : UInt8) : Lib.indexByte [48, 49, 50, 51, 52, 53, 54, 55, 56, 57, 97, 98, 99, 100, 101, 102] c = hexV c := by
 have h := idx_fin ⟨c.toNat, c.toNat_lt⟩
 simpa using h
theorem hexdig_impl (c : UInt8) (w : World) : Calls Tryz.prog 113 #[.string ⟨#[48, 49, 50, 51, 52, 53, 54, 55, 56, 57, 97, 98, 99, 100, 101, 102]⟩, .int .u8 (c.toNat : Int)] w fun e w' => e = .returned (.int .i64 (hexV c)) ∧ w = w' := by
 refine (Tryz.strings_IndexByte _ _ w).mono ?_
 rintro e w' ⟨rfl, rfl⟩
 refine ⟨?_, rfl⟩
 have e1 : ((c.toNat : Int).toNat.toUInt8) = c := by simp
 rw [e1]
 exact ret_int (idx_hex c)
theorem make_cap (h : Nat) (hh : h ≤ 1099511627776) (W : World) : (Instr.makeSlice 22 (.int .i64 0) (.int .i64 (h : Int))).run Tryz.prog W = .ok (.slice (some ⟨W.heap.size, 0, none⟩) 0 h) (W.alloc (.cells (madeCells #[.int .u8 0] h) 5)) := by
 obtain ⟨i0, hi, hz0, hz1, hz2⟩ := infoParts
 have hr := run_make (P := Tryz.prog) W 22 5 i0 (.int .u8 0) Tryz.underlying22 hi hz0 .i64 .i64 0 (h : Int) (by omega) (by omega) (by rw [hz2]; omega) (by omega)
 rw [hr, hz1]
 simp [Value.cells]
theorem OwnB.made (w : World) (h : Nat) (hh : h ≤ 1099511627776) : OwnB w.heap.size (.slice (some ⟨w.heap.size, 0, none⟩) 0 h) [] (w.alloc (.cells (madeCells #[.int .u8 0] h) 5)) :=
 World.ownsRow_made w _ h (Nat.le_refl _) (by unfold maxLen; omega) (by simp [madeCells])
set_option maxHeartbeats 2000000 in
theorem parsehex_impl (s : ByteArray) (w : World) (hs : s.size ≤ 1099511627776) :
  Calls Tryz.prog 117 #[.string s] w (BytesOkOut (parseHexOf s.data.toList).1 (parseHexOf s.data.toList).2 w) := by
 obtain ⟨i0, hi, hz0, hz1, hz2⟩ := infoParts
 by_cases hodd : s.size % 2 = 1
 ·have hn := Lib.hid (hex_none (w := w) (unhex_odd (s.size / 2) s.data.toList (by rw [bytes_len]; omega)) (Below.refl _ _))
  have g1 : (((s.size : Int) % 2) != 0) = true := by simp; omega
  clear hodd
  go_enter Tryz.func117, Tryz.ntmps117
  go_wp2
  go_ret2
  exact hn.out
 ·have g1 : (((s.size : Int) % 2) != 0) = false := by simp; omega
  obtain ⟨h, hh⟩ : ∃ h : Nat, s.size = 2 * h := ⟨s.size / 2, by omega⟩
  have HH := Lib.hid hh
  have he1 : s.size ≤ 2 * h := by omega
  have he2 : 2 * h ≤ s.size := by omega
  have hq : (s.size : Int) / 2 = (h : Int) := by omega
  have hmk := make_cap h (by omega)
  clear hodd hh
  go_enter Tryz.func117, Tryz.ntmps117
  go_wp2_with fail
  clear g1 hmk hq
  go_loopw [4, 5, 6, 7] (fun v i _ _ W => RelX s w v i W) (fun _ i _ _ _ => s.size - (intOf i).toNat)
  case atStart => exact ⟨0, [], by omega, rfl, Nat.le_refl _, rfl, unhex_start _, OwnB.made w h (by omega), (Below.refl _ _).alloc (Nat.le_refl _) _⟩
  case round =>
   obtain ⟨p, acc, hp, hev, hal, rfl, hu, hown, hb⟩ := hrel
   have p0 : (0 : Int) ≤ (p : Int) := by omega
   by_cases hlt : p < s.size
   ·have hlt1 : p + 1 < s.size := by have h1 := hev.out; have h2 := HH.out; omega
    have p1 : (p : Int) < (s.size : Int) := by omega
    have p2 : (p : Int) + 1 < (s.size : Int) := by omega
    have hu' := hu.out
    rw [drop_two s p hlt1] at hu'
    have HU := Lib.hid hu'
    have ba := hexV_bounds s[p]
    have bb := hexV_bounds s[p + 1]
    clear hu hu'
    go_wp2_with fail
    refine (hexdig_impl s[p] _).mono ?_
    rintro e w1 ⟨rfl, rfl⟩
    go_wp2_with fail
    refine (hexdig_impl s[p + 1] _).mono ?_
    rintro e w1 ⟨rfl, rfl⟩
    obtain ⟨a0, a1⟩ := ba
    obtain ⟨b0, b1⟩ := bb
    by_cases ha : 0 ≤ hexV s[p]
    ·have ga : decide (hexV s[p] < 0) = false := by simp; omega
     by_cases hb2 : 0 ≤ hexV s[p + 1]
     ·have gb : decide (hexV s[p + 1] < 0) = false := by simp; omega
      have HN := Lib.hid (unhex_step HU.out ha hb2)
      clear HU
      generalize hexV s[p] = x at *
      generalize hexV s[p + 1] = y at *
      have ho : bits .or .i64 (x * 16) y = x * 16 + y := or_hi _ _ 4 (by omega) (by omega) (by omega) (by omega) (by omega) (by omega)
      go_wp2_with (at_builtin; refine wpList_append_own _ rfl _ _ 22 rfl w.heap.size 5 i0 (.int .u8 0) 1 1 Tryz.underlying22 hi hz0 hz1 hz2 rfl (by decide) _ _ _ rfl (World.ownsRow.alloc hown.out _) ⟨wr.heap.size, 0, none⟩ 1 1 [.int .u8 (x * 16 + y)] rfl rfl ?c1 ?c2 ?c3 ?c4 ?c5 ?_)
      case c1 =>
       intro j u hj
       match j, hj with
       | 0, hj => simp at hj; subst hj; simp [Addr.add]
      case c2 => intro u hu; simp at hu; subst hu; rfl
      case c3 => unfold maxLen; omega
      case c4 => omega
      case c5 => have := hb.out.size; simp; omega
      ·intro v' w2 hown' hgrow _
       rw [bv_of (x * 16 + y).toNat _ (by omega)] at hown'
       obtain ⟨R1, R2⟩ := ownB_push hown.out hb.out hown' hgrow
       have HR1 := Lib.hid R1
       have HR2 := Lib.hid R2
       clear hown' hgrow R1 R2
       go_wp2
       go_roundw
       case rel => exact ⟨p + 2, _, by omega, by have := hev.out; show (p + 2) % 2 = 0; omega, by simp; omega, by go_num, HN.out, HR1.out, HR2.out⟩
       case measure => simp [intOf]; omega
     ·have gb : decide (hexV s[p + 1] < 0) = true := by simp; omega
      have HX := Lib.hid (hex_none (unhex_bad HU.out (fun h => hb2 h.2)) hb.out)
      go_wp2
      go_ret2
      exact HX.out
    ·have ga : decide (hexV s[p] < 0) = true := by simp; omega
     have HX := Lib.hid (hex_none (unhex_bad HU.out (fun h => ha h.1)) hb.out)
     go_wp2
     go_ret2
     exact HX.out
   ·have p1 : ¬ (p : Int) < (s.size : Int) := by omega
    go_wp2
    go_ret2
    exact hex_some (by omega) hu.out hown.out hb.out
end Go.Proofs.YtndjefednfcmmaaGreatDoor
