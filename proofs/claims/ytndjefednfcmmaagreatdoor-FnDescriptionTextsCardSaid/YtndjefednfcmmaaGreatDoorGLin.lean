/- Contracts of the model's CutAt, ContainsText, JoinText. Contracts of the program's CutAt, SplitText, JoinText, ContainsText. Contracts of the model's SplitLines and Words. Contracts of the program's SplitLines and Words. Contracts of IsComment and CountRuleLines, of the model and of the program. -/
import Derived.Test.YtndjefednfcmmaaGreatDoorSplitSpec
import Derived.Test.YtndjefednfcmmaaGreatDoorGNum
import Derived.Test.YtndjefednfcmmaaGreatDoorGNam
import Derived.Test.YtndjefednfcmmaaGreatDoorShelf
import Derived.Test.YtndjefednfcmmaaGreatDoorPushF
import Derived.Lib.IndexLaws
import Derived.Lib.Join
import Derived.Lib.SlicesS
import Derived.Lib.Strings
set_option maxRecDepth 100000
namespace Go.Proofs.YtndjefednfcmmaaGreatDoor
open Go Go.RowKit
theorem ret_cut {a b x y : ByteArray} {k l : Bool} (h : x = a ∧ y = b ∧ l = k) : Ending.returned (.tuple #[.string a, .string b, .bool k]) = .returned (.tuple #[.string x, .string y, .bool l]) := by
 obtain ⟨rfl, rfl, rfl⟩ := h; rfl
theorem cut_spec (s : ByteArray) (c : UInt8) (w : World) (hs : s.size ≤ 1073741824) :
  Calls Tryz.prog 143 #[.string s, .int .u8 (c.toNat : Int)] w fun e w' => e = .returned (.tuple #[.string (cutA c s), .string (cutB c s), .bool (cutK c s)]) ∧ ∃ n, w' = w.drewN n := by
 go_enter Tryz.func143, Tryz.ntmps143
 go_wp2
 go_loop [7] (fun i => ∃ k : Nat, k ≤ s.size ∧ i = .int .i64 k ∧ Hid (NoC c (lst s) 0 k)) (fun i => s.size - (intOf i).toNat)
 case atStart => exact ⟨0, Nat.zero_le _, rfl, NoC.start c _ 0⟩
 case round =>
  obtain ⟨k, hk, rfl, hn⟩ := hrel
  have k0 : (0 : Int) ≤ (k : Int) := by omega
  by_cases hlt : k < s.size
  ·have k1 : (k : Int) < (s.size : Int) := by omega
   by_cases he : s[k] = c
   ·have g1 := byte_eq_true he
    have hr := Lib.hid (cut_found hn.out hlt he)
    have k2 : (k : Int) ≤ (s.size : Int) := by omega
    have k3 : (k : Int) + 1 ≤ (s.size : Int) := by omega
    clear he
    go_wp2
    go_quiet (fail)
    go_wp2
    go_ret3
    exact ⟨ret_cut hr.out, _, rfl⟩
   ·have g1 := byte_eq_false he
    have hn2 := Lib.hid (hn.out.next (Nat.zero_le _) hlt he)
    clear he
    go_wp2
    go_round
    case rel => exact ⟨k + 1, by omega, by go_num, hn2⟩
    case measure => simp [intOf]; omega
  ·have k1 : ¬ (k : Int) < (s.size : Int) := by omega
   obtain rfl : k = s.size := by omega
   have hr := Lib.hid (cut_missing hn.out)
   go_wp2
   go_ret3
   exact ⟨ret_cut hr.out, 0, rfl⟩
theorem add_str (W : World) (x y : ByteArray) (h : x.size + y.size ≤ 9223372036854775807) : (Op.stringOp .add x y).run Tryz.prog W = .ok (.string (x ++ y)) W := run_string_add_sum W x y (by omega)
theorem join_spec (a : Option Addr) (ss : List ByteArray) (cap : Nat) (sep : ByteArray) (w : World) (hl : ss.length ≤ 1073741824) (hj : (joinS sep ss).size ≤ 4398046511104) (h : RdS a ss w) :
  Calls Tryz.prog 98 #[.slice a ss.length cap, .string sep] w fun e w' => e = .returned (.string (joinS sep ss)) ∧ w = w' := by
 have H := Lib.hid h
 have HJ := Lib.hid hj
 clear h hj
 go_enter Tryz.func98, Tryz.ntmps98
 go_wp2
 go_loop [5, 6] (fun q i => ∃ (k : Nat) (acc : ByteArray), k ≤ ss.length ∧ i = .int .i64 k ∧ q = .string acc ∧ Hid (acc = joinS sep (ss.take k))) (fun _ i => ss.length - (intOf i).toNat)
 case atStart => exact ⟨0, _, Nat.zero_le _, rfl, rfl, rfl⟩
 case round =>
  obtain ⟨k, acc, hk, rfl, rfl, ha⟩ := hrel
  have k0 : (0 : Int) ≤ (k : Int) := by omega
  by_cases hlt : k < ss.length
  ·have k1 : (k : Int) < (ss.length : Int) := by omega
   obtain ⟨b, off, rfl, hc⟩ := H.out k hlt
   by_cases hz : k = 0
   ·subst hz
    rw [Nat.add_zero] at hc
    have hb : acc.size + (ss[0]'hlt).size ≤ 9223372036854775807 ∧ acc ++ ss[0]'hlt = joinS sep (ss.take 1) := by
     have h1 := joinS_take_le sep ss 1
     have h2 := HJ.out
     have h3 := ha.out
     have e1 : ss.take 1 = [ss[0]'hlt] := by
      have := List.take_succ_eq_append_getElem hlt
      simpa using this
     rw [e1, joinS_first] at h1
     have e2 : acc = ⟨#[]⟩ := h3
     subst e2
     refine ⟨?_, ?_⟩
     ·have e3 : (⟨#[]⟩ : ByteArray).size = 0 := rfl
      omega
     ·rw [e1, joinS_first, append_txt]
      exact txt_lst _
    have h2 := Lib.hid hb.2
    have h1 := hb.1
    clear hb
    generalize ss[0]'hlt = y at hc h1 h2
    have hadd := add_str w acc y h1
    go_wp2
    go_round
    case rel => exact ⟨1, _, by omega, by go_num, rfl, h2⟩
    case measure => simp [intOf]; omega
   ·have hb : (acc.size + sep.size ≤ 9223372036854775807 ∧ (acc ++ sep).size + (ss[k]'hlt).size ≤ 9223372036854775807) ∧ acc ++ sep ++ ss[k]'hlt = joinS sep (ss.take (k + 1)) := by
     have h1 := joinS_take_le sep ss (k + 1)
     have h2 := HJ.out
     have h3 := ha.out
     have h4 := joinS_next sep ss k (by omega) hlt
     rw [← h3] at h4
     refine ⟨?_, h4.symm⟩
     rw [h4, ByteArray.size_append, ByteArray.size_append] at h1
     rw [ByteArray.size_append]
     omega
    have h2 := Lib.hid hb.2
    have h1 := hb.1.1
    have h3 := hb.1.2
    clear hb
    generalize ss[k]'hlt = y at hc h3 h2
    have kp : (0 : Int) < (k : Int) := by omega
    have hadd := add_str w acc sep h1
    have hadd2 := add_str w (acc ++ sep) y h3
    generalize acc ++ sep = z at hadd hadd2 h2
    go_wp2
    go_round
    case rel => exact ⟨k + 1, _, by omega, by go_num, rfl, h2⟩
    case measure => simp [intOf]; omega
  ·have k1 : ¬ (k : Int) < (ss.length : Int) := by omega
   have hr : Hid (acc = joinS sep ss) := by
    have := ha.out
    rw [List.take_of_length_le (by omega)] at this
    exact this
   go_wp2
   go_ret
   exact ⟨ret_str hr.out, rfl⟩
theorem noC_of {c : UInt8} {s : ByteArray} {k : Nat} (h : ∀ j, j < k → (lst s)[j]? ≠ some c) : NoC c (lst s) 0 k := fun x hx => by
 rw [List.drop_zero, Nat.sub_zero] at hx
 obtain ⟨j, hj, e⟩ := List.getElem_of_mem hx
 have hj' : j < k := by simp at hj; omega
 intro hc
 refine h j hj' ?_
 rw [List.getElem?_eq_getElem (by simp at hj; omega)]
 rw [List.getElem_take] at e
 rw [e, hc]
theorem idx_none {c : UInt8} {s : ByteArray} (h : Lib.indexByte (lst s) c < 0) : NoC c (lst s) 0 s.size := by
 have h1 := Lib.indexByte_ge (lst s) c
 have h2 := Lib.indexByte_none (l := lst s) (c := c) (by omega)
 exact noC_of fun j _ => h2 j
theorem idx_some {c : UInt8} {s : ByteArray} {k : Nat} (h : Lib.indexByte (lst s) c = (k : Int)) : ∃ hk : k < s.size, s[k] = c ∧ NoC c (lst s) 0 k := by
 obtain ⟨h1, h2⟩ := Lib.indexByte_some h
 have hk : k < s.size := by
  rcases Nat.lt_or_ge k s.size with hlt | hge
  ·exact hlt
  ·rw [List.getElem?_eq_none (by rw [lst_length]; exact hge)] at h1
   cases h1
 refine ⟨hk, ?_, noC_of h2⟩
 rw [List.getElem?_eq_getElem (by rw [lst_length]; exact hk), lst_at s k hk] at h1
 injection h1
theorem cut_impl (s : ByteArray) (c : UInt8) (w : World) (hs : s.size ≤ 1073741824) :
  Calls Tryz.prog 88 #[.string s, .int .u8 (c.toNat : Int)] w fun e w' => e = .returned (.tuple #[.string (cutA c s), .string (cutB c s), .bool (cutK c s)]) ∧ ∃ n, w' = w.drewN n := by
 go_enter Tryz.func88, Tryz.ntmps88
 go_wp2_with fail
 refine (Tryz.strings_IndexByte s _ _).mono ?_
 rintro e w1 ⟨rfl, rfl⟩
 have e1 : ((c.toNat : Int).toNat.toUInt8) = c := by simp
 rw [e1]
 by_cases hneg : Lib.indexByte s.data.toList c < 0
 ·have hr := Lib.hid (cut_missing (idx_none (c := c) (s := s) hneg))
  generalize Lib.indexByte s.data.toList c = x at hneg ⊢
  go_wp2
  go_ret3
  exact ⟨ret_cut hr.out, 0, rfl⟩
 ·obtain ⟨k, hk⟩ : ∃ k : Nat, Lib.indexByte s.data.toList c = (k : Int) := ⟨(Lib.indexByte s.data.toList c).toNat, by omega⟩
  obtain ⟨hlt, he, hn⟩ := idx_some (c := c) (s := s) hk
  have hr := Lib.hid (cut_found hn hlt he)
  rw [hk]
  clear hk hneg hn he
  have g0 : ¬ ((k : Int) < 0) := by omega
  have k0 : (0 : Int) ≤ (k : Int) := by omega
  have k2 : (k : Int) ≤ (s.size : Int) := by omega
  have k3 : (k : Int) + 1 ≤ (s.size : Int) := by omega
  go_wp2
  go_quiet (fail)
  go_wp2
  go_ret3
  exact ⟨ret_cut hr.out, _, rfl⟩
def strLen : Value → Nat | .string s => s.size | _ => 0
def DivRel (c : UInt8) (s0 : ByteArray) (w : World) (q v : Value) (W : World) : Prop :=
 ∃ (s : ByteArray) (acc : List ByteArray) (v0 : Value), v0 = v ∧ q = .string s ∧ s.size ≤ 1073741824 ∧ acc.length + s.size ≤ s0.size ∧ Hid (parts c s0 = acc ++ parts c s) ∧ Hid (OwnS w.heap.size v0 acc W) ∧ Hid (Below w.heap.size w W)
set_option maxHeartbeats 1000000 in
theorem split_impl (s0 : ByteArray) (c : UInt8) (w : World) (hs : s0.size ≤ 1073741824) :
  Calls Tryz.prog 47 #[.string s0, .int .u8 (c.toNat : Int)] w (StrsOut (parts c s0) w) := by
 go_enter Tryz.func47, Tryz.ntmps47
 go_wp2
 go_loopw [0, 5] (fun q v W => DivRel c s0 w q v W) (fun q _ _ => strLen q)
 case atStart => exact ⟨s0, [], _, rfl, rfl, hs, by simp, rfl, OwnS.start w, (Below.refl _ _).alloc (Nat.le_refl _) _⟩
 case round =>
  obtain ⟨s, acc, v0, rfl, rfl, hsz, hal, hd, hown, hb⟩ := hrel
  have hmore := fun h : cutK c s = true => Lib.hid (parts_more h)
  have hless := fun h : cutK c s = true => cut_less h
  have hlast := fun h : cutK c s = false => Lib.hid (parts_last h)
  go_wp2_with fail
  refine (cut_impl s c _ hsz).mono ?_
  rintro e w1 ⟨rfl, n1, rfl⟩
  have HO := Lib.hid (hown.out.drewN n1)
  have HB := Lib.hid (below_drewN hb.out n1)
  clear hown hb
  generalize wr.drewN n1 = w1 at *
  generalize cutA c s = x at *
  generalize cutB c s = y at *
  by_cases hk : cutK c s = true
  ·rw [hk]
   have hp := hmore hk
   have hl := hless hk
   clear hmore hless hlast hk
   go_wp2_with (at_builtin; refine wp_pushF (f := Value.string) 51 9 (.string ⟨#[]⟩) 16 Tryz.underlying51 infoStr rfl rfl _ _ rfl w.heap.size v0 acc x rfl w1 rfl rfl HO.out (by unfold maxLen; omega) (by omega) HB.out.size ?_)
   intro v' w2 hown' hgrow hblk
   have R1 : Hid (OwnS w.heap.size v' (acc ++ [x]) w2) := by
    show World.ownsRow _ _ _ _ _ _ _
    simpa using hown'
   have R2 := Lib.hid (HB.out.grown hgrow HB.out.size (fun j hj => (World.ownsRow.lt (w := w1) HO.out j hj).1))
   have R3 : Hid (parts c s0 = (acc ++ [x]) ++ parts c y) := by
    show _ = _
    rw [hd.out, hp.out]; simp
   clear hown' hgrow hblk
   go_wp2
   go_roundw
   case rel => exact ⟨y, acc ++ [x], v', rfl, rfl, by omega, by simp; omega, R3, R1, R2⟩
   case measure => simp only [strLen]; exact hl
  ·have hk' : cutK c s = false := by simpa using hk
   rw [hk']
   have hp := hlast hk'
   clear hmore hless hlast hk hk'
   go_wp2_with (at_builtin; refine wp_pushF (f := Value.string) 51 9 (.string ⟨#[]⟩) 16 Tryz.underlying51 infoStr rfl rfl _ _ rfl w.heap.size v0 acc x rfl w1 rfl rfl HO.out (by unfold maxLen; omega) (by omega) HB.out.size ?_)
   intro v' w2 hown' hgrow hblk
   have R3 : Hid (parts c s0 = acc ++ [x]) := by
    show _ = _
    rw [hd.out, hp.out]
   have R1 : Hid (OwnS w.heap.size v' (parts c s0) w2) := by
    show OwnS _ _ _ _
    rw [R3.out]
    show World.ownsRow _ _ _ _ _ _ _
    simpa using hown'
   have R2 := Lib.hid (HB.out.grown hgrow HB.out.size (fun j hj => (World.ownsRow.lt (w := w1) HO.out j hj).1))
   clear hown' hgrow hblk
   go_wp2
   go_ret
   exact OwnS.out R1.out R2.out
theorem join_same (sep : List UInt8) : ∀ xs : List (List UInt8), Lib.join xs sep = joinL sep xs
 | [] => rfl
 | [x] => by rw [Lib.join_one]; rfl
 | x :: y :: r => by
  have ih := join_same sep (y :: r)
  rw [Lib.join_cons] at ih ⊢
  simp only [joinL]
  rw [← ih]
  simp [Lib.joinTail]
theorem join_impl (a : Option Addr) (ss : List ByteArray) (cap : Nat) (sep : ByteArray) (w : World) (hl : ss.length ≤ 1073741824) (hcap : ss.length ≤ cap) (hj : (joinS sep ss).size ≤ 4398046511104) (h : RdS a ss w) :
  Calls Tryz.prog 90 #[.slice a ss.length cap, .string sep] w fun e w' => e = .returned (.string (joinS sep ss)) ∧ Below w.heap.size w w' := by
 have H := Lib.hid h
 clear h
 have hc : Calls Tryz.prog 114 #[.slice a ss.length cap, .string sep] w fun e w' => e = .returned (.string (joinS sep ss)) ∧ Below w.heap.size w w' := by
  cases ss with
  | nil =>
   refine (Tryz.strings_Join_none a cap sep w).mono ?_
   rintro e w' ⟨rfl, rfl⟩
   exact ⟨rfl, Below.refl _ _⟩
  | cons x r =>
   obtain ⟨b, off, rfl, hc0⟩ := H.out 0 (by simp)
   have hlt : b < w.heap.size := cell_lt hc0
   refine (Tryz.strings_Join b off cap (x :: r) sep w (fun j y hy => ?_) hlt (by omega) hcap ?_).mono ?_
   ·have hjl : j < (x :: r).length := by
     rcases Nat.lt_or_ge j (x :: r).length with h1 | h1
     ·exact h1
     ·rw [List.getElem?_eq_none h1] at hy; cases hy
    obtain ⟨b', off', e, hcj⟩ := H.out j hjl
    injection e with e
    injection e with e1 e2
    subst e1 e2
    rw [hcj]
    rw [List.getElem?_eq_getElem hjl] at hy
    injection hy with hy
    rw [hy]
   ·have := joinS_size sep (x :: r)
    rw [join_same]
    show (joinL (lst sep) ((x :: r).map lst)).length ≤ _
    omega
   ·rintro e w' ⟨rfl, hb⟩
    refine ⟨?_, hb⟩
    rw [join_same]
    rfl
 go_enter Tryz.func90, Tryz.ntmps90
 go_wp2_with fail
 refine hc.mono ?_
 rintro e w1 ⟨rfl, hb⟩
 have HB := Lib.hid hb
 clear hb
 go_wp2
 go_ret
 exact ⟨rfl, HB.out⟩
theorem hasS_contains (ss : List ByteArray) (x : ByteArray) : Lib.containsS ss x = hasS ss x := by
 have h := Lib.containsS_iff ss x
 by_cases hm : x ∈ ss
 ·rw [hasS_true hm, h.2 hm]
 ·rw [hasS_false hm, Bool.eq_false_iff]
  exact fun e => hm (h.1 e)
theorem has_impl (a : Option Addr) (ss : List ByteArray) (cap : Nat) (x : ByteArray) (w : World) (hl : ss.length ≤ 1073741824) (h : RdS a ss w) :
  Calls Tryz.prog 131 #[.slice a ss.length cap, .string x] w fun e w' => e = .returned (.bool (hasS ss x)) ∧ w = w' := by
 have H := Lib.hid h
 clear h
 have hc : Calls Tryz.prog 149 #[.slice a ss.length cap, .string x] w fun e w' => e = .returned (.bool (hasS ss x)) ∧ w = w' := by
  cases ss with
  | nil =>
   refine (Tryz.slices_Contains_string_empty a cap x w).mono ?_
   rintro e w' ⟨rfl, rfl⟩
   exact ⟨rfl, rfl⟩
  | cons y r =>
   obtain ⟨b, off, rfl, hc0⟩ := H.out 0 (by simp)
   refine (Tryz.slices_Contains_string b off (y :: r).length cap (y :: r) x w (Nat.le_refl _) (by omega) (fun j hj => ?_)).mono ?_
   ·obtain ⟨b', off', e, hcj⟩ := H.out j hj
    injection e with e
    injection e with e1 e2
    subst e1 e2
    rw [hcj, List.getD_eq_getElem?_getD, List.getElem?_eq_getElem hj]
    rfl
   ·rintro e w' ⟨rfl, rfl⟩
    rw [List.take_length, hasS_contains]
    exact ⟨rfl, rfl⟩
 go_enter Tryz.func131, Tryz.ntmps131
 go_wp2_with fail
 refine hc.mono ?_
 rintro e w1 ⟨rfl, rfl⟩
 go_wp2
 go_ret
 exact ⟨rfl, rfl⟩
theorem RowF.take {α : Type} {f : α → Value} {B cap : Nat} {a : Option Addr} {xs : List α} {w : World} (h : RowF f B a xs cap w) (n : Nat) : RowF f B a (xs.take n) cap w :=
 ⟨h.1.take n, by have := h.2.1; rw [List.length_take]; omega, h.2.2⟩
theorem lines_cut {s : ByteArray} {w W : World} {a : Option Addr} {cap : Nat} (hl : lastS (parts 10 s) = ⟨#[]⟩) (hr : RowS w.heap.size a (parts 10 s) cap W) (hb : Below w.heap.size w W) : StrsOut (linesS s) w (.returned (.slice a ((parts 10 s).length - 1) cap)) W := by
 unfold linesS
 rw [if_pos hl]
 refine ⟨a, cap, ?_, hr.take _, hb⟩
 congr 2
 rw [List.length_take]
 omega
theorem lines_all {s : ByteArray} {w W : World} {a : Option Addr} {cap : Nat} (hl : lastS (parts 10 s) ≠ ⟨#[]⟩) (hr : RowS w.heap.size a (parts 10 s) cap W) (hb : Below w.heap.size w W) : StrsOut (linesS s) w (.returned (.slice a (parts 10 s).length cap)) W := by
 unfold linesS
 rw [if_neg hl]
 exact ⟨a, cap, rfl, hr, hb⟩
theorem lines_spec (s : ByteArray) (w : World) (hs : s.size ≤ 1073741824) :
  Calls Tryz.prog 30 #[.string s] w (StrsOut (linesS s) w) := by
 go_enter Tryz.func30, Tryz.ntmps30
 go_wp2_with fail
 refine (split_spec s 10 _ hs).mono ?_
 rintro e w1 ⟨a, cap, rfl, hr, hb⟩
 have hp := parts_ne 10 s
 have hm := parts_lens 10 s
 obtain ⟨b, off, ha, hc⟩ := hr.rd ((parts 10 s).length - 1) (by omega)
 subst ha
 rw [lastS_at hp] at hc
 have hcap := hr.2.1
 have hcut := Lib.hid (fun h => lines_cut (w := w) h hr hb)
 have hall := Lib.hid (fun h => lines_all (w := w) h hr hb)
 clear hr hb
 obtain ⟨m, hm1⟩ : ∃ m, (parts 10 s).length = m + 1 := ⟨(parts 10 s).length - 1, by omega⟩
 generalize lastS (parts 10 s) = x at *
 generalize hn : (parts 10 s).length = n at *
 subst hm1
 simp only [Nat.add_sub_cancel] at hc hcut
 have m0 : (0 : Int) ≤ (m : Int) := by omega
 have m1 : (m : Int) < ((m + 1 : Nat) : Int) := by omega
 have m2 : (((m + 1 : Nat) : Int) - 1) = (m : Int) := by omega
 have m3 : (m : Int) ≤ (cap : Int) := by omega
 by_cases hx : x = ⟨#[]⟩
 ·have g1 := str_none hx
  have hcut' := Lib.hid (hcut.out hx)
  clear hcut hall hx
  go_wp2
  go_ret
  exact hcut'.out
 ·have g1 := str_some hx
  have hall' := Lib.hid (hall.out hx)
  clear hcut hall hx
  go_wp2
  go_ret
  exact hall'.out
def WordsRel (ss : List ByteArray) (b off : Nat) (w : World) (v i : Value) (W : World) : Prop :=
 ∃ (k : Nat) (acc : List ByteArray) (v0 : Value), v0 = v ∧ k ≤ ss.length ∧ i = .int .i64 k ∧ acc.length ≤ k ∧ Hid (acc = fullS (ss.take k)) ∧ Hid (OwnS w.heap.size v0 acc W) ∧ Hid (Below w.heap.size w W) ∧ Hid (RdS (some ⟨b, off, none⟩) ss W) ∧ Hid (v0.ownBlock ≠ some b)
theorem RdF.grownAt {α : Type} {f : α → Value} {b off : Nat} {xs : List α} {w w' : World} {row : Option Nat} (h : RdF f (some ⟨b, off, none⟩) xs w) (hg : w.grownBy w' row) (hne : some b ≠ row) : RdF f (some ⟨b, off, none⟩) xs w' := fun j hj => by
 obtain ⟨b', off', ha, hc⟩ := h j hj
 injection ha with ha
 injection ha with h1 h2
 subst h1 h2
 exact ⟨_, _, rfl, hg.cell hc hne⟩
theorem words_push {ss acc : List ByteArray} {b off k : Nat} {w W W' : World} {v v' : Value} (hk : k < ss.length) (hx : ss[k] ≠ ⟨#[]⟩) (hal : acc.length ≤ k) (ha : acc = fullS (ss.take k)) (hown : OwnS w.heap.size v acc W) (hb : Below w.heap.size w W) (hrd : RdS (some ⟨b, off, none⟩) ss W) (hne : v.ownBlock ≠ some b)
  (ho : W'.ownsRow w.heap.size 9 1 v' (acc ++ [ss[k]]).length ((acc ++ [ss[k]]).map Value.string)) (hg : W.grownBy W' v.ownBlock) (hw : v'.ownBlock = v.ownBlock ∨ ∃ g, v'.ownBlock = some g ∧ W.heap.size ≤ g) (z : Value) (hz : z = .int .i64 ((k + 1 : Nat) : Int)) : WordsRel ss b off w v' z W' := by
 refine ⟨k + 1, acc ++ [ss[k]], v', rfl, hk, hz, by simp; omega, ?_, ho, hb.grown hg hb.size (fun j hj => (World.ownsRow.lt (w := W) hown j hj).1), hrd.grownAt hg (fun e => hne e.symm), ?_⟩
 ·show _ = _
  rw [fullS_next hk hx, ha]
 ·show _ ≠ _
  obtain ⟨b', off', e, hc⟩ := hrd k hk
  injection e with e
  injection e with e1 e2
  subst e1 e2
  have hlt : b < W.heap.size := cell_lt hc
  rcases hw with h | ⟨g, h, hle⟩
  ·rw [h]; exact hne
  ·rw [h]
   intro e
   injection e with e
   omega
theorem words_start {s : ByteArray} {b off : Nat} {w W : World} (hW : Below (w.heap.size + 1) (w.alloc (.cells #[] 9)) W) (hrd : RdS (some ⟨b, off, none⟩) (parts 32 s) W) (hB : w.heap.size + 1 ≤ b) : WordsRel (parts 32 s) b off w (.slice (some ⟨w.heap.size, 0, none⟩) 0 0) (.int .i64 0) W := by
 refine ⟨0, [], _, rfl, Nat.zero_le _, rfl, Nat.le_refl _, rfl, ?_, ?_, hrd, ?_⟩
 ·have h := OwnS.start w
  refine World.ownsRow.kept (w := w.alloc (.cells #[] 9)) h (row := none) ⟨hW.os, hW.tape, hW.output, hW.size, fun k hk _ => hW.block k (by simpa using hk)⟩ (.inr (by simp [Value.ownBlock]))
 ·exact ((Below.refl _ w).alloc (Nat.le_refl _) _).trans (hW.mono (by omega))
 ·show _ ≠ _
  simp [Value.ownBlock]
  omega
set_option maxHeartbeats 1000000 in
theorem words_spec (s : ByteArray) (w : World) (hs : s.size ≤ 1073741824) :
  Calls Tryz.prog 56 #[.string s] w (StrsOut (wordsS s) w) := by
 have hres : Hid (wordsS s = fullS ((parts 32 s).take (parts 32 s).length)) := by
  show _ = _
  rw [List.take_length]; rfl
 generalize wordsS s = ws at hres ⊢
 go_enter Tryz.func56, Tryz.ntmps56
 go_wp2_with fail
 refine (split_spec s 32 _ hs).mono ?_
 rintro e w1 ⟨a, cap, rfl, hr, hb⟩
 have hp := parts_ne 32 s
 have hm := parts_lens 32 s
 rcases hr.1 with h0 | ⟨b, off, rfl, hB, -⟩
 ·rw [h0] at hp
  simp at hp
 have hst := Lib.hid (words_start (s := s) (by simpa using hb) hr.rd (by simpa using hB))
 clear hr hb hB
 generalize parts 32 s = ss at *
 go_wp2
 go_loopw [3, 5] (fun v i W => WordsRel ss b off w v i W) (fun _ i _ => ss.length - (intOf i).toNat)
 case atStart => exact hst.out
 case round =>
  obtain ⟨k, acc, v0, rfl, hk, rfl, hal, ha, hown, hb, hrd, hne⟩ := hrel
  have k0 : (0 : Int) ≤ (k : Int) := by omega
  by_cases hlt : k < ss.length
  ·have k1 : (k : Int) < (ss.length : Int) := by omega
   obtain ⟨b', off', e, hc⟩ := hrd.out k hlt
   injection e with e
   injection e with e1 e2
   subst e1 e2
   by_cases hx : ss[k] = ⟨#[]⟩
   ·have g1 := str_none hx
    have ha2 : Hid (acc = fullS (ss.take (k + 1))) := by
     show _ = _
     rw [fullS_skip hlt hx]; exact ha.out
    generalize ss[k] = x at hc g1
    clear hx
    go_wp2
    go_roundw
    case rel => exact ⟨k + 1, acc, v0, rfl, by omega, by go_num, by omega, ha2, hown, hb, hrd, hne⟩
    case measure => simp [intOf]; omega
   ·have g1 := str_some hx
    have HP := fun v' W' => Lib.hid (words_push (v' := v') (W' := W') hlt hx hal ha.out hown.out hb.out hrd.out hne.out)
    generalize hy : ss[k] = x at hc g1 HP
    clear hx
    go_wp2_with (at_builtin; refine wp_pushF (f := Value.string) 51 9 (.string ⟨#[]⟩) 16 Tryz.underlying51 infoStr rfl rfl _ _ rfl w.heap.size v0 acc x rfl wr rfl rfl hown.out (by unfold maxLen; omega) (by omega) hb.out.size ?_)
    intro v' w2 hown' hgrow hblk
    have R := Lib.hid ((HP v' w2).out (by simpa using hown') hgrow hblk)
    clear hown' hgrow hblk HP
    go_wp2
    go_roundw
    case rel => exact R.out _ (by go_num)
    case measure => simp [intOf]; omega
  ·have k1 : ¬ (k : Int) < (ss.length : Int) := by omega
   obtain rfl : k = ss.length := by omega
   obtain rfl : acc = ws := ha.out.trans hres.out.symm
   go_wp2
   go_ret
   exact OwnS.out hown.out hb.out
theorem lines_impl (s : ByteArray) (w : World) (hs : s.size ≤ 1073741824) :
  Calls Tryz.prog 26 #[.string s] w (StrsOut (linesS s) w) := by
 go_enter Tryz.func26, Tryz.ntmps26
 go_wp2_with fail
 refine (split_impl s 10 _ hs).mono ?_
 rintro e w1 ⟨a, cap, rfl, hr, hb⟩
 have hp := parts_ne 10 s
 have hm := parts_lens 10 s
 obtain ⟨b, off, ha, hc⟩ := hr.rd ((parts 10 s).length - 1) (by omega)
 subst ha
 rw [lastS_at hp] at hc
 have hcap := hr.2.1
 have hcut := Lib.hid (fun h => lines_cut (w := w) h hr hb)
 have hall := Lib.hid (fun h => lines_all (w := w) h hr hb)
 clear hr hb
 obtain ⟨m, hm1⟩ : ∃ m, (parts 10 s).length = m + 1 := ⟨(parts 10 s).length - 1, by omega⟩
 generalize lastS (parts 10 s) = x at *
 generalize hn : (parts 10 s).length = n at *
 subst hm1
 simp only [Nat.add_sub_cancel] at hc hcut
 have m0 : (0 : Int) ≤ (m : Int) := by omega
 have m1 : (m : Int) < ((m + 1 : Nat) : Int) := by omega
 have m2 : (((m + 1 : Nat) : Int) - 1) = (m : Int) := by omega
 have m3 : (m : Int) ≤ (cap : Int) := by omega
 by_cases hx : x = ⟨#[]⟩
 ·have g1 := str_none hx
  have hcut' := Lib.hid (hcut.out hx)
  clear hcut hall hx
  go_wp2
  go_ret
  exact hcut'.out
 ·have g1 := str_some hx
  have hall' := Lib.hid (hall.out hx)
  clear hcut hall hx
  go_wp2
  go_ret
  exact hall'.out
set_option maxHeartbeats 1000000 in
theorem words_impl (s : ByteArray) (w : World) (hs : s.size ≤ 1073741824) :
  Calls Tryz.prog 48 #[.string s] w (StrsOut (wordsS s) w) := by
 have hres : Hid (wordsS s = fullS ((parts 32 s).take (parts 32 s).length)) := by
  show _ = _
  rw [List.take_length]; rfl
 generalize wordsS s = ws at hres ⊢
 go_enter Tryz.func48, Tryz.ntmps48
 go_wp2_with fail
 refine (split_impl s 32 _ hs).mono ?_
 rintro e w1 ⟨a, cap, rfl, hr, hb⟩
 have hp := parts_ne 32 s
 have hm := parts_lens 32 s
 rcases hr.1 with h0 | ⟨b, off, rfl, hB, -⟩
 ·rw [h0] at hp
  simp at hp
 have hst := Lib.hid (words_start (s := s) (by simpa using hb) hr.rd (by simpa using hB))
 clear hr hb hB
 generalize parts 32 s = ss at *
 go_wp2
 go_loopw [3, 10] (fun v i W => WordsRel ss b off w v i W) (fun _ i _ => ss.length - (intOf i).toNat)
 case atStart => exact hst.out
 case round =>
  obtain ⟨k, acc, v0, rfl, hk, rfl, hal, ha, hown, hb, hrd, hne⟩ := hrel
  have k0 : (0 : Int) ≤ (k : Int) := by omega
  by_cases hlt : k < ss.length
  ·have k1 : (k : Int) < (ss.length : Int) := by omega
   obtain ⟨b', off', e, hc⟩ := hrd.out k hlt
   injection e with e
   injection e with e1 e2
   subst e1 e2
   by_cases hx : ss[k] = ⟨#[]⟩
   ·have g1 := str_none hx
    have ha2 : Hid (acc = fullS (ss.take (k + 1))) := by
     show _ = _
     rw [fullS_skip hlt hx]; exact ha.out
    generalize ss[k] = x at hc g1
    clear hx
    go_wp2
    go_roundw
    case rel => exact ⟨k + 1, acc, v0, rfl, by omega, by go_num, by omega, ha2, hown, hb, hrd, hne⟩
    case measure => simp [intOf]; omega
   ·have g1 := str_some hx
    have HP := fun v' W' => Lib.hid (words_push (v' := v') (W' := W') hlt hx hal ha.out hown.out hb.out hrd.out hne.out)
    generalize hy : ss[k] = x at hc g1 HP
    clear hx
    go_wp2_with (at_builtin; refine wp_pushF (f := Value.string) 51 9 (.string ⟨#[]⟩) 16 Tryz.underlying51 infoStr rfl rfl _ _ rfl w.heap.size v0 acc x rfl wr rfl rfl hown.out (by unfold maxLen; omega) (by omega) hb.out.size ?_)
    intro v' w2 hown' hgrow hblk
    have R := Lib.hid ((HP v' w2).out (by simpa using hown') hgrow hblk)
    clear hown' hgrow hblk HP
    go_wp2
    go_roundw
    case rel => exact R.out _ (by go_num)
    case measure => simp [intOf]; omega
  ·have k1 : ¬ (k : Int) < (ss.length : Int) := by omega
   obtain rfl : k = ss.length := by omega
   obtain rfl : acc = ws := ha.out.trans hres.out.symm
   go_wp2
   go_ret
   exact OwnS.out hown.out hb.out
theorem splitL_le {c : UInt8} : ∀ {l : List UInt8}, ∀ p ∈ splitL c l, p.length ≤ l.length
 | [], p, hp => by simp [splitL] at hp; subst hp; simp
 | y :: r, p, hp => by
  unfold splitL at hp
  split at hp
  ·simp only [List.mem_cons] at hp
   rcases hp with rfl | hp
   ·simp
   ·have := splitL_le p hp
    simp; omega
  ·have ih := @splitL_le c r
   cases hr : splitL c r with
   | nil => exact absurd hr (splitL_ne c r)
   | cons h t =>
    rw [hr] at hp ih
    simp only [List.mem_cons] at hp
    rcases hp with rfl | hp
    ·have := ih h (by simp)
     simp; omega
    ·have := ih p (by simp [hp])
     simp; omega
theorem part_le {c : UInt8} {s p : ByteArray} (h : p ∈ parts c s) : p.size ≤ s.size := by
 simp only [parts, txts, List.mem_map] at h
 obtain ⟨q, hq, rfl⟩ := h
 rw [txt_size, ← lst_length]
 exact splitL_le q hq
theorem word_le {s p : ByteArray} (h : p ∈ wordsS s) : p.size ≤ s.size := by
 simp only [wordsS, fullS, List.mem_filter] at h
 exact part_le h.1
theorem line_le1 {s p : ByteArray} (h : p ∈ linesS s) : p.size ≤ s.size := by
 unfold linesS at h
 split at h
 ·exact part_le (List.mem_of_mem_take h)
 ·exact part_le h
theorem lines_le1 (s : ByteArray) : (linesS s).length ≤ s.size + 1 := by
 have h := parts_lens 10 s
 unfold linesS
 split
 ·rw [List.length_take]; omega
 ·exact h
def commentW : List ByteArray → Bool
 | [] => true
 | x :: _ => (lst x).head? == some 35
theorem comment_yes {x : ByteArray} {r : List ByteArray} (h : 0 < x.size) (e : x[0] = 35) : commentW (x :: r) = true := by
 have h1 := drop_at x 0 h
 rw [List.drop_zero] at h1
 show ((lst x).head? == some 35) = true
 rw [h1]
 show (some x[0] == some 35) = true
 rw [e]
 rfl
theorem comment_no {x : ByteArray} {r : List ByteArray} (h : 0 < x.size) (e : x[0] ≠ 35) : commentW (x :: r) = false := by
 have h1 := drop_at x 0 h
 rw [List.drop_zero] at h1
 show ((lst x).head? == some 35) = false
 rw [h1]
 show (some x[0] == some 35) = false
 simpa using e
theorem size_pos {x : ByteArray} (h : x ≠ ⟨#[]⟩) : 0 < x.size := by
 rcases Nat.eq_zero_or_pos x.size with h0 | h0
 ·exact absurd (lst_inj (b := ⟨#[]⟩) (List.eq_nil_of_length_eq_zero (by rw [lst_length]; exact h0))) h
 ·exact h0
theorem comment_spec (s : ByteArray) (w : World) (hs : s.size ≤ 1073741824) :
  Calls Tryz.prog 31 #[.string s] w fun e w' => e = .returned (.bool (commentW (wordsS s))) ∧ Below w.heap.size w w' := by
 obtain ⟨cb, hcb⟩ : ∃ cb, cb = commentW (wordsS s) := ⟨_, rfl⟩
 rw [← hcb]
 have HC := Lib.hid hcb
 clear hcb
 go_enter Tryz.func31, Tryz.ntmps31
 go_wp2_with fail
 refine (words_spec s _ hs).mono ?_
 rintro e w1 ⟨a, cap, rfl, hr, hb⟩
 have HB := Lib.hid hb
 have hnn := Lib.hid (fun p hp => (words_at s p hp).1)
 clear hb
 obtain ⟨ws, hws⟩ : ∃ ws, ws = wordsS s := ⟨_, rfl⟩
 rw [← hws] at hr hnn HC ⊢
 clear hws
 cases ws with
 | nil =>
  clear hr hnn
  go_wp2
  go_ret
  exact ⟨ret_bool HC.out.symm, HB.out⟩
 | cons x r =>
  obtain ⟨b, off, rfl, hc⟩ := hr.rd 0 (by simp)
  simp only [List.getElem_cons_zero, Nat.add_zero] at hc
  have hx : 0 < x.size := size_pos (hnn.out x (by simp))
  obtain ⟨n, hn⟩ : ∃ n, n = (x :: r).length := ⟨_, rfl⟩
  rw [← hn]
  have n0 : (0 : Int) < (n : Int) := by rw [hn]; simp
  have n1 : ((n : Int) == 0) = false := by simp; omega
  clear hn hr hnn
  have x0 : (0 : Int) < (x.size : Int) := by omega
  by_cases e : x[0] = 35
  ·have g : ((x[0].toNat : Int) == 35) = true := by rw [e]; rfl
   have hres := Lib.hid (comment_yes (r := r) hx e)
   clear e
   go_wp2
   go_ret
   exact ⟨ret_bool (HC.out.trans hres.out).symm, HB.out⟩
  ·have g : ((x[0].toNat : Int) == 35) = false := by
    have : x[0].toNat ≠ 35 := fun h => e (UInt8.toNat_inj.1 h)
    simp; omega
   have hres := Lib.hid (comment_no (r := r) hx e)
   clear e
   go_wp2
   go_ret
   exact ⟨ret_bool (HC.out.trans hres.out).symm, HB.out⟩
theorem hash_yes {x : ByteArray} (h : 0 < x.size) (e : x[0] = 35) : Lib.hasPrefix x.data.toList [35] = true := by
 have h1 : x.data.toList = _ := drop_at x 0 h
 rw [h1, e]
 rfl
theorem hash_no {x : ByteArray} (h : 0 < x.size) (e : x[0] ≠ 35) : Lib.hasPrefix x.data.toList [35] = false := by
 have h1 : x.data.toList = _ := drop_at x 0 h
 rw [h1]
 have g : ((35 : UInt8) == x[0]) = false := by simpa using fun h => e h.symm
 simp [Lib.hasPrefix, List.isPrefixOf, g]
theorem comment_impl (s : ByteArray) (w : World) (hs : s.size ≤ 1073741824) :
  Calls Tryz.prog 27 #[.string s] w fun e w' => e = .returned (.bool (commentW (wordsS s))) ∧ Below w.heap.size w w' := by
 obtain ⟨cb, hcb⟩ : ∃ cb, cb = commentW (wordsS s) := ⟨_, rfl⟩
 rw [← hcb]
 have HC := Lib.hid hcb
 clear hcb
 go_enter Tryz.func27, Tryz.ntmps27
 go_wp2_with fail
 refine (words_impl s _ hs).mono ?_
 rintro e w1 ⟨a, cap, rfl, hr, hb⟩
 have HB := Lib.hid hb
 have hnn := Lib.hid (fun p hp => (words_at s p hp).1)
 clear hb
 obtain ⟨ws, hws⟩ : ∃ ws, ws = wordsS s := ⟨_, rfl⟩
 rw [← hws] at hr hnn HC ⊢
 clear hws
 cases ws with
 | nil =>
  clear hr hnn
  go_wp2
  go_ret
  exact ⟨ret_bool HC.out.symm, HB.out⟩
 | cons x r =>
  obtain ⟨b, off, rfl, hc⟩ := hr.rd 0 (by simp)
  simp only [List.getElem_cons_zero, Nat.add_zero] at hc
  have hx : 0 < x.size := size_pos (hnn.out x (by simp))
  obtain ⟨n, hn⟩ : ∃ n, n = (x :: r).length := ⟨_, rfl⟩
  rw [← hn]
  have n0 : (0 : Int) < (n : Int) := by rw [hn]; simp
  have n1 : ((n : Int) == 0) = false := by simp; omega
  clear hn hr hnn
  by_cases e : x[0] = 35
  ·have hres := Lib.hid (comment_yes (r := r) hx e)
   have hp := Lib.hid (hash_yes hx e)
   clear e
   go_wp2_with fail
   refine (Tryz.strings_HasPrefix x _ _).mono ?_
   rintro e w2 ⟨rfl, rfl⟩
   rw [hp.out]
   go_wp2
   go_ret
   exact ⟨ret_bool (HC.out.trans hres.out).symm, HB.out⟩
  ·have hres := Lib.hid (comment_no (r := r) hx e)
   have hp := Lib.hid (hash_no hx e)
   clear e
   go_wp2_with fail
   refine (Tryz.strings_HasPrefix x _ _).mono ?_
   rintro e w2 ⟨rfl, rfl⟩
   rw [hp.out]
   go_wp2
   go_ret
   exact ⟨ret_bool (HC.out.trans hres.out).symm, HB.out⟩
def countC (ls : List ByteArray) : Nat := (ls.filter fun l => !commentW (wordsS l)).length
theorem countC_take {ls : List ByteArray} {k : Nat} (h : k < ls.length) : countC (ls.take (k + 1)) = countC (ls.take k) + (if commentW (wordsS ls[k]) = true then 0 else 1) := by
 unfold countC
 rw [List.take_succ_eq_append_getElem h, List.filter_append, List.length_append]
 by_cases g : commentW (wordsS ls[k]) = true
 ·simp [g]
 ·simp [g]
set_option maxHeartbeats 1000000 in
theorem countc_impl (s : ByteArray) (w : World) (hs : s.size ≤ 1073741823) :
  Calls Tryz.prog 13 #[.string s] w fun e w' => e = .returned (.int .i64 ((countC (linesS s) : Nat) : Int)) ∧ Below w.heap.size w w' := by
 have hll := lines_le1 s
 have HLE := Lib.hid (fun p (hp : p ∈ linesS s) => line_le1 hp)
 obtain ⟨cn, hcn⟩ : ∃ cn, cn = countC (linesS s) := ⟨_, rfl⟩
 rw [← hcn]
 have HC := Lib.hid hcn
 clear hcn
 go_enter Tryz.func13, Tryz.ntmps13
 go_wp2_with fail
 refine (lines_impl s _ (by omega)).mono ?_
 rintro e w1 ⟨a, cap, rfl, hr, hb⟩
 have HR := Lib.hid hr.rd
 have HB := Lib.hid hb
 clear hb hr
 obtain ⟨ls, hls⟩ : ∃ ls, ls = linesS s := ⟨_, rfl⟩
 rw [← hls] at HR HLE hll HC ⊢
 clear hls
 go_wp2
 go_loopw [3, 9] (fun q i W => ∃ k n : Nat, k ≤ ls.length ∧ n ≤ k ∧ i = .int .i64 k ∧ q = .int .i64 (n : Int) ∧ Hid (n = countC (ls.take k)) ∧ Hid (Below w1.heap.size w1 W)) (fun _ i _ => ls.length - (intOf i).toNat)
 case atStart => exact ⟨0, 0, Nat.zero_le _, Nat.le_refl _, rfl, rfl, rfl, Below.refl _ _⟩
 case round =>
  obtain ⟨k, n, hk, hn, rfl, rfl, hf, hb⟩ := hrel
  have k0 : (0 : Int) ≤ (k : Int) := by omega
  by_cases hlt : k < ls.length
  ·have k1 : (k : Int) < (ls.length : Int) := by omega
   obtain ⟨b, off, rfl, hc⟩ := (HR.out.below hb.out) k hlt
   have hsz := HLE.out _ (List.getElem_mem hlt)
   have hct := Lib.hid (countC_take hlt)
   generalize ls[k] = x at hc hsz hct
   go_wp2_with fail
   refine (comment_impl x _ (by omega)).mono ?_
   rintro e w2 ⟨rfl, hb2⟩
   replace hb := Lib.hid (hb.out.trans (hb2.mono hb.out.size))
   clear hb2 hc
   by_cases g : commentW (wordsS x) = true
   ·have hr : Hid (n = countC (ls.take (k + 1))) := by show _ = _; rw [hct.out, if_pos g]; exact hf.out
    rw [g]
    clear g hct
    go_wp2
    go_roundw
    case rel => exact ⟨k + 1, n, by omega, by omega, by go_num, rfl, hr, hb⟩
    case measure => simp [intOf]; omega
   ·have hr : Hid (n + 1 = countC (ls.take (k + 1))) := by show _ = _; rw [hct.out, if_neg g, hf.out]
    have g' : commentW (wordsS x) = false := by simpa using g
    rw [g']
    clear g g' hct
    go_wp2
    go_roundw
    case rel => exact ⟨k + 1, n + 1, by omega, by omega, by go_num, by go_num, hr, hb⟩
    case measure => simp [intOf]; omega
  ·have k1 : ¬ (k : Int) < (ls.length : Int) := by omega
   have hr : Hid (n = countC ls) := by
    have := hf.out
    rw [List.take_of_length_le (by omega)] at this
    exact this
   go_wp2
   go_ret
   exact ⟨ret_int (by rw [HC.out, hr.out]), HB.out.trans (hb.out.mono HB.out.size)⟩
end Go.Proofs.YtndjefednfcmmaaGreatDoor
