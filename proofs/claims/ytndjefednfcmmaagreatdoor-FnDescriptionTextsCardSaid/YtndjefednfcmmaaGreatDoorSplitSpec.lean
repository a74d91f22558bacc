/- Contracts of the model's SplitText and CutAt. -/
import Derived.Test.YtndjefednfcmmaaGreatDoorGBase
namespace Go.Proofs.YtndjefednfcmmaaGreatDoor
open Go Go.RowKit
def OwnS (base : Nat) (v : Value) (ss : List ByteArray) (w : World) : Prop := w.ownsRow base 9 1 v ss.length (ss.map Value.string)
theorem OwnS.row {base : Nat} {v : Value} {ss : List ByteArray} {w : World} (h : OwnS base v ss w) : ∃ a cap, v = .slice a ss.length cap ∧ RowS base a ss cap w := own_row h
theorem OwnS.start (w : World) : OwnS w.heap.size (.slice (some ⟨w.heap.size, 0, none⟩) 0 0) [] (w.alloc (.cells #[] 9)) :=
 World.ownsRow_made w #[] 0 (Nat.le_refl _) (by unfold maxLen; omega) rfl
theorem OwnS.out {v : Value} {ss : List ByteArray} {w W : World} (h : OwnS w.heap.size v ss W) (hb : Below w.heap.size w W) : StrsOut ss w (.returned v) W := by
 obtain ⟨a, cap, rfl, hr⟩ := h.row
 exact ⟨a, cap, rfl, hr, hb⟩
theorem OwnS.drewN {base : Nat} {v : Value} {ss : List ByteArray} {w : World} (h : OwnS base v ss w) (n : Nat) : OwnS base v ss (w.drewN n) := h
def SplitRel (s : ByteArray) (c : UInt8) (w : World) (v f i : Value) (W : World) : Prop :=
 ∃ (k a : Nat) (acc : List ByteArray), i = .int .i64 k ∧ f = .int .i64 a ∧ OwnS w.heap.size v acc W ∧ Below w.heap.size w W ∧
  (k ≤ s.size ∧ a ≤ k ∧ Divd c s acc a ∧ NoC c (lst s) a k ∨ k = s.size + 1 ∧ a ≤ k ∧ acc = parts c s)
theorem byte_eq_true {x y : UInt8} (h : x = y) : ((x.toNat : Int) == (y.toNat : Int)) = true := by simp [h]
theorem byte_eq_false {x y : UInt8} (h : x ≠ y) : ((x.toNat : Int) == (y.toNat : Int)) = false := by
 rw [beq_eq_false_iff_ne]
 exact fun e => h (UInt8.toNat_inj.1 (by omega))
set_option maxRecDepth 100000 in
set_option maxHeartbeats 1000000 in
theorem split_spec (s : ByteArray) (c : UInt8) (w : World) (hs : s.size ≤ 1073741824) :
  Calls Tryz.prog 55 #[.string s, .int .u8 (c.toNat : Int)] w (StrsOut (parts c s) w) := by
 obtain ⟨i0, hi, hz0, hz1, hz2⟩ := infoPartsS
 go_enter Tryz.func55, Tryz.ntmps55
 go_wp2
 go_loopw [5, 6, 7] (fun v f i W => SplitRel s c w v f i W) (fun _ _ i _ => s.size + 1 - (intOf i).toNat)
 case atStart => exact ⟨0, 0, [], rfl, rfl, OwnS.start w, (Below.refl _ _).alloc (Nat.le_refl _) _, .inl ⟨Nat.zero_le _, Nat.le_refl _, Divd.start c s, NoC.start c _ 0⟩⟩
 case round =>
  obtain ⟨k, a, acc, rfl, rfl, hown, hb, hcase⟩ := hrel
  have HO := Lib.hid hown
  have HB := Lib.hid hb
  clear hown hb
  have k0 : (0 : Int) ≤ (k : Int) := by omega
  have a0 : (0 : Int) ≤ (a : Int) := by omega
  rcases hcase with ⟨hk, hak, hd, hn⟩ | ⟨rfl, hak, rfl⟩
  ·have HD := Lib.hid hd
   have HN := Lib.hid hn
   have hal := hd.lens
   clear hd hn
   have kl : (k : Int) ≤ (s.size : Int) := by omega
   have ak : (a : Int) ≤ (k : Int) := by omega
   by_cases hlt : k < s.size
   ·have k1 : (k : Int) < (s.size : Int) := by omega
    have g0 : ((k : Int) == (s.size : Int)) = false := by rw [beq_eq_false_iff_ne]; omega
    by_cases he : s[k] = c
    ·have g1 := byte_eq_true he
     have HD2 := Lib.hid (HD.out.next HN.out hak hlt he)
     generalize hx : s.extract a k = x at HD2
     clear he
     go_wp2_with (at_builtin; refine wpList_append_own _ rfl _ _ 51 rfl w.heap.size 9 i0 (.string ⟨#[]⟩) 1 16 Tryz.underlying51 hi hz0 hz1 hz2 rfl (by decide) _ _ _ rfl (World.ownsRow.alloc HO.out _) ⟨wr.heap.size, 0, none⟩ 1 1 [.string x] rfl rfl ?c1 ?c2 ?c3 ?c4 ?c5 ?_)
     case c1 =>
      intro j u hj
      match j, hj with
      | 0, hj => simp at hj; subst hj; simp [Addr.add]
     case c2 => intro u hu; simp at hu; subst hu; rfl
     case c3 => unfold maxLen; omega
     case c4 => omega
     case c5 => have := HB.out.size; simp; omega
     ·intro v' w2 hown' hgrow _
      obtain ⟨R1, R2⟩ := own_push HO.out HB.out HB.out.size hown' hgrow
      have HR1 := Lib.hid R1
      have HR2 := Lib.hid R2
      clear hown' hgrow R1 R2
      go_wp2
      go_roundw
      case rel => exact ⟨k + 1, k + 1, _, by go_num, by go_num, HR1.out, HR2.out, .inl ⟨by omega, by omega, HD2.out, NoC.start c _ _⟩⟩
      case measure => simp [intOf]; omega
    ·have g1 := byte_eq_false he
     have HN2 := Lib.hid (HN.out.next hak hlt he)
     clear he
     go_wp2
     go_roundw
     case rel => exact ⟨k + 1, a, acc, by go_num, by go_num, HO.out, HB.out, .inl ⟨by omega, by omega, HD.out, HN2.out⟩⟩
     case measure => simp [intOf]; omega
   ·obtain rfl : k = s.size := by omega
    have HD2 := Lib.hid (HD.out.end HN.out)
    generalize hx : s.extract a s.size = x at HD2
    go_wp2_with (at_builtin; refine wpList_append_own _ rfl _ _ 51 rfl w.heap.size 9 i0 (.string ⟨#[]⟩) 1 16 Tryz.underlying51 hi hz0 hz1 hz2 rfl (by decide) _ _ _ rfl (World.ownsRow.alloc HO.out _) ⟨wr.heap.size, 0, none⟩ 1 1 [.string x] rfl rfl ?c1 ?c2 ?c3 ?c4 ?c5 ?_)
    case c1 =>
     intro j u hj
     match j, hj with
     | 0, hj => simp at hj; subst hj; simp [Addr.add]
    case c2 => intro u hu; simp at hu; subst hu; rfl
    case c3 => unfold maxLen; omega
    case c4 => omega
    case c5 => have := HB.out.size; simp; omega
    ·intro v' w2 hown' hgrow _
     obtain ⟨R1, R2⟩ := own_push HO.out HB.out HB.out.size hown' hgrow
     have HR1 := Lib.hid R1
     have HR2 := Lib.hid R2
     clear hown' hgrow R1 R2
     go_wp2
     go_roundw
     case rel => exact ⟨s.size + 1, s.size + 1, _, by go_num, by go_num, HR1.out, HR2.out, .inr ⟨rfl, by omega, HD2.out.symm⟩⟩
     case measure => simp [intOf]
  ·have k1 : ¬ (((s.size + 1 : Nat) : Int) ≤ (s.size : Int)) := by omega
   go_wp2
   go_ret
   exact OwnS.out HO.out HB.out
end Go.Proofs.YtndjefednfcmmaaGreatDoor
