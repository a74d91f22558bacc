/- Contracts of the draws of chapter 3: a text, and a text with a separator. -/
import Derived.Test.YtckkjgocipndpaaDrawPick
import Derived.Test.YtckkjgocipndpaaRowF
namespace Go.Proofs.Ytckkjgocipndpaa
open Go Go.RowKit
theorem addStr (W : World) (x y : ByteArray) (h : x.size + y.size ≤ 9223372036854775807) : (Op.stringOp .add x y).run Try.prog W = .ok (.string (x ++ y)) W := run_string_add_sum W x y (by omega)
/-- The state between two pieces of a text. -/
def TextRel (a : Option Addr) (len cap c : Nat) (w : World) (q i : Value) (W : World) : Prop :=
  ∃ (acc : ByteArray) (k : Nat), q = .string acc ∧ i = .int .i64 k ∧ k ≤ 5 ∧ acc.size + 3 * k ≤ 15 ∧ Hid (Cur a len cap c W) ∧ Hid (w.grownBy W (some c))
set_option maxRecDepth 100000 in
set_option maxHeartbeats 1000000 in
theorem text_draw (a : Option Addr) (len cap c : Nat) (w : World) (hl : len ≤ 140737488355328) (hc : Cur a len cap c w) :
    Calls Try.prog 33 #[.pointer (some ⟨c, 0, none⟩)] w (StrOut (fun s => s.size ≤ 15) a len cap c w) := by
  have HC := Lib.hid hc
  clear hc
  go_enter Try.func33, Try.ntmps33
  go_wp2_with fail
  refine (below_draw a len cap c 6 _ hl (by omega) (by omega) HC.out).mono ?_
  rintro e w1 ⟨x, ⟨x0, x1⟩, rfl, hc1, hg1⟩
  obtain ⟨y, rfl⟩ : ∃ y : Nat, x = (y : Int) := ⟨x.toNat, by omega⟩
  have HC1 := Lib.hid hc1
  have HG1 := Lib.hid hg1
  clear hc1 hg1 HC
  go_wp2
  go_loopw [3, 4] (fun q i W => TextRel a len cap c w q i W) (fun _ i _ => (intOf i).toNat)
  case atStart => exact ⟨⟨#[]⟩, y, rfl, rfl, by omega, by have e : (⟨#[]⟩ : ByteArray).size = 0 := rfl; omega, HC1, HG1⟩
  case round =>
    clear HC1 HG1
    obtain ⟨acc, k, rfl, rfl, hk, hsz, hcur, hgr⟩ := hrel
    by_cases hz : k = 0
    · subst hz
      go_wp2
      go_ret
      exact ⟨acc, by omega, rfl, hcur.out, hgr.out⟩
    · have k1 : (0 : Int) < (k : Int) := by omega
      go_wp2_with fail
      refine (str_pick a len cap c 9 [⟨#[97]⟩, ⟨#[98, 99]⟩, ⟨#[32]⟩, ⟨#[32, 32]⟩, ⟨#[10]⟩, ⟨#[58]⟩, ⟨#[120, 49]⟩, ⟨#[57]⟩, ⟨#[101, 110, 100]⟩] _ rfl rfl wr hl (by omega) (by omega) hcur.out).mono ?_
      rintro e w2 ⟨y, hy, rfl, hc2, hg2⟩
      have HY : y.size ≤ 3 := by
        simp only [List.mem_cons, List.not_mem_nil, or_false] at hy
        rcases hy with rfl | rfl | rfl | rfl | rfl | rfl | rfl | rfl | rfl <;> decide
      have HC2 := Lib.hid hc2
      have HG2 := Lib.hid (Lib.grownBy_trans hgr.out hg2)
      clear hy hc2 hg2 hcur hgr
      have hadd := addStr w2 acc y (by omega)
      have hsz2 : (acc ++ y).size = acc.size + y.size := ByteArray.size_append
      generalize acc ++ y = z at hadd hsz2
      go_wp2
      go_roundw
      case rel => exact ⟨z, k - 1, rfl, by congr 1; omega, by omega, by omega, HC2, HG2⟩
      case measure => simp [intOf]; omega
theorem byte_pick {x : Int} (h : x ∈ [32, 10, 58, 97]) : 0 ≤ x ∧ x < 128 := by
  simp at h
  omega
theorem drawSplitText (a : Option Addr) (len cap : Nat) (w : World) (hl : len ≤ 140737488355328) (hs : Code a len w) :
    Calls Try.prog 12 #[.slice a len cap] w fun e w' => ∃ (s : ByteArray) (c : UInt8), s.size ≤ 15 ∧ e = .returned (.tuple #[.string s, .int .u8 (c.toNat : Int)]) ∧ Below w.heap.size w w' := by
  have HS := Lib.hid hs
  clear hs
  go_enter Try.func12, Try.ntmps12
  go_wp2_with fail
  refine (new_draw a len cap _ hl HS.out).mono ?_
  rintro e w1 ⟨rfl, hc1, hb1, hz1⟩
  have HC1 := Lib.hid hc1
  have HB1 := Lib.hid hb1
  clear hc1 hb1 hz1
  go_wp2_with fail
  refine (text_draw a len cap w.heap.size _ hl HC1.out).mono ?_
  rintro e w2 ⟨s, hsz, rfl, hc2, hg2⟩
  have HC2 := Lib.hid hc2
  have HB2 := Lib.hid (below_grown HB1.out hg2 HB1.out.size (Nat.le_refl _))
  clear hc2 hg2
  go_wp2_with fail
  refine (int_pick a len cap w.heap.size 4 [32, 10, 58, 97] _ rfl rfl w2 hl (by omega) (by omega) HC2.out).mono ?_
  rintro e w3 ⟨x, hx, rfl, hc3, hg3⟩
  obtain ⟨x0, x1⟩ := byte_pick hx
  have HB3 := Lib.hid (below_grown HB2.out hg3 HB2.out.size (Nat.le_refl _))
  clear hx hc3 hg3
  obtain ⟨c, rfl⟩ : ∃ c : UInt8, x = (c.toNat : Int) := ⟨UInt8.ofNat x.toNat, by rw [UInt8.toNat_ofNat', Nat.mod_eq_of_lt (by omega)]; omega⟩
  go_wp2_with fail
  go_ret2
  exact ⟨s, c, hsz, rfl, HB3.out⟩
end Go.Proofs.Ytckkjgocipndpaa
