/- Contracts of the draws of chapter 2. -/
import Derived.Test.YthgcfdhndmgjlaaParseHex
namespace Go.Proofs.Ythgcfdhndmgjlaa
open Go Go.RowKit
/-- Bytes are drawn: at most n. -/
def DrawnOut (n : Nat) (w : World) (e : Ending) (w' : World) : Prop :=
  ∃ a bs cap, bs.length ≤ n ∧ e = .returned (.slice a bs.length cap) ∧ Row w.heap.size a bs cap w' ∧ Below w.heap.size w w'
theorem drawFormatHex (a : Option Addr) (len cap : Nat) (w : World) (hl : len ≤ 140737488355328) (hs : Code a len w) :
    Calls Try.prog 15 #[.slice a len cap] w (DrawnOut 5 w) := by
  have HS := Lib.hid hs
  clear hs
  go_enter Try.func15, Try.ntmps15
  go_wp2_with fail
  refine (new_draw a len cap _ hl HS.out).mono ?_
  rintro e w1 ⟨rfl, hc1, hb1, hz1⟩
  have HC1 := Lib.hid hc1
  have HB1 := Lib.hid hb1
  clear hc1 hb1 hz1
  go_wp2_with fail
  refine (below_draw a len cap w.heap.size 6 _ hl (by omega) (by omega) HC1.out).mono ?_
  rintro e w2 ⟨x, ⟨x0, x1⟩, rfl, hc2, hg2⟩
  obtain ⟨y, rfl⟩ : ∃ y : Nat, x = (y : Int) := ⟨x.toNat, by omega⟩
  have HC2 := Lib.hid hc2
  have HB2 := Lib.hid (below_grown HB1.out hg2 HB1.out.size (Nat.le_refl _))
  clear hc2 hg2
  go_wp2_with fail
  refine (bytes_draw a len cap w.heap.size y _ hl (by omega) HC2.out).mono ?_
  rintro e w3 ⟨v, bs, hbs, rfl, hown, hc3, hg3⟩
  have HW := Lib.hid hown
  have HL := Lib.hid hbs
  have HB3 := Lib.hid (below_grown HB2.out hg3 HB2.out.size (Nat.le_refl _))
  clear hown hbs hc3 hg3
  go_wp2_with fail
  go_ret
  obtain ⟨a3, cap3, rfl, hrow⟩ := HW.out.row
  exact ⟨a3, bs, cap3, by have := HL.out; omega, rfl, hrow.more HB2.out.size, HB3.out⟩
theorem drawParseHex (a : Option Addr) (len cap : Nat) (w : World) (hl : len ≤ 140737488355328) (hs : Code a len w) :
    Calls Try.prog 16 #[.slice a len cap] w fun e w' => ∃ s : ByteArray, s.size ≤ 20 ∧ e = .returned (.string s) ∧ Below w.heap.size w w' := by
  have HS := Lib.hid hs
  clear hs
  go_enter Try.func16, Try.ntmps16
  go_wp2_with fail
  refine (new_draw a len cap _ hl HS.out).mono ?_
  rintro e w1 ⟨rfl, hc1, hb1, hz1⟩
  have HC1 := Lib.hid hc1
  have HB1 := Lib.hid hb1
  clear hc1 hb1 hz1
  go_wp2_with fail
  refine (once_draw a len cap w.heap.size 2 _ hl (by omega) (by omega) HC1.out).mono ?_
  rintro e w2 ⟨x, rfl, hc2, hg2⟩
  have HC2 := Lib.hid hc2
  have HB2 := Lib.hid (below_grown HB1.out hg2 HB1.out.size (Nat.le_refl _))
  clear hc2 hg2
  cases x
  · go_wp2_with fail
    refine (below_draw a len cap w.heap.size 6 _ hl (by omega) (by omega) HC2.out).mono ?_
    rintro e w3 ⟨x, ⟨x0, x1⟩, rfl, hc3, hg3⟩
    obtain ⟨y, rfl⟩ : ∃ y : Nat, x = (y : Int) := ⟨x.toNat, by omega⟩
    have HC3 := Lib.hid hc3
    have HB3 := Lib.hid (below_grown HB2.out hg3 HB2.out.size (Nat.le_refl _))
    clear hc3 hg3
    go_wp2_with fail
    refine (bytes_draw a len cap w.heap.size y _ hl (by omega) HC3.out).mono ?_
    rintro e w4 ⟨v, bs, hbs, rfl, hown, hc4, hg4⟩
    have HL := Lib.hid hbs
    have HB4 := Lib.hid (below_grown HB3.out hg4 HB3.out.size (Nat.le_refl _))
    obtain ⟨a4, cap4, rfl, hf⟩ := hown.fresh
    have HR := Lib.hid hf.rd
    clear hown hbs hc4 hg4 hf
    go_wp2_with fail
    refine (fmthex_spec a4 bs cap4 _ (by have := HL.out; omega) HR.out).mono ?_
    rintro e w5 ⟨rfl, n, rfl⟩
    go_wp2_with fail
    go_ret
    refine ⟨_, ?_, rfl, below_drewN HB4.out _⟩
    have e1 : (⟨(hexL bs).toArray⟩ : ByteArray).size = (hexL bs).length := by simp [ByteArray.size]
    rw [e1, hexL_length]
    have := HL.out
    omega
  · go_wp2_with fail
    refine (str_pick a len cap w.heap.size 9 [⟨#[]⟩, ⟨#[48]⟩, ⟨#[48, 48]⟩, ⟨#[102, 102]⟩, ⟨#[102, 70]⟩, ⟨#[48, 103]⟩, ⟨#[49, 50, 51]⟩, ⟨#[97, 49, 98, 50, 99, 51]⟩, ⟨#[32, 48, 48]⟩] _ rfl rfl w2 hl (by omega) (by omega) HC2.out).mono ?_
    rintro e w3 ⟨y, hy, rfl, hc3, hg3⟩
    have HY := Lib.hid (show y.size ≤ 20 by
      simp only [List.mem_cons, List.not_mem_nil, or_false] at hy
      rcases hy with rfl | rfl | rfl | rfl | rfl | rfl | rfl | rfl | rfl <;> decide)
    have HB3 := Lib.hid (below_grown HB2.out hg3 HB2.out.size (Nat.le_refl _))
    clear hy hc3 hg3
    go_wp2_with fail
    go_ret
    exact ⟨_, HY.out, rfl, HB3.out⟩
theorem number_draw (a : Option Addr) (len cap c : Nat) (w : World) (hl : len ≤ 140737488355328) (hc : Cur a len cap c w) :
    Calls Try.prog 50 #[.pointer (some ⟨c, 0, none⟩)] w (DrawOut I64 a len cap c w) := by
  have HC := Lib.hid hc
  clear hc
  go_enter Try.func50, Try.ntmps50
  go_wp2_with fail
  refine (below_draw a len cap c 70000 _ hl (by omega) (by omega) HC.out).mono ?_
  rintro e w1 ⟨x, ⟨x0, x1⟩, rfl, hc1, hg1⟩
  have HC1 := Lib.hid hc1
  have HG1 := Lib.hid hg1
  clear hc1 hg1
  go_wp2_with fail
  refine (int_pick a len cap c 12 [-1, 0, 1, 255, 256, 65535, 65536, 16777215, 16777216, 4294967295, 4294967296, x] _ rfl rfl w1 hl (by omega) (by omega) HC1.out).mono ?_
  rintro e w2 ⟨y, hy, rfl, hc2, hg2⟩
  have HY := Lib.hid (show I64 y by unfold I64; simp at hy; omega)
  have HC2 := Lib.hid hc2
  have HG2 := Lib.hid (Lib.grownBy_trans HG1.out hg2)
  clear hy hc2 hg2
  go_wp2_with fail
  go_ret
  exact ⟨_, HY.out, rfl, HC2.out, HG2.out⟩
theorem drawBigEndian (a : Option Addr) (len cap : Nat) (w : World) (hl : len ≤ 140737488355328) (hs : Code a len w) :
    Calls Try.prog 21 #[.slice a len cap] w fun e w' => ∃ x y : Int, I64 x ∧ 0 ≤ y ∧ y < 6 ∧ e = .returned (.tuple #[.int .i64 x, .int .i64 y]) ∧ Below w.heap.size w w' := by
  have HS := Lib.hid hs
  clear hs
  go_enter Try.func21, Try.ntmps21
  go_wp2_with fail
  refine (new_draw a len cap _ hl HS.out).mono ?_
  rintro e w1 ⟨rfl, hc1, hb1, hz1⟩
  have HC1 := Lib.hid hc1
  have HB1 := Lib.hid hb1
  clear hc1 hb1 hz1
  go_wp2_with fail
  refine (number_draw a len cap w.heap.size _ hl HC1.out).mono ?_
  rintro e w2 ⟨x, hx, rfl, hc2, hg2⟩
  have HX := Lib.hid hx
  have HC2 := Lib.hid hc2
  have HB2 := Lib.hid (below_grown HB1.out hg2 HB1.out.size (Nat.le_refl _))
  clear hx hc2 hg2
  go_wp2_with fail
  refine (below_draw a len cap w.heap.size 6 _ hl (by omega) (by omega) HC2.out).mono ?_
  rintro e w3 ⟨y, ⟨y0, y1⟩, rfl, hc3, hg3⟩
  have HB3 := Lib.hid (below_grown HB2.out hg3 HB2.out.size (Nat.le_refl _))
  clear hc3 hg3
  go_wp2_with fail
  go_ret2
  exact ⟨x, y, HX.out, y0, y1, rfl, HB3.out⟩
end Go.Proofs.Ythgcfdhndmgjlaa
