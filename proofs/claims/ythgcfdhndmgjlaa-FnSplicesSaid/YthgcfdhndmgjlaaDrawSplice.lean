/- Contract of the draw of a splice. -/
import Derived.Test.YthgcfdhndmgjlaaDrawBytes
namespace Go.Proofs.Ythgcfdhndmgjlaa
open Go Go.RowKit
theorem hc2lt {a : Option Addr} {len cap c : Nat} {w : World} (h : Cur a len cap c w) : Hid (c < w.heap.size) := h.lt
/-- A splice is drawn: bytes, two ints, bytes. -/
def SpliceOut (w : World) (e : Ending) (w' : World) : Prop :=
  ∃ a bs cap x y a2 is cap2, bs.length ≤ 6 ∧ is.length ≤ 3 ∧ I64 x ∧ I64 y ∧ e = .returned (.tuple #[.slice a bs.length cap, .int .i64 x, .int .i64 y, .slice a2 is.length cap2])
    ∧ Row w.heap.size a bs cap w' ∧ Row w.heap.size a2 is cap2 w' ∧ Below w.heap.size w w'
set_option maxRecDepth 100000 in
theorem drawSplice (a : Option Addr) (len cap : Nat) (w : World) (hl : len ≤ 140737488355328) (hs : Code a len w) :
    Calls Try.prog 26 #[.slice a len cap] w (SpliceOut w) := by
  have HS := Lib.hid hs
  clear hs
  go_enter Try.func26, Try.ntmps26
  go_wp2_with fail
  refine (new_draw a len cap _ hl HS.out).mono ?_
  rintro e w1 ⟨rfl, hc1, hb1, hz1⟩
  have HC1 := Lib.hid hc1
  have HB1 := Lib.hid hb1
  clear hc1 hb1 hz1
  go_wp2_with fail
  refine (below_draw a len cap w.heap.size 7 _ hl (by omega) (by omega) HC1.out).mono ?_
  rintro e w2 ⟨x, ⟨x0, x1⟩, rfl, hc2, hg2⟩
  obtain ⟨y, rfl⟩ : ∃ y : Nat, x = (y : Int) := ⟨x.toNat, by omega⟩
  have HC2 := Lib.hid hc2
  have HB2 := Lib.hid (below_grown HB1.out hg2 HB1.out.size (Nat.le_refl _))
  clear hc2 hg2
  go_wp2_with fail
  refine (bytes_draw a len cap w.heap.size y _ hl (by omega) HC2.out).mono ?_
  rintro e w3 ⟨v, bs, hbs, rfl, hown, hc3, hg3⟩
  obtain ⟨a3, cap3, rfl, hrow⟩ := hown.row
  have hlen : bs.length ≤ 6 := by omega
  have HW := Lib.hid hown
  have HC3 := Lib.hid hc3
  have HB3 := Lib.hid (below_grown HB2.out hg3 HB2.out.size (Nat.le_refl _))
  have hcb : Hid (w.heap.size < w2.heap.size) := hc2lt HC2.out
  clear hown hrow hbs hc3 hg3
  go_wp2_with fail
  refine (int_pick a len cap w.heap.size 6 [-1, 0, 1, (bs.length : Int), (bs.length : Int) + 1, 9223372036854775807] _ rfl rfl w3 hl (by omega) (by omega) HC3.out).mono ?_
  rintro e w4 ⟨i4, hi4, rfl, hc4, hg4⟩
  have HI4 := Lib.hid (show I64 i4 by unfold I64; simp at hi4; omega)
  have HC4 := Lib.hid hc4
  have HW4 := Lib.hid (HW.out.far hcb.out hg4)
  have HB4 := Lib.hid (below_grown HB3.out hg4 HB3.out.size (Nat.le_refl _))
  clear hi4 hc4 hg4
  go_wp2_with fail
  refine (int_pick a len cap w.heap.size 5 [-1, 0, 1, (bs.length : Int), 9223372036854775807] _ rfl rfl w4 hl (by omega) (by omega) HC4.out).mono ?_
  rintro e w5 ⟨i5, hi5, rfl, hc5, hg5⟩
  have HI5 := Lib.hid (show I64 i5 by unfold I64; simp at hi5; omega)
  have HC5 := Lib.hid hc5
  have HW5 := Lib.hid (HW4.out.far hcb.out hg5)
  have HB5 := Lib.hid (below_grown HB4.out hg5 HB4.out.size (Nat.le_refl _))
  clear hi5 hc5 hg5
  go_wp2_with fail
  refine (below_draw a len cap w.heap.size 4 _ hl (by omega) (by omega) HC5.out).mono ?_
  rintro e w6 ⟨x6, ⟨x60, x61⟩, rfl, hc6, hg6⟩
  obtain ⟨y6, rfl⟩ : ∃ y6 : Nat, x6 = (y6 : Int) := ⟨x6.toNat, by omega⟩
  have HC6 := Lib.hid hc6
  have HW6 := Lib.hid (HW5.out.far hcb.out hg6)
  have HB6 := Lib.hid (below_grown HB5.out hg6 HB5.out.size (Nat.le_refl _))
  clear hc6 hg6
  go_wp2_with fail
  refine (bytes_draw a len cap w.heap.size y6 _ hl (by omega) HC6.out).mono ?_
  rintro e w7 ⟨v7, is, his, rfl, hown7, hc7, hg7⟩
  obtain ⟨a7, cap7, rfl, hrow7⟩ := hown7.row
  have hlen7 : is.length ≤ 3 := by omega
  have HR7 := Lib.hid (hrow7.more HB6.out.size)
  have HW7 := Lib.hid (HW6.out.far hcb.out hg7)
  have HB7 := Lib.hid (below_grown HB6.out hg7 HB6.out.size (Nat.le_refl _))
  clear hown7 hrow7 his hc7 hg7
  go_wp2_with fail
  obtain ⟨a8, cap8, hv8, hrow8⟩ := HW7.out.row
  injection hv8 with e1 _ e3
  subst e1 e3
  exact bodyPost_ret (v := .tuple #[.slice a3 bs.length cap3, .int .i64 i4, .int .i64 i5, .slice a7 is.length cap7]) (by simp [results, Try.results26, go_sem]) rfl ⟨a3, bs, cap3, i4, i5, a7, is, cap7, hlen, hlen7, HI4.out, HI5.out, rfl, hrow8.more HB2.out.size, HR7.out, HB7.out⟩
end Go.Proofs.Ythgcfdhndmgjlaa
