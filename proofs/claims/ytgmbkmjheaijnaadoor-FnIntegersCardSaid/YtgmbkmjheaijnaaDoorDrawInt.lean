/- Contracts of the draws of chapter 1: a small number, a limit, an int, and the three draws that the law of the integers makes. -/
import Derived.Test.YtgmbkmjheaijnaaDoorDraw
import Derived.Test.YtgmbkmjheaijnaaDoorParse
namespace Go.Proofs.YtgmbkmjheaijnaaDoor
open Go Go.RowKit
def I64 (x : Int) : Prop := -9223372036854775808 ≤ x ∧ x ≤ 9223372036854775807
theorem Cur.below {a : Option Addr} {len cap c : Nat} {w w' : World} (h : Cur a len cap c w) (hb : Below w.heap.size w w') : Cur a len cap c w' := by
  obtain ⟨k, x, hk, c0, c1, c2, f1, f2, hs⟩ := h
  have hlt : c < w.heap.size := cell_lt c0
  refine ⟨k, x, hk, (hb.cell (p := ⟨c, 0, none⟩) hlt).trans c0, (hb.cell (p := ⟨c, 1, none⟩) hlt).trans c1, (hb.cell (p := ⟨c, 2, none⟩) hlt).trans c2, (hb.frozen (p := ⟨c, 1, none⟩) hlt).trans f1, (hb.frozen (p := ⟨c, 2, none⟩) hlt).trans f2, fun j hj => ?_⟩
  obtain ⟨b, off, y, ha, hne, hy, hc⟩ := hs j hj
  exact ⟨b, off, y, ha, hne, hy, (hb.cell (cell_lt hc)).trans hc⟩
theorem Cur.lt {a : Option Addr} {len cap c : Nat} {w : World} (h : Cur a len cap c w) : c < w.heap.size := by
  obtain ⟨k, x, hk, c0, _⟩ := h
  exact cell_lt c0
theorem cell_new (w : World) (C : Array Value) (t : TypeId) (j : Nat) : (w.alloc (.cells C t)).cell? ⟨w.heap.size, j, none⟩ = C[j]? := World.cell?_alloc_mark w C t (0, 0) j
/-- One of a list that stands in the text is drawn. -/
theorem int_pick (a : Option Addr) (len cap c n : Nat) (zs : List Int) (C : Array Value) (hC : C = (zs.map (Value.int .i64)).toArray) (hn : zs.length = n) (w : World) (hl : len ≤ 140737488355328) (h1 : 1 ≤ n) (h2 : n ≤ 100000) (hc : Cur a len cap c w) :
    Calls Tryd.prog 26 #[.pointer (some ⟨c, 0, none⟩), .slice (some ⟨w.heap.size, 0, none⟩) n n] (w.alloc (.cells C 3)) (DrawOut (fun x => x ∈ zs) a len cap c w) := by
  subst hn hC
  have hlt := hc.lt
  refine (int_draw a len cap c w.heap.size zs _ hl h1 h2 (hc.below ((Below.refl _ _).alloc (Nat.le_refl _) _)) (by omega) ?_).mono ?_
  · intro j hj
    rw [cell_new]
    simp [hj]
  · rintro e w1 ⟨x, hx, he, hc1, hg⟩
    exact ⟨x, hx, he, hc1, Lib.grownBy_trans (World.grownBy_alloc w _ _) hg⟩
theorem str_pick (a : Option Addr) (len cap c n : Nat) (zs : List ByteArray) (C : Array Value) (hC : C = (zs.map Value.string).toArray) (hn : zs.length = n) (w : World) (hl : len ≤ 140737488355328) (h1 : 1 ≤ n) (h2 : n ≤ 100000) (hc : Cur a len cap c w) :
    Calls Tryd.prog 18 #[.pointer (some ⟨c, 0, none⟩), .slice (some ⟨w.heap.size, 0, none⟩) n n] (w.alloc (.cells C 9)) (StrOut (fun x => x ∈ zs) a len cap c w) := by
  subst hn hC
  have hlt := hc.lt
  refine (str_draw a len cap c w.heap.size zs _ hl h1 h2 (hc.below ((Below.refl _ _).alloc (Nat.le_refl _) _)) (by omega) ?_).mono ?_
  · intro j hj
    rw [cell_new]
    simp [hj]
  · rintro e w1 ⟨x, hx, he, hc1, hg⟩
    exact ⟨x, hx, he, hc1, Lib.grownBy_trans (World.grownBy_alloc w _ _) hg⟩
theorem odd_draw (a : Option Addr) (len cap c : Nat) (w : World) (hl : len ≤ 140737488355328) (hc : Cur a len cap c w) :
    Calls Tryd.prog 37 #[.pointer (some ⟨c, 0, none⟩)] w (DrawOut I64 a len cap c w) := by
  have HC := Lib.hid hc
  clear hc
  go_enter Tryd.func37, Tryd.ntmps37
  go_wp2_with fail
  refine (int_pick a len cap c 14 [-1, 0, 1, 2, 255, 256, 65535, 2147483647, 2147483648, 4294967295, 4294967296, -2147483648, 9223372036854775807, -9223372036854775808] _ rfl rfl w hl (by omega) (by omega) HC.out).mono ?_
  rintro e w1 ⟨x, hx, rfl, hc1, hg1⟩
  have HX := Lib.hid (show I64 x by unfold I64; simp at hx; omega)
  have HC1 := Lib.hid hc1
  have HG1 := Lib.hid hg1
  clear hx hc1 hg1
  go_wp2_with fail
  go_ret
  exact ⟨_, HX.out, rfl, HC1.out, HG1.out⟩
def Small (x : Int) : Prop := 0 ≤ x ∧ x ≤ 1000000000000
theorem prod_small {y z : Int} (y0 : 0 ≤ y) (y1 : y < 1000000) (z0 : 0 ≤ z) (z1 : z < 1000000) : 0 ≤ y * z ∧ y * z ≤ 1000000000000 := by
  refine ⟨Int.mul_nonneg y0 z0, ?_⟩
  have h := Int.mul_le_mul (show y ≤ 1000000 by omega) (show z ≤ 1000000 by omega) z0 (by omega)
  omega
set_option maxRecDepth 100000 in
theorem num_draw (a : Option Addr) (len cap c : Nat) (w : World) (hl : len ≤ 140737488355328) (hc : Cur a len cap c w) :
    Calls Tryd.prog 19 #[.pointer (some ⟨c, 0, none⟩)] w (DrawOut Small a len cap c w) := by
  have HC := Lib.hid hc
  clear hc
  go_enter Tryd.func19, Tryd.ntmps19
  go_wp2_with fail
  refine (below_draw a len cap c 4 _ hl (by omega) (by omega) HC.out).mono ?_
  rintro e w1 ⟨x, ⟨x0, x1⟩, rfl, hc1, hg1⟩
  have HC1 := Lib.hid hc1
  have HG1 := Lib.hid hg1
  clear hc1 hg1
  obtain rfl | rfl | rfl | rfl : x = 0 ∨ x = 1 ∨ x = 2 ∨ x = 3 := by omega
  · go_wp2_with fail
    refine (below_draw a len cap c 2000 _ hl (by omega) (by omega) HC1.out).mono ?_
    rintro e w2 ⟨y, ⟨y0, y1⟩, rfl, hc2, hg2⟩
    have HC2 := Lib.hid hc2
    have HG2 := Lib.hid (Lib.grownBy_trans HG1.out hg2)
    clear hc2 hg2
    go_wp2_with fail
    go_ret
    exact ⟨_, ⟨y0, by omega⟩, rfl, HC2.out, HG2.out⟩
  · go_wp2_with fail
    refine (int_pick a len cap c 7 [0, 1, 127, 128, 2147483646, 2147483647, 1000000000000] _ rfl rfl w1 hl (by omega) (by omega) HC1.out).mono ?_
    rintro e w2 ⟨y, hy, rfl, hc2, hg2⟩
    have HY := Lib.hid (show Small y by unfold Small; simp at hy; omega)
    have HC2 := Lib.hid hc2
    have HG2 := Lib.hid (Lib.grownBy_trans HG1.out hg2)
    clear hy hc2 hg2
    go_wp2_with fail
    go_ret
    exact ⟨_, HY.out, rfl, HC2.out, HG2.out⟩
  · go_wp2_with fail
    refine (below_draw a len cap c 1000000 _ hl (by omega) (by omega) HC1.out).mono ?_
    rintro e w2 ⟨y, ⟨y0, y1⟩, rfl, hc2, hg2⟩
    have HC2 := Lib.hid hc2
    have HG2 := Lib.hid (Lib.grownBy_trans HG1.out hg2)
    clear hc2 hg2
    go_wp2_with fail
    refine (below_draw a len cap c 1000000 _ hl (by omega) (by omega) HC2.out).mono ?_
    rintro e w3 ⟨z, ⟨z0, z1⟩, rfl, hc3, hg3⟩
    have HC3 := Lib.hid hc3
    have HG3 := Lib.hid (Lib.grownBy_trans HG2.out hg3)
    clear hc3 hg3
    obtain ⟨p0, p1⟩ := prod_small y0 y1 z0 z1
    go_wp2_with fail
    go_ret
    exact ⟨_, ⟨p0, p1⟩, rfl, HC3.out, HG3.out⟩
  · go_wp2_with fail
    refine (below_draw a len cap c 20 _ hl (by omega) (by omega) HC1.out).mono ?_
    rintro e w2 ⟨y, ⟨y0, y1⟩, rfl, hc2, hg2⟩
    have HC2 := Lib.hid hc2
    have HG2 := Lib.hid (Lib.grownBy_trans HG1.out hg2)
    clear hc2 hg2
    go_wp2_with fail
    go_ret
    exact ⟨_, ⟨y0, by omega⟩, rfl, HC2.out, HG2.out⟩
theorem raw_draw (a : Option Addr) (len cap c : Nat) (w : World) (hl : len ≤ 140737488355328) (hc : Cur a len cap c w) :
    Calls Tryd.prog 29 #[.pointer (some ⟨c, 0, none⟩)] w (DrawOut I64 a len cap c w) := by
  have HC := Lib.hid hc
  clear hc
  go_enter Tryd.func29, Tryd.ntmps29
  go_wp2_with fail
  refine (once_draw a len cap c 2 _ hl (by omega) (by omega) HC.out).mono ?_
  rintro e w1 ⟨x, rfl, hc1, hg1⟩
  have HC1 := Lib.hid hc1
  have HG1 := Lib.hid hg1
  clear hc1 hg1
  cases x
  · go_wp2_with fail
    refine (int_pick a len cap c 3 [-1, 1000000000000, 1000000000001] _ rfl rfl w1 hl (by omega) (by omega) HC1.out).mono ?_
    rintro e w2 ⟨y, hy, rfl, hc2, hg2⟩
    have HY := Lib.hid (show I64 y by unfold I64; simp at hy; omega)
    have HC2 := Lib.hid hc2
    have HG2 := Lib.hid (Lib.grownBy_trans HG1.out hg2)
    clear hy hc2 hg2
    go_wp2_with fail
    go_ret
    exact ⟨_, HY.out, rfl, HC2.out, HG2.out⟩
  · go_wp2_with fail
    refine (odd_draw a len cap c _ hl HC1.out).mono ?_
    rintro e w2 ⟨y, hy, rfl, hc2, hg2⟩
    have HY := Lib.hid hy
    have HC2 := Lib.hid hc2
    have HG2 := Lib.hid (Lib.grownBy_trans HG1.out hg2)
    clear hy hc2 hg2
    go_wp2_with fail
    go_ret
    exact ⟨_, HY.out, rfl, HC2.out, HG2.out⟩
theorem one_draw (a : Option Addr) (len cap c : Nat) (w : World) (hl : len ≤ 140737488355328) (hc : Cur a len cap c w) :
    Calls Tryd.prog 22 #[.pointer (some ⟨c, 0, none⟩)] w (DrawOut I64 a len cap c w) := by
  have HC := Lib.hid hc
  clear hc
  go_enter Tryd.func22, Tryd.ntmps22
  go_wp2_with fail
  refine (once_draw a len cap c 6 _ hl (by omega) (by omega) HC.out).mono ?_
  rintro e w1 ⟨x, rfl, hc1, hg1⟩
  have HC1 := Lib.hid hc1
  have HG1 := Lib.hid hg1
  clear hc1 hg1
  cases x
  · go_wp2_with fail
    refine (num_draw a len cap c _ hl HC1.out).mono ?_
    rintro e w2 ⟨y, hy, rfl, hc2, hg2⟩
    have HY := Lib.hid (show I64 y by unfold I64; unfold Small at hy; omega)
    have HC2 := Lib.hid hc2
    have HG2 := Lib.hid (Lib.grownBy_trans HG1.out hg2)
    clear hy hc2 hg2
    go_wp2_with fail
    go_ret
    exact ⟨_, HY.out, rfl, HC2.out, HG2.out⟩
  · go_wp2_with fail
    refine (raw_draw a len cap c _ hl HC1.out).mono ?_
    rintro e w2 ⟨y, hy, rfl, hc2, hg2⟩
    have HY := Lib.hid hy
    have HC2 := Lib.hid hc2
    have HG2 := Lib.hid (Lib.grownBy_trans HG1.out hg2)
    clear hy hc2 hg2
    go_wp2_with fail
    go_ret
    exact ⟨_, HY.out, rfl, HC2.out, HG2.out⟩
/-- What an int draw leaves to the law: an int, and only new memory. -/
def IntOut (w : World) (e : Ending) (w' : World) : Prop := ∃ x : Int, I64 x ∧ e = .returned (.int .i64 x) ∧ Below w.heap.size w w'
def PairOut (w : World) (e : Ending) (w' : World) : Prop := ∃ x y : Int, I64 x ∧ I64 y ∧ e = .returned (.tuple #[.int .i64 x, .int .i64 y]) ∧ Below w.heap.size w w'
def TextOut (w : World) (e : Ending) (w' : World) : Prop := ∃ s : ByteArray, s.size ≤ 20 ∧ e = .returned (.string s) ∧ Below w.heap.size w w'
theorem below_grown {B c : Nat} {w0 w w' : World} (h : Below B w0 w) (hg : w.grownBy w' (some c)) (hB : B ≤ w.heap.size) (hc : B ≤ c) : Below B w0 w' :=
  h.grown hg hB fun k e => by injection e with e; omega
theorem drawFormatInt (a : Option Addr) (len cap : Nat) (w : World) (hl : len ≤ 140737488355328) (hs : Code a len w) :
    Calls Tryd.prog 9 #[.slice a len cap] w (IntOut w) := by
  have HS := Lib.hid hs
  clear hs
  go_enter Tryd.func9, Tryd.ntmps9
  go_wp2_with fail
  refine (new_draw a len cap _ hl HS.out).mono ?_
  rintro e w1 ⟨rfl, hc1, hb1, hz1⟩
  have HC1 := Lib.hid hc1
  have HB1 := Lib.hid hb1
  clear hc1 hb1 hz1
  go_wp2_with fail
  refine (one_draw a len cap w.heap.size _ hl HC1.out).mono ?_
  rintro e w2 ⟨y, hy, rfl, hc2, hg2⟩
  have HY := Lib.hid hy
  have HB2 := Lib.hid (below_grown HB1.out hg2 HB1.out.size (Nat.le_refl _))
  clear hy hc2 hg2
  go_wp2_with fail
  go_ret
  exact ⟨_, HY.out, rfl, HB2.out⟩
theorem drawCeilDiv (a : Option Addr) (len cap : Nat) (w : World) (hl : len ≤ 140737488355328) (hs : Code a len w) :
    Calls Tryd.prog 11 #[.slice a len cap] w (PairOut w) := by
  have HS := Lib.hid hs
  clear hs
  go_enter Tryd.func11, Tryd.ntmps11
  go_wp2_with fail
  refine (new_draw a len cap _ hl HS.out).mono ?_
  rintro e w1 ⟨rfl, hc1, hb1, hz1⟩
  have HC1 := Lib.hid hc1
  have HB1 := Lib.hid hb1
  clear hc1 hb1 hz1
  go_wp2_with fail
  refine (one_draw a len cap w.heap.size _ hl HC1.out).mono ?_
  rintro e w2 ⟨y, hy, rfl, hc2, hg2⟩
  have HY := Lib.hid hy
  have HC2 := Lib.hid hc2
  have HB2 := Lib.hid (below_grown HB1.out hg2 HB1.out.size (Nat.le_refl _))
  clear hy hc2 hg2
  go_wp2_with fail
  refine (one_draw a len cap w.heap.size _ hl HC2.out).mono ?_
  rintro e w3 ⟨z, hz, rfl, hc3, hg3⟩
  have HZ := Lib.hid hz
  have HB3 := Lib.hid (below_grown HB2.out hg3 HB2.out.size (Nat.le_refl _))
  clear hz hc3 hg3
  go_wp2_with fail
  go_ret2
  exact ⟨_, _, HY.out, HZ.out, rfl, HB3.out⟩
theorem drawParseInt (a : Option Addr) (len cap : Nat) (w : World) (hl : len ≤ 140737488355328) (hs : Code a len w) :
    Calls Tryd.prog 7 #[.slice a len cap] w (TextOut w) := by
  have HS := Lib.hid hs
  clear hs
  go_enter Tryd.func7, Tryd.ntmps7
  go_wp2_with fail
  refine (new_draw a len cap _ hl HS.out).mono ?_
  rintro e w1 ⟨rfl, hc1, hb1, hz1⟩
  have HC1 := Lib.hid hc1
  have HB1 := Lib.hid hb1
  clear hc1 hb1 hz1
  go_wp2_with fail
  refine (once_draw a len cap w.heap.size 2 _ hl (by omega) (by omega) HC1.out).mono ?_
  rintro e w2 ⟨x, rfl, hc2, hg2⟩
  have HC2 := Lib.hid hc2
  have HB2 := Lib.hid (below_grown HB1.out hg2 HB1.out.size (Nat.le_refl _))
  clear hc2 hg2
  cases x
  · go_wp2_with fail
    refine (num_draw a len cap w.heap.size _ hl HC2.out).mono ?_
    rintro e w3 ⟨y, ⟨y0, y1⟩, rfl, hc3, hg3⟩
    have HB3 := Lib.hid (below_grown HB2.out hg3 HB2.out.size (Nat.le_refl _))
    clear hc3 hg3
    go_wp2_with fail
    refine (fmt_spec y _ (by omega) (by omega)).mono ?_
    rintro e w4 ⟨rfl, b4⟩
    have HB4 := Lib.hid (HB3.out.trans (b4.mono HB3.out.size))
    clear b4
    go_wp2_with fail
    go_ret
    refine ⟨_, ?_, rfl, HB4.out⟩
    rw [bytes_size]
    obtain ⟨n, rfl⟩ : ∃ n : Nat, y = (n : Int) := ⟨y.toNat, by omega⟩
    rw [itoa_nat]
    have := digits_length (n := n) (by omega)
    omega
  · go_wp2_with fail
    refine (str_pick a len cap w.heap.size 11 [⟨#[]⟩, ⟨#[48]⟩, ⟨#[48, 48]⟩, ⟨#[45, 49]⟩, ⟨#[48, 49]⟩, ⟨#[55]⟩, ⟨#[49, 48, 48, 48, 48, 48, 48, 48, 48, 48, 48, 48, 48]⟩, ⟨#[49, 48, 48, 48, 48, 48, 48, 48, 48, 48, 48, 48, 49]⟩, ⟨#[57, 57, 57, 57, 57, 57, 57, 57, 57, 57, 57, 57, 57, 57]⟩, ⟨#[49, 120]⟩, ⟨#[32, 49]⟩] _ rfl rfl w2 hl (by omega) (by omega) HC2.out).mono ?_
    rintro e w3 ⟨y, hy, rfl, hc3, hg3⟩
    have HY := Lib.hid (show y.size ≤ 20 by
      simp only [List.mem_cons, List.not_mem_nil, or_false] at hy
      rcases hy with rfl | rfl | rfl | rfl | rfl | rfl | rfl | rfl | rfl | rfl | rfl <;> decide)
    have HB3 := Lib.hid (below_grown HB2.out hg3 HB2.out.size (Nat.le_refl _))
    clear hy hc3 hg3
    go_wp2_with fail
    go_ret
    exact ⟨_, HY.out, rfl, HB3.out⟩
end Go.Proofs.YtgmbkmjheaijnaaDoor
