/- What FnDigits asks: the draw of a text and an index, a byte of the code, the two readings. -/
import Derived.Test.YtfdnfifmhfffnaaDoorSHexR
import Derived.Test.YtfdnfifmhfffnaaDoorFnt
import Derived.Test.YtfdnfifmhfffnaaDoorFmtHex
import Derived.Test.YtfdnfifmhfffnaaDoorDrawPick
import Derived.Test.YtfdnfifmhfffnaaDoorArg
namespace Go.Proofs.YtfdnfifmhfffnaaDoor
open Go Go.RowKit
theorem drawReadDigits (a : Option Addr) (len cap : Nat) (w : World) (hl : len ≤ 140737488355328) (hs : Code a len w) :
    Calls Tryd.prog 6 #[.slice a len cap] w fun e w' => ∃ (s : ByteArray) (n : Int), (s.size ≤ 15 ∧ -1 ≤ n ∧ n ≤ 4) ∧ e = .returned (.tuple #[.string s, .int .i64 n]) ∧ Below w.heap.size w w' := by
  have HS := Lib.hid hs
  clear hs
  go_enter Tryd.func6, Tryd.ntmps6
  go_wp2_with fail
  refine (new_draw a len cap _ hl HS.out).mono ?_
  rintro e w1 ⟨rfl, hc1, hb1, hz1⟩
  have HC1 := Lib.hid hc1
  have HB1 := Lib.hid hb1
  clear hc1 hb1 hz1
  go_wp2_with fail
  refine (str_pick a len cap w.heap.size 6 [⟨#[]⟩, ⟨#[55]⟩, ⟨#[49, 50, 51, 44, 52]⟩, ⟨#[120, 57]⟩, ⟨#[48, 48]⟩, ⟨#[49, 50, 51, 52, 53, 54, 55, 56, 57, 48, 49, 50, 51, 52]⟩] _ rfl rfl w1 hl (by omega) (by omega) HC1.out).mono ?_
  rintro e w2 ⟨s, hs, rfl, hc2, hg2⟩
  have hsz : s.size ≤ 15 := by
    simp only [List.mem_cons, List.not_mem_nil, or_false] at hs
    rcases hs with rfl | rfl | rfl | rfl | rfl | rfl <;> decide
  have HC2 := Lib.hid hc2
  have HB2 := Lib.hid (below_grown HB1.out hg2 HB1.out.size (Nat.le_refl _))
  clear hs hc2 hg2
  go_wp2_with fail
  refine (below_draw a len cap w.heap.size 6 _ hl (by omega) (by omega) HC2.out).mono ?_
  rintro e w3 ⟨x, ⟨x0, x1⟩, rfl, hc3, hg3⟩
  have HB3 := Lib.hid (below_grown HB2.out hg3 HB2.out.size (Nat.le_refl _))
  clear hc3 hg3
  go_wp2_with fail
  go_ret2
  exact ⟨s, x - 1, ⟨hsz, by omega, by omega⟩, rfl, HB3.out⟩
/-- A byte of the code. -/
def atV (bs : List UInt8) (i : Nat) : Nat := if h : i < bs.length then bs[i].toNat else (i * 31 + bs.length * 7) % 256
theorem atV_lt (bs : List UInt8) (i : Nat) : atV bs i < 256 := by
  unfold atV
  split
  · exact UInt8.toNat_lt _
  · omega
set_option maxRecDepth 100000 in
theorem at_law0 (a : Option Addr) (bs : List UInt8) (cap : Nat) (w : World) (hl : bs.length ≤ 1048576) (hr : Rd a bs w) :
    Calls Tryd.prog 11 #[.slice a bs.length cap, .int .i64 0] w fun e w' => e = .returned (.int .i64 (atV bs 0 : Int)) ∧ w = w' := by
  by_cases h : 0 < bs.length
  · obtain ⟨b, off, rfl, hc⟩ := hr 0 h
    rw [Nat.add_zero] at hc
    have e1 : atV bs 0 = bs[0].toNat := by unfold atV; rw [dif_pos h]
    have hx := bs[0].toNat_lt
    have g : (0 : Int) < (bs.length : Int) := by omega
    rw [e1]
    go_enter Tryd.func11, Tryd.ntmps11
    go_wp2
    go_ret
    exact ⟨rfl, rfl⟩
  · have e1 : atV bs 0 = (0 * 31 + bs.length * 7) % 256 := by unfold atV; rw [dif_neg h]
    have g : ¬ (0 : Int) < (bs.length : Int) := by omega
    have e2 : bs.length = 0 := by omega
    rw [e1]
    go_enter Tryd.func11, Tryd.ntmps11
    go_wp2
    go_ret
    exact ⟨rfl, rfl⟩
set_option maxRecDepth 100000 in
theorem at_law1 (a : Option Addr) (bs : List UInt8) (cap : Nat) (w : World) (hl : bs.length ≤ 1048576) (hr : Rd a bs w) :
    Calls Tryd.prog 11 #[.slice a bs.length cap, .int .i64 1] w fun e w' => e = .returned (.int .i64 (atV bs 1 : Int)) ∧ w = w' := by
  by_cases h : 1 < bs.length
  · obtain ⟨b, off, rfl, hc⟩ := hr 1 h
    have e1 : atV bs 1 = bs[1].toNat := by unfold atV; rw [dif_pos h]
    have hx := bs[1].toNat_lt
    have g : (1 : Int) < (bs.length : Int) := by omega
    rw [e1]
    go_enter Tryd.func11, Tryd.ntmps11
    go_wp2
    go_ret
    exact ⟨rfl, rfl⟩
  · have e1 : atV bs 1 = (1 * 31 + bs.length * 7) % 256 := by unfold atV; rw [dif_neg h]
    have g : ¬ (1 : Int) < (bs.length : Int) := by omega
    rw [e1]
    have hn2 : bs.length = 0 ∨ bs.length = 1 := by omega
    clear hr e1 hl h
    generalize bs.length = n at hn2 g ⊢
    rcases hn2 with rfl | rfl
    · go_enter Tryd.func11, Tryd.ntmps11
      go_wp2
      go_ret
      exact ⟨rfl, rfl⟩
    · go_enter Tryd.func11, Tryd.ntmps11
      go_wp2
      go_ret
      exact ⟨rfl, rfl⟩
theorem hexV_hexD' : ∀ n : Fin 16, hexV (hexD n.val) = (n.val : Int) := by decide +kernel
theorem hexV_z : hexV 122 = -1 := by decide
theorem byte_back (c : UInt8) : UInt8.ofNat (hexV (hexD (c.toNat / 16)) * 16 + hexV (hexD (c.toNat % 16))).toNat = c := by
  have hc := c.toNat_lt
  have h1 := hexV_hexD' ⟨c.toNat / 16, by omega⟩
  have h2 := hexV_hexD' ⟨c.toNat % 16, by omega⟩
  simp only at h1 h2
  rw [h1, h2]
  have h3 : (((c.toNat / 16 : Nat) : Int) * 16 + ((c.toNat % 16 : Nat) : Int)).toNat = c.toNat := by omega
  rw [h3]
  simp
/-- The digits of bytes with a letter behind them give the bytes. -/
theorem readH_hexL (r : List UInt8) (hr : readH r = ([], 0)) : ∀ bs : List UInt8, readH (hexL bs ++ r) = (bs, 2 * bs.length)
  | [] => by rw [hexL, List.nil_append, hr]; rfl
  | b :: bs => by
    have hc := b.toNat_lt
    have h1 := hexV_hexD' ⟨b.toNat / 16, by omega⟩
    have h2 := hexV_hexD' ⟨b.toNat % 16, by omega⟩
    simp only at h1 h2
    rw [hexL, List.cons_append, List.cons_append, readH, if_pos ⟨by rw [h1]; omega, by rw [h2]; omega⟩, readH_hexL r hr bs, byte_back]
    simp
    omega
end Go.Proofs.YtfdnfifmhfffnaaDoor
