/- Contracts of the laws' helpers on slices of strings: marking, looking for the marks, the size. -/
import Derived.Test.YtkegjgfggijinaaStrs
import Derived.Test.YtkegjgfggijinaaMark
import Derived.Deep.RegionWith
namespace Go.Proofs.Ytkegjgfggijinaa
open Go Go.RowKit
/-- The marks k, k + 1, .. as strings. -/
def marksS (k n : Nat) : List ByteArray := (List.range n).map fun j => markT (k + j)
theorem marksS_length (k n : Nat) : (marksS k n).length = n := by simp [marksS]
theorem marksS_at (k n j : Nat) (h : j < (marksS k n).length) : (marksS k n)[j] = markT (k + j) := by simp [marksS]
/-- The first i cells are marked. -/
def MarkedS (b off n k i : Nat) (w W : World) : Prop :=
  w.grownBy W (some b) ∧ ∀ j, j < n → (∃ x : ByteArray, W.cell? ⟨b, off + j, none⟩ = some (.string x) ∧ (j < i → x = markT (k + j))) ∧ W.frozen? ⟨b, off + j, none⟩ = false
theorem MarkedS.below {b off n k i : Nat} {w W W' : World} (h : MarkedS b off n k i w W) (hb : Below W.heap.size W W') : MarkedS b off n k i w W' := by
  refine ⟨grown_below h.1 hb, fun j hj => ?_⟩
  obtain ⟨⟨x, hx, hxi⟩, hf⟩ := h.2 j hj
  exact ⟨⟨x, (hb.cell (cell_lt hx)).trans hx, hxi⟩, (hb.frozen (p := ⟨b, off + j, none⟩) (cell_lt hx)).trans hf⟩
theorem MarkedS.next {b off n k i : Nat} {w W : World} (h : MarkedS b off n k i w W) (hi : i < n) : MarkedS b off n k (i + 1) w (W.setCell ⟨b, off + i, none⟩ (.string (markT (k + i)))) := by
  refine ⟨grown_set h.1 (off + i) _, fun j hj => ⟨?_, by simpa using (h.2 j hj).2⟩⟩
  obtain ⟨⟨x, hx, hxi⟩, _⟩ := h.2 j hj
  by_cases e : j = i
  · subst e
    exact ⟨_, World.cell?_setCell_same _ _ _ hx, fun _ => rfl⟩
  · refine ⟨x, (World.cell?_setCell_other _ _ _ _ (fun he => e (by have := congrArg Addr.off he; simp at this; omega))).trans hx, fun hlt => hxi (by omega)⟩
/-- A row is marked: only its block has turned. -/
def MarkOutS (B : Nat) (a : Option Addr) (n cap k : Nat) (w : World) (e : Ending) (w' : World) : Prop :=
  e = .returned (.int .i64 ((k + n : Nat) : Int)) ∧ RowS B a (marksS k n) cap w' ∧ Touch B a n w w'
/-- The sizes of the first k strings. -/
def sumTo (ss : List ByteArray) (k : Nat) : Nat := ((ss.take k).map ByteArray.size).sum
theorem sumTo_next (ss : List ByteArray) (k : Nat) (h : k < ss.length) : sumTo ss (k + 1) = sumTo ss k + ss[k].size := by
  unfold sumTo
  rw [List.take_succ_eq_append_getElem h, List.map_append, List.sum_append]
  simp only [List.map_cons, List.map_nil, List.sum_cons, List.sum_nil, Nat.add_zero]
theorem sumTo_le (ss : List ByteArray) (k : Nat) : sumTo ss k ≤ sumTo ss ss.length := by
  unfold sumTo
  have e : (ss.map ByteArray.size).sum = ((ss.take k).map ByteArray.size).sum + ((ss.drop k).map ByteArray.size).sum := by
    rw [← List.sum_append, ← List.map_append, List.take_append_drop]
  rw [List.take_length, e]
  exact Nat.le_add_right _ _
theorem size_le (ss : List ByteArray) (j : Nat) (h : j < ss.length) : ss[j].size ≤ sumTo ss ss.length := by
  have h1 := sumTo_next ss j h
  have h2 := sumTo_le ss (j + 1)
  omega
/-- The size of a list of strings: its length and its strings' lengths. -/
def sizeS (ss : List ByteArray) : Nat := ss.length + sumTo ss ss.length
/-- What is left of L behind n, or -1. -/
def leftN (L n : Nat) : Int := if n ≤ L then (L : Int) - (n : Int) else -1
/-- What is left of a million behind a list of strings, or -1. -/
def leftS (ss : List ByteArray) : Int := leftN 1048576 (sizeS ss)
set_option maxRecDepth 100000 in
theorem sz_strsL (a : Option Addr) (ss : List ByteArray) (cap L : Nat) (w : World) (hL : L ≤ 1048576) (hl : ss.length ≤ 9223372036854775807) (hs : ∀ s ∈ ss, s.size ≤ 9223372036854775807) (h : RdS a ss w) :
    Calls Try.prog 77 #[.slice a ss.length cap, .int .i64 (L : Int)] w fun e w' => e = .returned (.int .i64 (leftN L (sizeS ss))) ∧ w = w' := by
  have H := Lib.hid h
  have HS := Lib.hid hs
  clear h hs
  by_cases hbig : L < ss.length
  · have g1 : (L : Int) - (ss.length : Int) < 0 := by omega
    have hr : Hid (leftN L (sizeS ss) = -1) := by unfold Hid leftN; rw [if_neg (by unfold sizeS; omega)]
    go_enter Try.func77, Try.ntmps77
    go_wp2
    go_ret
    exact ⟨ret_int hr.out.symm, rfl⟩
  · have g1 : ¬ ((L : Int) - (ss.length : Int) < 0) := by omega
    go_enter Try.func77, Try.ntmps77
    go_wp2
    clear g1
    go_loop [1, 5] (fun q i => ∃ k r : Nat, k ≤ ss.length ∧ i = .int .i64 k ∧ q = .int .i64 (r : Int) ∧ r ≤ L ∧ Hid (r + ss.length + sumTo ss k = L)) (fun _ i => ss.length - (intOf i).toNat)
    case atStart => exact ⟨0, L - ss.length, Nat.zero_le _, rfl, by congr 1; omega, by omega, by unfold Hid sumTo; simp; omega⟩
    case round =>
      obtain ⟨k, r, hk, rfl, rfl, hr, hsum⟩ := hrel
      have k0 : (0 : Int) ≤ (k : Int) := by omega
      by_cases hlt : k < ss.length
      · obtain ⟨b, off, rfl, hc⟩ := H.out k hlt
        have k1 : (k : Int) < (ss.length : Int) := by omega
        have hsz := HS.out _ (List.getElem_mem hlt)
        have hnx := Lib.hid (sumTo_next ss k hlt)
        have hto := Lib.hid (sumTo_le ss (k + 1))
        generalize ss[k] = x at hc hsz hnx
        by_cases hle : x.size ≤ r
        · have g2 : ¬ ((r : Int) - (x.size : Int) < 0) := by omega
          have hsum' : Hid (r - x.size + ss.length + sumTo ss (k + 1) = L) := by
            have h1 := hsum.out
            have h2 := hnx.out
            show _ = _
            omega
          go_wp2
          go_round
          case rel => exact ⟨k + 1, r - x.size, by omega, by go_num, by congr 1; omega, by omega, hsum'⟩
          case measure => simp [intOf]; omega
        · have g2 : (r : Int) - (x.size : Int) < 0 := by omega
          have hres : Hid (leftN L (sizeS ss) = -1) := by
            have h1 := hsum.out
            have h2 := hnx.out
            have h3 := hto.out
            unfold Hid leftN
            rw [if_neg (by unfold sizeS; omega)]
          go_wp2
          go_ret
          exact ⟨ret_int hres.out.symm, rfl⟩
      · have k1 : ¬ (k : Int) < (ss.length : Int) := by omega
        obtain rfl : k = ss.length := by omega
        have hres : Hid (leftN L (sizeS ss) = (r : Int)) := by
          have h1 := hsum.out
          unfold Hid leftN
          rw [if_pos (by unfold sizeS; omega)]
          unfold sizeS
          omega
        go_wp2
        go_ret
        exact ⟨ret_int hres.out.symm, rfl⟩
theorem sz_strs (a : Option Addr) (ss : List ByteArray) (cap : Nat) (w : World) (hl : ss.length ≤ 9223372036854775807) (hs : ∀ s ∈ ss, s.size ≤ 9223372036854775807) (h : RdS a ss w) :
    Calls Try.prog 77 #[.slice a ss.length cap, .int .i64 1048576] w fun e w' => e = .returned (.int .i64 (leftS ss)) ∧ w = w' := sz_strsL a ss cap 1048576 w (Nat.le_refl _) hl hs h
end Go.Proofs.Ytkegjgfggijinaa
