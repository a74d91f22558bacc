/- What the exact laws of chapter 3 ask beside the contracts: lengths of results. -/
import Derived.Test.YtckkjgocipndpaaLinesImpl
import Derived.Test.YtckkjgocipndpaaStrMarks
import Derived.Test.YtckkjgocipndpaaNames
namespace Go.Proofs.Ytckkjgocipndpaa
open Go Go.RowKit
theorem lines_lens (s : ByteArray) : (linesS s).length ≤ s.size + 1 := by
  have h := parts_lens 10 s
  unfold linesS
  split
  · rw [List.length_take]; omega
  · exact h
theorem words_lens (s : ByteArray) : (wordsS s).length ≤ s.size + 1 := by
  have h := parts_lens 32 s
  have h2 := fullS_length (parts 32 s) (parts 32 s).length
  rw [List.take_length] at h2
  exact Nat.le_trans h2 h
theorem joinL_len (sep : List UInt8) : ∀ l : List (List UInt8), (joinL sep l).length ≤ (l.map List.length).sum + l.length * sep.length
  | [] => by simp [joinL]
  | [x] => by simp [joinL]
  | x :: y :: r => by
    have ih := joinL_len sep (y :: r)
    simp only [joinL, List.length_append, List.map_cons, List.sum_cons, List.length_cons] at ih ⊢
    rw [Nat.add_mul (r.length + 1)]
    omega
theorem join_small (ss : List ByteArray) (sep : ByteArray) (h : sizeS ss ≤ 1048576) (hs : sep.size ≤ 1048576) : (joinS sep ss).size ≤ 4398046511104 := by
  have h1 := joinL_len (lst sep) (ss.map lst)
  have e : (ss.map lst).map List.length = ss.map ByteArray.size := by
    rw [List.map_map]
    exact List.map_congr_left fun s _ => lst_length s
  rw [e, lst_length, List.length_map] at h1
  unfold sizeS sumTo at h
  rw [List.take_length] at h
  rw [joinS_size]
  have h2 : ss.length * sep.size ≤ 1048576 * 1048576 := Nat.mul_le_mul (by omega) hs
  omega
theorem cut_below (s : ByteArray) (c : UInt8) (w : World) (hs : s.size ≤ 1073741824) :
    Calls Try.prog 14 #[.string s, .int .u8 (c.toNat : Int)] w fun e w' => e = .returned (.tuple #[.string (cutA c s), .string (cutB c s), .bool (cutK c s)]) ∧ Below w.heap.size w w' := by
  refine (cut_impl s c w hs).mono ?_
  rintro e w' ⟨rfl, n, rfl⟩
  exact ⟨rfl, below_drewN (Below.refl _ _) n⟩
theorem join_spec0 {B : Nat} (a : Option Addr) (ss : List ByteArray) (cap : Nat) (sep : ByteArray) (w : World) (hl : ss.length ≤ 1073741824) (hj : (joinS sep ss).size ≤ 4398046511104) (h : RowS B a ss cap w) :
    Calls Try.prog 24 #[.slice a ss.length cap, .string sep] w fun e w' => e = .returned (.string (joinS sep ss)) ∧ w = w' := join_spec a ss cap sep w hl hj h.rd
theorem join_impl0 {B : Nat} (a : Option Addr) (ss : List ByteArray) (cap : Nat) (sep : ByteArray) (w : World) (hl : ss.length ≤ 1073741824) (hj : (joinS sep ss).size ≤ 4398046511104) (h : RowS B a ss cap w) :
    Calls Try.prog 17 #[.slice a ss.length cap, .string sep] w fun e w' => e = .returned (.string (joinS sep ss)) ∧ Below w.heap.size w w' := join_impl a ss cap sep w hl h.2.1 hj h.rd
end Go.Proofs.Ytckkjgocipndpaa
