/- Contracts of the model's CutAt, ContainsText, JoinText. -/
import Derived.Test.YtkegjgfggijinaaDoorSplitSpec
import Derived.Test.YtkegjgfggijinaaDoorGNum
import Derived.Test.YtkegjgfggijinaaDoorHas
namespace Go.Proofs.YtkegjgfggijinaaDoor
open Go Go.RowKit
theorem ret_cut {a b x y : ByteArray} {k l : Bool} (h : x = a ∧ y = b ∧ l = k) : Ending.returned (.tuple #[.string a, .string b, .bool k]) = .returned (.tuple #[.string x, .string y, .bool l]) := by
  obtain ⟨rfl, rfl, rfl⟩ := h; rfl
set_option maxRecDepth 100000 in
theorem cut_spec (s : ByteArray) (c : UInt8) (w : World) (hs : s.size ≤ 1073741824) :
    Calls Tryd.prog 11 #[.string s, .int .u8 (c.toNat : Int)] w fun e w' => e = .returned (.tuple #[.string (cutA c s), .string (cutB c s), .bool (cutK c s)]) ∧ ∃ n, w' = w.drewN n := by
  go_enter Tryd.func11, Tryd.ntmps11
  go_wp2
  go_loop [7] (fun i => ∃ k : Nat, k ≤ s.size ∧ i = .int .i64 k ∧ Hid (NoC c (lst s) 0 k)) (fun i => s.size - (intOf i).toNat)
  case atStart => exact ⟨0, Nat.zero_le _, rfl, NoC.start c _ 0⟩
  case round =>
    obtain ⟨k, hk, rfl, hn⟩ := hrel
    have k0 : (0 : Int) ≤ (k : Int) := by omega
    by_cases hlt : k < s.size
    · have k1 : (k : Int) < (s.size : Int) := by omega
      by_cases he : s[k] = c
      · have g1 := byte_eq_true he
        have hr := Lib.hid (cut_found hn.out hlt he)
        have k2 : (k : Int) ≤ (s.size : Int) := by omega
        have k3 : (k : Int) + 1 ≤ (s.size : Int) := by omega
        clear he
        go_wp2
        go_quiet (fail)
        go_wp2
        go_ret3
        exact ⟨ret_cut hr.out, _, rfl⟩
      · have g1 := byte_eq_false he
        have hn2 := Lib.hid (hn.out.next (Nat.zero_le _) hlt he)
        clear he
        go_wp2
        go_round
        case rel => exact ⟨k + 1, by omega, by go_num, hn2⟩
        case measure => simp [intOf]; omega
    · have k1 : ¬ (k : Int) < (s.size : Int) := by omega
      obtain rfl : k = s.size := by omega
      have hr := Lib.hid (cut_missing hn.out)
      go_wp2
      go_ret3
      exact ⟨ret_cut hr.out, 0, rfl⟩
theorem add_str (W : World) (x y : ByteArray) (h : x.size + y.size ≤ 9223372036854775807) : (Op.stringOp .add x y).run Tryd.prog W = .ok (.string (x ++ y)) W := run_string_add_sum W x y (by omega)
end Go.Proofs.YtkegjgfggijinaaDoor
