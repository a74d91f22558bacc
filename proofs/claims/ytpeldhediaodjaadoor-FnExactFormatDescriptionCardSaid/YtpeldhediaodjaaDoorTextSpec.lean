/- Contracts of the model's CutAt, ContainsText, JoinText. -/
import Derived.Test.YtpeldhediaodjaaDoorSplitSpec
import Derived.Test.YtpeldhediaodjaaDoorTxt2
import Derived.Test.YtpeldhediaodjaaDoorHas
namespace Go.Proofs.YtpeldhediaodjaaDoor
open Go Go.RowKit
theorem ret_cut {a b x y : ByteArray} {k l : Bool} (h : x = a ∧ y = b ∧ l = k) : Ending.returned (.tuple #[.string a, .string b, .bool k]) = .returned (.tuple #[.string x, .string y, .bool l]) := by
  obtain ⟨rfl, rfl, rfl⟩ := h; rfl
set_option maxRecDepth 100000 in
theorem cut_spec (s : ByteArray) (c : UInt8) (w : World) (hs : s.size ≤ 1073741824) :
    Calls Tryd.prog 14 #[.string s, .int .u8 (c.toNat : Int)] w fun e w' => e = .returned (.tuple #[.string (cutA c s), .string (cutB c s), .bool (cutK c s)]) ∧ ∃ n, w' = w.drewN n := by
  go_enter Tryd.func14, Tryd.ntmps14
  go_wp2
  go_loop [7] (fun i => ∃ k : Nat, k ≤ s.size ∧ i = .int .i64 k ∧ Hid (NoC c (lst s) 0 k)) (fun i => s.size - (intOf i).toNat)
  case atStart => exact ⟨0, Nat.zero_le _, rfl, NoC.start c _ 0⟩
  case round =>
    obtain ⟨k, hk, rfl, hn⟩ := hrel
    have k0 : (0 : Int) ≤ (k : Int) := by omega
    by_cases hlt : k < s.size
    · have k1 : (k : Int) < (s.size : Int) := by omega
      by_cases he : s[k] = c
      · have g1 := byte_eq_true he
        have hr := Lib.hid (cut_found hn.out hlt he)
        have k2 : (k : Int) ≤ (s.size : Int) := by omega
        have k3 : (k : Int) + 1 ≤ (s.size : Int) := by omega
        clear he
        go_wp2
        go_quiet (fail)
        go_wp2
        go_ret3
        exact ⟨ret_cut hr.out, _, rfl⟩
      · have g1 := byte_eq_false he
        have hn2 := Lib.hid (hn.out.next (Nat.zero_le _) hlt he)
        clear he
        go_wp2
        go_round
        case rel => exact ⟨k + 1, by omega, by go_num, hn2⟩
        case measure => simp [intOf]; omega
    · have k1 : ¬ (k : Int) < (s.size : Int) := by omega
      obtain rfl : k = s.size := by omega
      have hr := Lib.hid (cut_missing hn.out)
      go_wp2
      go_ret3
      exact ⟨ret_cut hr.out, 0, rfl⟩
theorem add_str (W : World) (x y : ByteArray) (h : x.size + y.size ≤ 9223372036854775807) : (Op.stringOp .add x y).run Tryd.prog W = .ok (.string (x ++ y)) W := run_string_add_sum W x y (by omega)
set_option maxRecDepth 100000 in
theorem join_spec (a : Option Addr) (ss : List ByteArray) (cap : Nat) (sep : ByteArray) (w : World) (hl : ss.length ≤ 1073741824) (hj : (joinS sep ss).size ≤ 4398046511104) (h : RdS a ss w) :
    Calls Tryd.prog 45 #[.slice a ss.length cap, .string sep] w fun e w' => e = .returned (.string (joinS sep ss)) ∧ w = w' := by
  have H := Lib.hid h
  have HJ := Lib.hid hj
  clear h hj
  go_enter Tryd.func45, Tryd.ntmps45
  go_wp2
  go_loop [5, 6] (fun q i => ∃ (k : Nat) (acc : ByteArray), k ≤ ss.length ∧ i = .int .i64 k ∧ q = .string acc ∧ Hid (acc = joinS sep (ss.take k))) (fun _ i => ss.length - (intOf i).toNat)
  case atStart => exact ⟨0, _, Nat.zero_le _, rfl, rfl, rfl⟩
  case round =>
    obtain ⟨k, acc, hk, rfl, rfl, ha⟩ := hrel
    have k0 : (0 : Int) ≤ (k : Int) := by omega
    by_cases hlt : k < ss.length
    · have k1 : (k : Int) < (ss.length : Int) := by omega
      obtain ⟨b, off, rfl, hc⟩ := H.out k hlt
      by_cases hz : k = 0
      · subst hz
        rw [Nat.add_zero] at hc
        have hb : acc.size + (ss[0]'hlt).size ≤ 9223372036854775807 ∧ acc ++ ss[0]'hlt = joinS sep (ss.take 1) := by
          have h1 := joinS_take_le sep ss 1
          have h2 := HJ.out
          have h3 := ha.out
          have e1 : ss.take 1 = [ss[0]'hlt] := by
            have := List.take_succ_eq_append_getElem hlt
            simpa using this
          rw [e1, joinS_first] at h1
          have e2 : acc = ⟨#[]⟩ := h3
          subst e2
          refine ⟨?_, ?_⟩
          · have e3 : (⟨#[]⟩ : ByteArray).size = 0 := rfl
            omega
          · rw [e1, joinS_first, append_txt]
            exact txt_lst _
        have h2 := Lib.hid hb.2
        have h1 := hb.1
        clear hb
        generalize ss[0]'hlt = y at hc h1 h2
        have hadd := add_str w acc y h1
        go_wp2
        go_round
        case rel => exact ⟨1, _, by omega, by go_num, rfl, h2⟩
        case measure => simp [intOf]; omega
      · have hb : (acc.size + sep.size ≤ 9223372036854775807 ∧ (acc ++ sep).size + (ss[k]'hlt).size ≤ 9223372036854775807) ∧ acc ++ sep ++ ss[k]'hlt = joinS sep (ss.take (k + 1)) := by
          have h1 := joinS_take_le sep ss (k + 1)
          have h2 := HJ.out
          have h3 := ha.out
          have h4 := joinS_next sep ss k (by omega) hlt
          rw [← h3] at h4
          refine ⟨?_, h4.symm⟩
          rw [h4, ByteArray.size_append, ByteArray.size_append] at h1
          rw [ByteArray.size_append]
          omega
        have h2 := Lib.hid hb.2
        have h1 := hb.1.1
        have h3 := hb.1.2
        clear hb
        generalize ss[k]'hlt = y at hc h3 h2
        have kp : (0 : Int) < (k : Int) := by omega
        have hadd := add_str w acc sep h1
        have hadd2 := add_str w (acc ++ sep) y h3
        generalize acc ++ sep = z at hadd hadd2 h2
        go_wp2
        go_round
        case rel => exact ⟨k + 1, _, by omega, by go_num, rfl, h2⟩
        case measure => simp [intOf]; omega
    · have k1 : ¬ (k : Int) < (ss.length : Int) := by omega
      have hr : Hid (acc = joinS sep ss) := by
        have := ha.out
        rw [List.take_of_length_le (by omega)] at this
        exact this
      go_wp2
      go_ret
      exact ⟨ret_str hr.out, rfl⟩
end Go.Proofs.YtpeldhediaodjaaDoor
