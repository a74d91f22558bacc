/- Contract of the program's SumOfBytes: the world is as it was. -/
import Derived.Test.YthgcfdhndmgjlaaBytesSpec
namespace Go.Proofs.Ythgcfdhndmgjlaa
open Go Go.RowKit
set_option maxRecDepth 100000 in
theorem sum_same (a : Option Addr) (bs : List UInt8) (cap : Nat) (w : World) (hl : bs.length ≤ 1099511627776) (h : Rd a bs w) :
    Calls Try.prog 29 #[.slice a bs.length cap] w fun e w' => e = .returned (.int .i64 (sumB bs 0 : Nat)) ∧ w' = w := by
  have H := Lib.hid h
  clear h
  go_enter Try.func29, Try.ntmps29
  go_wp2
  go_loop [3, 5, 8] (fun q _ i => ∃ k : Nat, k ≤ bs.length ∧ i = .int .i64 k ∧ q = .int .u8 ((sumB (bs.take k) 0 : Nat) : Int)) (fun _ _ i => bs.length - (intOf i).toNat)
  case atStart => exact ⟨0, Nat.zero_le _, rfl, rfl⟩
  case round =>
    obtain ⟨k, hk, rfl, rfl⟩ := hrel
    have hs := sumB_lt (bs.take k) 0 (by omega)
    have k0 : (0 : Int) ≤ (k : Int) := by omega
    by_cases hlt : k < bs.length
    · obtain ⟨b, off, rfl, hc⟩ := H.out k hlt
      have hx := bs[k].toNat_lt
      have hn := Lib.hid (sumB_take bs 0 k hlt)
      have k1 : (k : Int) < (bs.length : Int) := by omega
      go_wp2
      go_round
      case rel => exact ⟨k + 1, by omega, by go_num, by rw [hn.out]; go_num⟩
      case measure => simp [intOf]; omega
    · have k1 : ¬ (k : Int) < (bs.length : Int) := by omega
      go_wp2
      go_ret
      exact ⟨ret_int (by rw [List.take_of_length_le (by omega)]), rfl⟩
end Go.Proofs.Ythgcfdhndmgjlaa
