/- Contracts of the program's SumOfBytes and ReadInteger. -/
import Derived.Test.YthgcfdhndmgjlaaBytesSpec
import Derived.IntWalk
import Derived.Laws.BitsLemmas
namespace Go.Proofs.Ythgcfdhndmgjlaa
open Go Go.RowKit
set_option maxRecDepth 100000 in
theorem sum_impl (a : Option Addr) (bs : List UInt8) (cap : Nat) (w : World) (hl : bs.length ≤ 1099511627776) (h : Rd a bs w) :
    Calls Try.prog 29 #[.slice a bs.length cap] w fun e w' => e = .returned (.int .i64 (sumB bs 0 : Nat)) ∧ Below w.heap.size w w' := by
  have H := Lib.hid h
  clear h
  go_enter Try.func29, Try.ntmps29
  go_wp2
  go_loop [3, 5, 8] (fun q _ i => ∃ k : Nat, k ≤ bs.length ∧ i = .int .i64 k ∧ q = .int .u8 ((sumB (bs.take k) 0 : Nat) : Int)) (fun _ _ i => bs.length - (intOf i).toNat)
  case atStart => exact ⟨0, Nat.zero_le _, rfl, rfl⟩
  case round =>
    obtain ⟨k, hk, rfl, rfl⟩ := hrel
    have hs := sumB_lt (bs.take k) 0 (by omega)
    have k0 : (0 : Int) ≤ (k : Int) := by omega
    by_cases hlt : k < bs.length
    · obtain ⟨b, off, rfl, hc⟩ := H.out k hlt
      have hx := bs[k].toNat_lt
      have hn := Lib.hid (sumB_take bs 0 k hlt)
      have k1 : (k : Int) < (bs.length : Int) := by omega
      go_wp2
      go_round
      case rel => exact ⟨k + 1, by omega, by go_num, by rw [hn.out]; go_num⟩
      case measure => simp [intOf]; omega
    · have k1 : ¬ (k : Int) < (bs.length : Int) := by omega
      go_wp2
      go_ret
      exact ⟨ret_int (by rw [List.take_of_length_le (by omega)]), Below.refl _ _⟩
theorem or_hi (x y : Int) (i : Nat) (hx0 : 0 ≤ x) (hx : x % 2 ^ i = 0) (hx1 : x < 4611686018427387904) (hy0 : 0 ≤ y) (hy : y < 2 ^ i) (hy1 : y < 4611686018427387904) : bits .or .i64 x y = x + y :=
  bits_join .i64 62 (by decide) (fun n h0 h1 => by rw [IntKind.wrap_i64]; omega) i x y hx0 hx (by omega) hy0 hy (by omega)
theorem or_comm64 (x y : Int) : bits .or .i64 x y = bits .or .i64 y x := by
  simp only [bits, BitVec.or_comm]
theorem or_lo (x y : Int) (i : Nat) (hx0 : 0 ≤ x) (hx : x % 2 ^ i = 0) (hx1 : x < 4611686018427387904) (hy0 : 0 ≤ y) (hy : y < 2 ^ i) (hy1 : y < 4611686018427387904) : bits .or .i64 y x = x + y := by
  rw [or_comm64]; exact or_hi x y i hx0 hx hx1 hy0 hy hy1
theorem readB_add : ∀ (bs : List UInt8) (n : Nat), readB bs n = n * 256 ^ bs.length + readB bs 0
  | [], n => by simp [readB]
  | b :: r, n => by
    simp only [readB, List.length_cons]
    rw [readB_add r (n * 256 + b.toNat), readB_add r (0 * 256 + b.toNat), Nat.pow_succ]
    have e : n * (256 ^ r.length * 256) = n * 256 * 256 ^ r.length := by rw [Nat.mul_comm (256 ^ r.length), ← Nat.mul_assoc]
    rw [e, Nat.add_mul, Nat.zero_mul, Nat.zero_add]
    omega
/-- The number so far, the most significant byte first, in its place. -/
def hiB (bs : List UInt8) (k : Nat) : Nat := readB (bs.take k) 0 * 256 ^ (bs.length - k)
/-- The number so far, the least significant byte first. -/
def loB (bs : List UInt8) (k : Nat) : Nat := readB (bs.take k).reverse 0
theorem hiB_step (bs : List UInt8) (k m : Nat) (h : k < bs.length) (hm : m + k + 1 = bs.length) : hiB bs (k + 1) = hiB bs k + bs[k].toNat * 256 ^ m := by
  unfold hiB
  rw [readB_take bs 0 k h, show bs.length - (k + 1) = m by omega, show bs.length - k = m + 1 by omega, Nat.pow_succ, Nat.add_mul, Nat.mul_comm (256 ^ m) 256, ← Nat.mul_assoc]
theorem hiB_mod (bs : List UInt8) (k m : Nat) (hm : m + k + 1 = bs.length) : hiB bs k % 256 ^ (m + 1) = 0 := by
  unfold hiB
  rw [show bs.length - k = m + 1 by omega, Nat.mul_mod_left]
theorem hiB_lt (bs : List UInt8) (k : Nat) (hk : k ≤ bs.length) (h : bs.length ≤ 4) : hiB bs k < 4294967296 := by
  unfold hiB
  have h1 := readB_lt (bs.take k) 0
  rw [Nat.zero_add, Nat.one_mul, List.length_take, Nat.min_eq_left hk] at h1
  have h2 : readB (bs.take k) 0 * 256 ^ (bs.length - k) < 256 ^ k * 256 ^ (bs.length - k) := Nat.mul_lt_mul_of_pos_right h1 (Nat.pow_pos (by omega))
  rw [← Nat.pow_add, show k + (bs.length - k) = bs.length by omega] at h2
  have h3 := Nat.pow_le_pow_right (n := 256) (by omega) h
  omega
theorem loB_step (bs : List UInt8) (k : Nat) (h : k < bs.length) : loB bs (k + 1) = loB bs k + bs[k].toNat * 256 ^ k := by
  unfold loB
  rw [List.take_succ_eq_append_getElem h, List.reverse_append, List.reverse_singleton, List.singleton_append, readB, readB_add, List.length_reverse, List.length_take, Nat.min_eq_left (by omega)]
  simp
  omega
theorem loB_lt (bs : List UInt8) (k : Nat) (hk : k ≤ bs.length) : loB bs k < 256 ^ k := by
  unfold loB
  have h1 := readB_lt (bs.take k).reverse 0
  rw [Nat.zero_add, Nat.one_mul, List.length_reverse, List.length_take, Nat.min_eq_left hk] at h1
  exact h1
theorem hiB_end (bs : List UInt8) : hiB bs bs.length = readB (orderB bs false) 0 := by
  unfold hiB orderB
  simp
theorem loB_end (bs : List UInt8) : loB bs bs.length = readB (orderB bs true) 0 := by
  unfold loB orderB
  simp
set_option maxRecDepth 100000 in
set_option maxHeartbeats 1000000 in
theorem read_impl (a : Option Addr) (bs : List UInt8) (cap : Nat) (little : Bool) (w : World) (hl : bs.length ≤ 1099511627776) (h : Rd a bs w) :
    Calls Try.prog 25 #[.slice a bs.length cap, .bool little] w fun e w' => e = .returned (.int .i64 (readI bs little : Nat)) ∧ Below w.heap.size w w' := by
  have H := Lib.hid h
  clear h
  by_cases h4 : 4 < bs.length
  · have g4 : (4 : Int) < (bs.length : Int) := by omega
    have e := Lib.hid (show 0 = readI bs little by unfold readI; rw [if_pos h4])
    go_enter Try.func25, Try.ntmps25
    go_wp2
    go_ret
    exact ⟨ret_int (by rw [← e.out]; rfl), Below.refl _ _⟩
  · have g4 : ¬ (4 : Int) < (bs.length : Int) := by omega
    have e := Lib.hid (show readB (orderB bs little) 0 = readI bs little by unfold readI; rw [if_neg h4])
    cases little
    · have E := Lib.hid (hiB_end bs)
      go_enter Try.func25, Try.ntmps25
      go_wp2
      go_loop [5, 6, 7, 8, 14] (fun q _ _ _ i => ∃ k : Nat, k ≤ bs.length ∧ i = .int .i64 k ∧ q = .int .i64 ((hiB bs k : Nat) : Int)) (fun _ _ _ _ i => bs.length - (intOf i).toNat)
      case atStart => exact ⟨0, Nat.zero_le _, rfl, by simp [hiB, readB]⟩
      case round =>
        obtain ⟨k, hk, rfl, rfl⟩ := hrel
        have k0 : (0 : Int) ≤ (k : Int) := by omega
        by_cases hlt : k < bs.length
        · obtain ⟨m, hm⟩ : ∃ m : Nat, (m : Int) = (bs.length : Int) - 1 - (k : Int) := ⟨bs.length - 1 - k, by omega⟩
          obtain ⟨b, off, rfl, hc⟩ := H.out k hlt
          have hx := bs[k].toNat_lt
          have HS := Lib.hid (hiB_step bs k m hlt (by omega))
          have hz := hiB_lt bs k hk (by omega)
          have hd := hiB_mod bs k m (by omega)
          have k1 : (k : Int) < (bs.length : Int) := by omega
          generalize hiB bs k = X at *
          generalize bs[k].toNat = c at *
          obtain rfl | rfl | rfl | rfl : m = 0 ∨ m = 1 ∨ m = 2 ∨ m = 3 := by omega
          · have m0 : (bs.length : Int) - 1 - (k : Int) = 0 := by omega
            have ho : bits .or .i64 (X : Int) (c : Int) = (X : Int) + (c : Int) := or_hi _ _ 8 (by omega) (by omega) (by omega) (by omega) (by omega) (by omega)
            clear hm
            go_wp2
            go_round
            case rel => exact ⟨k + 1, by omega, by go_num, by rw [HS.out]; go_num⟩
            case measure => simp [intOf]; omega
          · have m0 : (bs.length : Int) - 1 - (k : Int) = 1 := by omega
            have ho : bits .or .i64 (X : Int) ((c : Int) * 256) = (X : Int) + (c : Int) * 256 := or_hi _ _ 16 (by omega) (by omega) (by omega) (by omega) (by omega) (by omega)
            clear hm
            go_wp2
            go_round
            case rel => exact ⟨k + 1, by omega, by go_num, by rw [HS.out]; go_num⟩
            case measure => simp [intOf]; omega
          · have m0 : (bs.length : Int) - 1 - (k : Int) = 2 := by omega
            have ho : bits .or .i64 (X : Int) ((c : Int) * 65536) = (X : Int) + (c : Int) * 65536 := or_hi _ _ 24 (by omega) (by omega) (by omega) (by omega) (by omega) (by omega)
            clear hm
            go_wp2
            go_round
            case rel => exact ⟨k + 1, by omega, by go_num, by rw [HS.out]; go_num⟩
            case measure => simp [intOf]; omega
          · have m0 : (bs.length : Int) - 1 - (k : Int) = 3 := by omega
            have ho : bits .or .i64 (X : Int) ((c : Int) * 16777216) = (X : Int) + (c : Int) * 16777216 := or_hi _ _ 32 (by omega) (by omega) (by omega) (by omega) (by omega) (by omega)
            clear hm
            go_wp2
            go_round
            case rel => exact ⟨k + 1, by omega, by go_num, by rw [HS.out]; go_num⟩
            case measure => simp [intOf]; omega
        · have k1 : ¬ (k : Int) < (bs.length : Int) := by omega
          obtain rfl : k = bs.length := by omega
          go_wp2
          go_ret
          exact ⟨ret_int (by rw [← e.out, ← E.out]), Below.refl _ _⟩
    · have E := Lib.hid (loB_end bs)
      go_enter Try.func25, Try.ntmps25
      go_wp2
      go_loop [5, 6, 7, 8, 14] (fun q _ _ _ i => ∃ k : Nat, k ≤ bs.length ∧ i = .int .i64 k ∧ q = .int .i64 ((loB bs k : Nat) : Int)) (fun _ _ _ _ i => bs.length - (intOf i).toNat)
      case atStart => exact ⟨0, Nat.zero_le _, rfl, by simp [loB, readB]⟩
      case round =>
        obtain ⟨k, hk, rfl, rfl⟩ := hrel
        by_cases hlt : k < bs.length
        · obtain ⟨b, off, rfl, hc⟩ := H.out k hlt
          have hx := bs[k].toNat_lt
          have HS := Lib.hid (loB_step bs k hlt)
          have hz := loB_lt bs k hk
          have k1 : (k : Int) < (bs.length : Int) := by omega
          generalize hX : loB bs k = X at *
          generalize hC : bs[k].toNat = c at *
          clear hX hC
          obtain rfl | rfl | rfl | rfl : k = 0 ∨ k = 1 ∨ k = 2 ∨ k = 3 := by omega
          · have ho : bits .or .i64 (X : Int) (c : Int) = (c : Int) + (X : Int) := or_lo _ _ 0 (by omega) (by omega) (by omega) (by omega) (by omega) (by omega)
            rw [Nat.add_zero] at hc
            go_wp2
            go_round
            case rel => exact ⟨1, by omega, by go_num, by rw [HS.out]; go_num⟩
            case measure => simp [intOf]; omega
          · have ho : bits .or .i64 (X : Int) ((c : Int) * 256) = (c : Int) * 256 + (X : Int) := or_lo _ _ 8 (by omega) (by omega) (by omega) (by omega) (by omega) (by omega)
            go_wp2
            go_round
            case rel => exact ⟨2, by omega, by go_num, by rw [HS.out]; go_num⟩
            case measure => simp [intOf]; omega
          · have ho : bits .or .i64 (X : Int) ((c : Int) * 65536) = (c : Int) * 65536 + (X : Int) := or_lo _ _ 16 (by omega) (by omega) (by omega) (by omega) (by omega) (by omega)
            go_wp2
            go_round
            case rel => exact ⟨3, by omega, by go_num, by rw [HS.out]; go_num⟩
            case measure => simp [intOf]; omega
          · have ho : bits .or .i64 (X : Int) ((c : Int) * 16777216) = (c : Int) * 16777216 + (X : Int) := or_lo _ _ 24 (by omega) (by omega) (by omega) (by omega) (by omega) (by omega)
            go_wp2
            go_round
            case rel => exact ⟨4, by omega, by go_num, by rw [HS.out]; go_num⟩
            case measure => simp [intOf]; omega
        · have k1 : ¬ (k : Int) < (bs.length : Int) := by omega
          obtain rfl : k = bs.length := by omega
          go_wp2
          go_ret
          exact ⟨ret_int (by rw [← e.out, ← E.out]), Below.refl _ _⟩
end Go.Proofs.Ythgcfdhndmgjlaa
