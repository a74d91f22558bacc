/- The contract of spec.ParseInt: the number that the text spells, or 0 and false. -/
import Derived.Test.YtgmbkmjheaijnaaDoorFmt
import Derived.Test.YtgmbkmjheaijnaaDoorNumParse
namespace Go.Proofs.YtgmbkmjheaijnaaDoor
open Go Go.RowKit
theorem toList_data (s : ByteArray) : s.toList = s.data.toList := ByteArray.toList_eq s
theorem take_all (s : ByteArray) : s.data.toList.take s.size = s.data.toList := List.take_of_length_le (by show s.data.toList.length ≤ s.data.size; simp)
theorem byte_at (s : ByteArray) (k : Nat) (h : k < s.size) : s.data.toList[k]? = some s[k] := by
  have h' : k < s.data.size := h
  rw [Array.getElem?_toList, Array.getElem?_eq_getElem h']; rfl
theorem size_len (s : ByteArray) : s.data.toList.length = s.size := by show s.data.toList.length = s.data.size; simp
theorem val_le {s : ByteArray} {k v : Nat} (h : Lib.decFrom 0 (s.data.toList.take k) = some v) (hk : k ≤ 13) : v < 100000000000000000 := Lib.decFrom_take_lt h (by omega)
theorem val_next {s : ByteArray} {k v : Nat} (h : Lib.decFrom 0 (s.data.toList.take k) = some v) (hk : k < s.size) (h1 : 48 ≤ s[k].toNat) (h2 : s[k].toNat ≤ 57) :
    Lib.decFrom 0 (s.data.toList.take (k + 1)) = some (v * 10 + (s[k].toNat - 48)) :=
  Lib.decFrom_take _ k 0 v s[k] (s[k].toNat - 48) h (byte_at s k hk) (by unfold Lib.digitVal; rw [if_pos ⟨h1, h2⟩])
theorem no_spell {s : ByteArray} {k : Nat} (hk : k < s.size) (h : ¬ (48 ≤ s[k].toNat ∧ s[k].toNat ≤ 57)) (n : Nat) : ¬ Spells s n := fun hs => by
  have hd := decFrom_digits n
  rw [← hs.2] at hd
  obtain ⟨d, hb⟩ := Lib.digit_of_decFrom _ _ _ hd k s[k] (byte_at s k hk)
  obtain ⟨b1, b2, _⟩ := Lib.digitVal_eq hb
  exact h ⟨b1, b2⟩
/-- spec.ParseInt at a text that spells n. -/
def OutYes (n : Nat) (w : World) (e : Ending) (w' : World) : Prop := e = .returned (.tuple #[.int .i64 n, .bool true]) ∧ Below w.heap.size w w'
def OutNo (w : World) (e : Ending) (w' : World) : Prop := e = .returned (.tuple #[.int .i64 0, .bool false]) ∧ Below w.heap.size w w'
set_option maxRecDepth 100000 in
theorem parse_spec_long (s : ByteArray) (w : World) (h : s.size < 1 ∨ 13 < s.size) (hs : s.size ≤ 9223372036854775807) :
    Calls Tryd.prog 15 #[.string s] w (OutNo w) := by
  by_cases h1 : (1 : Int) ≤ (s.size : Int)
  · have h2 : ¬ ((s.size : Int) ≤ 13) := by omega
    go_enter Tryd.func15, Tryd.ntmps15
    go_wp2
    go_ret2
    exact ⟨rfl, Below.refl _ _⟩
  · go_enter Tryd.func15, Tryd.ntmps15
    go_wp2
    go_ret2
    exact ⟨rfl, Below.refl _ _⟩
set_option maxRecDepth 100000 in
theorem parse_spec_yes (s : ByteArray) (n : Nat) (w : World) (hsp : Spells s n) :
    Calls Tryd.prog 15 #[.string s] w (OutYes n w) := by
  have hl := digits_length hsp.1
  rw [← hsp.2, size_len] at hl
  obtain ⟨l1, l2⟩ := hl
  have h1 : (1 : Int) ≤ (s.size : Int) := by omega
  have h2 : (s.size : Int) ≤ 13 := by omega
  have HS := Lib.hid hsp
  have hn := hsp.1
  clear hsp
  go_enter Tryd.func15, Tryd.ntmps15
  go_wp2
  go_loop [4, 5] (fun a i => ∃ k v : Nat, k ≤ s.size ∧ i = .int .i64 k ∧ a = .int .i64 v ∧ Hid (Lib.decFrom 0 (s.data.toList.take k) = some v)) (fun _ i => s.size - (intOf i).toNat)
  case atStart => exact ⟨0, 0, Nat.zero_le _, rfl, rfl, rfl⟩
  case round =>
    obtain ⟨k, v, hk, rfl, rfl, hv⟩ := hrel
    have hb := val_le hv.out (by omega)
    by_cases hlt : k < s.size
    · have hd : 48 ≤ s[k].toNat ∧ s[k].toNat ≤ 57 := Decidable.byContradiction fun hc => no_spell hlt hc n HS.out
      obtain ⟨d1, d2⟩ := hd
      have hv' := Lib.hid (val_next hv.out hlt d1 d2)
      have e1 : (48 : Int) ≤ (s[k].toNat : Int) := by omega
      have e2 : (s[k].toNat : Int) ≤ 57 := by omega
      go_wp2
      go_round
      case rel => exact ⟨k + 1, v * 10 + (s[k].toNat - 48), by omega, by go_num, by go_num, hv'⟩
      case measure => simp [intOf]; omega
    · have hvn : v = n := by
        have h1 := hv.out
        rw [show k = s.size by omega, take_all, HS.out.2, decFrom_digits] at h1
        injection h1 with h1
        exact h1.symm
      subst hvn
      have hle : ¬ ((1000000000000 : Int) < (v : Int)) := by omega
      have hq : (Lib.itoa (v : Int) == s.toList) = true := by rw [toList_data, HS.out.2, itoa_nat]; simp
      go_wp2_with fail
      refine (fmt_spec v _ (by omega) (by omega)).mono ?_
      rintro e w1 ⟨rfl, b1⟩
      have B1 := Lib.hid b1
      clear b1
      go_wp2_with fail
      go_ret2
      exact ⟨rfl, B1.out⟩
/-- No number up to MaxValue has this text. -/
def NoSpell (s : ByteArray) : Prop := ∀ n, ¬ Spells s n
set_option maxRecDepth 100000 in
theorem parse_spec_no (s : ByteArray) (w : World) (hsp : NoSpell s) (hmax : s.size ≤ 9223372036854775807) :
    Calls Tryd.prog 15 #[.string s] w (OutNo w) := by
  by_cases hl : s.size < 1 ∨ 13 < s.size
  · exact parse_spec_long s w hl hmax
  have l1 : 1 ≤ s.size := by omega
  have l2 : s.size ≤ 13 := by omega
  clear hl hmax
  have h1 : (1 : Int) ≤ (s.size : Int) := by omega
  have h2 : (s.size : Int) ≤ 13 := by omega
  have HS := Lib.hid hsp
  clear hsp
  go_enter Tryd.func15, Tryd.ntmps15
  go_wp2
  go_loop [4, 5] (fun a i => ∃ k v : Nat, k ≤ s.size ∧ i = .int .i64 k ∧ a = .int .i64 v ∧ Hid (Lib.decFrom 0 (s.data.toList.take k) = some v)) (fun _ i => s.size - (intOf i).toNat)
  case atStart => exact ⟨0, 0, Nat.zero_le _, rfl, rfl, rfl⟩
  case round =>
    obtain ⟨k, v, hk, rfl, rfl, hv⟩ := hrel
    have hb := val_le hv.out (by omega)
    by_cases hlt : k < s.size
    · by_cases d1 : 48 ≤ s[k].toNat
      · have e1 : (48 : Int) ≤ (s[k].toNat : Int) := by omega
        by_cases d2 : s[k].toNat ≤ 57
        · have hv' := Lib.hid (val_next hv.out hlt d1 d2)
          have e2 : (s[k].toNat : Int) ≤ 57 := by omega
          go_wp2
          go_round
          case rel => exact ⟨k + 1, v * 10 + (s[k].toNat - 48), by omega, by go_num, by go_num, hv'⟩
          case measure => simp [intOf]; omega
        · have e2 : ¬ (s[k].toNat : Int) ≤ 57 := by omega
          have e3 : (s[k].toNat : Int) < 256 := by have := s[k].toNat_lt; omega
          go_wp2
          go_ret2
          exact ⟨rfl, Below.refl _ _⟩
      · have e1 : ¬ (48 : Int) ≤ (s[k].toNat : Int) := by omega
        go_wp2
        go_ret2
        exact ⟨rfl, Below.refl _ _⟩
    · by_cases hle : v ≤ 1000000000000
      · have hq : (Lib.itoa (v : Int) == s.toList) = false := by
          rw [beq_eq_false_iff_ne, toList_data, itoa_nat]
          exact fun h => HS.out v ⟨hle, h.symm⟩
        have hle' : ¬ ((1000000000000 : Int) < (v : Int)) := by omega
        go_wp2_with fail
        refine (fmt_spec v _ (by omega) (by omega)).mono ?_
        rintro e w1 ⟨rfl, b1⟩
        have B1 := Lib.hid b1
        clear b1
        go_wp2_with fail
        go_ret2
        exact ⟨rfl, B1.out⟩
      · have hle' : (1000000000000 : Int) < (v : Int) := by omega
        go_wp2_with fail
        go_ret2
        exact ⟨rfl, Below.refl _ _⟩
end Go.Proofs.YtgmbkmjheaijnaaDoor
