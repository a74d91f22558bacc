/- What every card of this seat needs: the table of powers of ten out of the row's list. The contract of impl.FormatInt. The contract of spec.ParseInt: the number that the text spells, or 0 and false. The contract of impl.ParseInt. The library's three tables and two sentinels out of a row's list of five. -/
import Derived.Test.YtndjefednfcmmaaGreatDoorRows
import Derived.Test.YtndjefednfcmmaaGreatDoorShelf
import Derived.WalkKit
import Derived.ProofKit
import Derived.OpenShut
import Derived.LaidMore
import Derived.Stop.Joined
import Derived.Stop.LaidErr
import Derived.Below
import Derived.ChangeSame
import Derived.Lib.LaidTab
import Derived.Lib.AppendIntMem
import Derived.Lib.AtoiErrMem
import Derived.Test.YtndjefednfcmmaaGreatDoorRowF
import Derived.Test.YtndjefednfcmmaaGreatDoorFmt2
import Derived.Test.YtndjefednfcmmaaGreatDoorGNum
import Derived.Lib.AtoiAllCases
import Derived.LaidLaws
set_option maxRecDepth 100000
namespace Go.Proofs.YtndjefednfcmmaaGreatDoor
open Go Go.ChangeShapes Go.WideShapes Go.ChangeAt Go.RowKit
theorem ownL : ownKnob Tryz.prog.godebug = none := by kernel_rfl
def PowTab (w : World) : Prop := Lib.TabIs Tryz.prog w "internal/strconv.uint64pow10" .u64 Lib.pow10Tab
theorem PowTab.below {w w' : World} (h : PowTab w) (hb : Below w.heap.size w w') : PowTab w' := Lib.tabBelow_of_tabIs h w' hb
theorem powTab_of {W : World} {rest : List (String × DataW Unit)} (h : laidMet Tryz.prog (("internal/strconv.uint64pow10", Rows.laid_internal_strconv_uint64pow10) :: rest) W) : PowTab W :=
 Lib.tabIs_of_head (P := Tryz.prog) (k := .u64) (zs := Lib.pow10Tab) (g := 1) (t := 158) (e := 143) (n := 20) (by kernel_rfl) (by kernel_rfl) Tryz.underlying158 Tryz.underlying143 (by kernel_rfl) (by kernel_rfl) h
end Go.Proofs.YtndjefednfcmmaaGreatDoor
namespace Go.Proofs.YtndjefednfcmmaaGreatDoor
open Go Go.RowKit
theorem fmt_impl (n : Int) (w : World) (h0 : -9223372036854775808 ≤ n) (h1 : n ≤ 9223372036854775807) (htab : PowTab w) :
  Calls Tryz.prog 85 #[.int .i64 n] w fun e w' => e = .returned (.string ⟨(Lib.itoa n).toArray⟩) ∧ Below w.heap.size w w' := by
 have H := Lib.hid htab
 clear htab
 go_enter Tryz.func85, Tryz.ntmps85
 go_wp2_with fail
 refine (Tryz.strconv_Itoa n h0 h1 _ H.out).mono ?_
 rintro e w' ⟨rfl, k, os, rfl⟩
 have hb := Lib.hid (Lib.below_grow w.heap.size w (Nat.le_refl _) k os)
 go_wp2_with fail
 go_ret
 exact ⟨rfl, hb.out⟩
theorem toList_data (s : ByteArray) : s.toList = s.data.toList := ByteArray.toList_eq s
theorem take_all (s : ByteArray) : s.data.toList.take s.size = s.data.toList := List.take_of_length_le (by show s.data.toList.length ≤ s.data.size; simp)
theorem byte_at (s : ByteArray) (k : Nat) (h : k < s.size) : s.data.toList[k]? = some s[k] := by
 have h' : k < s.data.size := h
 rw [Array.getElem?_toList, Array.getElem?_eq_getElem h']; rfl
theorem size_len (s : ByteArray) : s.data.toList.length = s.size := by show s.data.toList.length = s.data.size; simp
theorem val_le {s : ByteArray} {k v : Nat} (h : Lib.decFrom 0 (s.data.toList.take k) = some v) (hk : k ≤ 13) : v < 100000000000000000 := Lib.decFrom_take_lt h (by omega)
theorem val_next {s : ByteArray} {k v : Nat} (h : Lib.decFrom 0 (s.data.toList.take k) = some v) (hk : k < s.size) (h1 : 48 ≤ s[k].toNat) (h2 : s[k].toNat ≤ 57) :
  Lib.decFrom 0 (s.data.toList.take (k + 1)) = some (v * 10 + (s[k].toNat - 48)) :=
 Lib.decFrom_take _ k 0 v s[k] (s[k].toNat - 48) h (byte_at s k hk) (by unfold Lib.digitVal; rw [if_pos ⟨h1, h2⟩])
theorem no_spell {s : ByteArray} {k : Nat} (hk : k < s.size) (h : ¬ (48 ≤ s[k].toNat ∧ s[k].toNat ≤ 57)) (n : Nat) : ¬ Spells s n := fun hs => by
 have hd := decFrom_digits n
 rw [← hs.2] at hd
 obtain ⟨d, hb⟩ := Lib.digit_of_decFrom _ _ _ hd k s[k] (byte_at s k hk)
 obtain ⟨b1, b2, _⟩ := Lib.digitVal_eq hb
 exact h ⟨b1, b2⟩
def OutYes (n : Nat) (w : World) (e : Ending) (w' : World) : Prop := e = .returned (.tuple #[.int .i64 n, .bool true]) ∧ Below w.heap.size w w'
def OutNo (w : World) (e : Ending) (w' : World) : Prop := e = .returned (.tuple #[.int .i64 0, .bool false]) ∧ Below w.heap.size w w'
theorem parse_spec_long (s : ByteArray) (w : World) (h : s.size < 1 ∨ 13 < s.size) (hs : s.size ≤ 9223372036854775807) :
  Calls Tryz.prog 124 #[.string s] w (OutNo w) := by
 by_cases h1 : (1 : Int) ≤ (s.size : Int)
 ·have h2 : ¬ ((s.size : Int) ≤ 13) := by omega
  go_enter Tryz.func124, Tryz.ntmps124
  go_wp2
  go_ret2
  exact ⟨rfl, Below.refl _ _⟩
 ·go_enter Tryz.func124, Tryz.ntmps124
  go_wp2
  go_ret2
  exact ⟨rfl, Below.refl _ _⟩
theorem parse_spec_yes (s : ByteArray) (n : Nat) (w : World) (hsp : Spells s n) :
  Calls Tryz.prog 124 #[.string s] w (OutYes n w) := by
 have hl := digits_length hsp.1
 rw [← hsp.2, size_len] at hl
 obtain ⟨l1, l2⟩ := hl
 have h1 : (1 : Int) ≤ (s.size : Int) := by omega
 have h2 : (s.size : Int) ≤ 13 := by omega
 have HS := Lib.hid hsp
 have hn := hsp.1
 clear hsp
 go_enter Tryz.func124, Tryz.ntmps124
 go_wp2
 go_loop [4, 5] (fun a i => ∃ k v : Nat, k ≤ s.size ∧ i = .int .i64 k ∧ a = .int .i64 v ∧ Hid (Lib.decFrom 0 (s.data.toList.take k) = some v)) (fun _ i => s.size - (intOf i).toNat)
 case atStart => exact ⟨0, 0, Nat.zero_le _, rfl, rfl, rfl⟩
 case round =>
  obtain ⟨k, v, hk, rfl, rfl, hv⟩ := hrel
  have hb := val_le hv.out (by omega)
  by_cases hlt : k < s.size
  ·have hd : 48 ≤ s[k].toNat ∧ s[k].toNat ≤ 57 := Decidable.byContradiction fun hc => no_spell hlt hc n HS.out
   obtain ⟨d1, d2⟩ := hd
   have hv' := Lib.hid (val_next hv.out hlt d1 d2)
   have e1 : (48 : Int) ≤ (s[k].toNat : Int) := by omega
   have e2 : (s[k].toNat : Int) ≤ 57 := by omega
   go_wp2
   go_round
   case rel => exact ⟨k + 1, v * 10 + (s[k].toNat - 48), by omega, by go_num, by go_num, hv'⟩
   case measure => simp [intOf]; omega
  ·have hvn : v = n := by
    have h1 := hv.out
    rw [show k = s.size by omega, take_all, HS.out.2, decFrom_digits] at h1
    injection h1 with h1
    exact h1.symm
   subst hvn
   have hle : ¬ ((1000000000000 : Int) < (v : Int)) := by omega
   have hq : (Lib.itoa (v : Int) == s.toList) = true := by rw [toList_data, HS.out.2, itoa_nat]; simp
   go_wp2_with fail
   refine (fmt_spec v _ (by omega) (by omega)).mono ?_
   rintro e w1 ⟨rfl, b1⟩
   have B1 := Lib.hid b1
   clear b1
   go_wp2_with fail
   go_ret2
   exact ⟨rfl, B1.out⟩
def NoSpell (s : ByteArray) : Prop := ∀ n, ¬ Spells s n
theorem parse_spec_no (s : ByteArray) (w : World) (hsp : NoSpell s) (hmax : s.size ≤ 9223372036854775807) :
  Calls Tryz.prog 124 #[.string s] w (OutNo w) := by
 by_cases hl : s.size < 1 ∨ 13 < s.size
 ·exact parse_spec_long s w hl hmax
 have l1 : 1 ≤ s.size := by omega
 have l2 : s.size ≤ 13 := by omega
 clear hl hmax
 have h1 : (1 : Int) ≤ (s.size : Int) := by omega
 have h2 : (s.size : Int) ≤ 13 := by omega
 have HS := Lib.hid hsp
 clear hsp
 go_enter Tryz.func124, Tryz.ntmps124
 go_wp2
 go_loop [4, 5] (fun a i => ∃ k v : Nat, k ≤ s.size ∧ i = .int .i64 k ∧ a = .int .i64 v ∧ Hid (Lib.decFrom 0 (s.data.toList.take k) = some v)) (fun _ i => s.size - (intOf i).toNat)
 case atStart => exact ⟨0, 0, Nat.zero_le _, rfl, rfl, rfl⟩
 case round =>
  obtain ⟨k, v, hk, rfl, rfl, hv⟩ := hrel
  have hb := val_le hv.out (by omega)
  by_cases hlt : k < s.size
  ·by_cases d1 : 48 ≤ s[k].toNat
   ·have e1 : (48 : Int) ≤ (s[k].toNat : Int) := by omega
    by_cases d2 : s[k].toNat ≤ 57
    ·have hv' := Lib.hid (val_next hv.out hlt d1 d2)
     have e2 : (s[k].toNat : Int) ≤ 57 := by omega
     go_wp2
     go_round
     case rel => exact ⟨k + 1, v * 10 + (s[k].toNat - 48), by omega, by go_num, by go_num, hv'⟩
     case measure => simp [intOf]; omega
    ·have e2 : ¬ (s[k].toNat : Int) ≤ 57 := by omega
     have e3 : (s[k].toNat : Int) < 256 := by have := s[k].toNat_lt; omega
     go_wp2
     go_ret2
     exact ⟨rfl, Below.refl _ _⟩
   ·have e1 : ¬ (48 : Int) ≤ (s[k].toNat : Int) := by omega
    go_wp2
    go_ret2
    exact ⟨rfl, Below.refl _ _⟩
  ·by_cases hle : v ≤ 1000000000000
   ·have hq : (Lib.itoa (v : Int) == s.toList) = false := by
     rw [beq_eq_false_iff_ne, toList_data, itoa_nat]
     exact fun h => HS.out v ⟨hle, h.symm⟩
    have hle' : ¬ ((1000000000000 : Int) < (v : Int)) := by omega
    go_wp2_with fail
    refine (fmt_spec v _ (by omega) (by omega)).mono ?_
    rintro e w1 ⟨rfl, b1⟩
    have B1 := Lib.hid b1
    clear b1
    go_wp2_with fail
    go_ret2
    exact ⟨rfl, B1.out⟩
   ·have hle' : (1000000000000 : Int) < (v : Int) := by omega
    go_wp2_with fail
    go_ret2
    exact ⟨rfl, Below.refl _ _⟩
theorem var_below {P : Program} {w w' : World} {n : String} {cs : Array Value} (h : w.var? P n = some cs) (hb : Below w.heap.size w w') : w'.var? P n = some cs := by
 unfold World.var? at h ⊢
 cases hg : P.globalNamed n with
 | none => simp [hg] at h
 | some g =>
  simp only [hg, Option.bind_some] at h ⊢
  have hlt : g < w.heap.size := by
   rcases Nat.lt_or_ge g w.heap.size with h1 | h1
   ·exact h1
   ·rw [Array.getElem?_eq_none h1] at h; simp at h
  rw [hb.block g hlt]; exact h
structure Tabs (w : World) : Prop where
 pow : PowTab w
 syn : ∃ tp p, w.var? Tryz.prog "strconv.ErrSyntax" = some #[.iface tp p]
 rng : ∃ tp p, w.var? Tryz.prog "strconv.ErrRange" = some #[.iface tp p]
theorem Tabs.below {w w' : World} (h : Tabs w) (hb : Below w.heap.size w w') : Tabs w' := by
 obtain ⟨t1, p1, h1⟩ := h.syn
 obtain ⟨t2, p2, h2⟩ := h.rng
 exact ⟨h.pow.below hb, ⟨t1, p1, var_below h1 hb⟩, ⟨t2, p2, var_below h2 hb⟩⟩
theorem parse_impl_yes (s : ByteArray) (n : Nat) (w : World) (hsp : Spells s n) (ht : Tabs w) :
  Calls Tryz.prog 116 #[.string s] w (OutYes n w) := by
 have hl := digits_length hsp.1
 rw [← hsp.2, size_len] at hl
 have ha : Hid (Lib.atoiAll s.data.toList = .ok (n : Int)) := by rw [hsp.2]; exact atoiAll_digits hsp.1
 have hq : (Lib.itoa (n : Int) == s.toList) = true := by rw [toList_data, hsp.2, itoa_nat]; simp
 have hn := hsp.1
 have h1 : (0 : Int) ≤ (n : Int) := by omega
 have h2 : (n : Int) ≤ 1000000000000 := by omega
 have HT := Lib.hid ht
 clear ht hsp
 go_enter Tryz.func116, Tryz.ntmps116
 go_wp2_with fail
 refine (Tryz.strconv_Atoi_ok s (by omega) _ ha.out _).mono ?_
 rintro e w1 ⟨rfl, hw⟩
 have B1 : Hid (Below w.heap.size w w1) := by
  rcases hw with rfl | ⟨t, rfl⟩
  ·exact Below.refl _ _
  ·exact Lib.bytesWorld_below _ _ _
 clear hw
 go_wp2_with (go_at_call 41; go_in)
 refine (fmt_impl n _ (by omega) (by omega) (HT.out.below B1.out).pow).mono ?_
 rintro e w2 ⟨rfl, b2⟩
 have B2 := Lib.hid (B1.out.trans (b2.mono B1.out.size))
 clear b2
 go_wp2_with fail
 go_ret2
 exact ⟨rfl, B2.out⟩
theorem parse_impl_no (s : ByteArray) (w : World) (hsp : NoSpell s) (ht : Tabs w) (hmax : s.size ≤ 281474976710656) :
  Calls Tryz.prog 116 #[.string s] w (OutNo w) := by
 have HS := Lib.hid hsp
 have HT := Lib.hid ht
 clear ht hsp
 rcases ha' : Lib.atoiAll s.data.toList with v | _ | _
 rotate_left
 ·have ha : Hid (Lib.atoiAll s.data.toList = Lib.NumEnd.ofOption none) := ha'
  clear ha'
  obtain ⟨tp, p, hv⟩ := HT.out.syn
  have HV := Lib.hid hv
  clear hv
  go_enter Tryz.func116, Tryz.ntmps116
  go_wp2_with fail
  refine (Tryz.strconv_Atoi_syntax_var s hmax ha.out tp p _ HV.out).mono ?_
  rintro e w1 ⟨N, rfl, -, -, b1⟩
  have B1 := Lib.hid b1
  clear b1
  go_wp2_with fail
  go_ret2
  exact ⟨rfl, B1.out⟩
 ·have ha := Lib.hid ha'
  clear ha'
  obtain ⟨tp, p, hv⟩ := HT.out.rng
  have HV := Lib.hid hv
  clear hv
  go_enter Tryz.func116, Tryz.ntmps116
  go_wp2_with fail
  refine (Tryz.strconv_Atoi_range_var s hmax ha.out tp p _ HV.out).mono ?_
  rintro e w1 ⟨N, rfl, -, -, b1⟩
  have B1 := Lib.hid b1
  clear b1
  go_wp2_with fail
  go_ret2
  exact ⟨rfl, B1.out⟩
 ·have ha := Lib.hid ha'
  clear ha'
  by_cases h1 : 0 ≤ v
  ·by_cases h2 : v ≤ 1000000000000
   ·obtain ⟨n, rfl⟩ : ∃ n : Nat, v = (n : Int) := ⟨v.toNat, by omega⟩
    have hq : (Lib.itoa (n : Int) == s.toList) = false := by
     rw [beq_eq_false_iff_ne, toList_data, itoa_nat]
     exact fun h => HS.out n ⟨by omega, h.symm⟩
    go_enter Tryz.func116, Tryz.ntmps116
    go_wp2_with fail
    refine (Tryz.strconv_Atoi_ok s (by omega) _ ha.out _).mono ?_
    rintro e w1 ⟨rfl, hw⟩
    have B1 : Hid (Below w.heap.size w w1) := by
     rcases hw with rfl | ⟨t, rfl⟩
     ·exact Below.refl _ _
     ·exact Lib.bytesWorld_below _ _ _
    clear hw
    go_wp2_with (go_at_call 41; go_in)
    refine (fmt_impl n _ (by omega) (by omega) (HT.out.below B1.out).pow).mono ?_
    rintro e w2 ⟨rfl, b2⟩
    have B2 := Lib.hid (B1.out.trans (b2.mono B1.out.size))
    clear b2
    go_wp2_with fail
    go_ret2
    exact ⟨rfl, B2.out⟩
   ·have hd : decide (v ≤ 1000000000000) = false := by simp; omega
    go_enter Tryz.func116, Tryz.ntmps116
    go_wp2_with fail
    refine (Tryz.strconv_Atoi_ok s (by omega) _ ha.out _).mono ?_
    rintro e w1 ⟨rfl, hw⟩
    have B1 : Hid (Below w.heap.size w w1) := by
     rcases hw with rfl | ⟨t, rfl⟩
     ·exact Below.refl _ _
     ·exact Lib.bytesWorld_below _ _ _
    clear hw
    go_wp2_with (go_at_call 41; go_in)
    go_ret2
    exact ⟨rfl, B1.out⟩
  ·have hd : decide (0 ≤ v) = false := by simp; omega
   go_enter Tryz.func116, Tryz.ntmps116
   go_wp2_with fail
   refine (Tryz.strconv_Atoi_ok s (by omega) _ ha.out _).mono ?_
   rintro e w1 ⟨rfl, hw⟩
   have B1 : Hid (Below w.heap.size w w1) := by
    rcases hw with rfl | ⟨t, rfl⟩
    ·exact Below.refl _ _
    ·exact Lib.bytesWorld_below _ _ _
   clear hw
   go_wp2_with (go_at_call 41; go_in)
   go_ret2
   exact ⟨rfl, B1.out⟩
end Go.Proofs.YtndjefednfcmmaaGreatDoor
namespace Go.Proofs.YtndjefednfcmmaaGreatDoor
open Go Go.ChangeShapes Go.WideShapes Go.ChangeAt Go.RowKit
theorem star : "*" ++ "errors.errorString" = "*errors.errorString" := by decide
theorem rowES (u : TypeId) (h : Tryz.prog.typeName? 3 u = some "*errors.errorString") : u = 170 :=
 typeName_ptr_named (nm := "errors.errorString") (by rw [star]; kernel_rfl) (by kernel_rfl) (by decide) u (by rw [star]; exact h)
theorem cellsES : Tryz.prog.cellsOf 172 = 1 := by kernel_rfl
theorem cellsStr : Tryz.prog.cellsOf 9 = 1 := by kernel_rfl
theorem gSyn : Tryz.prog.globalNamed "strconv.ErrSyntax" = some 2 := by kernel_rfl
theorem gRng : Tryz.prog.globalNamed "strconv.ErrRange" = some 3 := by kernel_rfl
theorem tSyn : (Tryz.prog.globals[2]?).map (·.type) = some 45 := by kernel_rfl
theorem tRng : (Tryz.prog.globals[3]?).map (·.type) = some 45 := by kernel_rfl
theorem tabs_of {W : World} (h : laidMetH Tryz.prog [("math/bits.deBruijn32tab", Rows.laid_math_bits_deBruijn32tab), ("math/bits.deBruijn64tab", Rows.laid_math_bits_deBruijn64tab), ("internal/strconv.uint64pow10", Rows.laid_internal_strconv_uint64pow10), ("strconv.ErrRange", Rows.laid_strconv_ErrRange), ("strconv.ErrSyntax", Rows.laid_strconv_ErrSyntax)] W) : Tabs W := by
 rw [MakeChecks.laidMetH_plain _ _ _ (by kernel_rfl)] at h
 have h2 := laidMet.tail (laidMet.tail h)
 have h3 := laidMet.tail h2
 have h4 := laidMet.tail h3
 obtain ⟨a3, s3, hv3, -, -, -⟩ := laid_sentinel h3 gRng tRng Tryz.underlying45 rowES Tryz.underlying170 Tryz.underlying172 rfl rfl Tryz.underlying9 cellsES cellsStr
 obtain ⟨a4, s4, hv4, -, -, -⟩ := laid_sentinel h4 gSyn tSyn Tryz.underlying45 rowES Tryz.underlying170 Tryz.underlying172 rfl rfl Tryz.underlying9 cellsES cellsStr
 exact ⟨powTab_of h2, ⟨_, _, hv4⟩, ⟨_, _, hv3⟩⟩
end Go.Proofs.YtndjefednfcmmaaGreatDoor
