/- What every card of this seat needs: the table of powers of ten out of the row's list. The contract of impl.FormatInt. The contracts of FormatNumberText, the model's and the program's. -/
import Derived.Test.YtfmnjclnhppghabGreatDoorRows
import Derived.Test.YtfmnjclnhppghabGreatDoorShelf
import Derived.WalkKit
import Derived.ProofKit
import Derived.OpenShut
import Derived.LaidMore
import Derived.Stop.Joined
import Derived.Stop.LaidErr
import Derived.Below
import Derived.ChangeSame
import Derived.Lib.LaidTab
import Derived.Lib.AppendIntMem
import Derived.Lib.AtoiErrMem
import Derived.Test.YtfmnjclnhppghabGreatDoorGBase
import Derived.Test.YtfmnjclnhppghabGreatDoorFmt2
namespace Go.Proofs.YtfmnjclnhppghabGreatDoor
open Go Go.ChangeShapes Go.WideShapes Go.ChangeAt Go.RowKit
theorem ownL : ownKnob Tryz.prog.godebug = none := by kernel_rfl
/-- The table of powers of ten, as the library's text lays it. -/
def PowTab (w : World) : Prop := Lib.TabIs Tryz.prog w "internal/strconv.uint64pow10" .u64 Lib.pow10Tab
theorem PowTab.below {w w' : World} (h : PowTab w) (hb : Below w.heap.size w w') : PowTab w' := Lib.tabBelow_of_tabIs h w' hb
theorem powTab_of {W : World} {rest : List (String × DataW Unit)} (h : laidMet Tryz.prog (("internal/strconv.uint64pow10", Rows.laid_internal_strconv_uint64pow10) :: rest) W) : PowTab W :=
  Lib.tabIs_of_head (P := Tryz.prog) (k := .u64) (zs := Lib.pow10Tab) (g := 0) (t := 142) (e := 135) (n := 20) (by kernel_rfl) (by kernel_rfl) Tryz.underlying142 Tryz.underlying135 (by kernel_rfl) (by kernel_rfl) h
end Go.Proofs.YtfmnjclnhppghabGreatDoor
namespace Go.Proofs.YtfmnjclnhppghabGreatDoor
open Go Go.RowKit
/-- impl.FormatInt: the decimal form of every int. -/
theorem fmt_impl (n : Int) (w : World) (h0 : -9223372036854775808 ≤ n) (h1 : n ≤ 9223372036854775807) (htab : PowTab w) :
    Calls Tryz.prog 48 #[.int .i64 n] w fun e w' => e = .returned (.string ⟨(Lib.itoa n).toArray⟩) ∧ Below w.heap.size w w' := by
  have H := Lib.hid htab
  clear htab
  go_enter Tryz.func48, Tryz.ntmps48
  go_wp2_with fail
  refine (Tryz.strconv_Itoa n h0 h1 _ H.out).mono ?_
  rintro e w' ⟨rfl, k, os, rfl⟩
  have hb := Lib.hid (Lib.below_grow w.heap.size w (Nat.le_refl _) k os)
  go_wp2_with fail
  go_ret
  exact ⟨rfl, hb.out⟩
end Go.Proofs.YtfmnjclnhppghabGreatDoor
namespace Go.Proofs.YtfmnjclnhppghabGreatDoor
open Go Go.RowKit
/-- The text of a number and what stands behind it. -/
def fntS (n : Int) (o i c : ByteArray) : ByteArray := (⟨(Lib.itoa n).toArray⟩ : ByteArray) ++ o ++ i ++ c
theorem itoa_max {n : Int} (h0 : -9223372036854775808 ≤ n) (h1 : n ≤ 9223372036854775807) : (⟨(Lib.itoa n).toArray⟩ : ByteArray).size ≤ 21 := by
  have e : (⟨(Lib.itoa n).toArray⟩ : ByteArray).size = (Lib.itoa n).length := by simp [ByteArray.size]
  rw [e]
  by_cases hz : n = 0
  · subst hz; rw [itoa_zero]; decide
  · by_cases hp : 0 < n
    · rw [itoa_pos hp]
      have := digs_length n.natAbs (by omega)
      omega
    · rw [itoa_neg (by omega)]
      have := digs_length n.natAbs (by omega)
      simp; omega
set_option maxRecDepth 100000 in
theorem fnt_spec (n : Int) (o i c : ByteArray) (w : World) (ho : o.size ≤ 4398046511104) (hi : i.size ≤ 4398046511104) (hc : c.size ≤ 4398046511104) (h0 : -9223372036854775808 ≤ n) (h1 : n ≤ 9223372036854775807) :
    Calls Tryz.prog 40 #[.int .i64 n, .string o, .string i, .string c] w fun e w' => e = .returned (.string (fntS n o i c)) ∧ Below w.heap.size w w' := by
  have hz := itoa_max h0 h1
  have HR : Hid ((⟨(Lib.itoa n).toArray⟩ : ByteArray) ++ o ++ i ++ c = fntS n o i c) := rfl
  go_enter Tryz.func40, Tryz.ntmps40
  go_wp2_with fail
  refine (fmt_spec n _ h0 h1).mono ?_
  rintro e w1 ⟨rfl, hb⟩
  have HB := Lib.hid hb
  clear hb
  generalize hs : (⟨(Lib.itoa n).toArray⟩ : ByteArray) = s at hz HR ⊢
  have z1 : (s ++ o).size = s.size + o.size := ByteArray.size_append
  have z2 : (s ++ o ++ i).size = s.size + o.size + i.size := by rw [ByteArray.size_append, ByteArray.size_append]
  go_wp2_with fail
  go_ret
  exact ⟨show (Ending.returned (.string (s ++ o ++ i ++ c)) : Ending) = _ by rw [HR.out], HB.out⟩
set_option maxRecDepth 100000 in
theorem fnt_impl (n : Int) (o i c : ByteArray) (w : World) (ho : o.size ≤ 4398046511104) (hi : i.size ≤ 4398046511104) (hc : c.size ≤ 4398046511104) (h0 : -9223372036854775808 ≤ n) (h1 : n ≤ 9223372036854775807) (htab : PowTab w) :
    Calls Tryz.prog 50 #[.int .i64 n, .string o, .string i, .string c] w fun e w' => e = .returned (.string (fntS n o i c)) ∧ Below w.heap.size w w' := by
  have hz := itoa_max h0 h1
  have HR : Hid ((⟨(Lib.itoa n).toArray⟩ : ByteArray) ++ o ++ i ++ c = fntS n o i c) := rfl
  have HT := Lib.hid htab
  clear htab
  go_enter Tryz.func50, Tryz.ntmps50
  go_wp2_with fail
  refine (fmt_impl n _ h0 h1 HT.out).mono ?_
  rintro e w1 ⟨rfl, hb⟩
  have HB := Lib.hid hb
  clear hb
  generalize hs : (⟨(Lib.itoa n).toArray⟩ : ByteArray) = s at hz HR ⊢
  have z1 : (s ++ o).size = s.size + o.size := ByteArray.size_append
  have z2 : (s ++ o ++ i).size = s.size + o.size + i.size := by rw [ByteArray.size_append, ByteArray.size_append]
  go_wp2_with fail
  go_ret
  exact ⟨show (Ending.returned (.string (s ++ o ++ i ++ c)) : Ending) = _ by rw [HR.out], HB.out⟩
end Go.Proofs.YtfmnjclnhppghabGreatDoor
