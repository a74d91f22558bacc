/- The contracts of FormatNumberText, the model's and the program's. -/
import Derived.Test.YtfdnfifmhfffnaaDoorFmt2
import Derived.Test.YtfdnfifmhfffnaaDoorFmtImpl
namespace Go.Proofs.YtfdnfifmhfffnaaDoor
open Go Go.RowKit
/-- The text of a number and what stands behind it. -/
def fntS (n : Int) (o i c : ByteArray) : ByteArray := (⟨(Lib.itoa n).toArray⟩ : ByteArray) ++ o ++ i ++ c
theorem itoa_max {n : Int} (h0 : -9223372036854775808 ≤ n) (h1 : n ≤ 9223372036854775807) : (⟨(Lib.itoa n).toArray⟩ : ByteArray).size ≤ 21 := by
  have e : (⟨(Lib.itoa n).toArray⟩ : ByteArray).size = (Lib.itoa n).length := by simp [ByteArray.size]
  rw [e]
  by_cases hz : n = 0
  · subst hz; rw [itoa_zero]; decide
  · by_cases hp : 0 < n
    · rw [itoa_pos hp]
      have := digs_length n.natAbs (by omega)
      omega
    · rw [itoa_neg (by omega)]
      have := digs_length n.natAbs (by omega)
      simp; omega
set_option maxRecDepth 100000 in
theorem fnt_spec (n : Int) (o i c : ByteArray) (w : World) (ho : o.size ≤ 4398046511104) (hi : i.size ≤ 4398046511104) (hc : c.size ≤ 4398046511104) (h0 : -9223372036854775808 ≤ n) (h1 : n ≤ 9223372036854775807) :
    Calls Tryd.prog 15 #[.int .i64 n, .string o, .string i, .string c] w fun e w' => e = .returned (.string (fntS n o i c)) ∧ Below w.heap.size w w' := by
  have hz := itoa_max h0 h1
  have HR : Hid ((⟨(Lib.itoa n).toArray⟩ : ByteArray) ++ o ++ i ++ c = fntS n o i c) := rfl
  go_enter Tryd.func15, Tryd.ntmps15
  go_wp2_with fail
  refine (fmt_spec n _ h0 h1).mono ?_
  rintro e w1 ⟨rfl, hb⟩
  have HB := Lib.hid hb
  clear hb
  generalize hs : (⟨(Lib.itoa n).toArray⟩ : ByteArray) = s at hz HR ⊢
  have z1 : (s ++ o).size = s.size + o.size := ByteArray.size_append
  have z2 : (s ++ o ++ i).size = s.size + o.size + i.size := by rw [ByteArray.size_append, ByteArray.size_append]
  go_wp2_with fail
  go_ret
  exact ⟨show (Ending.returned (.string (s ++ o ++ i ++ c)) : Ending) = _ by rw [HR.out], HB.out⟩
set_option maxRecDepth 100000 in
theorem fnt_impl (n : Int) (o i c : ByteArray) (w : World) (ho : o.size ≤ 4398046511104) (hi : i.size ≤ 4398046511104) (hc : c.size ≤ 4398046511104) (h0 : -9223372036854775808 ≤ n) (h1 : n ≤ 9223372036854775807) (htab : PowTab w) :
    Calls Tryd.prog 13 #[.int .i64 n, .string o, .string i, .string c] w fun e w' => e = .returned (.string (fntS n o i c)) ∧ Below w.heap.size w w' := by
  have hz := itoa_max h0 h1
  have HR : Hid ((⟨(Lib.itoa n).toArray⟩ : ByteArray) ++ o ++ i ++ c = fntS n o i c) := rfl
  have HT := Lib.hid htab
  clear htab
  go_enter Tryd.func13, Tryd.ntmps13
  go_wp2_with fail
  refine (fmt_impl n _ h0 h1 HT.out).mono ?_
  rintro e w1 ⟨rfl, hb⟩
  have HB := Lib.hid hb
  clear hb
  generalize hs : (⟨(Lib.itoa n).toArray⟩ : ByteArray) = s at hz HR ⊢
  have z1 : (s ++ o).size = s.size + o.size := ByteArray.size_append
  have z2 : (s ++ o ++ i).size = s.size + o.size + i.size := by rw [ByteArray.size_append, ByteArray.size_append]
  go_wp2_with fail
  go_ret
  exact ⟨show (Ending.returned (.string (s ++ o ++ i ++ c)) : Ending) = _ by rw [HR.out], HB.out⟩
end Go.Proofs.YtfdnfifmhfffnaaDoor
