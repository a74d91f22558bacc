/- The contracts of FormatNumberText, the model's and the program's. -/
import Derived.Test.YtikpbeealeofaaaDoorFmt2
import Derived.Test.YtikpbeealeofaaaDoorFmtImpl
namespace Go.Proofs.YtikpbeealeofaaaDoor
open Go Go.RowKit
/-- The text of a number and what stands behind it. -/
def fntS (n : Int) (o i c : ByteArray) : ByteArray := (⟨(Lib.itoa n).toArray⟩ : ByteArray) ++ o ++ i ++ c
theorem itoa_max {n : Int} (h0 : -9223372036854775808 ≤ n) (h1 : n ≤ 9223372036854775807) : (⟨(Lib.itoa n).toArray⟩ : ByteArray).size ≤ 21 := by
  have e : (⟨(Lib.itoa n).toArray⟩ : ByteArray).size = (Lib.itoa n).length := by simp [ByteArray.size]
  rw [e]
  by_cases hz : n = 0
  · subst hz; rw [itoa_zero]; decide
  · by_cases hp : 0 < n
    · rw [itoa_pos hp]
      have := digs_length n.natAbs (by omega)
      omega
    · rw [itoa_neg (by omega)]
      have := digs_length n.natAbs (by omega)
      simp; omega
end Go.Proofs.YtikpbeealeofaaaDoor
