/- The contract of impl.FormatInt. -/
import Derived.Test.YtikpbeealeofaaaDoorLift
import Derived.Test.YtikpbeealeofaaaDoorRowF
namespace Go.Proofs.YtikpbeealeofaaaDoor
open Go Go.RowKit
/-- impl.FormatInt: the decimal form of every int. -/
theorem fmt_impl (n : Int) (w : World) (h0 : -9223372036854775808 ≤ n) (h1 : n ≤ 9223372036854775807) (htab : PowTab w) :
    Calls Tryd.prog 9 #[.int .i64 n] w fun e w' => e = .returned (.string ⟨(Lib.itoa n).toArray⟩) ∧ Below w.heap.size w w' := by
  have H := Lib.hid htab
  clear htab
  go_enter Tryd.func9, Tryd.ntmps9
  go_wp2_with fail
  refine (Tryd.strconv_Itoa n h0 h1 _ H.out).mono ?_
  rintro e w' ⟨rfl, k, os, rfl⟩
  have hb := Lib.hid (Lib.below_grow w.heap.size w (Nat.le_refl _) k os)
  go_wp2_with fail
  go_ret
  exact ⟨rfl, hb.out⟩
end Go.Proofs.YtikpbeealeofaaaDoor
