/- Contracts of Min and Max, of the model and of the program. -/
import Derived.Test.YtekmopoblfknlaaGBase
namespace Go.Proofs.Ytekmopoblfknlaa
open Go Go.RowKit
theorem min_spec (a b : Int) (w : World) :
    Calls Try.prog 57 #[.int .i64 a, .int .i64 b] w fun e w' => e = .returned (.int .i64 (min a b)) ∧ w = w' := by
  by_cases h : b < a
  · have hr : Hid (min a b = b) := by show _ = _; omega
    go_enter Try.func57, Try.ntmps57
    go_wp2
    go_ret
    exact ⟨ret_int hr.out.symm, rfl⟩
  · have hr : Hid (min a b = a) := by show _ = _; omega
    go_enter Try.func57, Try.ntmps57
    go_wp2
    go_ret
    exact ⟨ret_int hr.out.symm, rfl⟩
end Go.Proofs.Ytekmopoblfknlaa
