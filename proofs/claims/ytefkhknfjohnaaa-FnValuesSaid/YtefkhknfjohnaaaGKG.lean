/- Three closed facts on the whole program, each shown once (every row's proof asks them; together they outgrow the memory of one theorem). -/
import Derived.Test.YtefkhknfjohnaaaChecked
import Derived.JoinedOf
import Derived.KernelRfl
namespace Go.Proofs.Ytefkhknfjohnaaa
open Go
theorem may_enter : Try.prog.mayEnter = true := by kernel_rfl
theorem lifts_final : Try.prog.liftsFinal = ({ program := "", sum := "", func := "", spec := "" } : OpenClaim).lifted := by kernel_rfl
theorem make_is : Try.prog.make = some ({ program := "", sum := "", func := "", spec := "" } : OpenClaim).make := by kernel_rfl
end Go.Proofs.Ytefkhknfjohnaaa
