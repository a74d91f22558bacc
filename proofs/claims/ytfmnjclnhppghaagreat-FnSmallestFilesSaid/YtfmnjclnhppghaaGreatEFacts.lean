/- Three closed facts on the whole program, each shown once (every row's proof asks them; together they outgrow the memory of one theorem). -/
import Derived.Test.YtfmnjclnhppghaaGreatChecked
import Derived.JoinedOf
import Derived.KernelRfl
namespace Go.Proofs.YtfmnjclnhppghaaGreat
open Go
theorem may_enter : Tryz.prog.mayEnter = true := by kernel_rfl
theorem lifts_final : Tryz.prog.liftsFinal = ({ program := "", sum := "", func := "", spec := "" } : OpenClaim).lifted := by kernel_rfl
theorem make_is : Tryz.prog.make = some ({ program := "", sum := "", func := "", spec := "" } : OpenClaim).make := by kernel_rfl
end Go.Proofs.YtfmnjclnhppghaaGreat
