/- The library's three tables and two sentinels out of a row's list of five. -/
import Derived.Test.YtgmbkmjheaijnaaDoorImpl
import Derived.Stop.LaidErr
import Derived.LaidLaws
namespace Go.Proofs.YtgmbkmjheaijnaaDoor
open Go Go.ChangeShapes Go.WideShapes Go.ChangeAt Go.RowKit
theorem star : "*" ++ "errors.errorString" = "*errors.errorString" := by decide
theorem rowES (u : TypeId) (h : Tryd.prog.typeName? 3 u = some "*errors.errorString") : u = 73 :=
  typeName_ptr_named (nm := "errors.errorString") (by rw [star]; kernel_rfl) (by kernel_rfl) (by decide) u (by rw [star]; exact h)
theorem cellsES : Tryd.prog.cellsOf 75 = 1 := by kernel_rfl
theorem cellsStr : Tryd.prog.cellsOf 9 = 1 := by kernel_rfl
theorem gSyn : Tryd.prog.globalNamed "strconv.ErrSyntax" = some 0 := by kernel_rfl
theorem gRng : Tryd.prog.globalNamed "strconv.ErrRange" = some 1 := by kernel_rfl
theorem tSyn : (Tryd.prog.globals[0]?).map (·.type) = some 41 := by kernel_rfl
theorem tRng : (Tryd.prog.globals[1]?).map (·.type) = some 41 := by kernel_rfl
theorem tabs_of {W : World} (h : laidMetH Tryd.prog [("math/bits.deBruijn32tab", Rows.laid_math_bits_deBruijn32tab), ("math/bits.deBruijn64tab", Rows.laid_math_bits_deBruijn64tab), ("internal/strconv.uint64pow10", Rows.laid_internal_strconv_uint64pow10), ("strconv.ErrRange", Rows.laid_strconv_ErrRange), ("strconv.ErrSyntax", Rows.laid_strconv_ErrSyntax)] W) : Tabs W := by
  rw [MakeChecks.laidMetH_plain _ _ _ (by kernel_rfl)] at h
  have h2 := laidMet.tail (laidMet.tail h)
  have h3 := laidMet.tail h2
  have h4 := laidMet.tail h3
  obtain ⟨a3, s3, hv3, -, -, -⟩ := laid_sentinel h3 gRng tRng Tryd.underlying41 rowES Tryd.underlying73 Tryd.underlying75 rfl rfl Tryd.underlying9 cellsES cellsStr
  obtain ⟨a4, s4, hv4, -, -, -⟩ := laid_sentinel h4 gSyn tSyn Tryd.underlying41 rowES Tryd.underlying73 Tryd.underlying75 rfl rfl Tryd.underlying9 cellsES cellsStr
  exact ⟨powTab_of h2, ⟨_, _, hv4⟩, ⟨_, _, hv3⟩⟩
end Go.Proofs.YtgmbkmjheaijnaaDoor
