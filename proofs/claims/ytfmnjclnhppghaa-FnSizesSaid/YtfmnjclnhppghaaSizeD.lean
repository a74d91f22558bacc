/- The answers of MinSize, MaxSize, DepthOf, as a plain function. -/
import Derived.Test.YtfmnjclnhppghaaQL
namespace Go.Proofs.Ytfmnjclnhppghaa
open Go Go.RowKit
noncomputable def sizeD (f : List Int → RuleV → Int) (rs : List RuleV) (k : Int) : Int := if okAt rs k = true then sizeAt f rs k else 0
theorem sizeD_no {f : List Int → RuleV → Int} {rs : List RuleV} {k : Int} (h : okAt rs k = false) : sizeD f rs k = 0 := by unfold sizeD; rw [h]; rfl
theorem sizeD_yes {f : List Int → RuleV → Int} {rs : List RuleV} {k : Int} (h : okAt rs k = true) : sizeD f rs k = sizeAt f rs k := by unfold sizeD; rw [if_pos h]
end Go.Proofs.Ytfmnjclnhppghaa
