/- The contract of the model's ContainsText. -/
import Derived.Test.YtkegjgfggijinaaStrs
import Derived.Test.YtkegjgfggijinaaTxt2
namespace Go.Proofs.Ytkegjgfggijinaa
open Go Go.RowKit
/-- Whether the string is in the list. -/
def hasS (ss : List ByteArray) (x : ByteArray) : Bool := ss.any fun y => decide (y = x)
theorem hasS_true {ss : List ByteArray} {x : ByteArray} (h : x ∈ ss) : hasS ss x = true := by
  unfold hasS
  rw [List.any_eq_true]
  exact ⟨x, h, by simp⟩
theorem hasS_false {ss : List ByteArray} {x : ByteArray} (h : ¬ x ∈ ss) : hasS ss x = false := by
  unfold hasS
  rw [List.any_eq_false]
  intro y hy e
  exact h ((of_decide_eq_true e) ▸ hy)
end Go.Proofs.Ytkegjgfggijinaa
