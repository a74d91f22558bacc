/- The strings in a description that is not too large are not too long. -/
import Derived.Test.YtpeldhediaodjaaDoorValidD
import Derived.Test.YtpeldhediaodjaaDoorRuleSz
namespace Go.Proofs.YtpeldhediaodjaaDoor
open Go Go.RowKit
theorem size_in {ss : List ByteArray} {s : ByteArray} (h : s ∈ ss) : s.size ≤ sizeS ss := by
  obtain ⟨j, hj, rfl⟩ := List.getElem_of_mem h
  have h1 := sumTo_next ss j hj
  have h2 := sumTo_le ss (j + 1)
  unfold sizeS
  omega
theorem spelt_of {rs : List RuleV} (h : sizeR rs ≤ 1048576) : ∀ r ∈ rs, Spelt r := fun r hr => by
  obtain ⟨j, hj, rfl⟩ := List.getElem_of_mem hr
  have h1 := ruleSize_le rs j hj
  unfold ruleSize at h1
  exact ⟨by omega, fun s hs => by have := size_in hs; omega⟩
end Go.Proofs.YtpeldhediaodjaaDoor
