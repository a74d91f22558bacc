/- Contracts of the model's MinSize, MaxSize, IsFixedSize. -/
import Derived.Test.YthjogcknphjilaaRuleOk
import Derived.Test.YthjogcknphjilaaSizeD
import Derived.Test.YthjogcknphjilaaSMins
import Derived.Test.YthjogcknphjilaaSMaxs
namespace Go.Proofs.Ythjogcknphjilaa
open Go Go.RowKit
noncomputable def fixedD (rs : List RuleV) (k : Int) : Bool := decide (0 < sizeD minStep rs k ∧ sizeD minStep rs k = sizeD (maxStep rs) rs k ∧ sizeD minStep rs k < 400)
end Go.Proofs.Ythjogcknphjilaa
