/- Contracts of the model's MinSize, MaxSize, IsFixedSize. -/
import Derived.Test.YtfmnjclnhppghaaQL
import Derived.Test.YtfmnjclnhppghaaSizeD
import Derived.Test.YtfmnjclnhppghaaSMins
import Derived.Test.YtfmnjclnhppghaaSMaxs
namespace Go.Proofs.Ytfmnjclnhppghaa
open Go Go.RowKit
noncomputable def fixedD (rs : List RuleV) (k : Int) : Bool := decide (0 < sizeD minStep rs k ∧ sizeD minStep rs k = sizeD (maxStep rs) rs k ∧ sizeD minStep rs k < 400)
end Go.Proofs.Ytfmnjclnhppghaa
