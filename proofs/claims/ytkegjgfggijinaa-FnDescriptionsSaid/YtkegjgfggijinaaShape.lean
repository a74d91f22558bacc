/- Contracts of the model's l4Shape, one for each use: which fields a kind mentions. -/
import Derived.Test.YtkegjgfggijinaaRules
namespace Go.Proofs.Ytkegjgfggijinaa
open Go Go.RowKit
/-- Whether only the fields are used that a kind mentions. -/
def shapeB (r : RuleV) (sz by' nm tg : Bool) (k : Int) : Bool := (sz || decide (r.size = 0)) && ((by' || decide (r.bytes.length = 0)) && ((nm || decide (r.names.length = 0)) && ((tg || decide (r.tags.length = 0)) && ((decide (k < 0) || decide ((r.kids.length : Int) = k)) && (!r.little || decide (r.kind = 1))))))
end Go.Proofs.Ytkegjgfggijinaa
