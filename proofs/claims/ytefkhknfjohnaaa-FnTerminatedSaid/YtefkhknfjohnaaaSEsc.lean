/- The contract of the model's EscapeBytes. -/
import Derived.Test.YtefkhknfjohnaaaPE
import Derived.Test.YtefkhknfjohnaaaGD
import Derived.Test.YtefkhknfjohnaaaGPu
namespace Go.Proofs.Ytefkhknfjohnaaa
open Go Go.RowKit
end Go.Proofs.Ytefkhknfjohnaaa
