/- The contract of the model's l7Maxs: the table of the greatest lengths of all rules. -/
import Derived.Test.YthjogcknphjilaaUsedP
import Derived.Test.YthjogcknphjilaaMinMax
import Derived.Test.YthjogcknphjilaaGPu
import Derived.Test.YthjogcknphjilaaGDI
import Derived.Deep.CutRange
import Derived.Deep.CutBlock
import Derived.Deep.RegionHeld3
import Derived.IntWalk
namespace Go.Proofs.Ythjogcknphjilaa
open Go Go.RowKit
end Go.Proofs.Ythjogcknphjilaa
