/- The contract of the model's l7Mins: the table of the least lengths of all rules. -/
import Derived.Test.YtfmnjclnhppghaaQL
import Derived.Test.YtfmnjclnhppghaaGPu
import Derived.Deep.CutRange
import Derived.Deep.CutBlock
import Derived.Deep.RegionHeld3
import Derived.IntWalk
namespace Go.Proofs.Ytfmnjclnhppghaa
open Go Go.RowKit
end Go.Proofs.Ytfmnjclnhppghaa
