/- The contract of the model's l7Maxs: the table of the greatest lengths of all rules. -/
import Derived.Test.YtfmnjclnhppghaaQL
import Derived.Test.YtfmnjclnhppghaaGPu
import Derived.Test.YtfmnjclnhppghaaGDI
import Derived.Deep.CutRange
import Derived.Deep.CutBlock
import Derived.Deep.RegionHeld3
import Derived.IntWalk
namespace Go.Proofs.Ytfmnjclnhppghaa
open Go Go.RowKit
end Go.Proofs.Ytfmnjclnhppghaa
