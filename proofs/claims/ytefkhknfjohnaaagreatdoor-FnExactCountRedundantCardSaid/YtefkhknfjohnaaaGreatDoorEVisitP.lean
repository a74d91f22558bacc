/- Lists of pointers to parts of values, and what a visit of each does. -/
import Derived.Test.YtefkhknfjohnaaaGreatDoorECnt
import Derived.Test.YtefkhknfjohnaaaGreatDoorEGPu
import Derived.WalkSmall
import Derived.Deep.AppendLies
namespace Go.Proofs.YtefkhknfjohnaaaGreatDoor
open Go Go.RowKit
end Go.Proofs.YtefkhknfjohnaaaGreatDoor
