/- The contract of the model's EqualValues, at any two values. -/
import Derived.Test.YtefkhknfjohnaaaGreatDoorEGV
import Derived.Test.YtefkhknfjohnaaaGreatDoorEGRul
import Derived.Deep.RegionHeld3
import Derived.Deep.CutRange
namespace Go.Proofs.YtefkhknfjohnaaaGreatDoor
open Go Go.RowKit
end Go.Proofs.YtefkhknfjohnaaaGreatDoor
