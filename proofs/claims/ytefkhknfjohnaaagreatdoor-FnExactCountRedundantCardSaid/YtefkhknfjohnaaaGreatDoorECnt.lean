/- Contracts of the model's CountParts and TotalBytes. -/
import Derived.Test.YtefkhknfjohnaaaGreatDoorEGV
namespace Go.Proofs.YtefkhknfjohnaaaGreatDoor
open Go Go.RowKit
end Go.Proofs.YtefkhknfjohnaaaGreatDoor
