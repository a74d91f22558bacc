/- Contracts of the program's CountParts and TotalBytes. -/
import Derived.Test.YtefkhknfjohnaaaGreatDoorEVisit
namespace Go.Proofs.YtefkhknfjohnaaaGreatDoor
open Go Go.RowKit
end Go.Proofs.YtefkhknfjohnaaaGreatDoor
