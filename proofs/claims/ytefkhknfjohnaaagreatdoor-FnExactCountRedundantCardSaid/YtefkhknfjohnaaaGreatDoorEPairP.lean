/- Lists of pairs of pointers to parts of values. -/
import Derived.Test.YtefkhknfjohnaaaGreatDoorECImpl
namespace Go.Proofs.YtefkhknfjohnaaaGreatDoor
open Go Go.RowKit
end Go.Proofs.YtefkhknfjohnaaaGreatDoor
