/- Contracts of the program's visitParts, for each closure it is called with, over any relation on the parts still to come that a visit keeps. -/
import Derived.Test.YtefkhknfjohnaaaGreatDoorEVisitP
import Derived.IntWalk
namespace Go.Proofs.YtefkhknfjohnaaaGreatDoor
open Go Go.RowKit
end Go.Proofs.YtefkhknfjohnaaaGreatDoor
