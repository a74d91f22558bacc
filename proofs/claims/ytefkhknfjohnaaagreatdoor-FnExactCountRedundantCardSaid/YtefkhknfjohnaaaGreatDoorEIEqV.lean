/- The contract of the program's EqualValues. -/
import Derived.Test.YtefkhknfjohnaaaGreatDoorEPairP
import Derived.Test.YtefkhknfjohnaaaGreatDoorESEqV
import Derived.BigQuiet
import Derived.Deep.RegionHeld3
import Derived.Deep.RegionLaw
import Derived.IntWalk
namespace Go.Proofs.YtefkhknfjohnaaaGreatDoor
open Go Go.RowKit
end Go.Proofs.YtefkhknfjohnaaaGreatDoor
