/- A description in new memory while it is marked: what stays and what turns. No function of the program is named here. Contracts of the laws' marks of rules. Contracts of the laws' marks of descriptions, and of reading the marks back. -/
import Derived.Test.YtefkhknfjohnaaaGreatDoorFGRul
import Derived.Test.YtefkhknfjohnaaaGreatDoorFGPu
import Derived.Test.YtefkhknfjohnaaaGreatDoorFGSz
import Derived.Deep.CutRange
import Derived.Deep.RegionHeld3
namespace Go.Proofs.YtefkhknfjohnaaaGreatDoor
open Go Go.RowKit
end Go.Proofs.YtefkhknfjohnaaaGreatDoor
namespace Go.Proofs.YtefkhknfjohnaaaGreatDoor
open Go Go.RowKit
end Go.Proofs.YtefkhknfjohnaaaGreatDoor
namespace Go.Proofs.YtefkhknfjohnaaaGreatDoor
open Go Go.RowKit
end Go.Proofs.YtefkhknfjohnaaaGreatDoor
