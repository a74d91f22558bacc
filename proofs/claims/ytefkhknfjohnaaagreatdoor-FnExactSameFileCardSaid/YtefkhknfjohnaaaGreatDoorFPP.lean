/- The contract of the model's l11Print. The contracts of the model's PrintValue and PrintFile, with the bytes. -/
import Derived.Test.YtefkhknfjohnaaaGreatDoorFPW
import Derived.Test.YtefkhknfjohnaaaGreatDoorFPE
import Derived.Test.YtefkhknfjohnaaaGreatDoorFGD
import Derived.Test.YtefkhknfjohnaaaGreatDoorFGPu
import Derived.Test.YtefkhknfjohnaaaGreatDoorFGEnd
import Derived.Test.YtefkhknfjohnaaaGreatDoorFGNam
import Derived.Deep.RegionHeld3
namespace Go.Proofs.YtefkhknfjohnaaaGreatDoor
open Go Go.RowKit
end Go.Proofs.YtefkhknfjohnaaaGreatDoor
namespace Go.Proofs.YtefkhknfjohnaaaGreatDoor
open Go Go.RowKit
end Go.Proofs.YtefkhknfjohnaaaGreatDoor
