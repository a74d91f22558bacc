/- The contract of the model's l9Own. The contracts of the model's l9Valid and IsValidValue. The contract of the model's IsValidValue. Whether a value is printed. How long the encoding of a value can be, by its size. No program is walked here. How many bytes a value is printed with. No program is walked here. -/
import Derived.Test.YtefkhknfjohnaaaGreatDoorFGI
import Derived.Test.YtefkhknfjohnaaaGreatDoorFGP
import Derived.Test.YtefkhknfjohnaaaGreatDoorFGX
import Derived.Test.YtefkhknfjohnaaaGreatDoorFGDI
import Derived.Deep.RegionHeld3
import Derived.Deep.CutRange
import Derived.IntWalk
import Derived.Test.YtefkhknfjohnaaaGreatDoorFPE
import Derived.Test.YtefkhknfjohnaaaGreatDoorFGV
namespace Go.Proofs.YtefkhknfjohnaaaGreatDoor
open Go Go.RowKit
end Go.Proofs.YtefkhknfjohnaaaGreatDoor
namespace Go.Proofs.YtefkhknfjohnaaaGreatDoor
open Go Go.RowKit
end Go.Proofs.YtefkhknfjohnaaaGreatDoor
namespace Go.Proofs.YtefkhknfjohnaaaGreatDoor
open Go Go.RowKit
end Go.Proofs.YtefkhknfjohnaaaGreatDoor
namespace Go.Proofs.YtefkhknfjohnaaaGreatDoor
open Go Go.RowKit
end Go.Proofs.YtefkhknfjohnaaaGreatDoor
namespace Go.Proofs.YtefkhknfjohnaaaGreatDoor
open Go Go.RowKit
end Go.Proofs.YtefkhknfjohnaaaGreatDoor
namespace Go.Proofs.YtefkhknfjohnaaaGreatDoor
open Go Go.RowKit
end Go.Proofs.YtefkhknfjohnaaaGreatDoor
