/- The printer: where it lies and what it has written; what its methods may turn. No program is walked here. Appending what a slice holds to bytes that the call owns: where the bytes lie afterwards. The contract of the printer's writeBytes. The contract of the printer's writeHead. The contract of the printer's writeSum. -/
import Derived.Test.YtefkhknfjohnaaaGreatDoorFGV
import Derived.Test.YtefkhknfjohnaaaGreatDoorFGPu
import Derived.Test.YtefkhknfjohnaaaGreatDoorFGD
import Derived.Deep.CutRange
import Derived.Test.YtefkhknfjohnaaaGreatDoorFGH
import Derived.Test.YtefkhknfjohnaaaGreatDoorFPN
import Derived.Test.YtefkhknfjohnaaaGreatDoorFPE
import Derived.Deep.RegionHeld3
import Derived.Test.YtefkhknfjohnaaaGreatDoorFGT
namespace Go.Proofs.YtefkhknfjohnaaaGreatDoor
open Go Go.RowKit
end Go.Proofs.YtefkhknfjohnaaaGreatDoor
namespace Go.Proofs.YtefkhknfjohnaaaGreatDoor
open Go Go.RowKit
end Go.Proofs.YtefkhknfjohnaaaGreatDoor
namespace Go.Proofs.YtefkhknfjohnaaaGreatDoor
open Go Go.RowKit
end Go.Proofs.YtefkhknfjohnaaaGreatDoor
namespace Go.Proofs.YtefkhknfjohnaaaGreatDoor
open Go Go.RowKit
end Go.Proofs.YtefkhknfjohnaaaGreatDoor
namespace Go.Proofs.YtefkhknfjohnaaaGreatDoor
open Go Go.RowKit
end Go.Proofs.YtefkhknfjohnaaaGreatDoor
