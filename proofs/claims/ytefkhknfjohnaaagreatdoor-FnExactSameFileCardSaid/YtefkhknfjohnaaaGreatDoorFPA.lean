/- The program's allItems with the printer's writePart, out of writePart at a height. What the printer's writePart answers, kind by kind. No program is walked here. The contract of the printer's writeItems. The contract of the program's EscapeBytes. The contract of the printer's writePart, at every height. The contract of the program's PrintValue. The contract of the program's PrintFile. -/
import Derived.Test.YtefkhknfjohnaaaGreatDoorFPR
import Derived.Test.YtefkhknfjohnaaaGreatDoorFGK
import Derived.Test.YtefkhknfjohnaaaGreatDoorFPE
import Derived.Test.YtefkhknfjohnaaaGreatDoorFGV
import Derived.Test.YtefkhknfjohnaaaGreatDoorFGD
import Derived.Deep.RegionHeld3
import Derived.Deep.CutRange
import Derived.Test.YtefkhknfjohnaaaGreatDoorFGH
import Derived.Test.YtefkhknfjohnaaaGreatDoorFGPu
import Derived.Test.YtefkhknfjohnaaaGreatDoorFPW
import Derived.Test.YtefkhknfjohnaaaGreatDoorFGX
import Derived.Test.YtefkhknfjohnaaaGreatDoorFGDI
namespace Go.Proofs.YtefkhknfjohnaaaGreatDoor
open Go Go.RowKit
end Go.Proofs.YtefkhknfjohnaaaGreatDoor
namespace Go.Proofs.YtefkhknfjohnaaaGreatDoor
open Go Go.RowKit
end Go.Proofs.YtefkhknfjohnaaaGreatDoor
namespace Go.Proofs.YtefkhknfjohnaaaGreatDoor
open Go Go.RowKit
end Go.Proofs.YtefkhknfjohnaaaGreatDoor
namespace Go.Proofs.YtefkhknfjohnaaaGreatDoor
open Go Go.RowKit
end Go.Proofs.YtefkhknfjohnaaaGreatDoor
namespace Go.Proofs.YtefkhknfjohnaaaGreatDoor
open Go Go.RowKit
end Go.Proofs.YtefkhknfjohnaaaGreatDoor
namespace Go.Proofs.YtefkhknfjohnaaaGreatDoor
open Go Go.RowKit
end Go.Proofs.YtefkhknfjohnaaaGreatDoor
namespace Go.Proofs.YtefkhknfjohnaaaGreatDoor
open Go Go.RowKit
end Go.Proofs.YtefkhknfjohnaaaGreatDoor
