/- Contracts of CountKind and KidName, of the model and of the program. -/
import Derived.Test.YtndjefednfcmmaaGreatDoorGFnd
import Derived.BigQuiet
namespace Go.Proofs.YtndjefednfcmmaaGreatDoor
open Go Go.RowKit
end Go.Proofs.YtndjefednfcmmaaGreatDoor
