/- Contracts of the model's functions of chapter 2. -/
import Derived.Test.YtndjefednfcmmaaGreatDoorGBase
namespace Go.Proofs.YtndjefednfcmmaaGreatDoor
open Go Go.RowKit
end Go.Proofs.YtndjefednfcmmaaGreatDoor
