/- The model's ReadValue, ReadFile, IsFileOf. The model's ReadFile, IsFileOf. -/
import Derived.Test.YtdccjobgfjoflaaGreatDoorPSRead11
import Derived.Test.YtdccjobgfjoflaaGreatDoorPGY
import Derived.Test.YtdccjobgfjoflaaGreatDoorPGX
namespace Go.Proofs.YtdccjobgfjoflaaGreatDoor
open Go Go.RowKit
end Go.Proofs.YtdccjobgfjoflaaGreatDoor
