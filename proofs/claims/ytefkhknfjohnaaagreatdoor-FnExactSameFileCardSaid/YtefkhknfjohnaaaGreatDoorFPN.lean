/- First bytes, as data: with which bytes encodings of a rule can begin. No program is walked here. Contracts of the program's LittleEndian and BigEndian. The contracts of the program's encodeInteger, encodeTag, firstPart. -/
import Derived.Test.YtefkhknfjohnaaaGreatDoorFGP
import Derived.Test.YtefkhknfjohnaaaGreatDoorFPE
import Derived.Test.YtefkhknfjohnaaaGreatDoorFGX
import Derived.Test.YtefkhknfjohnaaaGreatDoorFShelf
import Derived.Test.YtefkhknfjohnaaaGreatDoorFGEnd
import Derived.IntWalk
import Derived.Test.YtefkhknfjohnaaaGreatDoorFGDI
import Derived.StillTailTactics
import Derived.Deep.CutRange
namespace Go.Proofs.YtefkhknfjohnaaaGreatDoor
open Go Go.RowKit
end Go.Proofs.YtefkhknfjohnaaaGreatDoor
namespace Go.Proofs.YtefkhknfjohnaaaGreatDoor
open Go Go.RowKit
end Go.Proofs.YtefkhknfjohnaaaGreatDoor
namespace Go.Proofs.YtefkhknfjohnaaaGreatDoor
open Go Go.RowKit
end Go.Proofs.YtefkhknfjohnaaaGreatDoor
