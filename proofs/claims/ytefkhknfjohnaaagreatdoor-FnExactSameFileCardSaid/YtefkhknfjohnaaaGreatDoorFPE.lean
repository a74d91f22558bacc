/- BigEndian, LittleEndian: what comes back may be appended to. The contract of the model's l8Integer. Facts on the lengths of what is printed, kind by kind. No program is walked here. The encodings of values, as bytes: wrapE (what a rule adds to the encodings of its items), encV, encs; their lengths. No program is walked here. What a function gives that prints: bytes in new memory and true, or none and false. What PrintInteger answers, as data. No program is walked here. -/
import Derived.Test.YtefkhknfjohnaaaGreatDoorFGEnd
import Derived.Test.YtefkhknfjohnaaaGreatDoorFGBase
import Derived.Deep.RegionHeld3
import Derived.Deep.CutRange
import Derived.Test.YtefkhknfjohnaaaGreatDoorFGP
import Derived.Test.YtefkhknfjohnaaaGreatDoorFGD
import Derived.Test.YtefkhknfjohnaaaGreatDoorFGPu
import Derived.Test.YtefkhknfjohnaaaGreatDoorFGX
import Derived.Test.YtefkhknfjohnaaaGreatDoorFGV
namespace Go.Proofs.YtefkhknfjohnaaaGreatDoor
open Go Go.RowKit
end Go.Proofs.YtefkhknfjohnaaaGreatDoor
namespace Go.Proofs.YtefkhknfjohnaaaGreatDoor
open Go Go.RowKit
end Go.Proofs.YtefkhknfjohnaaaGreatDoor
namespace Go.Proofs.YtefkhknfjohnaaaGreatDoor
open Go Go.RowKit
end Go.Proofs.YtefkhknfjohnaaaGreatDoor
namespace Go.Proofs.YtefkhknfjohnaaaGreatDoor
open Go Go.RowKit
end Go.Proofs.YtefkhknfjohnaaaGreatDoor
namespace Go.Proofs.YtefkhknfjohnaaaGreatDoor
open Go Go.RowKit
end Go.Proofs.YtefkhknfjohnaaaGreatDoor
namespace Go.Proofs.YtefkhknfjohnaaaGreatDoor
open Go Go.RowKit
end Go.Proofs.YtefkhknfjohnaaaGreatDoor
