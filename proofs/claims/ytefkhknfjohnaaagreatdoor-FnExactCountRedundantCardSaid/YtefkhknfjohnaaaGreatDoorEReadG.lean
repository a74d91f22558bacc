/- What ReadValue reads, as data. -/
import Derived.Test.YtefkhknfjohnaaaGreatDoorEGP
import Derived.Test.YtefkhknfjohnaaaGreatDoorEGX
namespace Go.Proofs.YtefkhknfjohnaaaGreatDoor
open Go Go.RowKit
noncomputable def readG (rs : List RuleV) (k : Int) (L : List UInt8) (x : Int) : Got ValueV :=
 if okAt rs k = true ∧ 0 ≤ x ∧ x ≤ (L.length : Int) ∧ L.length ≤ 400 then parseB rs L rs.length k x.toNat else .bad 0 8
end Go.Proofs.YtefkhknfjohnaaaGreatDoor
