/- The canonical form of bytes, as data. No program is walked here. -/
import Derived.Test.YtefkhknfjohnaaaGreatDoorFGKG
import Derived.Test.YtefkhknfjohnaaaGreatDoorFPW
import Derived.Test.YtefkhknfjohnaaaGreatDoorFPE
namespace Go.Proofs.YtefkhknfjohnaaaGreatDoor
open Go Go.RowKit
noncomputable def eqG : Got ValueV → Got ValueV → Bool
  | .ok v _, .ok u _ => @decide (v = u) (Classical.propDecidable _)
  | _, _ => false
noncomputable def sameG (rs : List RuleV) (A B : List UInt8) : Bool := eqG (fileG rs A) (fileG rs B)
theorem eqG_ok {v u : ValueV} {p q : Nat} {r : Bool} (h : r = true ↔ v = u) : eqG (.ok v p) (.ok u q) = r := by
  unfold eqG
  cases r with
  | true => exact @decide_eq_true _ (Classical.propDecidable _) (h.1 rfl)
  | false => exact @decide_eq_false _ (Classical.propDecidable _) fun e => by have := h.2 e; cases this
end Go.Proofs.YtefkhknfjohnaaaGreatDoor
