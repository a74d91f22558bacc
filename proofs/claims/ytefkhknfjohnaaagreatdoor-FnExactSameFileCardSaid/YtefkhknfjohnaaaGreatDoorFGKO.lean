/- What only some blocks' turning leaves; what comes back of the two readers, in one form. -/
import Derived.Test.YtefkhknfjohnaaaGreatDoorFGMk
import Derived.Test.YtefkhknfjohnaaaGreatDoorFGV
import Derived.Test.YtefkhknfjohnaaaGreatDoorFGKG
import Derived.Test.YtefkhknfjohnaaaGreatDoorFGSz
import Derived.Test.YtefkhknfjohnaaaGreatDoorFGK
namespace Go.Proofs.YtefkhknfjohnaaaGreatDoor
open Go Go.RowKit
theorem ko_blk {B cap : Nat} {a : Option Addr} {xs : List UInt8} {w : World} (h : Row B a xs cap w) : ∀ b off, a = some ⟨b, off, none⟩ → xs.length ≠ 0 → B ≤ b ∧ b < w.heap.size := fun b off e hn => by
  rcases h.1 with h | ⟨b', off', e', hB, hc⟩
  · rw [h] at hn; exact absurd rfl hn
  · rw [e] at e'
    injection e' with e'
    injection e' with e1 e2
    subst e1 e2
    exact ⟨hB, cell_lt (hc 0 (by omega)).1⟩
end Go.Proofs.YtefkhknfjohnaaaGreatDoor
