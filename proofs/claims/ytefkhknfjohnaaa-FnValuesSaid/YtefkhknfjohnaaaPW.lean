/- The contract of the model's l9Own. The contracts of the model's l9Valid and IsValidValue. The contract of the model's IsValidValue. -/
import Derived.Test.YtefkhknfjohnaaaGI
import Derived.Test.YtefkhknfjohnaaaGP
import Derived.Test.YtefkhknfjohnaaaGX
import Derived.Test.YtefkhknfjohnaaaGDI
import Derived.Deep.RegionHeld3
import Derived.Deep.CutRange
import Derived.IntWalk
namespace Go.Proofs.Ytefkhknfjohnaaa
open Go Go.RowKit
end Go.Proofs.Ytefkhknfjohnaaa
namespace Go.Proofs.Ytefkhknfjohnaaa
open Go Go.RowKit
theorem own_len {rs : List RuleV} {r : RuleV} {v : ValueV} (hk : kindI rs r = true) (h : ownB rs r v = true) : v.items.length ≤ 40 := by
  have hkn := kindI_known hk
  rcases (by omega : r.kind = 1 ∨ r.kind = 2 ∨ r.kind = 3 ∨ r.kind = 4 ∨ r.kind = 5 ∨ r.kind = 6 ∨ r.kind = 7 ∨ r.kind = 8 ∨ r.kind = 9 ∨ r.kind = 10) with e | e | e | e | e | e | e | e | e | e
  · simp [ownB, e] at h; rw [h.2.2]; simp
  · simp [ownB, e] at h; rw [h.2.2]; simp
  · simp [ownB, e] at h; rw [h.2.2]; simp
  · simp [ownB, e] at h; rw [h.2.2]; simp
  · simp [ownB, e] at h; omega
  · have := kindI_6 hk e; simp [ownB, e] at h; omega
  · simp [ownB, e] at h; omega
  · simp [ownB, e] at h; omega
  · simp [ownB, e] at h; omega
  · simp [ownB, e] at h; rw [h.2.2]; simp
/-- The cells of an item. -/
theorem IsVal.cells {n : Nat} {v : ValueV} {cs : List Value} {w : World} (h : IsVal n v cs w) : ∃ ab cb ai ci, cs = [.int .i64 v.number, .slice ab v.bytes.length cb, .slice ai v.items.length ci] := by
  cases n with
  | zero => exact h.elim
  | succ n => obtain ⟨ab, cb, ai, ci, e, _⟩ := h; exact ⟨ab, cb, ai, ci, e⟩
end Go.Proofs.Ytefkhknfjohnaaa
namespace Go.Proofs.Ytefkhknfjohnaaa
open Go Go.RowKit
/-- Whether a value is one of a rule of a valid description. -/
noncomputable def fitsV (rs : List RuleV) (k : Int) (v : ValueV) : Bool := okAt rs k && validV rs k v
theorem RdC.rdr {a : Option Addr} {rs : List RuleV} {w : World} (h : RdC a rs w) : RdR a rs w := h.rd
end Go.Proofs.Ytefkhknfjohnaaa
