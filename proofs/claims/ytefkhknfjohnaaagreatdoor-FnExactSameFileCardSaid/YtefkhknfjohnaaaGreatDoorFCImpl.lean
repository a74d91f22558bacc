/- Contracts of the program's CountParts and TotalBytes. -/
import Derived.Test.YtefkhknfjohnaaaGreatDoorFVisit
namespace Go.Proofs.YtefkhknfjohnaaaGreatDoor
open Go Go.RowKit
/-- A part that can be read. -/
def ReadsAt (n : Nat) (p : Node) (w : World) : Prop := ∃ cs, IsVal n p.2.2 cs w ∧ ∀ i u, cs[i]? = some u → w.cell? ⟨p.1, p.2.1 + i, none⟩ = some u
theorem ReadsAt.open {n b o : Nat} {v : ValueV} {w : World} (h : ReadsAt n (b, o, v) w) : ∃ ab cb ai ci b' o', (w.cell? ⟨b, o, none⟩ = some (.int .i64 v.number) ∧ w.cell? ⟨b, o + 1, none⟩ = some (.slice ab v.bytes.length cb) ∧ w.cell? ⟨b, o + 2, none⟩ = some (.slice ai v.items.length ci)) ∧ RdN ab v.bytes cb w ∧
    (v.items ≠ [] → ai = some ⟨b', o', none⟩) ∧ ∀ p ∈ kidsAt b' o' v.items, ReadsAt (n - 1) p w := by
  obtain ⟨cs, h1, h2⟩ := h
  cases n with
  | zero => exact h1.elim
  | succ n =>
    obtain ⟨ab, cb, ai, ci, rfl, hb, hit⟩ := h1.open
    have c0 := h2 0 _ rfl
    have c1 := h2 1 _ rfl
    have c2 := h2 2 _ rfl
    by_cases hv : v.items = []
    · exact ⟨ab, cb, ai, ci, 0, 0, ⟨c0, c1, c2⟩, hb, fun h => absurd hv h, fun p hp => by rw [hv] at hp; cases hp⟩
    · have hp : 0 < v.items.length := (by cases hw : v.items with | nil => exact absurd hw hv | cons x r => simp)
      obtain ⟨b', o', _, rfl, _, _⟩ := hit 0 hp
      refine ⟨ab, cb, _, ci, b', o', ⟨c0, c1, c2⟩, hb, fun _ => rfl, fun p hp => ?_⟩
      obtain ⟨j, hj, rfl⟩ := kidsAt_mem hp
      obtain ⟨b2, o2, cs', e, h3, h4⟩ := hit j hj
      injection e with e
      injection e with e1 e2
      subst e1 e2
      exact ⟨cs', h3, h4⟩
end Go.Proofs.YtefkhknfjohnaaaGreatDoor
