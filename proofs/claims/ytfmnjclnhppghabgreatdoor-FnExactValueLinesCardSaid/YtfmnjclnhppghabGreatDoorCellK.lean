/- A cell that was there, behind a frame. -/
import Derived.Test.YtfmnjclnhppghabGreatDoorGBase
namespace Go.Proofs.YtfmnjclnhppghabGreatDoor
open Go Go.RowKit
theorem cellK {B : Nat} {w w' : World} {b i : Nat} {v : Value} (h : Below B w w') (hB : w.heap.size ≤ B) (hc : w.cell? ⟨b, i, none⟩ = some v) : w'.cell? ⟨b, i, none⟩ = some v :=
  (h.cell (p := ⟨b, i, none⟩) (Nat.lt_of_lt_of_le (cell_lt hc) hB)).trans hc
end Go.Proofs.YtfmnjclnhppghabGreatDoor
