/- The model's l11Read at every height. -/
import Derived.Test.YtdccjobgfjoflaaGreatDoorPGI
namespace Go.Proofs.YtdccjobgfjoflaaGreatDoor
open Go Go.RowKit
structure Bex (dc rc : List Value) (w : World) (N1 N2 : Nat) (W : World) : Prop where
 d : CellsAt w.heap.size dc W
 z : CellsAt N1 [.int .i64 0, .slice none 0 0, .slice none 0 0] W
 r : CellsAt N2 rc W
 below : Below w.heap.size w W
 n1 : w.heap.size < N1
 n2 : N1 < N2
 le : N2 < W.heap.size
theorem Bex.later {dc rc : List Value} {w W W' : World} {N1 N2 : Nat} (h : Bex dc rc w N1 N2 W) (hb : Below W.heap.size W W') : Bex dc rc w N1 N2 W' :=
 ⟨h.d.below hb, h.z.below hb, h.r.below hb, h.below.trans (hb.mono h.below.size), h.n1, h.n2, Nat.lt_of_lt_of_le h.le hb.size⟩
end Go.Proofs.YtdccjobgfjoflaaGreatDoor
