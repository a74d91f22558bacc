/- Drawing one of a list that stands in the text; the cursor behind other work. -/
import Derived.Test.YtikpbeealeofaaaDoorDraw
namespace Go.Proofs.YtikpbeealeofaaaDoor
open Go Go.RowKit
def I64 (x : Int) : Prop := -9223372036854775808 ≤ x ∧ x ≤ 9223372036854775807
theorem Cur.below {a : Option Addr} {len cap c : Nat} {w w' : World} (h : Cur a len cap c w) (hb : Below w.heap.size w w') : Cur a len cap c w' := by
  obtain ⟨k, x, hk, c0, c1, c2, f1, f2, hs⟩ := h
  have hlt : c < w.heap.size := cell_lt c0
  refine ⟨k, x, hk, (hb.cell (p := ⟨c, 0, none⟩) hlt).trans c0, (hb.cell (p := ⟨c, 1, none⟩) hlt).trans c1, (hb.cell (p := ⟨c, 2, none⟩) hlt).trans c2, (hb.frozen (p := ⟨c, 1, none⟩) hlt).trans f1, (hb.frozen (p := ⟨c, 2, none⟩) hlt).trans f2, fun j hj => ?_⟩
  obtain ⟨b, off, y, ha, hne, hy, hc⟩ := hs j hj
  exact ⟨b, off, y, ha, hne, hy, (hb.cell (cell_lt hc)).trans hc⟩
theorem Cur.lt {a : Option Addr} {len cap c : Nat} {w : World} (h : Cur a len cap c w) : c < w.heap.size := by
  obtain ⟨k, x, hk, c0, _⟩ := h
  exact cell_lt c0
theorem cell_new (w : World) (C : Array Value) (t : TypeId) (j : Nat) : (w.alloc (.cells C t)).cell? ⟨w.heap.size, j, none⟩ = C[j]? := World.cell?_alloc_mark w C t (0, 0) j
theorem below_grown {B c : Nat} {w0 w w' : World} (h : Below B w0 w) (hg : w.grownBy w' (some c)) (hB : B ≤ w.heap.size) (hc : B ≤ c) : Below B w0 w' :=
  h.grown hg hB fun k e => by injection e with e; omega
end Go.Proofs.YtikpbeealeofaaaDoor
