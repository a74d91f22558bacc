/- What a function gives that prints: bytes in new memory and true, or none and false. -/
import Derived.Test.YtfmnjclnhppghaaGEnd
namespace Go.Proofs.Ytfmnjclnhppghaa
open Go Go.RowKit
def PvE (ok : Bool) (E : List UInt8) (w : World) (e : Ending) (w' : World) : Prop := ∃ az bs cz, e = .returned (.tuple #[.slice az bs.length cz, .bool ok]) ∧ bs = (if ok = true then E else []) ∧ Row w.heap.size az bs cz w' ∧ Below w.heap.size w w'
theorem pve_none {w w1 : World} {E : List UInt8} (hb : Below w.heap.size w w1) : PvE false E w (.returned (.tuple #[.slice (some ⟨w1.heap.size, 0, none⟩) 0 0, .bool false])) (w1.alloc (.cells #[] 5)) := by
  obtain ⟨a, cap, he, hr, hb2⟩ := bytesOut_below hb (empty_out w1)
  injection he with he
  injection he with h1 h2 h3
  subst h1
  subst h3
  exact ⟨_, [], _, rfl, rfl, hr, hb2⟩
/-- Bytes in new memory and a bool. -/
def ByteB (ns : List UInt8) (ok : Bool) (w : World) (e : Ending) (w' : World) : Prop := ∃ az cz, e = .returned (.tuple #[.slice az ns.length cz, .bool ok]) ∧ Row w.heap.size az ns cz w' ∧ Below w.heap.size w w'
theorem pve_bytes {ok : Bool} {E : List UInt8} {w w' : World} {e : Ending} (h : PvE ok E w e w') : ByteB (if ok = true then E else []) ok w e w' := by
  obtain ⟨az, bs, cz, rfl, rfl, hr, hb⟩ := h
  exact ⟨az, cz, rfl, hr, hb⟩
end Go.Proofs.Ytfmnjclnhppghaa
