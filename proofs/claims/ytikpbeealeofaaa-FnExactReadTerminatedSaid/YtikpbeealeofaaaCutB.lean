/- Parts of a slice of bytes: from an index on; between two, with no room behind (takeBytes). -/
import Derived.Test.YtikpbeealeofaaaBytes
namespace Go.Proofs.Ytikpbeealeofaaa
open Go Go.RowKit
/-- A slice that reads as these bytes, with room for them; nil has no room. -/
def SrcB (a : Option Addr) (bs : List UInt8) (cap : Nat) (w : World) : Prop := Rd a bs w ∧ bs.length ≤ cap ∧ (a = none → cap = 0)
theorem SrcB.below {a : Option Addr} {bs : List UInt8} {cap : Nat} {w w' : World} (h : SrcB a bs cap w) (hb : Below w.heap.size w w') : SrcB a bs cap w' := ⟨h.1.below hb, h.2⟩
theorem Row.src {B cap : Nat} {a : Option Addr} {bs : List UInt8} {w : World} (h : Row B a bs cap w) : SrcB a bs cap w := ⟨h.rd, h.2⟩
theorem elem8 : Try.prog.underlying 24 = some (.slice (Try.prog.elem 24)) := by kernel_rfl
theorem size8 (w : World) : (sizeOf (Try.prog.elem 24)).run Try.prog w = .ok 1 w := by kernel_rfl
theorem cut_from (a : Option Addr) (bs : List UInt8) (cap m : Nat) (w : World) (hp : m ≤ bs.length) (hs : SrcB a bs cap w) :
    ∃ A C, (∀ W, (Instr.slice 24 (.slice a bs.length cap) (some (.int .i64 (m : Int))) none none).run Try.prog W = .ok (.slice A (bs.length - m) C) W) ∧ ∀ W, Rd a bs W → Rd A (bs.drop m) W := by
  have hc := hs.2.1
  refine ⟨if cap = m then a else a.map (·.add (m * 1)), cap - m, fun W => ?_, ?_⟩
  · rw [run_slice_l W 24 a bs.length cap elem8 .i64 (m : Int) (by omega) (by omega), size8]
    simp [Result.andThen, sliced]
  · intro W hr j hj
    have hjl : m + j < bs.length := by rw [List.length_drop] at hj; omega
    obtain ⟨b, off, rfl, hcell⟩ := hr (m + j) hjl
    refine ⟨b, off + m, ?_, ?_⟩
    · rw [if_neg (by omega)]
      simp [Go.WideShapes.add_plain]
    · rw [Nat.add_assoc, hcell, List.getElem_drop]
theorem cut_part (a : Option Addr) (bs : List UInt8) (cap p q : Nat) (w : World) (hpq : p ≤ q) (hq : q ≤ bs.length) (hs : SrcB a bs cap w) :
    ∃ A, (∀ W, (Instr.slice 24 (.slice a bs.length cap) (some (.int .i64 (p : Int))) (some (.int .i64 (q : Int))) (some (.int .i64 (q : Int)))).run Try.prog W = .ok (.slice A (q - p) (q - p)) W) ∧ ∀ W, SrcB a bs cap W → SrcB A ((bs.drop p).take (q - p)) (q - p) W := by
  have hc := hs.2.1
  have hlen : ((bs.drop p).take (q - p)).length = q - p := by rw [List.length_take, List.length_drop]; omega
  refine ⟨if q = p then a else a.map (·.add (p * 1)), fun W => ?_, fun W hr => ⟨?_, by omega, ?_⟩⟩
  · rw [run_slice_lhm W 24 a bs.length cap elem8 .i64 .i64 .i64 (p : Int) (q : Int) (q : Int) (by omega) (by omega) (by omega) (by omega), size8]
    simp [Result.andThen, sliced]
  · intro j hj
    have hj2 : j < q - p := by omega
    obtain ⟨b, off, rfl, hcell⟩ := hr.1 (p + j) (by omega)
    refine ⟨b, off + p, ?_, ?_⟩
    · rw [if_neg (by omega)]
      simp [Go.WideShapes.add_plain]
    · rw [Nat.add_assoc, hcell, List.getElem_take, List.getElem_drop]
  · intro h
    by_cases h0 : q = p
    · omega
    · rw [if_neg h0] at h
      have := hr.2.2 (by cases a with
        | none => rfl
        | some x => simp at h)
      omega
end Go.Proofs.Ytikpbeealeofaaa
