/- Arguments as a row reads them: bytes, ints. -/
import Derived.Test.YtndjefednfcmmaaGreatDoorRows
import Derived.Test.YtndjefednfcmmaaGreatDoorRowF
import Derived.Test.YtndjefednfcmmaaGreatDoorGOnce
import Derived.ProofKit
import Derived.OpenShut
import Derived.SliceStrings
import Derived.Carry
namespace Go.Proofs.YtndjefednfcmmaaGreatDoor
open Go Go.ChangeShapes Go.WideShapes Go.ChangeAt Go.RowKit
theorem own : ownKnob Tryz.prog.godebug = none := by kernel_rfl
theorem laidOut : laidOutB Tryz.prog = true := by kernel_rfl
theorem cellsU8 : Tryz.prog.cellsOf 5 = 1 := by kernel_rfl
def Arg (a : Option Addr) (bs : List UInt8) (cap : Nat) (w : World) : Prop := Rd a bs w ∧ bs.length ≤ cap ∧ (a = none → cap = 0) ∧ cap ≤ 9223372036854775807
theorem bytes_arg {H : Type} {enc : TypeId × Value → H} {W : World} {a : Option Addr} {len cap : Nat} {d : DataW H} {p : List MemPlace}
  (h : DataW.Trod enc Tryz.prog W 0 (fun _ => true) true 22 (.slice a len cap) d p) : ∃ bs : List UInt8, len = bs.length ∧ Arg a bs cap W := by
 obtain ⟨fuel, hf⟩ := h
 rcases open_ints Tryz.underlying22 Tryz.underlying5 cellsU8 hf with ⟨hcs, hx⟩ | ⟨ad, len', cap', zs, hcs, _, hl, hm, hz, hx, hcell, hwz⟩
 ·simp [Value.cells] at hcs
  obtain ⟨rfl, rfl, rfl⟩ := hcs
  exact ⟨[], rfl, fun j hj => by simp at hj, by simp, fun _ => rfl, by omega⟩
 ·simp [Value.cells] at hcs
  obtain ⟨rfl, rfl, rfl⟩ := hcs
  simp only [if_true] at hz
  have hlen : ((zs.take len).map fun z => UInt8.ofNat z.toNat).length = len := by simp; omega
  refine ⟨(zs.take len).map fun z => UInt8.ofNat z.toNat, hlen.symm, fun j hj => ?_, by omega, (fun e => by cases e), by unfold maxLen at hm; omega⟩
  have hj2 : j < len := by omega
  obtain ⟨b, off, rfl, hc⟩ := ints_at hcell (by omega)
  refine ⟨b, off, rfl, ?_⟩
  have hjz : j < zs.length := by omega
  have hmem : zs[j] ∈ zs := List.getElem_mem hjz
  have h0 := hwz _ hmem
  have e1 : IntKind.u8.min = 0 := rfl
  have e2 : IntKind.u8.max = 255 := rfl
  simp only [Lit.wf, e1, e2, Bool.and_eq_true, decide_eq_true_eq] at h0
  rw [hc j hjz]
  simp only [List.getElem_map, List.getElem_take]
  rw [UInt8.toNat_ofNat', Nat.mod_eq_of_lt (by omega)]
  simp [List.getD, List.getElem?_eq_getElem hjz]
  omega
theorem Arg.code {a : Option Addr} {bs : List UInt8} {cap : Nat} {w : World} (h : Arg a bs cap w) : Code a bs.length w := fun j hj => by
 obtain ⟨b, off, ha, hc⟩ := h.1 j hj
 exact ⟨b, off, bs[j].toNat, ha, bs[j].toNat_lt, hc⟩
end Go.Proofs.YtndjefednfcmmaaGreatDoor
