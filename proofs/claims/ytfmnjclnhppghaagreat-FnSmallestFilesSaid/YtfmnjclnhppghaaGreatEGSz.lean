/- The contract of the laws' markText: -/
import Derived.Test.YtfmnjclnhppghaaGreatEGBase
import Derived.Laws.BytesArg
import Derived.Deep.RegionWith
import Derived.Test.YtfmnjclnhppghaaGreatEGRul
import Derived.Test.YtfmnjclnhppghaaGreatRows
import Derived.ProofKit
import Derived.OpenShut
import Derived.SliceStrings
import Derived.Carry
import Derived.Deep.Slices
import Derived.StillTailTactics
namespace Go.Proofs.YtfmnjclnhppghaaGreat
open Go Go.RowKit
theorem cons_bytes (c : UInt8) (l : List UInt8) : (⟨#[c]⟩ : ByteArray) ++ ⟨l.toArray⟩ = ⟨(c :: l).toArray⟩ := by
 rw [show (⟨#[c]⟩ : ByteArray) = ⟨[c].toArray⟩ from rfl, ByteArray.mk_append_mk]; rfl
theorem bytes_size (l : List UInt8) : (⟨l.toArray⟩ : ByteArray).size = l.length := by simp [ByteArray.size]
def dgt (k : Int) : UInt8 := UInt8.ofNat (48 + k).toNat
theorem conv_one (W : World) (k : Int) :
    (convert 22 9 (.slice (some ⟨W.heap.size, 0, none⟩) 1 1)).run Tryz.prog (W.alloc (.cells #[.int .u8 (48 + k)] 5)) = .ok (.string ⟨#[dgt k]⟩) (W.alloc (.cells #[.int .u8 (48 + k)] 5)) := by
  have h := run_convert_bytes_arg (P := Tryz.prog) (W.alloc (.cells #[.int .u8 (48 + k)] 5)) 22 5 Tryz.underlying22 Tryz.underlying5 W.heap.size 0 1 1 [48 + k] rfl
    (fun i hi => by obtain rfl : i = 0 := by omega
                    simp) 9 Tryz.underlying9
  exact h
theorem add_one (W : World) (c : UInt8) (l : List UInt8) (h : l.length ≤ 20) :
  (Op.stringOp .add ⟨#[c]⟩ ⟨l.toArray⟩).run Tryz.prog W = .ok (.string ⟨(c :: l).toArray⟩) W := by
 rw [run_string_add_sum W _ _ (by have e1 := bytes_size l; have e2 : (⟨#[c]⟩ : ByteArray).size = 1 := rfl; omega), cons_bytes]
theorem digs_next {m : Int} {l : List UInt8} {u : Nat} (h0 : 0 < m) (h : Hid (digs m.natAbs ++ l = digs u)) : Hid (digs (m / 10).natAbs ++ dgt (m % 10) :: l = digs u) := by
 have h' := h.out
 rw [digs_step (by omega), show m.natAbs / 10 = (m / 10).natAbs by omega, show 48 + m.natAbs % 10 = (48 + m % 10).toNat by omega, List.append_assoc] at h'
 exact h'
def markT (k : Nat) : ByteArray := ⟨(109 :: digs k).toArray⟩
def MarkedS (b off n k i : Nat) (w W : World) : Prop :=
 w.grownBy W (some b) ∧ ∀ j, j < n → (∃ x : ByteArray, W.cell? ⟨b, off + j, none⟩ = some (.string x) ∧ (j < i → x = markT (k + j))) ∧ W.frozen? ⟨b, off + j, none⟩ = false
theorem MarkedS.below {b off n k i : Nat} {w W W' : World} (h : MarkedS b off n k i w W) (hb : Below W.heap.size W W') : MarkedS b off n k i w W' := by
 refine ⟨grown_below h.1 hb, fun j hj => ?_⟩
 obtain ⟨⟨x, hx, hxi⟩, hf⟩ := h.2 j hj
 exact ⟨⟨x, (hb.cell (cell_lt hx)).trans hx, hxi⟩, (hb.frozen (p := ⟨b, off + j, none⟩) (cell_lt hx)).trans hf⟩
end Go.Proofs.YtfmnjclnhppghaaGreat
namespace Go.Proofs.YtfmnjclnhppghaaGreat
open Go Go.ChangeShapes Go.WideShapes Go.ChangeAt Go.RowKit
theorem own : ownKnob Tryz.prog.godebug = none := by kernel_rfl
theorem laidOut : laidOutB Tryz.prog = true := by kernel_rfl
theorem cellsU8 : Tryz.prog.cellsOf 5 = 1 := by kernel_rfl
def Arg (a : Option Addr) (bs : List UInt8) (cap : Nat) (w : World) : Prop := Rd a bs w ∧ bs.length ≤ cap ∧ (a = none → cap = 0) ∧ cap ≤ 9223372036854775807
theorem bytes_arg {H : Type} {enc : TypeId × Value → H} {W : World} {a : Option Addr} {len cap : Nat} {d : DataW H} {p : List MemPlace}
  (h : DataW.Trod enc Tryz.prog W 0 (fun _ => true) true 22 (.slice a len cap) d p) : ∃ bs : List UInt8, len = bs.length ∧ Arg a bs cap W := by
 obtain ⟨fuel, hf⟩ := h
 rcases open_ints Tryz.underlying22 Tryz.underlying5 cellsU8 hf with ⟨hcs, hx⟩ | ⟨ad, len', cap', zs, hcs, _, hl, hm, hz, hx, hcell, hwz⟩
 ·simp [Value.cells] at hcs
  obtain ⟨rfl, rfl, rfl⟩ := hcs
  exact ⟨[], rfl, fun j hj => by simp at hj, by simp, fun _ => rfl, by omega⟩
 ·simp [Value.cells] at hcs
  obtain ⟨rfl, rfl, rfl⟩ := hcs
  simp only [if_true] at hz
  have hlen : ((zs.take len).map fun z => UInt8.ofNat z.toNat).length = len := by simp; omega
  refine ⟨(zs.take len).map fun z => UInt8.ofNat z.toNat, hlen.symm, fun j hj => ?_, by omega, (fun e => by cases e), by unfold maxLen at hm; omega⟩
  have hj2 : j < len := by omega
  obtain ⟨b, off, rfl, hc⟩ := ints_at hcell (by omega)
  refine ⟨b, off, rfl, ?_⟩
  have hjz : j < zs.length := by omega
  have hmem : zs[j] ∈ zs := List.getElem_mem hjz
  have h0 := hwz _ hmem
  have e1 : IntKind.u8.min = 0 := rfl
  have e2 : IntKind.u8.max = 255 := rfl
  simp only [Lit.wf, e1, e2, Bool.and_eq_true, decide_eq_true_eq] at h0
  rw [hc j hjz]
  simp only [List.getElem_map, List.getElem_take]
  rw [UInt8.toNat_ofNat', Nat.mod_eq_of_lt (by omega)]
  simp [List.getD, List.getElem?_eq_getElem hjz]
  omega
theorem Arg.code {a : Option Addr} {bs : List UInt8} {cap : Nat} {w : World} (h : Arg a bs cap w) : Code a bs.length w := fun j hj => by
 obtain ⟨b, off, ha, hc⟩ := h.1 j hj
 exact ⟨b, off, bs[j].toNat, ha, bs[j].toNat_lt, hc⟩
end Go.Proofs.YtfmnjclnhppghaaGreat
namespace Go.Proofs.YtfmnjclnhppghaaGreat
open Go Go.ChangeShapes Go.WideShapes Go.ChangeAt Go.RowKit Go.Deep
section
variable {H : Type} {enc : TypeId × Value → H} {W : World}
end
end Go.Proofs.YtfmnjclnhppghaaGreat
namespace Go.Proofs.YtfmnjclnhppghaaGreat
open Go Go.RowKit


end Go.Proofs.YtfmnjclnhppghaaGreat
