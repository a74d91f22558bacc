/- Arrays of 256 bools, by value: a new one, the size of the type, one element. -/
import Derived.Test.YtekmopoblfknlaaArr
import Derived.Great.Walk
namespace Go.Proofs.Ytekmopoblfknlaa
open Go Go.RowKit
theorem info256 (u : Nat → Bool) : (Try.prog.info? 63).map (·.size) = some (arrB u 256).length := by rw [arrB_length]; kernel_rfl
/-- The cells of a new array. -/
def noStarts : List Value := arrB (fun _ => false) 256
theorem noStarts_length : noStarts.length = 256 := arrB_length _ _
theorem alloc256 (w : World) : (Instr.alloc 63 true (.tuple #[])).run Try.prog w = .ok (.pointer (some ⟨w.heap.size, 0, none⟩)) (w.alloc (.cells noStarts.toArray 63)) := by kernel_rfl
/-- A new array, as the walk meets it. -/
theorem wp_alloc256 {ops : Array Oper} {rest : List Oper} {o : Oper} {a : Act} {w : World} {Q : Exit → Act → World → Prop} (hg : o.guard = none) (dst : Option Tmp) (hdst : o.dst = dst) (ho : o.op = .alloc 63)
    (h : wpList Try.prog ops Q rest (a.put dst (.pointer (some ⟨w.heap.size, 0, none⟩))) (w.alloc (.cells noStarts.toArray 63))) : wpList Try.prog ops Q (o :: rest) a w := by
  refine Great.wpList_allocTo hg dst hdst _ _ ?_ h
  unfold execOp
  rw [ho]
  simp only [Sem.run_bind, alloc256, Result.andThen_ok, Sem.run_pure]
/-- One element of an array that is a value. -/
theorem index256 (u : Nat → Bool) (i : Nat) (hi : i < 256) (w : World) : (Instr.index 63 (.agg (arrB u 256).toArray) (.int .i64 (i : Int))).run Try.prog w = .ok (.bool (u i)) w := by
  have hu : (underlying 63).run Try.prog w = .ok (.array 256 4) w := by kernel_rfl
  have hs : (sizeOf 4).run Try.prog w = .ok 1 w := by kernel_rfl
  have hg : (isAgg 4).run Try.prog w = .ok false w := by kernel_rfl
  have hc : (arrB u 256).toArray[(i : Int).toNat * 1]? = some (.bool (u i)) := by
    rw [Int.toNat_natCast, Nat.mul_one, List.getElem?_toArray]; exact arrB_at u hi
  have hin : (0 : Int) ≤ (i : Int) ∧ (i : Int) < ((256 : Nat) : Int) := by omega
  unfold Instr.index
  simp only [asIntOf, Sem.run_bind, Sem.run_pure, Result.andThen_ok, hu]
  rw [if_pos hin]
  unfold part
  simp only [Sem.run_bind, Result.andThen_ok, hs, hg, hc]
  simp
end Go.Proofs.Ytekmopoblfknlaa
