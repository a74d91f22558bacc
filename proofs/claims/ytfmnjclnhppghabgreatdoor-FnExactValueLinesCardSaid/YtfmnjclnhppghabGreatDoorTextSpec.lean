/- Contracts of the model's CutAt, ContainsText, JoinText. -/
import Derived.Test.YtfmnjclnhppghabGreatDoorSplitSpec
import Derived.Test.YtfmnjclnhppghabGreatDoorGNam
namespace Go.Proofs.YtfmnjclnhppghabGreatDoor
open Go Go.RowKit
theorem ret_cut {a b x y : ByteArray} {k l : Bool} (h : x = a ∧ y = b ∧ l = k) : Ending.returned (.tuple #[.string a, .string b, .bool k]) = .returned (.tuple #[.string x, .string y, .bool l]) := by
  obtain ⟨rfl, rfl, rfl⟩ := h; rfl
theorem add_str (W : World) (x y : ByteArray) (h : x.size + y.size ≤ 9223372036854775807) : (Op.stringOp .add x y).run Tryz.prog W = .ok (.string (x ++ y)) W := run_string_add_sum W x y (by omega)
end Go.Proofs.YtfmnjclnhppghabGreatDoor
