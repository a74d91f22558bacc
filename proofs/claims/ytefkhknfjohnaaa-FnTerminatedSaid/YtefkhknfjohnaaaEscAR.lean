/- The row that EscapeAll of the program fills, two bytes a time. No function of the program is walked here. -/
import Derived.Test.YtefkhknfjohnaaaEscAP
import Derived.Test.YtefkhknfjohnaaaGPu
import Derived.Laws.CopyOwn
import Derived.Laws.OwnMore
namespace Go.Proofs.Ytefkhknfjohnaaa
open Go Go.RowKit
theorem escA_append : ∀ a b : List UInt8, escA (a ++ b) = escA a ++ escA b
  | [], b => rfl
  | c :: a, b => by rw [List.cons_append, escA, escA, escA_append a b]; rfl
/-- The row when j bytes are in it. -/
def rowA (bs : List UInt8) (j : Nat) : List Value := (escA (bs.take j)).map bv ++ List.replicate (2 * (bs.length - j) + 1) (.int .u8 0)
theorem rowA_length (bs : List UInt8) (j : Nat) (h : j ≤ bs.length) : (rowA bs j).length = 2 * bs.length + 1 := by
  unfold rowA
  rw [List.length_append, List.length_map, escA_length, List.length_take, List.length_replicate, Nat.min_eq_left h]
  omega
theorem rowA_next (bs : List UInt8) (j : Nat) (h : j < bs.length) : splice (rowA bs j) (2 * j) [bv 92, bv bs[j]] = rowA bs (j + 1) := by
  have hl : ((escA (bs.take j)).map bv).length = 2 * j := by rw [List.length_map, escA_length, List.length_take, Nat.min_eq_left (by omega)]
  have e : bs.take (j + 1) = bs.take j ++ [bs[j]] := by rw [List.take_add_one, List.getElem?_eq_getElem h]; rfl
  unfold splice rowA
  rw [List.take_left' hl, e, escA_append, List.map_append, List.append_assoc]
  congr 1
  show [bv 92, bv bs[j]] ++ List.drop (2 * j + 2) _ = [bv 92, bv bs[j]] ++ List.replicate (2 * (bs.length - (j + 1)) + 1) _
  rw [← hl, ← List.drop_drop, List.drop_left, List.drop_replicate, show 2 * (bs.length - j) + 1 - 2 = 2 * (bs.length - (j + 1)) + 1 from by omega]
theorem rowA_end (bs : List UInt8) (t : UInt8) : (rowA bs bs.length).set (2 * bs.length) (bv t) = (escAF t bs).map bv := by
  have hl : ((escA bs).map bv).length = 2 * bs.length := by rw [List.length_map, escA_length]
  unfold rowA escAF
  rw [List.take_length, Nat.sub_self, ← hl, List.set_append_right _ _ (Nat.le_refl _), Nat.sub_self, List.map_append]
  rfl
theorem own_two (w : World) (z z2 : Int) (x y : UInt8) (e : Value.int .u8 z = bv x) (e2 : Value.int .u8 z2 = bv y) : OwnB w.heap.size (.slice (some ⟨w.heap.size, 0, none⟩) 2 2) [x, y] (w.alloc (.cells #[.int .u8 z, .int .u8 z2] 5)) := by
  rw [e, e2]
  exact own_lits (f := bv) w w.heap.size 5 [x, y] (Nat.le_refl _) (by show 2 ≤ maxLen; decide)
end Go.Proofs.Ytefkhknfjohnaaa
