/- Contracts of the model's l4Shape, one for each use: which fields a kind mentions. -/
import Derived.Test.YtndjefednfcmmaaGreatDoorGBase
set_option maxRecDepth 100000
namespace Go.Proofs.YtndjefednfcmmaaGreatDoor
open Go Go.RowKit
def shapeB (r : RuleV) (sz by' nm tg : Bool) (k : Int) : Bool := (sz || decide (r.size = 0)) && ((by' || decide (r.bytes.length = 0)) && ((nm || decide (r.names.length = 0)) && ((tg || decide (r.tags.length = 0)) && ((decide (k < 0) || decide ((r.kids.length : Int) = k)) && (!r.little || decide (r.kind = 1))))))
set_option maxHeartbeats 2000000 in
theorem shape_size (r : RuleV) (cs : List Value) (k : Int) (w : World) (h : IsRule r cs w) (hk : 0 ≤ k) :
  Calls Tryz.prog 145 #[.agg cs.toArray, .bool true, .bool false, .bool false, .bool false, .int .i64 k] w fun e w' => e = .returned (.bool (shapeB r true false false false k)) ∧ Below w.heap.size w w' := by
 obtain ⟨a4, c4, a5, c5, a6, c6, a7, c7, rfl, -⟩ := h
 have gk : ¬ k < 0 := by omega
 by_cases n2 : ¬ r.bytes.length = 0
 ·have g2 : ((r.bytes.length : Int) == 0) = false := by rw [beq_eq_false_iff_ne]; omega
  have hres : Hid (shapeB r true false false false k = false) := by
   show _ = _
   simp [shapeB, n2]
  clear n2
  go_enter Tryz.func145, Tryz.ntmps145
  go_wp2
  go_ret
  exact ⟨ret_bool hres.out.symm, (Below.refl _ _).alloc (Nat.le_refl _) _⟩
 have q2 : r.bytes.length = 0 := Classical.not_not.1 n2
 have g2 : ((r.bytes.length : Int) == 0) = true := by rw [beq_iff_eq]; omega
 clear n2
 by_cases n3 : ¬ r.names.length = 0
 ·have g3 : ((r.names.length : Int) == 0) = false := by rw [beq_eq_false_iff_ne]; omega
  have hres : Hid (shapeB r true false false false k = false) := by
   show _ = _
   simp [shapeB, n3]
  clear q2 n3
  go_enter Tryz.func145, Tryz.ntmps145
  go_wp2
  go_ret
  exact ⟨ret_bool hres.out.symm, (Below.refl _ _).alloc (Nat.le_refl _) _⟩
 have q3 : r.names.length = 0 := Classical.not_not.1 n3
 have g3 : ((r.names.length : Int) == 0) = true := by rw [beq_iff_eq]; omega
 clear n3
 by_cases n4 : ¬ r.tags.length = 0
 ·have g4 : ((r.tags.length : Int) == 0) = false := by rw [beq_eq_false_iff_ne]; omega
  have hres : Hid (shapeB r true false false false k = false) := by
   show _ = _
   simp [shapeB, n4]
  clear q2 q3 n4
  go_enter Tryz.func145, Tryz.ntmps145
  go_wp2
  go_ret
  exact ⟨ret_bool hres.out.symm, (Below.refl _ _).alloc (Nat.le_refl _) _⟩
 have q4 : r.tags.length = 0 := Classical.not_not.1 n4
 have g4 : ((r.tags.length : Int) == 0) = true := by rw [beq_iff_eq]; omega
 clear n4
 by_cases n5 : ¬ (r.kids.length : Int) = k
 ·have g5 : ((r.kids.length : Int) == k) = false := by rw [beq_eq_false_iff_ne]; exact n5
  have hres : Hid (shapeB r true false false false k = false) := by
   show _ = _
   simp [shapeB, n5, gk]
  clear q2 q3 q4 n5
  go_enter Tryz.func145, Tryz.ntmps145
  go_wp2
  go_ret
  exact ⟨ret_bool hres.out.symm, (Below.refl _ _).alloc (Nat.le_refl _) _⟩
 have q5 : (r.kids.length : Int) = k := Classical.not_not.1 n5
 have g5 : ((r.kids.length : Int) == k) = true := by rw [beq_iff_eq]; exact q5
 clear n5
 cases q6 : r.little with
 | false =>
  have hres : Hid (shapeB r true false false false k = true) := by
   show _ = _
   simp [shapeB, q2, q3, q4, q5, q6]
  clear q2 q3 q4 q5
  go_enter Tryz.func145, Tryz.ntmps145
  go_wp2
  go_ret
  exact ⟨ret_bool hres.out.symm, (Below.refl _ _).alloc (Nat.le_refl _) _⟩
 | true =>
  by_cases q7 : r.kind = 1
  ·have g7 : (r.kind == 1) = true := by rw [beq_iff_eq]; exact q7
   have hres : Hid (shapeB r true false false false k = true) := by
    show _ = _
    simp [shapeB, q2, q3, q4, q5, q7]
   clear q2 q3 q4 q5 q7
   go_enter Tryz.func145, Tryz.ntmps145
   go_wp2
   go_ret
   exact ⟨ret_bool hres.out.symm, (Below.refl _ _).alloc (Nat.le_refl _) _⟩
  ·have g7 : (r.kind == 1) = false := by rw [beq_eq_false_iff_ne]; exact q7
   have hres : Hid (shapeB r true false false false k = false) := by
    show _ = _
    simp [shapeB, q6, q7]
   clear q2 q3 q4 q5 q7
   go_enter Tryz.func145, Tryz.ntmps145
   go_wp2
   go_ret
   exact ⟨ret_bool hres.out.symm, (Below.refl _ _).alloc (Nat.le_refl _) _⟩
set_option maxHeartbeats 2000000 in
theorem shape_bytes (r : RuleV) (cs : List Value) (k : Int) (w : World) (h : IsRule r cs w) (hk : 0 ≤ k) :
  Calls Tryz.prog 145 #[.agg cs.toArray, .bool false, .bool true, .bool false, .bool false, .int .i64 k] w fun e w' => e = .returned (.bool (shapeB r false true false false k)) ∧ Below w.heap.size w w' := by
 obtain ⟨a4, c4, a5, c5, a6, c6, a7, c7, rfl, -⟩ := h
 have gk : ¬ k < 0 := by omega
 by_cases n1 : ¬ r.size = 0
 ·have g1 : (r.size == 0) = false := by rw [beq_eq_false_iff_ne]; omega
  have hres : Hid (shapeB r false true false false k = false) := by
   show _ = _
   simp [shapeB, n1]
  clear n1
  go_enter Tryz.func145, Tryz.ntmps145
  go_wp2
  go_ret
  exact ⟨ret_bool hres.out.symm, (Below.refl _ _).alloc (Nat.le_refl _) _⟩
 have q1 : r.size = 0 := Classical.not_not.1 n1
 have g1 : (r.size == 0) = true := by rw [beq_iff_eq]; omega
 clear n1
 by_cases n3 : ¬ r.names.length = 0
 ·have g3 : ((r.names.length : Int) == 0) = false := by rw [beq_eq_false_iff_ne]; omega
  have hres : Hid (shapeB r false true false false k = false) := by
   show _ = _
   simp [shapeB, n3]
  clear q1 n3
  go_enter Tryz.func145, Tryz.ntmps145
  go_wp2
  go_ret
  exact ⟨ret_bool hres.out.symm, (Below.refl _ _).alloc (Nat.le_refl _) _⟩
 have q3 : r.names.length = 0 := Classical.not_not.1 n3
 have g3 : ((r.names.length : Int) == 0) = true := by rw [beq_iff_eq]; omega
 clear n3
 by_cases n4 : ¬ r.tags.length = 0
 ·have g4 : ((r.tags.length : Int) == 0) = false := by rw [beq_eq_false_iff_ne]; omega
  have hres : Hid (shapeB r false true false false k = false) := by
   show _ = _
   simp [shapeB, n4]
  clear q1 q3 n4
  go_enter Tryz.func145, Tryz.ntmps145
  go_wp2
  go_ret
  exact ⟨ret_bool hres.out.symm, (Below.refl _ _).alloc (Nat.le_refl _) _⟩
 have q4 : r.tags.length = 0 := Classical.not_not.1 n4
 have g4 : ((r.tags.length : Int) == 0) = true := by rw [beq_iff_eq]; omega
 clear n4
 by_cases n5 : ¬ (r.kids.length : Int) = k
 ·have g5 : ((r.kids.length : Int) == k) = false := by rw [beq_eq_false_iff_ne]; exact n5
  have hres : Hid (shapeB r false true false false k = false) := by
   show _ = _
   simp [shapeB, n5, gk]
  clear q1 q3 q4 n5
  go_enter Tryz.func145, Tryz.ntmps145
  go_wp2
  go_ret
  exact ⟨ret_bool hres.out.symm, (Below.refl _ _).alloc (Nat.le_refl _) _⟩
 have q5 : (r.kids.length : Int) = k := Classical.not_not.1 n5
 have g5 : ((r.kids.length : Int) == k) = true := by rw [beq_iff_eq]; exact q5
 clear n5
 cases q6 : r.little with
 | false =>
  have hres : Hid (shapeB r false true false false k = true) := by
   show _ = _
   simp [shapeB, q1, q3, q4, q5, q6]
  clear q1 q3 q4 q5
  go_enter Tryz.func145, Tryz.ntmps145
  go_wp2
  go_ret
  exact ⟨ret_bool hres.out.symm, (Below.refl _ _).alloc (Nat.le_refl _) _⟩
 | true =>
  by_cases q7 : r.kind = 1
  ·have g7 : (r.kind == 1) = true := by rw [beq_iff_eq]; exact q7
   have hres : Hid (shapeB r false true false false k = true) := by
    show _ = _
    simp [shapeB, q1, q3, q4, q5, q7]
   clear q1 q3 q4 q5 q7
   go_enter Tryz.func145, Tryz.ntmps145
   go_wp2
   go_ret
   exact ⟨ret_bool hres.out.symm, (Below.refl _ _).alloc (Nat.le_refl _) _⟩
  ·have g7 : (r.kind == 1) = false := by rw [beq_eq_false_iff_ne]; exact q7
   have hres : Hid (shapeB r false true false false k = false) := by
    show _ = _
    simp [shapeB, q6, q7]
   clear q1 q3 q4 q5 q7
   go_enter Tryz.func145, Tryz.ntmps145
   go_wp2
   go_ret
   exact ⟨ret_bool hres.out.symm, (Below.refl _ _).alloc (Nat.le_refl _) _⟩
set_option maxHeartbeats 2000000 in
theorem shape_none (r : RuleV) (cs : List Value) (k : Int) (w : World) (h : IsRule r cs w) (hk : 0 ≤ k) :
  Calls Tryz.prog 145 #[.agg cs.toArray, .bool false, .bool false, .bool false, .bool false, .int .i64 k] w fun e w' => e = .returned (.bool (shapeB r false false false false k)) ∧ Below w.heap.size w w' := by
 obtain ⟨a4, c4, a5, c5, a6, c6, a7, c7, rfl, -⟩ := h
 have gk : ¬ k < 0 := by omega
 by_cases n1 : ¬ r.size = 0
 ·have g1 : (r.size == 0) = false := by rw [beq_eq_false_iff_ne]; omega
  have hres : Hid (shapeB r false false false false k = false) := by
   show _ = _
   simp [shapeB, n1]
  clear n1
  go_enter Tryz.func145, Tryz.ntmps145
  go_wp2
  go_ret
  exact ⟨ret_bool hres.out.symm, (Below.refl _ _).alloc (Nat.le_refl _) _⟩
 have q1 : r.size = 0 := Classical.not_not.1 n1
 have g1 : (r.size == 0) = true := by rw [beq_iff_eq]; omega
 clear n1
 by_cases n2 : ¬ r.bytes.length = 0
 ·have g2 : ((r.bytes.length : Int) == 0) = false := by rw [beq_eq_false_iff_ne]; omega
  have hres : Hid (shapeB r false false false false k = false) := by
   show _ = _
   simp [shapeB, n2]
  clear q1 n2
  go_enter Tryz.func145, Tryz.ntmps145
  go_wp2
  go_ret
  exact ⟨ret_bool hres.out.symm, (Below.refl _ _).alloc (Nat.le_refl _) _⟩
 have q2 : r.bytes.length = 0 := Classical.not_not.1 n2
 have g2 : ((r.bytes.length : Int) == 0) = true := by rw [beq_iff_eq]; omega
 clear n2
 by_cases n3 : ¬ r.names.length = 0
 ·have g3 : ((r.names.length : Int) == 0) = false := by rw [beq_eq_false_iff_ne]; omega
  have hres : Hid (shapeB r false false false false k = false) := by
   show _ = _
   simp [shapeB, n3]
  clear q1 q2 n3
  go_enter Tryz.func145, Tryz.ntmps145
  go_wp2
  go_ret
  exact ⟨ret_bool hres.out.symm, (Below.refl _ _).alloc (Nat.le_refl _) _⟩
 have q3 : r.names.length = 0 := Classical.not_not.1 n3
 have g3 : ((r.names.length : Int) == 0) = true := by rw [beq_iff_eq]; omega
 clear n3
 by_cases n4 : ¬ r.tags.length = 0
 ·have g4 : ((r.tags.length : Int) == 0) = false := by rw [beq_eq_false_iff_ne]; omega
  have hres : Hid (shapeB r false false false false k = false) := by
   show _ = _
   simp [shapeB, n4]
  clear q1 q2 q3 n4
  go_enter Tryz.func145, Tryz.ntmps145
  go_wp2
  go_ret
  exact ⟨ret_bool hres.out.symm, (Below.refl _ _).alloc (Nat.le_refl _) _⟩
 have q4 : r.tags.length = 0 := Classical.not_not.1 n4
 have g4 : ((r.tags.length : Int) == 0) = true := by rw [beq_iff_eq]; omega
 clear n4
 by_cases n5 : ¬ (r.kids.length : Int) = k
 ·have g5 : ((r.kids.length : Int) == k) = false := by rw [beq_eq_false_iff_ne]; exact n5
  have hres : Hid (shapeB r false false false false k = false) := by
   show _ = _
   simp [shapeB, n5, gk]
  clear q1 q2 q3 q4 n5
  go_enter Tryz.func145, Tryz.ntmps145
  go_wp2
  go_ret
  exact ⟨ret_bool hres.out.symm, (Below.refl _ _).alloc (Nat.le_refl _) _⟩
 have q5 : (r.kids.length : Int) = k := Classical.not_not.1 n5
 have g5 : ((r.kids.length : Int) == k) = true := by rw [beq_iff_eq]; exact q5
 clear n5
 cases q6 : r.little with
 | false =>
  have hres : Hid (shapeB r false false false false k = true) := by
   show _ = _
   simp [shapeB, q1, q2, q3, q4, q5, q6]
  clear q1 q2 q3 q4 q5
  go_enter Tryz.func145, Tryz.ntmps145
  go_wp2
  go_ret
  exact ⟨ret_bool hres.out.symm, (Below.refl _ _).alloc (Nat.le_refl _) _⟩
 | true =>
  by_cases q7 : r.kind = 1
  ·have g7 : (r.kind == 1) = true := by rw [beq_iff_eq]; exact q7
   have hres : Hid (shapeB r false false false false k = true) := by
    show _ = _
    simp [shapeB, q1, q2, q3, q4, q5, q7]
   clear q1 q2 q3 q4 q5 q7
   go_enter Tryz.func145, Tryz.ntmps145
   go_wp2
   go_ret
   exact ⟨ret_bool hres.out.symm, (Below.refl _ _).alloc (Nat.le_refl _) _⟩
  ·have g7 : (r.kind == 1) = false := by rw [beq_eq_false_iff_ne]; exact q7
   have hres : Hid (shapeB r false false false false k = false) := by
    show _ = _
    simp [shapeB, q6, q7]
   clear q1 q2 q3 q4 q5 q7
   go_enter Tryz.func145, Tryz.ntmps145
   go_wp2
   go_ret
   exact ⟨ret_bool hres.out.symm, (Below.refl _ _).alloc (Nat.le_refl _) _⟩
set_option maxHeartbeats 2000000 in
theorem shape_names (r : RuleV) (cs : List Value) (k : Int) (w : World) (h : IsRule r cs w) (hk : 0 ≤ k) :
  Calls Tryz.prog 145 #[.agg cs.toArray, .bool false, .bool false, .bool true, .bool false, .int .i64 k] w fun e w' => e = .returned (.bool (shapeB r false false true false k)) ∧ Below w.heap.size w w' := by
 obtain ⟨a4, c4, a5, c5, a6, c6, a7, c7, rfl, -⟩ := h
 have gk : ¬ k < 0 := by omega
 by_cases n1 : ¬ r.size = 0
 ·have g1 : (r.size == 0) = false := by rw [beq_eq_false_iff_ne]; omega
  have hres : Hid (shapeB r false false true false k = false) := by
   show _ = _
   simp [shapeB, n1]
  clear n1
  go_enter Tryz.func145, Tryz.ntmps145
  go_wp2
  go_ret
  exact ⟨ret_bool hres.out.symm, (Below.refl _ _).alloc (Nat.le_refl _) _⟩
 have q1 : r.size = 0 := Classical.not_not.1 n1
 have g1 : (r.size == 0) = true := by rw [beq_iff_eq]; omega
 clear n1
 by_cases n2 : ¬ r.bytes.length = 0
 ·have g2 : ((r.bytes.length : Int) == 0) = false := by rw [beq_eq_false_iff_ne]; omega
  have hres : Hid (shapeB r false false true false k = false) := by
   show _ = _
   simp [shapeB, n2]
  clear q1 n2
  go_enter Tryz.func145, Tryz.ntmps145
  go_wp2
  go_ret
  exact ⟨ret_bool hres.out.symm, (Below.refl _ _).alloc (Nat.le_refl _) _⟩
 have q2 : r.bytes.length = 0 := Classical.not_not.1 n2
 have g2 : ((r.bytes.length : Int) == 0) = true := by rw [beq_iff_eq]; omega
 clear n2
 by_cases n4 : ¬ r.tags.length = 0
 ·have g4 : ((r.tags.length : Int) == 0) = false := by rw [beq_eq_false_iff_ne]; omega
  have hres : Hid (shapeB r false false true false k = false) := by
   show _ = _
   simp [shapeB, n4]
  clear q1 q2 n4
  go_enter Tryz.func145, Tryz.ntmps145
  go_wp2
  go_ret
  exact ⟨ret_bool hres.out.symm, (Below.refl _ _).alloc (Nat.le_refl _) _⟩
 have q4 : r.tags.length = 0 := Classical.not_not.1 n4
 have g4 : ((r.tags.length : Int) == 0) = true := by rw [beq_iff_eq]; omega
 clear n4
 by_cases n5 : ¬ (r.kids.length : Int) = k
 ·have g5 : ((r.kids.length : Int) == k) = false := by rw [beq_eq_false_iff_ne]; exact n5
  have hres : Hid (shapeB r false false true false k = false) := by
   show _ = _
   simp [shapeB, n5, gk]
  clear q1 q2 q4 n5
  go_enter Tryz.func145, Tryz.ntmps145
  go_wp2
  go_ret
  exact ⟨ret_bool hres.out.symm, (Below.refl _ _).alloc (Nat.le_refl _) _⟩
 have q5 : (r.kids.length : Int) = k := Classical.not_not.1 n5
 have g5 : ((r.kids.length : Int) == k) = true := by rw [beq_iff_eq]; exact q5
 clear n5
 cases q6 : r.little with
 | false =>
  have hres : Hid (shapeB r false false true false k = true) := by
   show _ = _
   simp [shapeB, q1, q2, q4, q5, q6]
  clear q1 q2 q4 q5
  go_enter Tryz.func145, Tryz.ntmps145
  go_wp2
  go_ret
  exact ⟨ret_bool hres.out.symm, (Below.refl _ _).alloc (Nat.le_refl _) _⟩
 | true =>
  by_cases q7 : r.kind = 1
  ·have g7 : (r.kind == 1) = true := by rw [beq_iff_eq]; exact q7
   have hres : Hid (shapeB r false false true false k = true) := by
    show _ = _
    simp [shapeB, q1, q2, q4, q5, q7]
   clear q1 q2 q4 q5 q7
   go_enter Tryz.func145, Tryz.ntmps145
   go_wp2
   go_ret
   exact ⟨ret_bool hres.out.symm, (Below.refl _ _).alloc (Nat.le_refl _) _⟩
  ·have g7 : (r.kind == 1) = false := by rw [beq_eq_false_iff_ne]; exact q7
   have hres : Hid (shapeB r false false true false k = false) := by
    show _ = _
    simp [shapeB, q6, q7]
   clear q1 q2 q4 q5 q7
   go_enter Tryz.func145, Tryz.ntmps145
   go_wp2
   go_ret
   exact ⟨ret_bool hres.out.symm, (Below.refl _ _).alloc (Nat.le_refl _) _⟩
set_option maxHeartbeats 2000000 in
theorem shape_tags (r : RuleV) (cs : List Value) (w : World) (h : IsRule r cs w) :
  Calls Tryz.prog 145 #[.agg cs.toArray, .bool false, .bool false, .bool false, .bool true, .int .i64 (-1)] w fun e w' => e = .returned (.bool (shapeB r false false false true (-1))) ∧ Below w.heap.size w w' := by
 obtain ⟨a4, c4, a5, c5, a6, c6, a7, c7, rfl, -⟩ := h
 by_cases n1 : ¬ r.size = 0
 ·have g1 : (r.size == 0) = false := by rw [beq_eq_false_iff_ne]; omega
  have hres : Hid (shapeB r false false false true (-1) = false) := by
   show _ = _
   simp [shapeB, n1]
  clear n1
  go_enter Tryz.func145, Tryz.ntmps145
  go_wp2
  go_ret
  exact ⟨ret_bool hres.out.symm, (Below.refl _ _).alloc (Nat.le_refl _) _⟩
 have q1 : r.size = 0 := Classical.not_not.1 n1
 have g1 : (r.size == 0) = true := by rw [beq_iff_eq]; omega
 clear n1
 by_cases n2 : ¬ r.bytes.length = 0
 ·have g2 : ((r.bytes.length : Int) == 0) = false := by rw [beq_eq_false_iff_ne]; omega
  have hres : Hid (shapeB r false false false true (-1) = false) := by
   show _ = _
   simp [shapeB, n2]
  clear q1 n2
  go_enter Tryz.func145, Tryz.ntmps145
  go_wp2
  go_ret
  exact ⟨ret_bool hres.out.symm, (Below.refl _ _).alloc (Nat.le_refl _) _⟩
 have q2 : r.bytes.length = 0 := Classical.not_not.1 n2
 have g2 : ((r.bytes.length : Int) == 0) = true := by rw [beq_iff_eq]; omega
 clear n2
 by_cases n3 : ¬ r.names.length = 0
 ·have g3 : ((r.names.length : Int) == 0) = false := by rw [beq_eq_false_iff_ne]; omega
  have hres : Hid (shapeB r false false false true (-1) = false) := by
   show _ = _
   simp [shapeB, n3]
  clear q1 q2 n3
  go_enter Tryz.func145, Tryz.ntmps145
  go_wp2
  go_ret
  exact ⟨ret_bool hres.out.symm, (Below.refl _ _).alloc (Nat.le_refl _) _⟩
 have q3 : r.names.length = 0 := Classical.not_not.1 n3
 have g3 : ((r.names.length : Int) == 0) = true := by rw [beq_iff_eq]; omega
 clear n3
 cases q6 : r.little with
 | false =>
  have hres : Hid (shapeB r false false false true (-1) = true) := by
   show _ = _
   simp [shapeB, q1, q2, q3, q6]
  clear q1 q2 q3
  go_enter Tryz.func145, Tryz.ntmps145
  go_wp2
  go_ret
  exact ⟨ret_bool hres.out.symm, (Below.refl _ _).alloc (Nat.le_refl _) _⟩
 | true =>
  by_cases q7 : r.kind = 1
  ·have g7 : (r.kind == 1) = true := by rw [beq_iff_eq]; exact q7
   have hres : Hid (shapeB r false false false true (-1) = true) := by
    show _ = _
    simp [shapeB, q1, q2, q3, q7]
   clear q1 q2 q3 q7
   go_enter Tryz.func145, Tryz.ntmps145
   go_wp2
   go_ret
   exact ⟨ret_bool hres.out.symm, (Below.refl _ _).alloc (Nat.le_refl _) _⟩
  ·have g7 : (r.kind == 1) = false := by rw [beq_eq_false_iff_ne]; exact q7
   have hres : Hid (shapeB r false false false true (-1) = false) := by
    show _ = _
    simp [shapeB, q6, q7]
   clear q1 q2 q3 q7
   go_enter Tryz.func145, Tryz.ntmps145
   go_wp2
   go_ret
   exact ⟨ret_bool hres.out.symm, (Below.refl _ _).alloc (Nat.le_refl _) _⟩
end Go.Proofs.YtndjefednfcmmaaGreatDoor
