/- Contracts of the model's l4Shape, one for each use: -/
import Derived.Test.YtfmnjclnhppghaaGreatEGBase
import Derived.Test.YtfmnjclnhppghaaGreatEShelf
import Derived.BigQuiet
import Derived.Test.YtfmnjclnhppghaaGreatEGNam
set_option maxRecDepth 100000
set_option maxHeartbeats 2000000
namespace Go.Proofs.YtfmnjclnhppghaaGreat
open Go Go.RowKit
def shapeB (r : RuleV) (sz by' nm tg : Bool) (k : Int) : Bool := (sz || decide (r.size = 0)) && ((by' || decide (r.bytes.length = 0)) && ((nm || decide (r.names.length = 0)) && ((tg || decide (r.tags.length = 0)) && ((decide (k < 0) || decide ((r.kids.length : Int) = k)) && (!r.little || decide (r.kind = 1))))))
theorem shape_size (r : RuleV) (cs : List Value) (k : Int) (w : World) (h : IsRule r cs w) (hk : 0 ≤ k) :
  Calls Tryz.prog 131 #[.agg cs.toArray, .bool true, .bool false, .bool false, .bool false, .int .i64 k] w fun e w' => e = .returned (.bool (shapeB r true false false false k)) ∧ Below w.heap.size w w' := by
 obtain ⟨a4, c4, a5, c5, a6, c6, a7, c7, rfl, -⟩ := h
 have gk : ¬ k < 0 := by omega
 by_cases n2 : ¬ r.bytes.length = 0
 ·have g2 : ((r.bytes.length : Int) == 0) = false := by rw [beq_eq_false_iff_ne]; omega
  have hres : Hid (shapeB r true false false false k = false) := by
   show _ = _
   simp [shapeB, n2]
  clear n2
  go_enter Tryz.func131, Tryz.ntmps131
  go_wp2
  go_ret
  exact ⟨ret_bool hres.out.symm, (Below.refl _ _).alloc (Nat.le_refl _) _⟩
 have q2 : r.bytes.length = 0 := Classical.not_not.1 n2
 have g2 : ((r.bytes.length : Int) == 0) = true := by rw [beq_iff_eq]; omega
 clear n2
 by_cases n3 : ¬ r.names.length = 0
 ·have g3 : ((r.names.length : Int) == 0) = false := by rw [beq_eq_false_iff_ne]; omega
  have hres : Hid (shapeB r true false false false k = false) := by
   show _ = _
   simp [shapeB, n3]
  clear q2 n3
  go_enter Tryz.func131, Tryz.ntmps131
  go_wp2
  go_ret
  exact ⟨ret_bool hres.out.symm, (Below.refl _ _).alloc (Nat.le_refl _) _⟩
 have q3 : r.names.length = 0 := Classical.not_not.1 n3
 have g3 : ((r.names.length : Int) == 0) = true := by rw [beq_iff_eq]; omega
 clear n3
 by_cases n4 : ¬ r.tags.length = 0
 ·have g4 : ((r.tags.length : Int) == 0) = false := by rw [beq_eq_false_iff_ne]; omega
  have hres : Hid (shapeB r true false false false k = false) := by
   show _ = _
   simp [shapeB, n4]
  clear q2 q3 n4
  go_enter Tryz.func131, Tryz.ntmps131
  go_wp2
  go_ret
  exact ⟨ret_bool hres.out.symm, (Below.refl _ _).alloc (Nat.le_refl _) _⟩
 have q4 : r.tags.length = 0 := Classical.not_not.1 n4
 have g4 : ((r.tags.length : Int) == 0) = true := by rw [beq_iff_eq]; omega
 clear n4
 by_cases n5 : ¬ (r.kids.length : Int) = k
 ·have g5 : ((r.kids.length : Int) == k) = false := by rw [beq_eq_false_iff_ne]; exact n5
  have hres : Hid (shapeB r true false false false k = false) := by
   show _ = _
   simp [shapeB, n5, gk]
  clear q2 q3 q4 n5
  go_enter Tryz.func131, Tryz.ntmps131
  go_wp2
  go_ret
  exact ⟨ret_bool hres.out.symm, (Below.refl _ _).alloc (Nat.le_refl _) _⟩
 have q5 : (r.kids.length : Int) = k := Classical.not_not.1 n5
 have g5 : ((r.kids.length : Int) == k) = true := by rw [beq_iff_eq]; exact q5
 clear n5
 cases q6 : r.little with
 | false =>
  have hres : Hid (shapeB r true false false false k = true) := by
   show _ = _
   simp [shapeB, q2, q3, q4, q5, q6]
  clear q2 q3 q4 q5
  go_enter Tryz.func131, Tryz.ntmps131
  go_wp2
  go_ret
  exact ⟨ret_bool hres.out.symm, (Below.refl _ _).alloc (Nat.le_refl _) _⟩
 | true =>
  by_cases q7 : r.kind = 1
  ·have g7 : (r.kind == 1) = true := by rw [beq_iff_eq]; exact q7
   have hres : Hid (shapeB r true false false false k = true) := by
    show _ = _
    simp [shapeB, q2, q3, q4, q5, q7]
   clear q2 q3 q4 q5 q7
   go_enter Tryz.func131, Tryz.ntmps131
   go_wp2
   go_ret
   exact ⟨ret_bool hres.out.symm, (Below.refl _ _).alloc (Nat.le_refl _) _⟩
  ·have g7 : (r.kind == 1) = false := by rw [beq_eq_false_iff_ne]; exact q7
   have hres : Hid (shapeB r true false false false k = false) := by
    show _ = _
    simp [shapeB, q6, q7]
   clear q2 q3 q4 q5 q7
   go_enter Tryz.func131, Tryz.ntmps131
   go_wp2
   go_ret
   exact ⟨ret_bool hres.out.symm, (Below.refl _ _).alloc (Nat.le_refl _) _⟩
theorem shape_bytes (r : RuleV) (cs : List Value) (k : Int) (w : World) (h : IsRule r cs w) (hk : 0 ≤ k) :
  Calls Tryz.prog 131 #[.agg cs.toArray, .bool false, .bool true, .bool false, .bool false, .int .i64 k] w fun e w' => e = .returned (.bool (shapeB r false true false false k)) ∧ Below w.heap.size w w' := by
 obtain ⟨a4, c4, a5, c5, a6, c6, a7, c7, rfl, -⟩ := h
 have gk : ¬ k < 0 := by omega
 by_cases n1 : ¬ r.size = 0
 ·have g1 : (r.size == 0) = false := by rw [beq_eq_false_iff_ne]; omega
  have hres : Hid (shapeB r false true false false k = false) := by
   show _ = _
   simp [shapeB, n1]
  clear n1
  go_enter Tryz.func131, Tryz.ntmps131
  go_wp2
  go_ret
  exact ⟨ret_bool hres.out.symm, (Below.refl _ _).alloc (Nat.le_refl _) _⟩
 have q1 : r.size = 0 := Classical.not_not.1 n1
 have g1 : (r.size == 0) = true := by rw [beq_iff_eq]; omega
 clear n1
 by_cases n3 : ¬ r.names.length = 0
 ·have g3 : ((r.names.length : Int) == 0) = false := by rw [beq_eq_false_iff_ne]; omega
  have hres : Hid (shapeB r false true false false k = false) := by
   show _ = _
   simp [shapeB, n3]
  clear q1 n3
  go_enter Tryz.func131, Tryz.ntmps131
  go_wp2
  go_ret
  exact ⟨ret_bool hres.out.symm, (Below.refl _ _).alloc (Nat.le_refl _) _⟩
 have q3 : r.names.length = 0 := Classical.not_not.1 n3
 have g3 : ((r.names.length : Int) == 0) = true := by rw [beq_iff_eq]; omega
 clear n3
 by_cases n4 : ¬ r.tags.length = 0
 ·have g4 : ((r.tags.length : Int) == 0) = false := by rw [beq_eq_false_iff_ne]; omega
  have hres : Hid (shapeB r false true false false k = false) := by
   show _ = _
   simp [shapeB, n4]
  clear q1 q3 n4
  go_enter Tryz.func131, Tryz.ntmps131
  go_wp2
  go_ret
  exact ⟨ret_bool hres.out.symm, (Below.refl _ _).alloc (Nat.le_refl _) _⟩
 have q4 : r.tags.length = 0 := Classical.not_not.1 n4
 have g4 : ((r.tags.length : Int) == 0) = true := by rw [beq_iff_eq]; omega
 clear n4
 by_cases n5 : ¬ (r.kids.length : Int) = k
 ·have g5 : ((r.kids.length : Int) == k) = false := by rw [beq_eq_false_iff_ne]; exact n5
  have hres : Hid (shapeB r false true false false k = false) := by
   show _ = _
   simp [shapeB, n5, gk]
  clear q1 q3 q4 n5
  go_enter Tryz.func131, Tryz.ntmps131
  go_wp2
  go_ret
  exact ⟨ret_bool hres.out.symm, (Below.refl _ _).alloc (Nat.le_refl _) _⟩
 have q5 : (r.kids.length : Int) = k := Classical.not_not.1 n5
 have g5 : ((r.kids.length : Int) == k) = true := by rw [beq_iff_eq]; exact q5
 clear n5
 cases q6 : r.little with
 | false =>
  have hres : Hid (shapeB r false true false false k = true) := by
   show _ = _
   simp [shapeB, q1, q3, q4, q5, q6]
  clear q1 q3 q4 q5
  go_enter Tryz.func131, Tryz.ntmps131
  go_wp2
  go_ret
  exact ⟨ret_bool hres.out.symm, (Below.refl _ _).alloc (Nat.le_refl _) _⟩
 | true =>
  by_cases q7 : r.kind = 1
  ·have g7 : (r.kind == 1) = true := by rw [beq_iff_eq]; exact q7
   have hres : Hid (shapeB r false true false false k = true) := by
    show _ = _
    simp [shapeB, q1, q3, q4, q5, q7]
   clear q1 q3 q4 q5 q7
   go_enter Tryz.func131, Tryz.ntmps131
   go_wp2
   go_ret
   exact ⟨ret_bool hres.out.symm, (Below.refl _ _).alloc (Nat.le_refl _) _⟩
  ·have g7 : (r.kind == 1) = false := by rw [beq_eq_false_iff_ne]; exact q7
   have hres : Hid (shapeB r false true false false k = false) := by
    show _ = _
    simp [shapeB, q6, q7]
   clear q1 q3 q4 q5 q7
   go_enter Tryz.func131, Tryz.ntmps131
   go_wp2
   go_ret
   exact ⟨ret_bool hres.out.symm, (Below.refl _ _).alloc (Nat.le_refl _) _⟩
theorem shape_none (r : RuleV) (cs : List Value) (k : Int) (w : World) (h : IsRule r cs w) (hk : 0 ≤ k) :
  Calls Tryz.prog 131 #[.agg cs.toArray, .bool false, .bool false, .bool false, .bool false, .int .i64 k] w fun e w' => e = .returned (.bool (shapeB r false false false false k)) ∧ Below w.heap.size w w' := by
 obtain ⟨a4, c4, a5, c5, a6, c6, a7, c7, rfl, -⟩ := h
 have gk : ¬ k < 0 := by omega
 by_cases n1 : ¬ r.size = 0
 ·have g1 : (r.size == 0) = false := by rw [beq_eq_false_iff_ne]; omega
  have hres : Hid (shapeB r false false false false k = false) := by
   show _ = _
   simp [shapeB, n1]
  clear n1
  go_enter Tryz.func131, Tryz.ntmps131
  go_wp2
  go_ret
  exact ⟨ret_bool hres.out.symm, (Below.refl _ _).alloc (Nat.le_refl _) _⟩
 have q1 : r.size = 0 := Classical.not_not.1 n1
 have g1 : (r.size == 0) = true := by rw [beq_iff_eq]; omega
 clear n1
 by_cases n2 : ¬ r.bytes.length = 0
 ·have g2 : ((r.bytes.length : Int) == 0) = false := by rw [beq_eq_false_iff_ne]; omega
  have hres : Hid (shapeB r false false false false k = false) := by
   show _ = _
   simp [shapeB, n2]
  clear q1 n2
  go_enter Tryz.func131, Tryz.ntmps131
  go_wp2
  go_ret
  exact ⟨ret_bool hres.out.symm, (Below.refl _ _).alloc (Nat.le_refl _) _⟩
 have q2 : r.bytes.length = 0 := Classical.not_not.1 n2
 have g2 : ((r.bytes.length : Int) == 0) = true := by rw [beq_iff_eq]; omega
 clear n2
 by_cases n3 : ¬ r.names.length = 0
 ·have g3 : ((r.names.length : Int) == 0) = false := by rw [beq_eq_false_iff_ne]; omega
  have hres : Hid (shapeB r false false false false k = false) := by
   show _ = _
   simp [shapeB, n3]
  clear q1 q2 n3
  go_enter Tryz.func131, Tryz.ntmps131
  go_wp2
  go_ret
  exact ⟨ret_bool hres.out.symm, (Below.refl _ _).alloc (Nat.le_refl _) _⟩
 have q3 : r.names.length = 0 := Classical.not_not.1 n3
 have g3 : ((r.names.length : Int) == 0) = true := by rw [beq_iff_eq]; omega
 clear n3
 by_cases n4 : ¬ r.tags.length = 0
 ·have g4 : ((r.tags.length : Int) == 0) = false := by rw [beq_eq_false_iff_ne]; omega
  have hres : Hid (shapeB r false false false false k = false) := by
   show _ = _
   simp [shapeB, n4]
  clear q1 q2 q3 n4
  go_enter Tryz.func131, Tryz.ntmps131
  go_wp2
  go_ret
  exact ⟨ret_bool hres.out.symm, (Below.refl _ _).alloc (Nat.le_refl _) _⟩
 have q4 : r.tags.length = 0 := Classical.not_not.1 n4
 have g4 : ((r.tags.length : Int) == 0) = true := by rw [beq_iff_eq]; omega
 clear n4
 by_cases n5 : ¬ (r.kids.length : Int) = k
 ·have g5 : ((r.kids.length : Int) == k) = false := by rw [beq_eq_false_iff_ne]; exact n5
  have hres : Hid (shapeB r false false false false k = false) := by
   show _ = _
   simp [shapeB, n5, gk]
  clear q1 q2 q3 q4 n5
  go_enter Tryz.func131, Tryz.ntmps131
  go_wp2
  go_ret
  exact ⟨ret_bool hres.out.symm, (Below.refl _ _).alloc (Nat.le_refl _) _⟩
 have q5 : (r.kids.length : Int) = k := Classical.not_not.1 n5
 have g5 : ((r.kids.length : Int) == k) = true := by rw [beq_iff_eq]; exact q5
 clear n5
 cases q6 : r.little with
 | false =>
  have hres : Hid (shapeB r false false false false k = true) := by
   show _ = _
   simp [shapeB, q1, q2, q3, q4, q5, q6]
  clear q1 q2 q3 q4 q5
  go_enter Tryz.func131, Tryz.ntmps131
  go_wp2
  go_ret
  exact ⟨ret_bool hres.out.symm, (Below.refl _ _).alloc (Nat.le_refl _) _⟩
 | true =>
  by_cases q7 : r.kind = 1
  ·have g7 : (r.kind == 1) = true := by rw [beq_iff_eq]; exact q7
   have hres : Hid (shapeB r false false false false k = true) := by
    show _ = _
    simp [shapeB, q1, q2, q3, q4, q5, q7]
   clear q1 q2 q3 q4 q5 q7
   go_enter Tryz.func131, Tryz.ntmps131
   go_wp2
   go_ret
   exact ⟨ret_bool hres.out.symm, (Below.refl _ _).alloc (Nat.le_refl _) _⟩
  ·have g7 : (r.kind == 1) = false := by rw [beq_eq_false_iff_ne]; exact q7
   have hres : Hid (shapeB r false false false false k = false) := by
    show _ = _
    simp [shapeB, q6, q7]
   clear q1 q2 q3 q4 q5 q7
   go_enter Tryz.func131, Tryz.ntmps131
   go_wp2
   go_ret
   exact ⟨ret_bool hres.out.symm, (Below.refl _ _).alloc (Nat.le_refl _) _⟩
theorem shape_names (r : RuleV) (cs : List Value) (k : Int) (w : World) (h : IsRule r cs w) (hk : 0 ≤ k) :
  Calls Tryz.prog 131 #[.agg cs.toArray, .bool false, .bool false, .bool true, .bool false, .int .i64 k] w fun e w' => e = .returned (.bool (shapeB r false false true false k)) ∧ Below w.heap.size w w' := by
 obtain ⟨a4, c4, a5, c5, a6, c6, a7, c7, rfl, -⟩ := h
 have gk : ¬ k < 0 := by omega
 by_cases n1 : ¬ r.size = 0
 ·have g1 : (r.size == 0) = false := by rw [beq_eq_false_iff_ne]; omega
  have hres : Hid (shapeB r false false true false k = false) := by
   show _ = _
   simp [shapeB, n1]
  clear n1
  go_enter Tryz.func131, Tryz.ntmps131
  go_wp2
  go_ret
  exact ⟨ret_bool hres.out.symm, (Below.refl _ _).alloc (Nat.le_refl _) _⟩
 have q1 : r.size = 0 := Classical.not_not.1 n1
 have g1 : (r.size == 0) = true := by rw [beq_iff_eq]; omega
 clear n1
 by_cases n2 : ¬ r.bytes.length = 0
 ·have g2 : ((r.bytes.length : Int) == 0) = false := by rw [beq_eq_false_iff_ne]; omega
  have hres : Hid (shapeB r false false true false k = false) := by
   show _ = _
   simp [shapeB, n2]
  clear q1 n2
  go_enter Tryz.func131, Tryz.ntmps131
  go_wp2
  go_ret
  exact ⟨ret_bool hres.out.symm, (Below.refl _ _).alloc (Nat.le_refl _) _⟩
 have q2 : r.bytes.length = 0 := Classical.not_not.1 n2
 have g2 : ((r.bytes.length : Int) == 0) = true := by rw [beq_iff_eq]; omega
 clear n2
 by_cases n4 : ¬ r.tags.length = 0
 ·have g4 : ((r.tags.length : Int) == 0) = false := by rw [beq_eq_false_iff_ne]; omega
  have hres : Hid (shapeB r false false true false k = false) := by
   show _ = _
   simp [shapeB, n4]
  clear q1 q2 n4
  go_enter Tryz.func131, Tryz.ntmps131
  go_wp2
  go_ret
  exact ⟨ret_bool hres.out.symm, (Below.refl _ _).alloc (Nat.le_refl _) _⟩
 have q4 : r.tags.length = 0 := Classical.not_not.1 n4
 have g4 : ((r.tags.length : Int) == 0) = true := by rw [beq_iff_eq]; omega
 clear n4
 by_cases n5 : ¬ (r.kids.length : Int) = k
 ·have g5 : ((r.kids.length : Int) == k) = false := by rw [beq_eq_false_iff_ne]; exact n5
  have hres : Hid (shapeB r false false true false k = false) := by
   show _ = _
   simp [shapeB, n5, gk]
  clear q1 q2 q4 n5
  go_enter Tryz.func131, Tryz.ntmps131
  go_wp2
  go_ret
  exact ⟨ret_bool hres.out.symm, (Below.refl _ _).alloc (Nat.le_refl _) _⟩
 have q5 : (r.kids.length : Int) = k := Classical.not_not.1 n5
 have g5 : ((r.kids.length : Int) == k) = true := by rw [beq_iff_eq]; exact q5
 clear n5
 cases q6 : r.little with
 | false =>
  have hres : Hid (shapeB r false false true false k = true) := by
   show _ = _
   simp [shapeB, q1, q2, q4, q5, q6]
  clear q1 q2 q4 q5
  go_enter Tryz.func131, Tryz.ntmps131
  go_wp2
  go_ret
  exact ⟨ret_bool hres.out.symm, (Below.refl _ _).alloc (Nat.le_refl _) _⟩
 | true =>
  by_cases q7 : r.kind = 1
  ·have g7 : (r.kind == 1) = true := by rw [beq_iff_eq]; exact q7
   have hres : Hid (shapeB r false false true false k = true) := by
    show _ = _
    simp [shapeB, q1, q2, q4, q5, q7]
   clear q1 q2 q4 q5 q7
   go_enter Tryz.func131, Tryz.ntmps131
   go_wp2
   go_ret
   exact ⟨ret_bool hres.out.symm, (Below.refl _ _).alloc (Nat.le_refl _) _⟩
  ·have g7 : (r.kind == 1) = false := by rw [beq_eq_false_iff_ne]; exact q7
   have hres : Hid (shapeB r false false true false k = false) := by
    show _ = _
    simp [shapeB, q6, q7]
   clear q1 q2 q4 q5 q7
   go_enter Tryz.func131, Tryz.ntmps131
   go_wp2
   go_ret
   exact ⟨ret_bool hres.out.symm, (Below.refl _ _).alloc (Nat.le_refl _) _⟩
theorem shape_tags (r : RuleV) (cs : List Value) (w : World) (h : IsRule r cs w) :
  Calls Tryz.prog 131 #[.agg cs.toArray, .bool false, .bool false, .bool false, .bool true, .int .i64 (-1)] w fun e w' => e = .returned (.bool (shapeB r false false false true (-1))) ∧ Below w.heap.size w w' := by
 obtain ⟨a4, c4, a5, c5, a6, c6, a7, c7, rfl, -⟩ := h
 by_cases n1 : ¬ r.size = 0
 ·have g1 : (r.size == 0) = false := by rw [beq_eq_false_iff_ne]; omega
  have hres : Hid (shapeB r false false false true (-1) = false) := by
   show _ = _
   simp [shapeB, n1]
  clear n1
  go_enter Tryz.func131, Tryz.ntmps131
  go_wp2
  go_ret
  exact ⟨ret_bool hres.out.symm, (Below.refl _ _).alloc (Nat.le_refl _) _⟩
 have q1 : r.size = 0 := Classical.not_not.1 n1
 have g1 : (r.size == 0) = true := by rw [beq_iff_eq]; omega
 clear n1
 by_cases n2 : ¬ r.bytes.length = 0
 ·have g2 : ((r.bytes.length : Int) == 0) = false := by rw [beq_eq_false_iff_ne]; omega
  have hres : Hid (shapeB r false false false true (-1) = false) := by
   show _ = _
   simp [shapeB, n2]
  clear q1 n2
  go_enter Tryz.func131, Tryz.ntmps131
  go_wp2
  go_ret
  exact ⟨ret_bool hres.out.symm, (Below.refl _ _).alloc (Nat.le_refl _) _⟩
 have q2 : r.bytes.length = 0 := Classical.not_not.1 n2
 have g2 : ((r.bytes.length : Int) == 0) = true := by rw [beq_iff_eq]; omega
 clear n2
 by_cases n3 : ¬ r.names.length = 0
 ·have g3 : ((r.names.length : Int) == 0) = false := by rw [beq_eq_false_iff_ne]; omega
  have hres : Hid (shapeB r false false false true (-1) = false) := by
   show _ = _
   simp [shapeB, n3]
  clear q1 q2 n3
  go_enter Tryz.func131, Tryz.ntmps131
  go_wp2
  go_ret
  exact ⟨ret_bool hres.out.symm, (Below.refl _ _).alloc (Nat.le_refl _) _⟩
 have q3 : r.names.length = 0 := Classical.not_not.1 n3
 have g3 : ((r.names.length : Int) == 0) = true := by rw [beq_iff_eq]; omega
 clear n3
 cases q6 : r.little with
 | false =>
  have hres : Hid (shapeB r false false false true (-1) = true) := by
   show _ = _
   simp [shapeB, q1, q2, q3, q6]
  clear q1 q2 q3
  go_enter Tryz.func131, Tryz.ntmps131
  go_wp2
  go_ret
  exact ⟨ret_bool hres.out.symm, (Below.refl _ _).alloc (Nat.le_refl _) _⟩
 | true =>
  by_cases q7 : r.kind = 1
  ·have g7 : (r.kind == 1) = true := by rw [beq_iff_eq]; exact q7
   have hres : Hid (shapeB r false false false true (-1) = true) := by
    show _ = _
    simp [shapeB, q1, q2, q3, q7]
   clear q1 q2 q3 q7
   go_enter Tryz.func131, Tryz.ntmps131
   go_wp2
   go_ret
   exact ⟨ret_bool hres.out.symm, (Below.refl _ _).alloc (Nat.le_refl _) _⟩
  ·have g7 : (r.kind == 1) = false := by rw [beq_eq_false_iff_ne]; exact q7
   have hres : Hid (shapeB r false false false true (-1) = false) := by
    show _ = _
    simp [shapeB, q6, q7]
   clear q1 q2 q3 q7
   go_enter Tryz.func131, Tryz.ntmps131
   go_wp2
   go_ret
   exact ⟨ret_bool hres.out.symm, (Below.refl _ _).alloc (Nat.le_refl _) _⟩
theorem eqb_spec (a b : Option Addr) (bs cs : List UInt8) (ca cb : Nat) (w : World) (hl : bs.length ≤ 1099511627776) (ha : Rd a bs w) (hb : Rd b cs w) :
  Calls Tryz.prog 45 #[.slice a bs.length ca, .slice b cs.length cb] w (EqOut bs cs w) := by
 have HA := kq ha
 have HB := kq hb
 clear ha hb
 by_cases hlen : bs.length = cs.length
 ·have h1 : ((bs.length : Int) != (cs.length : Int)) = false := by simp [hlen]
  have HL := kq hlen
  have hle : cs.length ≤ bs.length := by omega
  have hge : bs.length ≤ cs.length := by omega
  clear hlen
  go_enter Tryz.func45, Tryz.ntmps45
  go_wp2
  clear h1
  go_loopw [5] (fun i W => ∃ k n : Nat, k ≤ bs.length ∧ i = .int .i64 k ∧ W = w.drewN n ∧ Hid (bs.take k = cs.take k)) (fun i _ => bs.length - (intOf i).toNat)
  case atStart => exact ⟨0, 0, Nat.zero_le _, rfl, rfl, rfl⟩
  case round =>
   obtain ⟨k, n, hk, rfl, rfl, ht⟩ := hrel
   have k0 : (0 : Int) ≤ (k : Int) := by omega
   by_cases hlt : k < bs.length
   ·obtain ⟨b1, o1, rfl, c1⟩ := HA.out k hlt
    obtain ⟨b2, o2, rfl, c2⟩ := HB.out k (by omega)
    have k1 : (k : Int) < (bs.length : Int) := by omega
    have k2 : (k : Int) < (cs.length : Int) := by omega
    by_cases he : bs[k] = cs[k]
    ·have ht' := kq (take_next ht.out hlt (by omega) he)
     have e1 : ((bs[k].toNat : Int) != ((cs[k]'(by omega)).toNat : Int)) = false := by simp [he]
     clear he
     go_wp2
     go_quiet (fail)
     go_wp2
     go_roundw
     case rel => exact ⟨k + 1, _, by omega, by go_num, rfl, ht'⟩
     case measure => simp [intOf]; omega
    ·have hne := kq (take_not hlt (by omega) he)
     have e1 := byte_ne he
     clear he
     go_wp2
     go_quiet (fail)
     go_wp2
     go_ret
     exact ⟨ret_bool (decide_eq_false hne.out).symm, _, by rw [World.drewN_drewN]⟩
   ·have k1 : ¬ (k : Int) < (bs.length : Int) := by omega
    have heq : Hid (bs = cs) := by
     have h2 := ht.out
     rw [List.take_of_length_le (by omega), List.take_of_length_le (by omega)] at h2
     exact h2
    go_wp2
    go_ret
    exact ⟨ret_bool (decide_eq_true heq.out).symm, _, rfl⟩
 ·have h1 : ((bs.length : Int) != (cs.length : Int)) = true := by simp; omega
  have hne : Hid (bs ≠ cs) := fun h => hlen (by rw [h])
  clear hlen
  go_enter Tryz.func45, Tryz.ntmps45
  go_wp2
  go_ret
  exact ⟨ret_bool (decide_eq_false hne.out).symm, 0, rfl⟩
theorem eqt_lib (a b : Option Addr) (bs cs : List ByteArray) (ca cb : Nat) (w : World) (hl : bs.length ≤ 1099511627776) (ha : RdS a bs w) (hb : RdS b cs w) :
  Calls Tryz.prog 156 #[.slice a bs.length ca, .slice b cs.length cb] w (EqOutS bs cs w) := by
 have HA := kq ha
 have HB := kq hb
 clear ha hb
 by_cases hlen : bs.length = cs.length
 ·have h1 : ((bs.length : Int) != (cs.length : Int)) = false := by simp [hlen]
  have HL := kq hlen
  have hle : cs.length ≤ bs.length := by omega
  have hge : bs.length ≤ cs.length := by omega
  clear hlen
  go_enter Tryz.func156, Tryz.ntmps156
  go_wp2
  clear h1
  go_loopw [13] (fun i W => ∃ k n : Nat, k ≤ bs.length ∧ i = .int .i64 k ∧ W = w.drewN n ∧ Hid (bs.take k = cs.take k)) (fun i _ => bs.length - (intOf i).toNat)
  case atStart => exact ⟨0, 0, Nat.zero_le _, rfl, rfl, rfl⟩
  case round =>
   obtain ⟨k, n, hk, rfl, rfl, ht⟩ := hrel
   have k0 : (0 : Int) ≤ (k : Int) := by omega
   by_cases hlt : k < bs.length
   ·obtain ⟨b1, o1, rfl, c1⟩ := HA.out k hlt
    obtain ⟨b2, o2, rfl, c2⟩ := HB.out k (by omega)
    have k1 : (k : Int) < (bs.length : Int) := by omega
    have k2 : (k : Int) < (cs.length : Int) := by omega
    by_cases he : bs[k] = cs[k]
    ·have ht' := kq (takeNext ht.out hlt (by omega) he)
     rw [← he] at c2
     clear he
     generalize bs[k] = x at c1 c2
     go_wp2
     go_quiet (fail)
     go_wp2
     go_roundw
     case rel => exact ⟨k + 1, _, by omega, by go_num, rfl, ht'⟩
     case measure => simp [intOf]; omega
    ·have hne := kq (takeNot hlt (by omega) he)
     have he' : Hid (bs[k] ≠ cs[k]) := he
     clear he
     generalize bs[k] = x at c1 he'
     generalize cs[k] = y at c2 he'
     have e1 := str_ne he'.out
     go_wp2
     go_quiet (fail)
     go_wp2
     go_ret
     exact ⟨ret_bool (decide_eq_false hne.out).symm, _, by rw [World.drewN_drewN]⟩
   ·have k1 : ¬ (k : Int) < (bs.length : Int) := by omega
    have heq : Hid (bs = cs) := by
     have h2 := ht.out
     rw [List.take_of_length_le (by omega), List.take_of_length_le (by omega)] at h2
     exact h2
    go_wp2
    go_ret
    exact ⟨ret_bool (decide_eq_true heq.out).symm, _, rfl⟩
 ·have h1 : ((bs.length : Int) != (cs.length : Int)) = true := by simp; omega
  have hne : Hid (bs ≠ cs) := fun h => hlen (by rw [h])
  clear hlen
  go_enter Tryz.func156, Tryz.ntmps156
  go_wp2
  go_ret
  exact ⟨ret_bool (decide_eq_false hne.out).symm, 0, rfl⟩
theorem eqi_lib (a b : Option Addr) (bs cs : List Int) (ca cb : Nat) (w : World) (hl : bs.length ≤ 1099511627776) (ha : RdI a bs w) (hb : RdI b cs w) :
  Calls Tryz.prog 157 #[.slice a bs.length ca, .slice b cs.length cb] w (EqOutI bs cs w) := by
 have HA := kq ha
 have HB := kq hb
 clear ha hb
 by_cases hlen : bs.length = cs.length
 ·have h1 : ((bs.length : Int) != (cs.length : Int)) = false := by simp [hlen]
  have HL := kq hlen
  have hle : cs.length ≤ bs.length := by omega
  have hge : bs.length ≤ cs.length := by omega
  clear hlen
  go_enter Tryz.func157, Tryz.ntmps157
  go_wp2
  clear h1
  go_loopw [13] (fun i W => ∃ k n : Nat, k ≤ bs.length ∧ i = .int .i64 k ∧ W = w.drewN n ∧ Hid (bs.take k = cs.take k)) (fun i _ => bs.length - (intOf i).toNat)
  case atStart => exact ⟨0, 0, Nat.zero_le _, rfl, rfl, rfl⟩
  case round =>
   obtain ⟨k, n, hk, rfl, rfl, ht⟩ := hrel
   have k0 : (0 : Int) ≤ (k : Int) := by omega
   by_cases hlt : k < bs.length
   ·obtain ⟨b1, o1, rfl, c1⟩ := HA.out k hlt
    obtain ⟨b2, o2, rfl, c2⟩ := HB.out k (by omega)
    have k1 : (k : Int) < (bs.length : Int) := by omega
    have k2 : (k : Int) < (cs.length : Int) := by omega
    by_cases he : bs[k] = cs[k]
    ·have ht' := kq (takeNext ht.out hlt (by omega) he)
     rw [← he] at c2
     clear he
     generalize bs[k] = x at c1 c2
     go_wp2
     go_quiet (fail)
     go_wp2
     go_roundw
     case rel => exact ⟨k + 1, _, by omega, by go_num, rfl, ht'⟩
     case measure => simp [intOf]; omega
    ·have hne := kq (takeNot hlt (by omega) he)
     have he' : Hid (bs[k] ≠ cs[k]) := he
     clear he
     generalize bs[k] = x at c1 he'
     generalize cs[k] = y at c2 he'
     have e1 : (x != y) = true := by simpa using he'.out
     go_wp2
     go_quiet (fail)
     go_wp2
     go_ret
     exact ⟨ret_bool (decide_eq_false hne.out).symm, _, by rw [World.drewN_drewN]⟩
   ·have k1 : ¬ (k : Int) < (bs.length : Int) := by omega
    have heq : Hid (bs = cs) := by
     have h2 := ht.out
     rw [List.take_of_length_le (by omega), List.take_of_length_le (by omega)] at h2
     exact h2
    go_wp2
    go_ret
    exact ⟨ret_bool (decide_eq_true heq.out).symm, _, rfl⟩
 ·have h1 : ((bs.length : Int) != (cs.length : Int)) = true := by simp; omega
  have hne : Hid (bs ≠ cs) := fun h => hlen (by rw [h])
  clear hlen
  go_enter Tryz.func157, Tryz.ntmps157
  go_wp2
  go_ret
  exact ⟨ret_bool (decide_eq_false hne.out).symm, 0, rfl⟩
theorem Rd.bytesIn {a : Option Addr} {bs : List UInt8} {w : World} (h : Rd a bs w) : Lib.BytesIn w a bs.length (bs.map fun b => (b.toNat : Int)) := fun h0 => by
 obtain ⟨b, off, ha, _⟩ := h 0 h0
 refine ⟨b, off, ha, fun i hi => ?_⟩
 obtain ⟨b2, off2, ha2, hc⟩ := h i hi
 rw [ha] at ha2
 injection ha2 with ha2
 injection ha2 with e1 e2
 subst e1 e2
 rw [hc]
 simp [List.getD, hi]
theorem bytesOf_map (bs : List UInt8) : Lib.bytesOf (bs.map fun b => (b.toNat : Int)) = bs := by
 unfold Lib.bytesOf
 rw [List.map_map]
 conv => rhs; rw [← List.map_id bs]
 apply List.map_congr_left
 intro b _
 simp
theorem eqb_impl (a : Option Addr) (bs : List UInt8) (ca : Nat) (b : Option Addr) (cs : List UInt8) (cb : Nat) (w : World) (_hl : bs.length ≤ 1099511627776) (ha : Rd a bs w) (_hm : cs.length ≤ 1099511627776) (hb : Rd b cs w) :
  Calls Tryz.prog 155 #[.slice a bs.length ca, .slice b cs.length cb] w fun e w' => e = .returned (.bool (decide (bs = cs))) ∧ Below w.heap.size w w' := by
 have HA := kq ha.bytesIn
 have HB := kq hb.bytesIn
 clear ha hb
 go_enter Tryz.func155, Tryz.ntmps155
 go_wp2_with fail
 refine (Tryz.bytes_Equal_all a b bs.length ca cs.length cb _ _ w (by simp) (by simp) HA.out HB.out).mono ?_
 rintro e w1 ⟨rfl, rfl⟩
 rw [bytesOf_map, bytesOf_map]
 have hd := kq (show (bs == cs) = decide (bs = cs) by by_cases h : bs = cs <;> simp [h])
 generalize (bs == cs) = q at *
 go_wp2_with fail
 go_ret
 exact ⟨ret_bool hd.out, Below.refl _ _⟩
def sliceBlk : Value → List Nat
 | .slice (some a) n _ => if n = 0 then [] else [a.block]
 | _ => []
def OwnRule (lo hi : Nat) (r : RuleV) (cs : List Value) (w : World) : Prop :=
 ∃ a4 c4 a5 c5 a6 c6 a7 c7, cs = [.string r.name, .int .i64 r.kind, .int .i64 r.size, .bool r.little, .slice a4 r.bytes.length c4, .slice a5 r.names.length c5, .slice a6 r.tags.length c6, .slice a7 r.kids.length c7] ∧
  Row lo a4 r.bytes c4 w ∧ RowF Value.string lo a5 r.names c5 w ∧ RowF (Value.int .i64) lo a6 r.tags c6 w ∧ RowF (Value.int .i64) lo a7 r.kids c7 w ∧ (cs.flatMap sliceBlk).Nodup ∧ ∀ b ∈ cs.flatMap sliceBlk, lo ≤ b ∧ b < hi
theorem OwnRule.is {lo hi : Nat} {r : RuleV} {cs : List Value} {w : World} (h : OwnRule lo hi r cs w) : IsRule r cs w := by
 obtain ⟨a4, c4, a5, c5, a6, c6, a7, c7, e, h4, h5, h6, h7, _⟩ := h
 exact ⟨a4, c4, a5, c5, a6, c6, a7, c7, e, h4.rd, h5.rd, h6.rd, h7.rd⟩
theorem OwnRule.below {lo hi : Nat} {r : RuleV} {cs : List Value} {w w' : World} (h : OwnRule lo hi r cs w) (hb : Below w.heap.size w w') : OwnRule lo hi r cs w' := by
 obtain ⟨a4, c4, a5, c5, a6, c6, a7, c7, e, h4, h5, h6, h7, h8⟩ := h
 exact ⟨a4, c4, a5, c5, a6, c6, a7, c7, e, h4.below hb, h5.below hb, h6.below hb, h7.below hb, h8⟩
def Lies (lo hi : Nat) (a : Option Addr) (n : Nat) : Prop := n = 0 ∨ ∃ b off, a = some ⟨b, off, none⟩ ∧ lo ≤ b ∧ b < hi
theorem Lies.blk {lo hi : Nat} {a : Option Addr} {n c : Nat} (h : Lies lo hi a n) : ∀ b ∈ sliceBlk (.slice a n c), lo ≤ b ∧ b < hi := fun b hb => by
 rcases h with rfl | ⟨b', off, rfl, h1, h2⟩
 ·cases a <;> simp [sliceBlk] at hb
 ·by_cases hn : n = 0
  ·subst hn; simp [sliceBlk] at hb
  ·simp only [sliceBlk, if_neg hn, List.mem_singleton] at hb
   subst hb
   exact ⟨h1, h2⟩
theorem Fresh.lies {lo : Nat} {a : Option Addr} {xs : List UInt8} {w : World} (h : Fresh lo a xs w) : Lies lo w.heap.size a xs.length := by
 cases xs with
 | nil => exact .inl rfl
 | cons x r =>
  rcases h with h | ⟨b, off, ha, hB, hc⟩
  ·cases h
  ·exact .inr ⟨b, off, ha, hB, cell_lt (hc 0 (by simp)).1⟩
theorem Fresh.setFar {B c i : Nat} {a : Option Addr} {bs : List UInt8} {w : World} {v : Value} (h : Fresh B a bs w) (hc : c < B) : Fresh B a bs (w.setCell ⟨c, i, none⟩ v) := by
 rcases h with rfl | ⟨b, off, ha, hB, hcell⟩
 ·exact .inl rfl
 ·exact Fresh.grown (.inr ⟨b, off, ha, hB, hcell⟩) (grown_set (grown_refl w c) i v) (fun b' off' ha' _ => by rw [ha] at ha'; injection ha' with ha'; injection ha' with e; omega)
theorem Row.setFar {B c i cap : Nat} {a : Option Addr} {bs : List UInt8} {w : World} {v : Value} (h : Row B a bs cap w) (hc : c < B) : Row B a bs cap (w.setCell ⟨c, i, none⟩ v) := ⟨h.1.setFar hc, h.2⟩
theorem FreshF.setFar {α : Type} {f : α → Value} {B c i : Nat} {a : Option Addr} {bs : List α} {w : World} {v : Value} (h : FreshF f B a bs w) (hc : c < B) : FreshF f B a bs (w.setCell ⟨c, i, none⟩ v) := by
 rcases h with rfl | ⟨b, off, ha, hB, hcell⟩
 ·exact .inl rfl
 ·exact FreshF.grown (.inr ⟨b, off, ha, hB, hcell⟩) (grown_set (grown_refl w c) i v) (fun b' off' ha' _ => by rw [ha] at ha'; injection ha' with ha'; injection ha' with e; omega)
theorem RowF.setFar {α : Type} {f : α → Value} {B c i cap : Nat} {a : Option Addr} {bs : List α} {w : World} {v : Value} (h : RowF f B a bs cap w) (hc : c < B) : RowF f B a bs cap (w.setCell ⟨c, i, none⟩ v) := ⟨h.1.setFar hc, h.2⟩
def Short (r : RuleV) : Prop := r.bytes.length ≤ 1048576 ∧ r.names.length ≤ 1048576 ∧ r.tags.length ≤ 1048576 ∧ r.kids.length ≤ 1048576
theorem OwnRule.setFar {lo hi c i : Nat} {r : RuleV} {cs : List Value} {w : World} {v : Value} (h : OwnRule lo hi r cs w) (hc : c < lo) : OwnRule lo hi r cs (w.setCell ⟨c, i, none⟩ v) := by
 obtain ⟨a4, c4, a5, c5, a6, c6, a7, c7, e, h4, h5, h6, h7, h8⟩ := h
 exact ⟨a4, c4, a5, c5, a6, c6, a7, c7, e, h4.setFar hc, h5.setFar hc, h6.setFar hc, h7.setFar hc, h8⟩
theorem OwnRule.more {lo lo' hi hi' : Nat} {r : RuleV} {cs : List Value} {w : World} (h : OwnRule lo hi r cs w) (hl : lo' ≤ lo) (hh : hi ≤ hi') : OwnRule lo' hi' r cs w := by
 obtain ⟨a4, c4, a5, c5, a6, c6, a7, c7, e, h4, h5, h6, h7, h8, h9⟩ := h
 exact ⟨a4, c4, a5, c5, a6, c6, a7, c7, e, h4.more hl, h5.more hl, h6.more hl, h7.more hl, h8, fun b hb => by have := h9 b hb; omega⟩
def putList (w : World) (b : Nat) : Nat → List Value → World
 | _, [] => w
 | o, v :: vs => putList (w.setCell ⟨b, o, none⟩ v) b (o + 1) vs
theorem OwnRule.put {lo hi b : Nat} {r : RuleV} {cs : List Value} (hb : b < lo) : ∀ (vs : List Value) (o : Nat) (w : World), OwnRule lo hi r cs w → OwnRule lo hi r cs (putList w b o vs)
 | [], _, _, h => h
 | _ :: vs, o, _, h => OwnRule.put hb vs (o + 1) _ (h.setFar hb)
def OwnR (lo hi : Nat) (a : Option Addr) (rs : List RuleV) (cap : Nat) (w : World) : Prop :=
 ∃ css : List (List Value), css.length = rs.length ∧ (∀ j (h : j < rs.length) (h' : j < css.length), OwnRule lo hi rs[j] css[j] w) ∧
  (rs = [] ∨ ∃ b off, a = some ⟨b, off, none⟩ ∧ lo ≤ b ∧ b < hi ∧ (∀ j (h : j < css.length) i v, css[j][i]? = some v → w.cell? ⟨b, off + j * 8 + i, none⟩ = some v ∧ w.frozen? ⟨b, off + j * 8 + i, none⟩ = false) ∧ (b :: css.flatMap fun cs => cs.flatMap sliceBlk).Nodup) ∧
  rs.length ≤ cap ∧ (a = none → cap = 0)
theorem OwnR.rd {lo hi : Nat} {a : Option Addr} {rs : List RuleV} {cap : Nat} {w : World} (h : OwnR lo hi a rs cap w) : RdR a rs w := fun j hj => by
 obtain ⟨css, hl, ho, hr, _⟩ := h
 rcases hr with rfl | ⟨b, off, ha, _, _, hc, _⟩
 ·simp at hj
 ·exact ⟨b, off, css[j]'(by omega), ha, (ho j hj (by omega)).is, fun i v hv => (hc j (by omega) i v hv).1⟩
theorem OwnR.below {lo hi : Nat} {a : Option Addr} {rs : List RuleV} {cap : Nat} {w w' : World} (h : OwnR lo hi a rs cap w) (hb : Below w.heap.size w w') : OwnR lo hi a rs cap w' := by
 obtain ⟨css, hl, ho, hr, hcap⟩ := h
 refine ⟨css, hl, fun j h1 h2 => (ho j h1 h2).below hb, ?_, hcap⟩
 rcases hr with hr | ⟨b, off, ha, h1, h2, hc, hn⟩
 ·exact .inl hr
 ·refine .inr ⟨b, off, ha, h1, h2, fun j hj i v hv => ?_, hn⟩
  obtain ⟨q1, q2⟩ := hc j hj i v hv
  exact ⟨(hb.cell (cell_lt q1)).trans q1, (hb.frozen (p := ⟨b, off + j * 8 + i, none⟩) (cell_lt q1)).trans q2⟩
def HalfR (rs : List RuleV) (k N : Nat) (w W : World) : Prop :=
 Below w.heap.size w W ∧ N < W.heap.size ∧ ∃ css : List (List Value), css.length = k ∧ (∀ j (h : j < rs.length) (h' : j < css.length), OwnRule (N + 1) W.heap.size rs[j] css[j] W) ∧
  (∀ j (h : j < css.length) i v, css[j][i]? = some v → W.cell? ⟨N, j * 8 + i, none⟩ = some v) ∧ (∀ c, c < rs.length * 8 → W.frozen? ⟨N, c, none⟩ = false) ∧
  (∀ j, k ≤ j → j < rs.length → ∀ i v, ([.string ⟨#[]⟩, .int .i64 0, .int .i64 0, .bool false, .slice none 0 0, .slice none 0 0, .slice none 0 0, .slice none 0 0] : List Value)[i]? = some v → W.cell? ⟨N, j * 8 + i, none⟩ = some v) ∧
  (css.flatMap fun cs => cs.flatMap sliceBlk).Nodup
theorem OwnRule.length {lo hi : Nat} {r : RuleV} {cs : List Value} {w : World} (h : OwnRule lo hi r cs w) : cs.length = 8 := by
 obtain ⟨a4, c4, a5, c5, a6, c6, a7, c7, rfl, _⟩ := h
 rfl
theorem infoRule : (Tryz.prog.info? 47).map (fun i => (i.zero, i.size, i.bytes)) = some (some (.agg #[.string ⟨#[]⟩, .int .i64 0, .int .i64 0, .bool false, .slice none 0 0, .slice none 0 0, .slice none 0 0, .slice none 0 0]), 8, 136) := by kernel_rfl
theorem made_at (n c : Nat) (h : c < n) (z : Array Value) : (madeCells z n)[c]? = some z[c % z.size]! := by
 unfold madeCells
 simp [h]
theorem HalfR.end {rs : List RuleV} {w W : World} (h : HalfR rs rs.length w.heap.size w W) : OwnR w.heap.size W.heap.size (some ⟨w.heap.size, 0, none⟩) rs rs.length W := by
 obtain ⟨h1, h2, css, hl, ho, hc, hf, _, hn⟩ := h
 refine ⟨css, hl, fun j hj hj' => (ho j hj hj').more (by omega) (Nat.le_refl _), .inr ⟨w.heap.size, 0, rfl, Nat.le_refl _, h2, fun j hj i v hv => ?_, ?_⟩, Nat.le_refl _, fun e => by cases e⟩
 ·have hi8 : i < 8 := by
   have h8 := (ho j (by omega) hj).length
   rcases Nat.lt_or_ge i 8 with h | h
   ·exact h
   ·rw [List.getElem?_eq_none (by omega)] at hv; cases hv
  rw [Nat.zero_add]
  exact ⟨hc j hj i v hv, hf _ (by omega)⟩
 ·refine List.nodup_cons.2 ⟨fun hm => ?_, hn⟩
  obtain ⟨c0, hc0, hx⟩ := List.mem_flatMap.1 hm
  obtain ⟨j, hj, rfl⟩ := List.getElem_of_mem hc0
  obtain ⟨_, _, _, _, _, _, _, _, _, _, _, _, _, _, hr2⟩ := ho j (by omega) hj
  have := hr2 _ hx
  omega
def sameR (r s : RuleV) : Bool := decide (r.name = s.name ∧ r.kind = s.kind ∧ r.size = s.size ∧ r.little = s.little ∧ r.bytes = s.bytes ∧ r.names = s.names ∧ r.tags = s.tags ∧ r.kids = s.kids)
theorem sameR_iff (r s : RuleV) : sameR r s = true ↔ r = s := by
 unfold sameR
 cases r
 cases s
 simp
theorem below_drew {w w' : World} (h : ∃ n, w' = w.drewN n) : Below w.heap.size w w' := by
 obtain ⟨n, rfl⟩ := h
 exact below_drewN (Below.refl _ _) n

theorem eb_spec (a b : Option Addr) (xs ys : List UInt8) (ca cb : Nat) (w : World) (hl : xs.length ≤ 1048576) (hm : ys.length ≤ 1048576) (ha : Rd a xs w) (hb : Rd b ys w) (q : Bool) (hq : decide (xs = ys) = q) :
  Calls Tryz.prog 45 #[.slice a xs.length ca, .slice b ys.length cb] w fun e w' => e = .returned (.bool q) ∧ Below w.heap.size w w' := by
 subst hq
 have _ := hm
 exact (eqb_spec a b xs ys ca cb w (by omega) ha hb).mono fun e w' h => ⟨h.1, below_drew h.2⟩
theorem eb_impl (a b : Option Addr) (xs ys : List UInt8) (ca cb : Nat) (w : World) (hl : xs.length ≤ 1048576) (hm : ys.length ≤ 1048576) (ha : Rd a xs w) (hb : Rd b ys w) (q : Bool) (hq : decide (xs = ys) = q) :
  Calls Tryz.prog 155 #[.slice a xs.length ca, .slice b ys.length cb] w fun e w' => e = .returned (.bool q) ∧ Below w.heap.size w w' := by
 subst hq
 exact eqb_impl a xs ca b ys cb w (by omega) ha (by omega) hb
theorem et_impl (a b : Option Addr) (xs ys : List ByteArray) (ca cb : Nat) (w : World) (hl : xs.length ≤ 1048576) (hm : ys.length ≤ 1048576) (ha : RdStr a xs w) (hb : RdStr b ys w) (q : Bool) (hq : decide (xs = ys) = q) :
  Calls Tryz.prog 156 #[.slice a xs.length ca, .slice b ys.length cb] w fun e w' => e = .returned (.bool q) ∧ Below w.heap.size w w' := by
 subst hq
 have _ := hm
 exact (eqt_lib a b xs ys ca cb w (by omega) ha hb).mono fun e w' h => ⟨h.1, below_drew h.2⟩
theorem ei_impl (a b : Option Addr) (xs ys : List Int) (ca cb : Nat) (w : World) (hl : xs.length ≤ 1048576) (hm : ys.length ≤ 1048576) (ha : RdI a xs w) (hb : RdI b ys w) (q : Bool) (hq : decide (xs = ys) = q) :
  Calls Tryz.prog 157 #[.slice a xs.length ca, .slice b ys.length cb] w fun e w' => e = .returned (.bool q) ∧ Below w.heap.size w w' := by
 subst hq
 have _ := hm
 exact (eqi_lib a b xs ys ca cb w (by omega) ha hb).mono fun e w' h => ⟨h.1, below_drew h.2⟩
theorem eqr_impl (r s : RuleV) (cs ds : List Value) (w : World) (hr : Short r) (hs : Short s) (h : IsRule r cs w) (k : IsRule s ds w) :
  Calls Tryz.prog 128 #[.agg cs.toArray, .agg ds.toArray] w fun e w' => e = .returned (.bool (sameR r s)) ∧ Below w.heap.size w w' := by
 obtain ⟨a4, c4, a5, c5, a6, c6, a7, c7, rfl, h4, h5, h6, h7⟩ := h
 obtain ⟨e4, f4, e5, f5, e6, f6, e7, f7, rfl, k4, k5, k6, k7⟩ := k
 obtain ⟨s4, s5, s6, s7⟩ := hr
 obtain ⟨r4, r5, r6, r7⟩ := hs
 obtain ⟨nm, kd, sz, lt, bs, ns, ts, ks⟩ := r
 obtain ⟨nm', kd', sz', lt', bs', ns', ts', ks'⟩ := s
 dsimp only at *
 obtain ⟨w0, hw0⟩ : ∃ w0, w0 = (w.alloc (.cells #[.string nm, .int .i64 kd, .int .i64 sz, .bool lt, .slice a4 bs.length c4, .slice a5 ns.length c5, .slice a6 ts.length c6, .slice a7 ks.length c7] 47)).alloc (.cells #[.string nm', .int .i64 kd', .int .i64 sz', .bool lt', .slice e4 bs'.length f4, .slice e5 ns'.length f5, .slice e6 ts'.length f6, .slice e7 ks'.length f7] 47) := ⟨_, rfl⟩
 have hB0 : Below w.heap.size w w0 := by subst hw0; exact ((Below.refl _ _).alloc (Nat.le_refl _) _).alloc (by simp) _
 have hX0 : CellsAt w.heap.size [.string nm, .int .i64 kd, .int .i64 sz, .bool lt, .slice a4 bs.length c4, .slice a5 ns.length c5, .slice a6 ts.length c6, .slice a7 ks.length c7] w0 := by subst hw0; exact (CellsAt.new w _ _).below ((Below.refl _ _).alloc (Nat.le_refl _) _)
 have hY0 : CellsAt (w.heap.size + 1) [.string nm', .int .i64 kd', .int .i64 sz', .bool lt', .slice e4 bs'.length f4, .slice e5 ns'.length f5, .slice e6 ts'.length f6, .slice e7 ks'.length f7] w0 := by
  subst hw0
  have h1 := CellsAt.new (w.alloc (.cells #[.string nm, .int .i64 kd, .int .i64 sz, .bool lt, .slice a4 bs.length c4, .slice a5 ns.length c5, .slice a6 ts.length c6, .slice a7 ks.length c7] 47)) [.string nm', .int .i64 kd', .int .i64 sz', .bool lt', .slice e4 bs'.length f4, .slice e5 ns'.length f5, .slice e6 ts'.length f6, .slice e7 ks'.length f7] 47
  simpa using h1
 have HB0 := kq hB0
 have HX0 := kq hX0
 have HY0 := kq hY0
 have H4 := kq (h4.below hB0)
 have K4 := kq (k4.below hB0)
 have H5 := kq (h5.below hB0)
 have K5 := kq (k5.below hB0)
 have H6 := kq (h6.below hB0)
 have K6 := kq (k6.below hB0)
 have H7 := kq (h7.below hB0)
 have K7 := kq (k7.below hB0)
 clear hB0 hX0 hY0 h4 h5 h6 h7 k4 k5 k6 k7
 by_cases q0 : nm = nm'
 case neg =>
  have g := str_ne q0
  go_enter Tryz.func128, Tryz.ntmps128
  go_wp2
  rw [← hw0]
  go_ret
  exact ⟨ret_bool (by simp [sameR, q0]), HB0.out⟩
 subst q0
 by_cases q1 : kd = kd'
 case neg =>
  have g : (kd == kd') = false := by simpa using q1
  go_enter Tryz.func128, Tryz.ntmps128
  go_wp2
  rw [← hw0]
  go_ret
  exact ⟨ret_bool (by simp [sameR, q1]), HB0.out⟩
 subst q1
 by_cases q2 : sz = sz'
 case neg =>
  have g : (sz == sz') = false := by simpa using q2
  go_enter Tryz.func128, Tryz.ntmps128
  go_wp2
  rw [← hw0]
  go_ret
  exact ⟨ret_bool (by simp [sameR, q2]), HB0.out⟩
 subst q2
 by_cases q3 : lt = lt'
 case neg =>
  have g : (lt == lt') = false := by simpa using q3
  go_enter Tryz.func128, Tryz.ntmps128
  go_wp2
  rw [← hw0]
  go_ret
  exact ⟨ret_bool (by simp [sameR, q3]), HB0.out⟩
 subst q3
 by_cases q4 : bs = bs'
 case neg =>
  go_enter Tryz.func128, Tryz.ntmps128
  go_wp2_with fail
  rw [← hw0]
  clear hw0
  refine (eb_impl a4 e4 bs bs' c4 f4 _ (by omega) (by omega) H4.out K4.out false (decide_eq_false q4)).mono ?_
  rintro e w1 ⟨rfl, hb1⟩
  have HB1 := kq (HB0.out.trans (hb1.mono HB0.out.size))
  clear HB0
  clear hb1
  go_wp2_with fail
  go_ret
  exact ⟨ret_bool (by simp [sameR, q4]), HB1.out⟩
 subst q4
 by_cases q5 : ns = ns'
 case neg =>
  go_enter Tryz.func128, Tryz.ntmps128
  go_wp2_with fail
  rw [← hw0]
  clear hw0
  refine (eb_impl a4 e4 bs bs c4 f4 _ (by omega) (by omega) H4.out K4.out true (by simp)).mono ?_
  rintro e w1 ⟨rfl, hb1⟩
  have HB1 := kq (HB0.out.trans (hb1.mono HB0.out.size))
  clear HB0
  have HX1 := kq (HX0.out.below hb1)
  have HY1 := kq (HY0.out.below hb1)
  clear HX0 HY0
  have bx1 := (HX1.out 5 _ rfl).1
  have by1 := (HY1.out 5 _ rfl).1
  replace H5 := kq (H5.out.below hb1)
  replace K5 := kq (K5.out.below hb1)
  replace H6 := kq (H6.out.below hb1)
  replace K6 := kq (K6.out.below hb1)
  replace H7 := kq (H7.out.below hb1)
  replace K7 := kq (K7.out.below hb1)
  clear hb1
  go_wp2_with fail
  refine (et_impl a5 e5 ns ns' c5 f5 _ (by omega) (by omega) H5.out K5.out false (decide_eq_false q5)).mono ?_
  rintro e w2 ⟨rfl, hb2⟩
  have HB2 := kq (HB1.out.trans (hb2.mono HB1.out.size))
  clear HB1
  clear hb2
  go_wp2_with fail
  go_ret
  exact ⟨ret_bool (by simp [sameR, q5]), HB2.out⟩
 subst q5
 by_cases q6 : ts = ts'
 case neg =>
  go_enter Tryz.func128, Tryz.ntmps128
  go_wp2_with fail
  rw [← hw0]
  clear hw0
  refine (eb_impl a4 e4 bs bs c4 f4 _ (by omega) (by omega) H4.out K4.out true (by simp)).mono ?_
  rintro e w1 ⟨rfl, hb1⟩
  have HB1 := kq (HB0.out.trans (hb1.mono HB0.out.size))
  clear HB0
  have HX1 := kq (HX0.out.below hb1)
  have HY1 := kq (HY0.out.below hb1)
  clear HX0 HY0
  have bx1 := (HX1.out 5 _ rfl).1
  have by1 := (HY1.out 5 _ rfl).1
  replace H5 := kq (H5.out.below hb1)
  replace K5 := kq (K5.out.below hb1)
  replace H6 := kq (H6.out.below hb1)
  replace K6 := kq (K6.out.below hb1)
  replace H7 := kq (H7.out.below hb1)
  replace K7 := kq (K7.out.below hb1)
  clear hb1
  go_wp2_with fail
  refine (et_impl a5 e5 ns ns c5 f5 _ (by omega) (by omega) H5.out K5.out true (by simp)).mono ?_
  rintro e w2 ⟨rfl, hb2⟩
  have HB2 := kq (HB1.out.trans (hb2.mono HB1.out.size))
  clear HB1
  have HX2 := kq (HX1.out.below hb2)
  have HY2 := kq (HY1.out.below hb2)
  clear HX1 HY1
  have bx2 := (HX2.out 6 _ rfl).1
  have by2 := (HY2.out 6 _ rfl).1
  replace H6 := kq (H6.out.below hb2)
  replace K6 := kq (K6.out.below hb2)
  replace H7 := kq (H7.out.below hb2)
  replace K7 := kq (K7.out.below hb2)
  clear hb2
  go_wp2_with fail
  refine (ei_impl a6 e6 ts ts' c6 f6 _ (by omega) (by omega) H6.out K6.out false (decide_eq_false q6)).mono ?_
  rintro e w3 ⟨rfl, hb3⟩
  have HB3 := kq (HB2.out.trans (hb3.mono HB2.out.size))
  clear HB2
  clear hb3
  go_wp2_with fail
  go_ret
  exact ⟨ret_bool (by simp [sameR, q6]), HB3.out⟩
 subst q6
 by_cases q7 : ks = ks'
 case neg =>
  go_enter Tryz.func128, Tryz.ntmps128
  go_wp2_with fail
  rw [← hw0]
  clear hw0
  refine (eb_impl a4 e4 bs bs c4 f4 _ (by omega) (by omega) H4.out K4.out true (by simp)).mono ?_
  rintro e w1 ⟨rfl, hb1⟩
  have HB1 := kq (HB0.out.trans (hb1.mono HB0.out.size))
  clear HB0
  have HX1 := kq (HX0.out.below hb1)
  have HY1 := kq (HY0.out.below hb1)
  clear HX0 HY0
  have bx1 := (HX1.out 5 _ rfl).1
  have by1 := (HY1.out 5 _ rfl).1
  replace H5 := kq (H5.out.below hb1)
  replace K5 := kq (K5.out.below hb1)
  replace H6 := kq (H6.out.below hb1)
  replace K6 := kq (K6.out.below hb1)
  replace H7 := kq (H7.out.below hb1)
  replace K7 := kq (K7.out.below hb1)
  clear hb1
  go_wp2_with fail
  refine (et_impl a5 e5 ns ns c5 f5 _ (by omega) (by omega) H5.out K5.out true (by simp)).mono ?_
  rintro e w2 ⟨rfl, hb2⟩
  have HB2 := kq (HB1.out.trans (hb2.mono HB1.out.size))
  clear HB1
  have HX2 := kq (HX1.out.below hb2)
  have HY2 := kq (HY1.out.below hb2)
  clear HX1 HY1
  have bx2 := (HX2.out 6 _ rfl).1
  have by2 := (HY2.out 6 _ rfl).1
  replace H6 := kq (H6.out.below hb2)
  replace K6 := kq (K6.out.below hb2)
  replace H7 := kq (H7.out.below hb2)
  replace K7 := kq (K7.out.below hb2)
  clear hb2
  go_wp2_with fail
  refine (ei_impl a6 e6 ts ts c6 f6 _ (by omega) (by omega) H6.out K6.out true (by simp)).mono ?_
  rintro e w3 ⟨rfl, hb3⟩
  have HB3 := kq (HB2.out.trans (hb3.mono HB2.out.size))
  clear HB2
  have HX3 := kq (HX2.out.below hb3)
  have HY3 := kq (HY2.out.below hb3)
  clear HX2 HY2
  have bx3 := (HX3.out 7 _ rfl).1
  have by3 := (HY3.out 7 _ rfl).1
  replace H7 := kq (H7.out.below hb3)
  replace K7 := kq (K7.out.below hb3)
  clear hb3
  go_wp2_with fail
  refine (ei_impl a7 e7 ks ks' c7 f7 _ (by omega) (by omega) H7.out K7.out false (decide_eq_false q7)).mono ?_
  rintro e w4 ⟨rfl, hb4⟩
  have HB4 := kq (HB3.out.trans (hb4.mono HB3.out.size))
  clear HB3
  clear hb4
  go_wp2_with fail
  go_ret
  exact ⟨ret_bool (by simp [sameR, q7]), HB4.out⟩
 subst q7
 go_enter Tryz.func128, Tryz.ntmps128
 go_wp2_with fail
 rw [← hw0]
 clear hw0
 refine (eb_impl a4 e4 bs bs c4 f4 _ (by omega) (by omega) H4.out K4.out true (by simp)).mono ?_
 rintro e w1 ⟨rfl, hb1⟩
 have HB1 := kq (HB0.out.trans (hb1.mono HB0.out.size))
 clear HB0
 have HX1 := kq (HX0.out.below hb1)
 have HY1 := kq (HY0.out.below hb1)
 clear HX0 HY0
 have bx1 := (HX1.out 5 _ rfl).1
 have by1 := (HY1.out 5 _ rfl).1
 replace H5 := kq (H5.out.below hb1)
 replace K5 := kq (K5.out.below hb1)
 replace H6 := kq (H6.out.below hb1)
 replace K6 := kq (K6.out.below hb1)
 replace H7 := kq (H7.out.below hb1)
 replace K7 := kq (K7.out.below hb1)
 clear hb1
 go_wp2_with fail
 refine (et_impl a5 e5 ns ns c5 f5 _ (by omega) (by omega) H5.out K5.out true (by simp)).mono ?_
 rintro e w2 ⟨rfl, hb2⟩
 have HB2 := kq (HB1.out.trans (hb2.mono HB1.out.size))
 clear HB1
 have HX2 := kq (HX1.out.below hb2)
 have HY2 := kq (HY1.out.below hb2)
 clear HX1 HY1
 have bx2 := (HX2.out 6 _ rfl).1
 have by2 := (HY2.out 6 _ rfl).1
 replace H6 := kq (H6.out.below hb2)
 replace K6 := kq (K6.out.below hb2)
 replace H7 := kq (H7.out.below hb2)
 replace K7 := kq (K7.out.below hb2)
 clear hb2
 go_wp2_with fail
 refine (ei_impl a6 e6 ts ts c6 f6 _ (by omega) (by omega) H6.out K6.out true (by simp)).mono ?_
 rintro e w3 ⟨rfl, hb3⟩
 have HB3 := kq (HB2.out.trans (hb3.mono HB2.out.size))
 clear HB2
 have HX3 := kq (HX2.out.below hb3)
 have HY3 := kq (HY2.out.below hb3)
 clear HX2 HY2
 have bx3 := (HX3.out 7 _ rfl).1
 have by3 := (HY3.out 7 _ rfl).1
 replace H7 := kq (H7.out.below hb3)
 replace K7 := kq (K7.out.below hb3)
 clear hb3
 go_wp2_with fail
 refine (ei_impl a7 e7 ks ks c7 f7 _ (by omega) (by omega) H7.out K7.out true (by simp)).mono ?_
 rintro e w4 ⟨rfl, hb4⟩
 have HB4 := kq (HB3.out.trans (hb4.mono HB3.out.size))
 clear HB3
 clear hb4
 go_wp2_with fail
 go_ret
 exact ⟨ret_bool (by simp [sameR]), HB4.out⟩
def kindAtB (rs : List RuleV) (k : Int) : Bool := if h : 0 ≤ k ∧ k < rs.length then decide ((rs[k.toNat]'(by omega)).kind = 1) else false
def tagsOk (lim : Int) : Int → List Int → Bool
 | _, [] => true
 | lo, t :: ts => decide (lo ≤ t ∧ t ≤ lim) && tagsOk lim (t + 1) ts
def tagsB (rs : List RuleV) (r : RuleV) : Bool := decide (r.kids.length = r.tags.length + 1 ∧ 1 ≤ r.tags.length ∧ r.tags.length ≤ 8) && tagsOk (limitAt rs (r.kids.headD 0)) 0 r.tags
def termB (r : RuleV) : Bool := decide (r.bytes.length = 1) && decide (r.bytes.headD 0 ≠ 92)
noncomputable def kindS (rs : List RuleV) (r : RuleV) : Bool :=
 if r.kind = 1 then shapeB r true false false false 0 && (decide (1 ≤ r.size ∧ r.size ≤ 4) && (!r.little || decide (1 < r.size)))
 else if r.kind = 2 then shapeB r false true false false 0 && decide (1 ≤ (r.bytes.length : Int) ∧ (r.bytes.length : Int) ≤ 16)
 else if r.kind = 3 then shapeB r true false false false 0 && decide (1 ≤ r.size ∧ r.size ≤ 64)
 else if r.kind = 4 then shapeB r false false false false 1 && decide (0 < limitAt rs (r.kids.headD 0))
 else if r.kind = 5 then shapeB r false false false false 2 && decide (0 < limitAt rs (r.kids.headD 0))
 else if r.kind = 6 then shapeB r false false true false (r.names.length : Int) && namesB r.names
 else if r.kind = 7 then shapeB r false false false true (-1) && tagsB rs r
 else if r.kind = 8 ∨ r.kind = 9 then shapeB r false false false false 1
 else if r.kind = 10 then shapeB r false true false false 0 && termB r
 else false
noncomputable def meetsB (rs : List RuleV) (r : RuleV) : Bool :=
 if r.kind = 1 then decide (1 ≤ r.size ∧ r.size ≤ 4) && (!r.little || decide (1 < r.size))
 else if r.kind = 2 then decide (1 ≤ (r.bytes.length : Int) ∧ (r.bytes.length : Int) ≤ 16)
 else if r.kind = 3 then decide (1 ≤ r.size ∧ r.size ≤ 64)
 else if r.kind = 4 then decide (r.kids.length = 1) && kindAtB rs (r.kids.headD 0)
 else if r.kind = 5 then decide (r.kids.length = 2) && kindAtB rs (r.kids.headD 0)
 else if r.kind = 6 then decide (r.names.length = r.kids.length) && namesB r.names
 else if r.kind = 7 then tagsB rs r
 else if r.kind = 8 ∨ r.kind = 9 then decide (r.kids.length = 1)
 else if r.kind = 10 then termB r
 else false
def onlyR (r : RuleV) : RuleV :=
 if r.kind = 1 then ⟨r.name, r.kind, r.size, r.little, [], [], [], []⟩
 else if r.kind = 3 then ⟨r.name, r.kind, r.size, false, [], [], [], []⟩
 else if r.kind = 2 ∨ r.kind = 10 then ⟨r.name, r.kind, 0, false, r.bytes, [], [], []⟩
 else if r.kind = 4 ∨ r.kind = 5 ∨ r.kind = 8 ∨ r.kind = 9 then ⟨r.name, r.kind, 0, false, [], [], [], r.kids⟩
 else if r.kind = 6 then ⟨r.name, r.kind, 0, false, [], r.names, [], r.kids⟩
 else if r.kind = 7 then ⟨r.name, r.kind, 0, false, [], [], r.tags, r.kids⟩
 else ⟨r.name, r.kind, 0, false, [], [], [], []⟩
noncomputable def kindI (rs : List RuleV) (r : RuleV) : Bool := meetsB rs r && sameR r (onlyR r)
theorem kind_cases (k : Int) : k = 1 ∨ k = 2 ∨ k = 3 ∨ k = 4 ∨ k = 5 ∨ k = 6 ∨ k = 7 ∨ k = 8 ∨ k = 9 ∨ k = 10 ∨ (k ≠ 1 ∧ k ≠ 2 ∧ k ≠ 3 ∧ k ≠ 4 ∧ k ≠ 5 ∧ k ≠ 6 ∧ k ≠ 7 ∧ k ≠ 8 ∧ k ≠ 9 ∧ k ≠ 10) := by omega
theorem kind_same {rs : List RuleV} {r : RuleV} (h : kindAtB rs (r.kids.headD 0) = decide (0 < limitAt rs (r.kids.headD 0))) : kindI rs r = kindS rs r := by
 obtain ⟨nm, kd, sz, lt, bs, ns, ts, ks⟩ := r
 dsimp only at h
 rw [Bool.eq_iff_iff]
 rcases kind_cases kd with rfl | rfl | rfl | rfl | rfl | rfl | rfl | rfl | rfl | rfl | hk
 ·simp [kindI, kindS, meetsB, onlyR, sameR, shapeB]; constructor <;> (intro h; simp_all; try omega)
 ·simp [kindI, kindS, meetsB, onlyR, sameR, shapeB]; constructor <;> (intro h; simp_all; try omega)
 ·simp [kindI, kindS, meetsB, onlyR, sameR, shapeB]; constructor <;> (intro h; simp_all; try omega)
 ·simp [kindI, kindS, meetsB, onlyR, sameR, shapeB]; constructor <;> (intro h; simp_all; try omega)
 ·simp [kindI, kindS, meetsB, onlyR, sameR, shapeB]; constructor <;> (intro h; simp_all; try omega)
 ·simp [kindI, kindS, meetsB, onlyR, sameR, shapeB]; constructor <;> (intro h; simp_all; try omega)
 ·simp [kindI, kindS, meetsB, onlyR, sameR, shapeB, tagsB]; constructor <;> (intro h; simp_all; try omega)
 ·simp [kindI, kindS, meetsB, onlyR, sameR, shapeB]; constructor <;> (intro h; simp_all; try omega)
 ·simp [kindI, kindS, meetsB, onlyR, sameR, shapeB]; constructor <;> (intro h; simp_all; try omega)
 ·simp [kindI, kindS, meetsB, onlyR, sameR, shapeB, termB]; constructor <;> (intro h; simp_all; try omega)
 ·obtain ⟨k1, k2, k3, k4, k5, k6, k7, k8, k9, k10⟩ := hk
  simp [kindI, kindS, meetsB, k1, k2, k3, k4, k5, k6, k7, k8, k9, k10]
theorem limit_pos {rs : List RuleV} {k : Int} (h : 0 < limitAt rs k) : kindAtB rs k = true := by
 unfold limitAt at h
 unfold kindAtB
 by_cases hk : 0 ≤ k ∧ k < rs.length
 ·rw [dif_pos hk] at h ⊢
  dsimp only at h
  split at h
  ·rename_i hh
   exact decide_eq_true hh.1
  ·omega
 ·rw [dif_neg hk] at h
  omega
theorem kindS_I {rs : List RuleV} {r : RuleV} (h : kindS rs r = true) : kindI rs r = true := by
 by_cases hp : 0 < limitAt rs (r.kids.headD 0)
 ·rw [kind_same (by rw [limit_pos hp, decide_eq_true hp])]
  exact h
 ·obtain ⟨nm, kd, sz, lt, bs, ns, ts, ks⟩ := r
  dsimp only at hp
  rcases kind_cases kd with rfl | rfl | rfl | rfl | rfl | rfl | rfl | rfl | rfl | rfl | hk
  all_goals first
   | (exfalso; simp [kindS] at h; exact hp h.2)
   | (obtain ⟨k1, k2, k3, k4, k5, k6, k7, k8, k9, k10⟩ := hk; simp [kindS, k1, k2, k3, k4, k5, k6, k7, k8, k9, k10] at h; done)
   | (simp [kindI, kindS, meetsB, onlyR, sameR, shapeB] at h ⊢; simp_all; done)
   | (simp [kindI, kindS, meetsB, onlyR, sameR, shapeB] at h ⊢; simp_all; omega)
   | (simp [kindI, kindS, meetsB, onlyR, sameR, shapeB, tagsB] at h ⊢; simp_all; done)
   | (simp [kindI, kindS, meetsB, onlyR, sameR, shapeB, termB] at h ⊢; simp_all; done)
def kidsB (ks : List Int) (k : Int) : Bool := ks.all fun x => decide (0 ≤ x ∧ x ≤ k - 1)
noncomputable def validAt (f : RuleV → Bool) (rs : List RuleV) (k : Int) : Bool :=
 if h : 0 ≤ k ∧ k < rs.length then (let r := rs[k.toNat]'(by omega); decide (findFrom r.name rs 0 = k) && (kidsB r.kids k && (nameB r.name && f r))) else false
theorem validAt_out {f : RuleV → Bool} {rs : List RuleV} {k : Int} (h : ¬ (0 ≤ k ∧ k < rs.length)) : validAt f rs k = false := by unfold validAt; rw [dif_neg h]
theorem validAt_in {f : RuleV → Bool} {rs : List RuleV} {k : Nat} (h : k < rs.length) : validAt f rs (k : Int) = (decide (findFrom rs[k].name rs 0 = (k : Int)) && (kidsB rs[k].kids (k : Int) && (nameB rs[k].name && f rs[k]))) := by
 unfold validAt
 rw [dif_pos (by omega)]
 simp only [Int.toNat_natCast]
def allV (f : RuleV → Bool) (rs : List RuleV) : Prop := ∀ i : Nat, i < rs.length → validAt f rs (i : Int) = true
open Classical in
noncomputable def descrB (f : RuleV → Bool) (rs : List RuleV) : Bool := decide ((1 ≤ rs.length ∧ rs.length ≤ 24) ∧ allV f rs)
open Classical in
theorem descrB_yes {f : RuleV → Bool} {rs : List RuleV} (h : 1 ≤ rs.length ∧ rs.length ≤ 24) (ha : allV f rs) : descrB f rs = true := by
 unfold descrB
 exact decide_eq_true ⟨h, ha⟩
open Classical in
theorem descrB_len {f : RuleV → Bool} {rs : List RuleV} (h : ¬ (1 ≤ rs.length ∧ rs.length ≤ 24)) : descrB f rs = false := by
 unfold descrB
 exact decide_eq_false fun h' => h h'.1
open Classical in
theorem descrB_bad {f : RuleV → Bool} {rs : List RuleV} {k : Nat} (hk : k < rs.length) (h : validAt f rs (k : Int) = false) : descrB f rs = false := by
 unfold descrB
 exact decide_eq_false fun h' => by
  have := h'.2 k hk
  rw [h] at this
  cases this
open Classical in
theorem descrB_iff {f : RuleV → Bool} {rs : List RuleV} : descrB f rs = true ↔ (1 ≤ rs.length ∧ rs.length ≤ 24) ∧ allV f rs := by
 unfold descrB
 exact decide_eq_true_iff
theorem validAt_mono {f g : RuleV → Bool} {rs : List RuleV} {k : Nat} (hk : k < rs.length) (hfg : f rs[k] = true → g rs[k] = true) (h : validAt f rs (k : Int) = true) : validAt g rs (k : Int) = true := by
 rw [validAt_in hk] at h ⊢
 simp only [Bool.and_eq_true] at h ⊢
 exact ⟨h.1, h.2.1, h.2.2.1, hfg h.2.2.2⟩
theorem validAt_kind {f : RuleV → Bool} {rs : List RuleV} {k : Nat} (hk : k < rs.length) (h : validAt f rs (k : Int) = true) : f rs[k] = true := by
 rw [validAt_in hk] at h
 simp only [Bool.and_eq_true] at h
 exact h.2.2.2
theorem kindI_size {rs : List RuleV} {r : RuleV} (h : kindI rs r = true) (hk : r.kind = 1) : 1 ≤ r.size ∧ r.size ≤ 4 := by
 simp [kindI, meetsB, hk] at h
 exact h.1.1
theorem limit_of_valid {rs : List RuleV} (h : allV (kindI rs) rs) (k : Int) : kindAtB rs k = decide (0 < limitAt rs k) := by
 by_cases hk : 0 ≤ k ∧ k < rs.length
 ·obtain ⟨n, rfl⟩ : ∃ n : Nat, k = (n : Int) := ⟨k.toNat, by omega⟩
  have hn : n < rs.length := by omega
  have hv := validAt_kind hn (h n hn)
  unfold kindAtB
  rw [dif_pos hk, limitAt_in hn]
  simp only [Int.toNat_natCast]
  by_cases h1 : rs[n].kind = 1
  ·have hs := kindI_size hv h1
   rw [if_pos ⟨h1, hs⟩, decide_eq_true h1, decide_eq_true]
   have := (pow256_bounds rs[n].size).1
   omega
  ·rw [if_neg (fun h => h1 h.1), decide_eq_false h1]
   rfl
 ·unfold kindAtB
  rw [dif_neg hk, limitAt_out hk]
  rfl
theorem descr_same (rs : List RuleV) : descrB (kindI rs) rs = descrB (kindS rs) rs := by
 rw [Bool.eq_iff_iff, descrB_iff, descrB_iff]
 constructor
 ·rintro ⟨h1, h2⟩
  exact ⟨h1, fun i hi => validAt_mono hi (fun h => by rw [← kind_same (limit_of_valid h2 _)]; exact h) (h2 i hi)⟩
 ·rintro ⟨h1, h2⟩
  exact ⟨h1, fun i hi => validAt_mono hi (fun h => kindS_I h) (h2 i hi)⟩
def Cap5 (cs : List Value) : Prop := ∀ a n c, cs[5]? = some (.slice a n c) → n ≤ c
def Cap7 (cs : List Value) : Prop := ∀ a n c, cs[7]? = some (.slice a n c) → n ≤ c
def CapK (cs : List Value) : Prop := Cap5 cs ∧ Cap7 cs
def RdC (a : Option Addr) (rs : List RuleV) (w : World) : Prop :=
 ∀ j (h : j < rs.length), ∃ b off cs, a = some ⟨b, off, none⟩ ∧ IsRule rs[j] cs w ∧ Cap5 cs ∧ ∀ i v, cs[i]? = some v → w.cell? ⟨b, off + j * 8 + i, none⟩ = some v
theorem RdC.rd {a : Option Addr} {rs : List RuleV} {w : World} (h : RdC a rs w) : RdR a rs w := fun j hj => by
 obtain ⟨b, off, cs, h1, h2, _, h3⟩ := h j hj
 exact ⟨b, off, cs, h1, h2, h3⟩
theorem RdC.below {a : Option Addr} {rs : List RuleV} {w w' : World} (h : RdC a rs w) (hb : Below w.heap.size w w') : RdC a rs w' := fun j hj => by
 obtain ⟨b, off, cs, ha, hr, hp, hc⟩ := h j hj
 exact ⟨b, off, cs, ha, hr.below hb, hp, fun i v hi => (hb.cell (cell_lt (hc i v hi))).trans (hc i v hi)⟩
theorem OwnRule.cap {lo hi : Nat} {r : RuleV} {cs : List Value} {w : World} (h : OwnRule lo hi r cs w) : Cap5 cs := fun a n c hc => by
 obtain ⟨a4, c4, a5, c5, a6, c6, a7, c7, rfl, _, h5, _⟩ := h
 simp at hc
 obtain ⟨_, rfl, rfl⟩ := hc
 exact h5.2.1
theorem OwnR.rdc {lo hi : Nat} {a : Option Addr} {rs : List RuleV} {cap : Nat} {w : World} (h : OwnR lo hi a rs cap w) : RdC a rs w := fun j hj => by
 obtain ⟨css, hl, ho, hr, _⟩ := h
 rcases hr with rfl | ⟨b, off, ha, _, _, hc, _⟩
 ·simp at hj
 ·exact ⟨b, off, css[j]'(by omega), ha, (ho j hj (by omega)).is, (ho j hj (by omega)).cap, fun i v hv => (hc j (by omega) i v hv).1⟩
theorem RdC.at {a : Option Addr} {rs : List RuleV} {w : World} (h : RdC a rs w) (j : Nat) (hj : j < rs.length) : ∃ b off a4 c4 a5 c5 a6 c6 a7 c7, a = some ⟨b, off, none⟩ ∧
  (w.cell? ⟨b, off + j * 8, none⟩ = some (.string rs[j].name) ∧ w.cell? ⟨b, off + j * 8 + 1, none⟩ = some (.int .i64 rs[j].kind) ∧ w.cell? ⟨b, off + j * 8 + 2, none⟩ = some (.int .i64 rs[j].size) ∧ w.cell? ⟨b, off + j * 8 + 3, none⟩ = some (.bool rs[j].little) ∧
  w.cell? ⟨b, off + j * 8 + 4, none⟩ = some (.slice a4 rs[j].bytes.length c4) ∧ w.cell? ⟨b, off + j * 8 + 5, none⟩ = some (.slice a5 rs[j].names.length c5) ∧ w.cell? ⟨b, off + j * 8 + 6, none⟩ = some (.slice a6 rs[j].tags.length c6) ∧ w.cell? ⟨b, off + j * 8 + 7, none⟩ = some (.slice a7 rs[j].kids.length c7)) ∧
  (Rd a4 rs[j].bytes w ∧ RdStr a5 rs[j].names w ∧ RdI a6 rs[j].tags w ∧ RdI a7 rs[j].kids w) ∧ rs[j].names.length ≤ c5 := by
 obtain ⟨b, off, cs, ha, ⟨a4, c4, a5, c5, a6, c6, a7, c7, rfl, h4, h5, h6, h7⟩, hp, hc⟩ := h j hj
 exact ⟨b, off, a4, c4, a5, c5, a6, c6, a7, c7, ha, ⟨hc 0 _ rfl, hc 1 _ rfl, hc 2 _ rfl, hc 3 _ rfl, hc 4 _ rfl, hc 5 _ rfl, hc 6 _ rfl, hc 7 _ rfl⟩, ⟨h4, h5, h6, h7⟩, hp a5 _ c5 rfl⟩
def Spelt (r : RuleV) : Prop := r.name.size ≤ 1048576 ∧ ∀ s ∈ r.names, s.size ≤ 1048576
end Go.Proofs.YtfmnjclnhppghaaGreat
