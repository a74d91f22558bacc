/- Contracts of the model's l4Shape, one for each use: which fields a kind mentions. Comparisons of slices: the model's EqualBytes, l4Texts, l4Ints; slices.Equal; the program's EqualBytes. Contracts of the laws' copies of rules and descriptions. Contracts of the comparison of two rules: the model's l4Equal, the program's equalRules. Validity of rules and descriptions, as plain functions: the model's reading (kindS) and the program's (kindI), and how they agree. No program is walked here. Validity of whole descriptions, as plain functions; both readings agree on descriptions. No program is walked here. -/
import Derived.Test.YtefkhknfjohnaaaGBase
import Derived.Test.YtefkhknfjohnaaaShelf
import Derived.BigQuiet
import Derived.Test.YtefkhknfjohnaaaGNam
namespace Go.Proofs.Ytefkhknfjohnaaa
open Go Go.RowKit
/-- Whether only the fields are used that a kind mentions. -/
def shapeB (r : RuleV) (sz by' nm tg : Bool) (k : Int) : Bool := (sz || decide (r.size = 0)) && ((by' || decide (r.bytes.length = 0)) && ((nm || decide (r.names.length = 0)) && ((tg || decide (r.tags.length = 0)) && ((decide (k < 0) || decide ((r.kids.length : Int) = k)) && (!r.little || decide (r.kind = 1))))))
set_option maxRecDepth 100000 in
set_option maxHeartbeats 2000000 in
theorem shape_size (r : RuleV) (cs : List Value) (k : Int) (w : World) (h : IsRule r cs w) (hk : 0 ≤ k) :
    Calls Try.prog 107 #[.agg cs.toArray, .bool true, .bool false, .bool false, .bool false, .int .i64 k] w fun e w' => e = .returned (.bool (shapeB r true false false false k)) ∧ Below w.heap.size w w' := by
  obtain ⟨a4, c4, a5, c5, a6, c6, a7, c7, rfl, -⟩ := h
  have gk : ¬ k < 0 := by omega
  by_cases n2 : ¬ r.bytes.length = 0
  · have g2 : ((r.bytes.length : Int) == 0) = false := by rw [beq_eq_false_iff_ne]; omega
    have hres : Hid (shapeB r true false false false k = false) := by
      show _ = _
      simp [shapeB, n2]
    clear n2
    go_enter Try.func107, Try.ntmps107
    go_wp2
    go_ret
    exact ⟨ret_bool hres.out.symm, (Below.refl _ _).alloc (Nat.le_refl _) _⟩
  have q2 : r.bytes.length = 0 := Classical.not_not.1 n2
  have g2 : ((r.bytes.length : Int) == 0) = true := by rw [beq_iff_eq]; omega
  clear n2
  by_cases n3 : ¬ r.names.length = 0
  · have g3 : ((r.names.length : Int) == 0) = false := by rw [beq_eq_false_iff_ne]; omega
    have hres : Hid (shapeB r true false false false k = false) := by
      show _ = _
      simp [shapeB, n3]
    clear q2 n3
    go_enter Try.func107, Try.ntmps107
    go_wp2
    go_ret
    exact ⟨ret_bool hres.out.symm, (Below.refl _ _).alloc (Nat.le_refl _) _⟩
  have q3 : r.names.length = 0 := Classical.not_not.1 n3
  have g3 : ((r.names.length : Int) == 0) = true := by rw [beq_iff_eq]; omega
  clear n3
  by_cases n4 : ¬ r.tags.length = 0
  · have g4 : ((r.tags.length : Int) == 0) = false := by rw [beq_eq_false_iff_ne]; omega
    have hres : Hid (shapeB r true false false false k = false) := by
      show _ = _
      simp [shapeB, n4]
    clear q2 q3 n4
    go_enter Try.func107, Try.ntmps107
    go_wp2
    go_ret
    exact ⟨ret_bool hres.out.symm, (Below.refl _ _).alloc (Nat.le_refl _) _⟩
  have q4 : r.tags.length = 0 := Classical.not_not.1 n4
  have g4 : ((r.tags.length : Int) == 0) = true := by rw [beq_iff_eq]; omega
  clear n4
  by_cases n5 : ¬ (r.kids.length : Int) = k
  · have g5 : ((r.kids.length : Int) == k) = false := by rw [beq_eq_false_iff_ne]; exact n5
    have hres : Hid (shapeB r true false false false k = false) := by
      show _ = _
      simp [shapeB, n5, gk]
    clear q2 q3 q4 n5
    go_enter Try.func107, Try.ntmps107
    go_wp2
    go_ret
    exact ⟨ret_bool hres.out.symm, (Below.refl _ _).alloc (Nat.le_refl _) _⟩
  have q5 : (r.kids.length : Int) = k := Classical.not_not.1 n5
  have g5 : ((r.kids.length : Int) == k) = true := by rw [beq_iff_eq]; exact q5
  clear n5
  cases q6 : r.little with
  | false =>
    have hres : Hid (shapeB r true false false false k = true) := by
      show _ = _
      simp [shapeB, q2, q3, q4, q5, q6]
    clear q2 q3 q4 q5
    go_enter Try.func107, Try.ntmps107
    go_wp2
    go_ret
    exact ⟨ret_bool hres.out.symm, (Below.refl _ _).alloc (Nat.le_refl _) _⟩
  | true =>
    by_cases q7 : r.kind = 1
    · have g7 : (r.kind == 1) = true := by rw [beq_iff_eq]; exact q7
      have hres : Hid (shapeB r true false false false k = true) := by
        show _ = _
        simp [shapeB, q2, q3, q4, q5, q7]
      clear q2 q3 q4 q5 q7
      go_enter Try.func107, Try.ntmps107
      go_wp2
      go_ret
      exact ⟨ret_bool hres.out.symm, (Below.refl _ _).alloc (Nat.le_refl _) _⟩
    · have g7 : (r.kind == 1) = false := by rw [beq_eq_false_iff_ne]; exact q7
      have hres : Hid (shapeB r true false false false k = false) := by
        show _ = _
        simp [shapeB, q6, q7]
      clear q2 q3 q4 q5 q7
      go_enter Try.func107, Try.ntmps107
      go_wp2
      go_ret
      exact ⟨ret_bool hres.out.symm, (Below.refl _ _).alloc (Nat.le_refl _) _⟩
set_option maxRecDepth 100000 in
set_option maxHeartbeats 2000000 in
theorem shape_bytes (r : RuleV) (cs : List Value) (k : Int) (w : World) (h : IsRule r cs w) (hk : 0 ≤ k) :
    Calls Try.prog 107 #[.agg cs.toArray, .bool false, .bool true, .bool false, .bool false, .int .i64 k] w fun e w' => e = .returned (.bool (shapeB r false true false false k)) ∧ Below w.heap.size w w' := by
  obtain ⟨a4, c4, a5, c5, a6, c6, a7, c7, rfl, -⟩ := h
  have gk : ¬ k < 0 := by omega
  by_cases n1 : ¬ r.size = 0
  · have g1 : (r.size == 0) = false := by rw [beq_eq_false_iff_ne]; omega
    have hres : Hid (shapeB r false true false false k = false) := by
      show _ = _
      simp [shapeB, n1]
    clear n1
    go_enter Try.func107, Try.ntmps107
    go_wp2
    go_ret
    exact ⟨ret_bool hres.out.symm, (Below.refl _ _).alloc (Nat.le_refl _) _⟩
  have q1 : r.size = 0 := Classical.not_not.1 n1
  have g1 : (r.size == 0) = true := by rw [beq_iff_eq]; omega
  clear n1
  by_cases n3 : ¬ r.names.length = 0
  · have g3 : ((r.names.length : Int) == 0) = false := by rw [beq_eq_false_iff_ne]; omega
    have hres : Hid (shapeB r false true false false k = false) := by
      show _ = _
      simp [shapeB, n3]
    clear q1 n3
    go_enter Try.func107, Try.ntmps107
    go_wp2
    go_ret
    exact ⟨ret_bool hres.out.symm, (Below.refl _ _).alloc (Nat.le_refl _) _⟩
  have q3 : r.names.length = 0 := Classical.not_not.1 n3
  have g3 : ((r.names.length : Int) == 0) = true := by rw [beq_iff_eq]; omega
  clear n3
  by_cases n4 : ¬ r.tags.length = 0
  · have g4 : ((r.tags.length : Int) == 0) = false := by rw [beq_eq_false_iff_ne]; omega
    have hres : Hid (shapeB r false true false false k = false) := by
      show _ = _
      simp [shapeB, n4]
    clear q1 q3 n4
    go_enter Try.func107, Try.ntmps107
    go_wp2
    go_ret
    exact ⟨ret_bool hres.out.symm, (Below.refl _ _).alloc (Nat.le_refl _) _⟩
  have q4 : r.tags.length = 0 := Classical.not_not.1 n4
  have g4 : ((r.tags.length : Int) == 0) = true := by rw [beq_iff_eq]; omega
  clear n4
  by_cases n5 : ¬ (r.kids.length : Int) = k
  · have g5 : ((r.kids.length : Int) == k) = false := by rw [beq_eq_false_iff_ne]; exact n5
    have hres : Hid (shapeB r false true false false k = false) := by
      show _ = _
      simp [shapeB, n5, gk]
    clear q1 q3 q4 n5
    go_enter Try.func107, Try.ntmps107
    go_wp2
    go_ret
    exact ⟨ret_bool hres.out.symm, (Below.refl _ _).alloc (Nat.le_refl _) _⟩
  have q5 : (r.kids.length : Int) = k := Classical.not_not.1 n5
  have g5 : ((r.kids.length : Int) == k) = true := by rw [beq_iff_eq]; exact q5
  clear n5
  cases q6 : r.little with
  | false =>
    have hres : Hid (shapeB r false true false false k = true) := by
      show _ = _
      simp [shapeB, q1, q3, q4, q5, q6]
    clear q1 q3 q4 q5
    go_enter Try.func107, Try.ntmps107
    go_wp2
    go_ret
    exact ⟨ret_bool hres.out.symm, (Below.refl _ _).alloc (Nat.le_refl _) _⟩
  | true =>
    by_cases q7 : r.kind = 1
    · have g7 : (r.kind == 1) = true := by rw [beq_iff_eq]; exact q7
      have hres : Hid (shapeB r false true false false k = true) := by
        show _ = _
        simp [shapeB, q1, q3, q4, q5, q7]
      clear q1 q3 q4 q5 q7
      go_enter Try.func107, Try.ntmps107
      go_wp2
      go_ret
      exact ⟨ret_bool hres.out.symm, (Below.refl _ _).alloc (Nat.le_refl _) _⟩
    · have g7 : (r.kind == 1) = false := by rw [beq_eq_false_iff_ne]; exact q7
      have hres : Hid (shapeB r false true false false k = false) := by
        show _ = _
        simp [shapeB, q6, q7]
      clear q1 q3 q4 q5 q7
      go_enter Try.func107, Try.ntmps107
      go_wp2
      go_ret
      exact ⟨ret_bool hres.out.symm, (Below.refl _ _).alloc (Nat.le_refl _) _⟩
set_option maxRecDepth 100000 in
set_option maxHeartbeats 2000000 in
theorem shape_none (r : RuleV) (cs : List Value) (k : Int) (w : World) (h : IsRule r cs w) (hk : 0 ≤ k) :
    Calls Try.prog 107 #[.agg cs.toArray, .bool false, .bool false, .bool false, .bool false, .int .i64 k] w fun e w' => e = .returned (.bool (shapeB r false false false false k)) ∧ Below w.heap.size w w' := by
  obtain ⟨a4, c4, a5, c5, a6, c6, a7, c7, rfl, -⟩ := h
  have gk : ¬ k < 0 := by omega
  by_cases n1 : ¬ r.size = 0
  · have g1 : (r.size == 0) = false := by rw [beq_eq_false_iff_ne]; omega
    have hres : Hid (shapeB r false false false false k = false) := by
      show _ = _
      simp [shapeB, n1]
    clear n1
    go_enter Try.func107, Try.ntmps107
    go_wp2
    go_ret
    exact ⟨ret_bool hres.out.symm, (Below.refl _ _).alloc (Nat.le_refl _) _⟩
  have q1 : r.size = 0 := Classical.not_not.1 n1
  have g1 : (r.size == 0) = true := by rw [beq_iff_eq]; omega
  clear n1
  by_cases n2 : ¬ r.bytes.length = 0
  · have g2 : ((r.bytes.length : Int) == 0) = false := by rw [beq_eq_false_iff_ne]; omega
    have hres : Hid (shapeB r false false false false k = false) := by
      show _ = _
      simp [shapeB, n2]
    clear q1 n2
    go_enter Try.func107, Try.ntmps107
    go_wp2
    go_ret
    exact ⟨ret_bool hres.out.symm, (Below.refl _ _).alloc (Nat.le_refl _) _⟩
  have q2 : r.bytes.length = 0 := Classical.not_not.1 n2
  have g2 : ((r.bytes.length : Int) == 0) = true := by rw [beq_iff_eq]; omega
  clear n2
  by_cases n3 : ¬ r.names.length = 0
  · have g3 : ((r.names.length : Int) == 0) = false := by rw [beq_eq_false_iff_ne]; omega
    have hres : Hid (shapeB r false false false false k = false) := by
      show _ = _
      simp [shapeB, n3]
    clear q1 q2 n3
    go_enter Try.func107, Try.ntmps107
    go_wp2
    go_ret
    exact ⟨ret_bool hres.out.symm, (Below.refl _ _).alloc (Nat.le_refl _) _⟩
  have q3 : r.names.length = 0 := Classical.not_not.1 n3
  have g3 : ((r.names.length : Int) == 0) = true := by rw [beq_iff_eq]; omega
  clear n3
  by_cases n4 : ¬ r.tags.length = 0
  · have g4 : ((r.tags.length : Int) == 0) = false := by rw [beq_eq_false_iff_ne]; omega
    have hres : Hid (shapeB r false false false false k = false) := by
      show _ = _
      simp [shapeB, n4]
    clear q1 q2 q3 n4
    go_enter Try.func107, Try.ntmps107
    go_wp2
    go_ret
    exact ⟨ret_bool hres.out.symm, (Below.refl _ _).alloc (Nat.le_refl _) _⟩
  have q4 : r.tags.length = 0 := Classical.not_not.1 n4
  have g4 : ((r.tags.length : Int) == 0) = true := by rw [beq_iff_eq]; omega
  clear n4
  by_cases n5 : ¬ (r.kids.length : Int) = k
  · have g5 : ((r.kids.length : Int) == k) = false := by rw [beq_eq_false_iff_ne]; exact n5
    have hres : Hid (shapeB r false false false false k = false) := by
      show _ = _
      simp [shapeB, n5, gk]
    clear q1 q2 q3 q4 n5
    go_enter Try.func107, Try.ntmps107
    go_wp2
    go_ret
    exact ⟨ret_bool hres.out.symm, (Below.refl _ _).alloc (Nat.le_refl _) _⟩
  have q5 : (r.kids.length : Int) = k := Classical.not_not.1 n5
  have g5 : ((r.kids.length : Int) == k) = true := by rw [beq_iff_eq]; exact q5
  clear n5
  cases q6 : r.little with
  | false =>
    have hres : Hid (shapeB r false false false false k = true) := by
      show _ = _
      simp [shapeB, q1, q2, q3, q4, q5, q6]
    clear q1 q2 q3 q4 q5
    go_enter Try.func107, Try.ntmps107
    go_wp2
    go_ret
    exact ⟨ret_bool hres.out.symm, (Below.refl _ _).alloc (Nat.le_refl _) _⟩
  | true =>
    by_cases q7 : r.kind = 1
    · have g7 : (r.kind == 1) = true := by rw [beq_iff_eq]; exact q7
      have hres : Hid (shapeB r false false false false k = true) := by
        show _ = _
        simp [shapeB, q1, q2, q3, q4, q5, q7]
      clear q1 q2 q3 q4 q5 q7
      go_enter Try.func107, Try.ntmps107
      go_wp2
      go_ret
      exact ⟨ret_bool hres.out.symm, (Below.refl _ _).alloc (Nat.le_refl _) _⟩
    · have g7 : (r.kind == 1) = false := by rw [beq_eq_false_iff_ne]; exact q7
      have hres : Hid (shapeB r false false false false k = false) := by
        show _ = _
        simp [shapeB, q6, q7]
      clear q1 q2 q3 q4 q5 q7
      go_enter Try.func107, Try.ntmps107
      go_wp2
      go_ret
      exact ⟨ret_bool hres.out.symm, (Below.refl _ _).alloc (Nat.le_refl _) _⟩
set_option maxRecDepth 100000 in
set_option maxHeartbeats 2000000 in
theorem shape_names (r : RuleV) (cs : List Value) (k : Int) (w : World) (h : IsRule r cs w) (hk : 0 ≤ k) :
    Calls Try.prog 107 #[.agg cs.toArray, .bool false, .bool false, .bool true, .bool false, .int .i64 k] w fun e w' => e = .returned (.bool (shapeB r false false true false k)) ∧ Below w.heap.size w w' := by
  obtain ⟨a4, c4, a5, c5, a6, c6, a7, c7, rfl, -⟩ := h
  have gk : ¬ k < 0 := by omega
  by_cases n1 : ¬ r.size = 0
  · have g1 : (r.size == 0) = false := by rw [beq_eq_false_iff_ne]; omega
    have hres : Hid (shapeB r false false true false k = false) := by
      show _ = _
      simp [shapeB, n1]
    clear n1
    go_enter Try.func107, Try.ntmps107
    go_wp2
    go_ret
    exact ⟨ret_bool hres.out.symm, (Below.refl _ _).alloc (Nat.le_refl _) _⟩
  have q1 : r.size = 0 := Classical.not_not.1 n1
  have g1 : (r.size == 0) = true := by rw [beq_iff_eq]; omega
  clear n1
  by_cases n2 : ¬ r.bytes.length = 0
  · have g2 : ((r.bytes.length : Int) == 0) = false := by rw [beq_eq_false_iff_ne]; omega
    have hres : Hid (shapeB r false false true false k = false) := by
      show _ = _
      simp [shapeB, n2]
    clear q1 n2
    go_enter Try.func107, Try.ntmps107
    go_wp2
    go_ret
    exact ⟨ret_bool hres.out.symm, (Below.refl _ _).alloc (Nat.le_refl _) _⟩
  have q2 : r.bytes.length = 0 := Classical.not_not.1 n2
  have g2 : ((r.bytes.length : Int) == 0) = true := by rw [beq_iff_eq]; omega
  clear n2
  by_cases n4 : ¬ r.tags.length = 0
  · have g4 : ((r.tags.length : Int) == 0) = false := by rw [beq_eq_false_iff_ne]; omega
    have hres : Hid (shapeB r false false true false k = false) := by
      show _ = _
      simp [shapeB, n4]
    clear q1 q2 n4
    go_enter Try.func107, Try.ntmps107
    go_wp2
    go_ret
    exact ⟨ret_bool hres.out.symm, (Below.refl _ _).alloc (Nat.le_refl _) _⟩
  have q4 : r.tags.length = 0 := Classical.not_not.1 n4
  have g4 : ((r.tags.length : Int) == 0) = true := by rw [beq_iff_eq]; omega
  clear n4
  by_cases n5 : ¬ (r.kids.length : Int) = k
  · have g5 : ((r.kids.length : Int) == k) = false := by rw [beq_eq_false_iff_ne]; exact n5
    have hres : Hid (shapeB r false false true false k = false) := by
      show _ = _
      simp [shapeB, n5, gk]
    clear q1 q2 q4 n5
    go_enter Try.func107, Try.ntmps107
    go_wp2
    go_ret
    exact ⟨ret_bool hres.out.symm, (Below.refl _ _).alloc (Nat.le_refl _) _⟩
  have q5 : (r.kids.length : Int) = k := Classical.not_not.1 n5
  have g5 : ((r.kids.length : Int) == k) = true := by rw [beq_iff_eq]; exact q5
  clear n5
  cases q6 : r.little with
  | false =>
    have hres : Hid (shapeB r false false true false k = true) := by
      show _ = _
      simp [shapeB, q1, q2, q4, q5, q6]
    clear q1 q2 q4 q5
    go_enter Try.func107, Try.ntmps107
    go_wp2
    go_ret
    exact ⟨ret_bool hres.out.symm, (Below.refl _ _).alloc (Nat.le_refl _) _⟩
  | true =>
    by_cases q7 : r.kind = 1
    · have g7 : (r.kind == 1) = true := by rw [beq_iff_eq]; exact q7
      have hres : Hid (shapeB r false false true false k = true) := by
        show _ = _
        simp [shapeB, q1, q2, q4, q5, q7]
      clear q1 q2 q4 q5 q7
      go_enter Try.func107, Try.ntmps107
      go_wp2
      go_ret
      exact ⟨ret_bool hres.out.symm, (Below.refl _ _).alloc (Nat.le_refl _) _⟩
    · have g7 : (r.kind == 1) = false := by rw [beq_eq_false_iff_ne]; exact q7
      have hres : Hid (shapeB r false false true false k = false) := by
        show _ = _
        simp [shapeB, q6, q7]
      clear q1 q2 q4 q5 q7
      go_enter Try.func107, Try.ntmps107
      go_wp2
      go_ret
      exact ⟨ret_bool hres.out.symm, (Below.refl _ _).alloc (Nat.le_refl _) _⟩
set_option maxRecDepth 100000 in
set_option maxHeartbeats 2000000 in
theorem shape_tags (r : RuleV) (cs : List Value) (w : World) (h : IsRule r cs w) :
    Calls Try.prog 107 #[.agg cs.toArray, .bool false, .bool false, .bool false, .bool true, .int .i64 (-1)] w fun e w' => e = .returned (.bool (shapeB r false false false true (-1))) ∧ Below w.heap.size w w' := by
  obtain ⟨a4, c4, a5, c5, a6, c6, a7, c7, rfl, -⟩ := h
  by_cases n1 : ¬ r.size = 0
  · have g1 : (r.size == 0) = false := by rw [beq_eq_false_iff_ne]; omega
    have hres : Hid (shapeB r false false false true (-1) = false) := by
      show _ = _
      simp [shapeB, n1]
    clear n1
    go_enter Try.func107, Try.ntmps107
    go_wp2
    go_ret
    exact ⟨ret_bool hres.out.symm, (Below.refl _ _).alloc (Nat.le_refl _) _⟩
  have q1 : r.size = 0 := Classical.not_not.1 n1
  have g1 : (r.size == 0) = true := by rw [beq_iff_eq]; omega
  clear n1
  by_cases n2 : ¬ r.bytes.length = 0
  · have g2 : ((r.bytes.length : Int) == 0) = false := by rw [beq_eq_false_iff_ne]; omega
    have hres : Hid (shapeB r false false false true (-1) = false) := by
      show _ = _
      simp [shapeB, n2]
    clear q1 n2
    go_enter Try.func107, Try.ntmps107
    go_wp2
    go_ret
    exact ⟨ret_bool hres.out.symm, (Below.refl _ _).alloc (Nat.le_refl _) _⟩
  have q2 : r.bytes.length = 0 := Classical.not_not.1 n2
  have g2 : ((r.bytes.length : Int) == 0) = true := by rw [beq_iff_eq]; omega
  clear n2
  by_cases n3 : ¬ r.names.length = 0
  · have g3 : ((r.names.length : Int) == 0) = false := by rw [beq_eq_false_iff_ne]; omega
    have hres : Hid (shapeB r false false false true (-1) = false) := by
      show _ = _
      simp [shapeB, n3]
    clear q1 q2 n3
    go_enter Try.func107, Try.ntmps107
    go_wp2
    go_ret
    exact ⟨ret_bool hres.out.symm, (Below.refl _ _).alloc (Nat.le_refl _) _⟩
  have q3 : r.names.length = 0 := Classical.not_not.1 n3
  have g3 : ((r.names.length : Int) == 0) = true := by rw [beq_iff_eq]; omega
  clear n3
  cases q6 : r.little with
  | false =>
    have hres : Hid (shapeB r false false false true (-1) = true) := by
      show _ = _
      simp [shapeB, q1, q2, q3, q6]
    clear q1 q2 q3
    go_enter Try.func107, Try.ntmps107
    go_wp2
    go_ret
    exact ⟨ret_bool hres.out.symm, (Below.refl _ _).alloc (Nat.le_refl _) _⟩
  | true =>
    by_cases q7 : r.kind = 1
    · have g7 : (r.kind == 1) = true := by rw [beq_iff_eq]; exact q7
      have hres : Hid (shapeB r false false false true (-1) = true) := by
        show _ = _
        simp [shapeB, q1, q2, q3, q7]
      clear q1 q2 q3 q7
      go_enter Try.func107, Try.ntmps107
      go_wp2
      go_ret
      exact ⟨ret_bool hres.out.symm, (Below.refl _ _).alloc (Nat.le_refl _) _⟩
    · have g7 : (r.kind == 1) = false := by rw [beq_eq_false_iff_ne]; exact q7
      have hres : Hid (shapeB r false false false true (-1) = false) := by
        show _ = _
        simp [shapeB, q6, q7]
      clear q1 q2 q3 q7
      go_enter Try.func107, Try.ntmps107
      go_wp2
      go_ret
      exact ⟨ret_bool hres.out.symm, (Below.refl _ _).alloc (Nat.le_refl _) _⟩
end Go.Proofs.Ytefkhknfjohnaaa
namespace Go.Proofs.Ytefkhknfjohnaaa
open Go Go.RowKit
set_option maxRecDepth 100000 in
theorem eqt_lib (a b : Option Addr) (bs cs : List ByteArray) (ca cb : Nat) (w : World) (hl : bs.length ≤ 1099511627776) (ha : RdS a bs w) (hb : RdS b cs w) :
    Calls Try.prog 116 #[.slice a bs.length ca, .slice b cs.length cb] w (EqOutS bs cs w) := by
  have HA := Lib.hid ha
  have HB := Lib.hid hb
  clear ha hb
  by_cases hlen : bs.length = cs.length
  · have h1 : ((bs.length : Int) != (cs.length : Int)) = false := by simp [hlen]
    have HL := Lib.hid hlen
    have hle : cs.length ≤ bs.length := by omega
    have hge : bs.length ≤ cs.length := by omega
    clear hlen
    go_enter Try.func116, Try.ntmps116
    go_wp2
    clear h1
    go_loopw [13] (fun i W => ∃ k n : Nat, k ≤ bs.length ∧ i = .int .i64 k ∧ W = w.drewN n ∧ Hid (bs.take k = cs.take k)) (fun i _ => bs.length - (intOf i).toNat)
    case atStart => exact ⟨0, 0, Nat.zero_le _, rfl, rfl, rfl⟩
    case round =>
      obtain ⟨k, n, hk, rfl, rfl, ht⟩ := hrel
      have k0 : (0 : Int) ≤ (k : Int) := by omega
      by_cases hlt : k < bs.length
      · obtain ⟨b1, o1, rfl, c1⟩ := HA.out k hlt
        obtain ⟨b2, o2, rfl, c2⟩ := HB.out k (by omega)
        have k1 : (k : Int) < (bs.length : Int) := by omega
        have k2 : (k : Int) < (cs.length : Int) := by omega
        by_cases he : bs[k] = cs[k]
        · have ht' := Lib.hid (takeNext ht.out hlt (by omega) he)
          rw [← he] at c2
          clear he
          generalize bs[k] = x at c1 c2
          go_wp2
          go_quiet (fail)
          go_wp2
          go_roundw
          case rel => exact ⟨k + 1, _, by omega, by go_num, rfl, ht'⟩
          case measure => simp [intOf]; omega
        · have hne := Lib.hid (takeNot hlt (by omega) he)
          have he' : Hid (bs[k] ≠ cs[k]) := he
          clear he
          generalize bs[k] = x at c1 he'
          generalize cs[k] = y at c2 he'
          have e1 := str_ne he'.out
          go_wp2
          go_quiet (fail)
          go_wp2
          go_ret
          exact ⟨ret_bool (decide_eq_false hne.out).symm, _, by rw [World.drewN_drewN]⟩
      · have k1 : ¬ (k : Int) < (bs.length : Int) := by omega
        have heq : Hid (bs = cs) := by
          have h2 := ht.out
          rw [List.take_of_length_le (by omega), List.take_of_length_le (by omega)] at h2
          exact h2
        go_wp2
        go_ret
        exact ⟨ret_bool (decide_eq_true heq.out).symm, _, rfl⟩
  · have h1 : ((bs.length : Int) != (cs.length : Int)) = true := by simp; omega
    have hne : Hid (bs ≠ cs) := fun h => hlen (by rw [h])
    clear hlen
    go_enter Try.func116, Try.ntmps116
    go_wp2
    go_ret
    exact ⟨ret_bool (decide_eq_false hne.out).symm, 0, rfl⟩
set_option maxRecDepth 100000 in
theorem eqi_lib (a b : Option Addr) (bs cs : List Int) (ca cb : Nat) (w : World) (hl : bs.length ≤ 1099511627776) (ha : RdI a bs w) (hb : RdI b cs w) :
    Calls Try.prog 117 #[.slice a bs.length ca, .slice b cs.length cb] w (EqOutI bs cs w) := by
  have HA := Lib.hid ha
  have HB := Lib.hid hb
  clear ha hb
  by_cases hlen : bs.length = cs.length
  · have h1 : ((bs.length : Int) != (cs.length : Int)) = false := by simp [hlen]
    have HL := Lib.hid hlen
    have hle : cs.length ≤ bs.length := by omega
    have hge : bs.length ≤ cs.length := by omega
    clear hlen
    go_enter Try.func117, Try.ntmps117
    go_wp2
    clear h1
    go_loopw [13] (fun i W => ∃ k n : Nat, k ≤ bs.length ∧ i = .int .i64 k ∧ W = w.drewN n ∧ Hid (bs.take k = cs.take k)) (fun i _ => bs.length - (intOf i).toNat)
    case atStart => exact ⟨0, 0, Nat.zero_le _, rfl, rfl, rfl⟩
    case round =>
      obtain ⟨k, n, hk, rfl, rfl, ht⟩ := hrel
      have k0 : (0 : Int) ≤ (k : Int) := by omega
      by_cases hlt : k < bs.length
      · obtain ⟨b1, o1, rfl, c1⟩ := HA.out k hlt
        obtain ⟨b2, o2, rfl, c2⟩ := HB.out k (by omega)
        have k1 : (k : Int) < (bs.length : Int) := by omega
        have k2 : (k : Int) < (cs.length : Int) := by omega
        by_cases he : bs[k] = cs[k]
        · have ht' := Lib.hid (takeNext ht.out hlt (by omega) he)
          rw [← he] at c2
          clear he
          generalize bs[k] = x at c1 c2
          go_wp2
          go_quiet (fail)
          go_wp2
          go_roundw
          case rel => exact ⟨k + 1, _, by omega, by go_num, rfl, ht'⟩
          case measure => simp [intOf]; omega
        · have hne := Lib.hid (takeNot hlt (by omega) he)
          have he' : Hid (bs[k] ≠ cs[k]) := he
          clear he
          generalize bs[k] = x at c1 he'
          generalize cs[k] = y at c2 he'
          have e1 : (x != y) = true := by simpa using he'.out
          go_wp2
          go_quiet (fail)
          go_wp2
          go_ret
          exact ⟨ret_bool (decide_eq_false hne.out).symm, _, by rw [World.drewN_drewN]⟩
      · have k1 : ¬ (k : Int) < (bs.length : Int) := by omega
        have heq : Hid (bs = cs) := by
          have h2 := ht.out
          rw [List.take_of_length_le (by omega), List.take_of_length_le (by omega)] at h2
          exact h2
        go_wp2
        go_ret
        exact ⟨ret_bool (decide_eq_true heq.out).symm, _, rfl⟩
  · have h1 : ((bs.length : Int) != (cs.length : Int)) = true := by simp; omega
    have hne : Hid (bs ≠ cs) := fun h => hlen (by rw [h])
    clear hlen
    go_enter Try.func117, Try.ntmps117
    go_wp2
    go_ret
    exact ⟨ret_bool (decide_eq_false hne.out).symm, 0, rfl⟩
theorem Rd.bytesIn {a : Option Addr} {bs : List UInt8} {w : World} (h : Rd a bs w) : Lib.BytesIn w a bs.length (bs.map fun b => (b.toNat : Int)) := fun h0 => by
  obtain ⟨b, off, ha, _⟩ := h 0 h0
  refine ⟨b, off, ha, fun i hi => ?_⟩
  obtain ⟨b2, off2, ha2, hc⟩ := h i hi
  rw [ha] at ha2
  injection ha2 with ha2
  injection ha2 with e1 e2
  subst e1 e2
  rw [hc]
  simp [List.getD, hi]
theorem bytesOf_map (bs : List UInt8) : Lib.bytesOf (bs.map fun b => (b.toNat : Int)) = bs := by
  unfold Lib.bytesOf
  rw [List.map_map]
  conv => rhs; rw [← List.map_id bs]
  apply List.map_congr_left
  intro b _
  simp
theorem eqb_impl (a : Option Addr) (bs : List UInt8) (ca : Nat) (b : Option Addr) (cs : List UInt8) (cb : Nat) (w : World) (_hl : bs.length ≤ 1099511627776) (ha : Rd a bs w) (_hm : cs.length ≤ 1099511627776) (hb : Rd b cs w) :
    Calls Try.prog 53 #[.slice a bs.length ca, .slice b cs.length cb] w fun e w' => e = .returned (.bool (decide (bs = cs))) ∧ Below w.heap.size w w' := by
  have HA := Lib.hid ha.bytesIn
  have HB := Lib.hid hb.bytesIn
  clear ha hb
  go_enter Try.func53, Try.ntmps53
  go_wp2_with fail
  refine (Try.bytes_Equal_all a b bs.length ca cs.length cb _ _ w (by simp) (by simp) HA.out HB.out).mono ?_
  rintro e w1 ⟨rfl, rfl⟩
  rw [bytesOf_map, bytesOf_map]
  have hd := Lib.hid (show (bs == cs) = decide (bs = cs) by by_cases h : bs = cs <;> simp [h])
  generalize (bs == cs) = q at *
  go_wp2_with fail
  go_ret
  exact ⟨ret_bool hd.out, Below.refl _ _⟩
end Go.Proofs.Ytefkhknfjohnaaa
namespace Go.Proofs.Ytefkhknfjohnaaa
open Go Go.RowKit
/-- The block of a slice that is not empty. -/
def sliceBlk : Value → List Nat
  | .slice (some a) n _ => if n = 0 then [] else [a.block]
  | _ => []
/-- Eight cells hold this rule, its slices in new blocks, each its own. -/
def OwnRule (lo hi : Nat) (r : RuleV) (cs : List Value) (w : World) : Prop :=
  ∃ a4 c4 a5 c5 a6 c6 a7 c7, cs = [.string r.name, .int .i64 r.kind, .int .i64 r.size, .bool r.little, .slice a4 r.bytes.length c4, .slice a5 r.names.length c5, .slice a6 r.tags.length c6, .slice a7 r.kids.length c7] ∧
    Row lo a4 r.bytes c4 w ∧ RowF Value.string lo a5 r.names c5 w ∧ RowF (Value.int .i64) lo a6 r.tags c6 w ∧ RowF (Value.int .i64) lo a7 r.kids c7 w ∧ (cs.flatMap sliceBlk).Nodup ∧ ∀ b ∈ cs.flatMap sliceBlk, lo ≤ b ∧ b < hi
theorem OwnRule.is {lo hi : Nat} {r : RuleV} {cs : List Value} {w : World} (h : OwnRule lo hi r cs w) : IsRule r cs w := by
  obtain ⟨a4, c4, a5, c5, a6, c6, a7, c7, e, h4, h5, h6, h7, _⟩ := h
  exact ⟨a4, c4, a5, c5, a6, c6, a7, c7, e, h4.rd, h5.rd, h6.rd, h7.rd⟩
theorem OwnRule.below {lo hi : Nat} {r : RuleV} {cs : List Value} {w w' : World} (h : OwnRule lo hi r cs w) (hb : Below w.heap.size w w') : OwnRule lo hi r cs w' := by
  obtain ⟨a4, c4, a5, c5, a6, c6, a7, c7, e, h4, h5, h6, h7, h8⟩ := h
  exact ⟨a4, c4, a5, c5, a6, c6, a7, c7, e, h4.below hb, h5.below hb, h6.below hb, h7.below hb, h8⟩
/-- The row lies in blocks from lo on and below hi, if it holds anything. -/
def Lies (lo hi : Nat) (a : Option Addr) (n : Nat) : Prop := n = 0 ∨ ∃ b off, a = some ⟨b, off, none⟩ ∧ lo ≤ b ∧ b < hi
theorem Lies.blk {lo hi : Nat} {a : Option Addr} {n c : Nat} (h : Lies lo hi a n) : ∀ b ∈ sliceBlk (.slice a n c), lo ≤ b ∧ b < hi := fun b hb => by
  rcases h with rfl | ⟨b', off, rfl, h1, h2⟩
  · cases a <;> simp [sliceBlk] at hb
  · by_cases hn : n = 0
    · subst hn; simp [sliceBlk] at hb
    · simp only [sliceBlk, if_neg hn, List.mem_singleton] at hb
      subst hb
      exact ⟨h1, h2⟩
theorem sliceBlk_nodup (a : Option Addr) (n c : Nat) : (sliceBlk (.slice a n c)).Nodup := by
  unfold sliceBlk
  split
  · split <;> simp
  · simp
theorem FreshF.lies {α : Type} {f : α → Value} {lo : Nat} {a : Option Addr} {xs : List α} {w : World} (h : FreshF f lo a xs w) : Lies lo w.heap.size a xs.length := by
  cases xs with
  | nil => exact .inl rfl
  | cons x r =>
    rcases h with h | ⟨b, off, ha, hB, hc⟩
    · cases h
    · exact .inr ⟨b, off, ha, hB, cell_lt (hc 0 (by simp)).1⟩
theorem Fresh.lies {lo : Nat} {a : Option Addr} {xs : List UInt8} {w : World} (h : Fresh lo a xs w) : Lies lo w.heap.size a xs.length := by
  cases xs with
  | nil => exact .inl rfl
  | cons x r =>
    rcases h with h | ⟨b, off, ha, hB, hc⟩
    · cases h
    · exact .inr ⟨b, off, ha, hB, cell_lt (hc 0 (by simp)).1⟩
theorem four_blks {r : RuleV} {p0 p1 p2 p3 p4 : Nat} {a4 a5 a6 a7 : Option Addr} {n4 n5 n6 n7 c4 c5 c6 c7 : Nat} (h4 : Lies p0 p1 a4 n4) (h5 : Lies p1 p2 a5 n5) (h6 : Lies p2 p3 a6 n6) (h7 : Lies p3 p4 a7 n7) (q0 : p0 ≤ p1) (q1 : p1 ≤ p2) (q2 : p2 ≤ p3) (q3 : p3 ≤ p4) :
    let cs : List Value := [.string r.name, .int .i64 r.kind, .int .i64 r.size, .bool r.little, .slice a4 n4 c4, .slice a5 n5 c5, .slice a6 n6 c6, .slice a7 n7 c7]
    (cs.flatMap sliceBlk).Nodup ∧ ∀ b ∈ cs.flatMap sliceBlk, p0 ≤ b ∧ b < p4 := by
  have b4 := h4.blk (c := c4)
  have b5 := h5.blk (c := c5)
  have b6 := h6.blk (c := c6)
  have b7 := h7.blk (c := c7)
  have e : ([.string r.name, .int .i64 r.kind, .int .i64 r.size, .bool r.little, .slice a4 n4 c4, .slice a5 n5 c5, .slice a6 n6 c6, .slice a7 n7 c7] : List Value).flatMap sliceBlk = sliceBlk (.slice a4 n4 c4) ++ (sliceBlk (.slice a5 n5 c5) ++ (sliceBlk (.slice a6 n6 c6) ++ sliceBlk (.slice a7 n7 c7))) := by
    simp only [List.flatMap_cons, List.flatMap_nil, List.append_nil]
    rfl
  intro cs
  show (List.flatMap sliceBlk _).Nodup ∧ _
  rw [e]
  refine ⟨?_, ?_⟩
  · refine List.nodup_append.2 ⟨sliceBlk_nodup _ _ _, List.nodup_append.2 ⟨sliceBlk_nodup _ _ _, List.nodup_append.2 ⟨sliceBlk_nodup _ _ _, sliceBlk_nodup _ _ _, ?_⟩, ?_⟩, ?_⟩
    · intro x hx y hy
      have := b6 x hx; have := b7 y hy; omega
    · intro x hx y hy
      have := b5 x hx
      rcases List.mem_append.1 hy with hy | hy
      · have := b6 y hy; omega
      · have := b7 y hy; omega
    · intro x hx y hy
      have := b4 x hx
      rcases List.mem_append.1 hy with hy | hy
      · have := b5 y hy; omega
      · rcases List.mem_append.1 hy with hy | hy
        · have := b6 y hy; omega
        · have := b7 y hy; omega
  · intro b hb
    simp only [List.mem_append] at hb
    rcases hb with hb | hb | hb | hb
    · have := b4 b hb; omega
    · have := b5 b hb; omega
    · have := b6 b hb; omega
    · have := b7 b hb; omega
theorem Fresh.setFar {B c i : Nat} {a : Option Addr} {bs : List UInt8} {w : World} {v : Value} (h : Fresh B a bs w) (hc : c < B) : Fresh B a bs (w.setCell ⟨c, i, none⟩ v) := by
  rcases h with rfl | ⟨b, off, ha, hB, hcell⟩
  · exact .inl rfl
  · exact Fresh.grown (.inr ⟨b, off, ha, hB, hcell⟩) (grown_set (grown_refl w c) i v) (fun b' off' ha' _ => by rw [ha] at ha'; injection ha' with ha'; injection ha' with e; omega)
theorem Row.setFar {B c i cap : Nat} {a : Option Addr} {bs : List UInt8} {w : World} {v : Value} (h : Row B a bs cap w) (hc : c < B) : Row B a bs cap (w.setCell ⟨c, i, none⟩ v) := ⟨h.1.setFar hc, h.2⟩
theorem FreshF.setFar {α : Type} {f : α → Value} {B c i : Nat} {a : Option Addr} {bs : List α} {w : World} {v : Value} (h : FreshF f B a bs w) (hc : c < B) : FreshF f B a bs (w.setCell ⟨c, i, none⟩ v) := by
  rcases h with rfl | ⟨b, off, ha, hB, hcell⟩
  · exact .inl rfl
  · exact FreshF.grown (.inr ⟨b, off, ha, hB, hcell⟩) (grown_set (grown_refl w c) i v) (fun b' off' ha' _ => by rw [ha] at ha'; injection ha' with ha'; injection ha' with e; omega)
theorem RowF.setFar {α : Type} {f : α → Value} {B c i cap : Nat} {a : Option Addr} {bs : List α} {w : World} {v : Value} (h : RowF f B a bs cap w) (hc : c < B) : RowF f B a bs cap (w.setCell ⟨c, i, none⟩ v) := ⟨h.1.setFar hc, h.2⟩
/-- The lists in a rule are not too long. -/
def Short (r : RuleV) : Prop := r.bytes.length ≤ 1048576 ∧ r.names.length ≤ 1048576 ∧ r.tags.length ≤ 1048576 ∧ r.kids.length ≤ 1048576
theorem OwnRule.setFar {lo hi c i : Nat} {r : RuleV} {cs : List Value} {w : World} {v : Value} (h : OwnRule lo hi r cs w) (hc : c < lo) : OwnRule lo hi r cs (w.setCell ⟨c, i, none⟩ v) := by
  obtain ⟨a4, c4, a5, c5, a6, c6, a7, c7, e, h4, h5, h6, h7, h8⟩ := h
  exact ⟨a4, c4, a5, c5, a6, c6, a7, c7, e, h4.setFar hc, h5.setFar hc, h6.setFar hc, h7.setFar hc, h8⟩
theorem OwnRule.more {lo lo' hi hi' : Nat} {r : RuleV} {cs : List Value} {w : World} (h : OwnRule lo hi r cs w) (hl : lo' ≤ lo) (hh : hi ≤ hi') : OwnRule lo' hi' r cs w := by
  obtain ⟨a4, c4, a5, c5, a6, c6, a7, c7, e, h4, h5, h6, h7, h8, h9⟩ := h
  exact ⟨a4, c4, a5, c5, a6, c6, a7, c7, e, h4.more hl, h5.more hl, h6.more hl, h7.more hl, h8, fun b hb => by have := h9 b hb; omega⟩
/-- A rule in new memory comes back. -/
def RuleOut (r : RuleV) (w : World) (e : Ending) (w' : World) : Prop := ∃ cs, e = .returned (.agg cs.toArray) ∧ OwnRule w.heap.size w'.heap.size r cs w' ∧ Below w.heap.size w w'
set_option maxRecDepth 100000 in
set_option maxHeartbeats 1000000 in
theorem to_rule (r : RuleV) (cs : List Value) (w : World) (hs : Short r) (h : IsRule r cs w) :
    Calls Try.prog 61 #[.agg cs.toArray] w (RuleOut r w) := by
  obtain ⟨a4, c4, a5, c5, a6, c6, a7, c7, rfl, h4, h5, h6, h7⟩ := h
  obtain ⟨s4, s5, s6, s7⟩ := hs
  have H4 := Lib.hid h4
  have H5 := Lib.hid h5
  have H6 := Lib.hid h6
  have H7 := Lib.hid h7
  clear h4 h5 h6 h7
  obtain ⟨w0, hw0⟩ : ∃ w0, w0 = ((w.alloc (.cells [.string r.name, .int .i64 r.kind, .int .i64 r.size, .bool r.little, .slice a4 r.bytes.length c4, .slice a5 r.names.length c5, .slice a6 r.tags.length c6, .slice a7 r.kids.length c7].toArray 83)).alloc (.cells [.string ⟨#[]⟩, .int .i64 0, .int .i64 0, .bool false, .slice none 0 0, .slice none 0 0, .slice none 0 0, .slice none 0 0].toArray 76)).alloc (.cells [.string r.name, .int .i64 r.kind, .int .i64 r.size, .bool r.little, .slice none 0 0, .slice none 0 0, .slice none 0 0, .slice none 0 0].toArray 76) := ⟨_, rfl⟩
  have hz0 : w0.heap.size = w.heap.size + 3 := by subst hw0; simp
  have hB0 : Below w.heap.size w w0 := by
    subst hw0
    exact (((Below.refl _ w).alloc (Nat.le_refl _) _).alloc (by simp) _).alloc (by simp; omega) _
  have I0 : CellsAt w.heap.size [.string r.name, .int .i64 r.kind, .int .i64 r.size, .bool r.little, .slice a4 r.bytes.length c4, .slice a5 r.names.length c5, .slice a6 r.tags.length c6, .slice a7 r.kids.length c7] w0 := by
    subst hw0
    exact ((CellsAt.new w _ _).below ((Below.refl _ _).alloc (Nat.le_refl _) _)).below ((Below.refl _ _).alloc (Nat.le_refl _) _)
  have Z0 : CellsAt (w.heap.size + 1) [.string ⟨#[]⟩, .int .i64 0, .int .i64 0, .bool false, .slice none 0 0, .slice none 0 0, .slice none 0 0, .slice none 0 0] w0 := by
    subst hw0
    have h1 := CellsAt.new (w.alloc (.cells (List.toArray [.string r.name, .int .i64 r.kind, .int .i64 r.size, .bool r.little, .slice a4 r.bytes.length c4, .slice a5 r.names.length c5, .slice a6 r.tags.length c6, .slice a7 r.kids.length c7]) 83)) [.string ⟨#[]⟩, .int .i64 0, .int .i64 0, .bool false, .slice none 0 0, .slice none 0 0, .slice none 0 0, .slice none 0 0] 76
    simp only [World.size_alloc] at h1
    exact h1.below ((Below.refl _ _).alloc (Nat.le_refl _) _)
  have O0 : CellsAt (w.heap.size + 2) [.string r.name, .int .i64 r.kind, .int .i64 r.size, .bool r.little, .slice none 0 0, .slice none 0 0, .slice none 0 0, .slice none 0 0] w0 := by
    subst hw0
    have h1 := CellsAt.new ((w.alloc (.cells (List.toArray [.string r.name, .int .i64 r.kind, .int .i64 r.size, .bool r.little, .slice a4 r.bytes.length c4, .slice a5 r.names.length c5, .slice a6 r.tags.length c6, .slice a7 r.kids.length c7]) 83)).alloc (.cells (List.toArray [.string ⟨#[]⟩, .int .i64 0, .int .i64 0, .bool false, .slice none 0 0, .slice none 0 0, .slice none 0 0, .slice none 0 0]) 76)) [.string r.name, .int .i64 r.kind, .int .i64 r.size, .bool r.little, .slice none 0 0, .slice none 0 0, .slice none 0 0, .slice none 0 0] 76
    simp only [World.size_alloc] at h1
    exact h1
  go_enter Try.func61, Try.ntmps61
  have HB0 := Lib.hid hB0
  have HI0 := Lib.hid I0
  have HZ0 := Lib.hid Z0
  have HO0 := Lib.hid O0
  clear hB0 I0 Z0 O0
  go_wp2_with fail
  rw [← hw0]
  clear hw0
  refine (to_any a4 r.bytes c4 _ (by omega) (H4.out.below HB0.out)).mono ?_
  rintro e w1 ⟨x4, y4, rfl, hr1, hb1⟩
  have hs1 := hb1.size
  have HLi4 := Lib.hid hr1.1.lies
  have I1 := HI0.out.below hb1
  have Z1 := HZ0.out.below hb1
  have O1 := HO0.out.below hb1
  obtain ⟨v1, hv1⟩ : ∃ v, v = w1.setCell ⟨w.heap.size + 2, 4, none⟩ (.slice x4 r.bytes.length y4) := ⟨_, rfl⟩
  have hvs1 : v1.heap.size = w1.heap.size := by subst hv1; simp
  have HI1 := Lib.hid (I1.far (b' := w.heap.size + 2) (j := 4) (v := (.slice x4 r.bytes.length y4)) (by omega))
  rw [← hv1] at HI1
  have HZ1 := Lib.hid (Z1.far (b' := w.heap.size + 2) (j := 4) (v := (.slice x4 r.bytes.length y4)) (by omega))
  rw [← hv1] at HZ1
  have HO1 := Lib.hid (O1.set 4 (.slice x4 r.bytes.length y4) (by simp))
  rw [← hv1] at HO1
  simp only [List.set] at HO1
  have HB1 : Hid (Below w.heap.size w v1) := by subst hv1; exact (HB0.out.trans (hb1.mono (by omega))).setCell (p := ⟨w.heap.size + 2, 4, none⟩) (by simp) _
  have R4 := Lib.hid (hr1.setFar (c := w.heap.size + 2) (i := 4) (v := .slice x4 r.bytes.length y4) (by omega))
  rw [← hv1] at R4
  obtain ⟨i5, -⟩ := I1 5 _ rfl
  obtain ⟨o4, p4⟩ := O1 4 _ rfl
  clear hr1 hb1 I1 Z1 O1 HI0 HZ0 HO0
  go_wp2_with fail
  rw [← hv1]
  clear hv1 i5 o4 p4
  refine (to_strs a5 r.names c5 _ (by omega) (H5.out.below HB1.out)).mono ?_
  rintro e w2 ⟨x5, y5, rfl, hr2, hb2⟩
  have hs2 := hb2.size
  have HLi5 := Lib.hid hr2.1.lies
  have R4a := Lib.hid (R4.out.below hb2)
  clear R4
  have I2 := HI1.out.below hb2
  have Z2 := HZ1.out.below hb2
  have O2 := HO1.out.below hb2
  obtain ⟨v2, hv2⟩ : ∃ v, v = w2.setCell ⟨w.heap.size + 2, 5, none⟩ (.slice x5 r.names.length y5) := ⟨_, rfl⟩
  have hvs2 : v2.heap.size = w2.heap.size := by subst hv2; simp
  have HI2 := Lib.hid (I2.far (b' := w.heap.size + 2) (j := 5) (v := (.slice x5 r.names.length y5)) (by omega))
  rw [← hv2] at HI2
  have HZ2 := Lib.hid (Z2.far (b' := w.heap.size + 2) (j := 5) (v := (.slice x5 r.names.length y5)) (by omega))
  rw [← hv2] at HZ2
  have HO2 := Lib.hid (O2.set 5 (.slice x5 r.names.length y5) (by simp))
  rw [← hv2] at HO2
  simp only [List.set] at HO2
  have HB2 : Hid (Below w.heap.size w v2) := by subst hv2; exact (HB1.out.trans (hb2.mono (by omega))).setCell (p := ⟨w.heap.size + 2, 5, none⟩) (by simp) _
  have R4 := Lib.hid (R4a.out.setFar (c := w.heap.size + 2) (i := 5) (v := .slice x5 r.names.length y5) (by omega))
  rw [← hv2] at R4
  clear R4a
  have R5 := Lib.hid (hr2.setFar (c := w.heap.size + 2) (i := 5) (v := .slice x5 r.names.length y5) (by omega))
  rw [← hv2] at R5
  obtain ⟨i6, -⟩ := I2 6 _ rfl
  obtain ⟨o5, p5⟩ := O2 5 _ rfl
  clear hr2 hb2 I2 Z2 O2 HI1 HZ1 HO1
  go_wp2_with fail
  rw [← hv2]
  clear hv2 i6 o5 p5
  refine (to_ints a6 r.tags c6 _ (by omega) (H6.out.below HB2.out)).mono ?_
  rintro e w3 ⟨x6, y6, rfl, hr3, hb3⟩
  have hs3 := hb3.size
  have HLi6 := Lib.hid hr3.1.lies
  have R4a := Lib.hid (R4.out.below hb3)
  clear R4
  have R5a := Lib.hid (R5.out.below hb3)
  clear R5
  have I3 := HI2.out.below hb3
  have Z3 := HZ2.out.below hb3
  have O3 := HO2.out.below hb3
  obtain ⟨v3, hv3⟩ : ∃ v, v = w3.setCell ⟨w.heap.size + 2, 6, none⟩ (.slice x6 r.tags.length y6) := ⟨_, rfl⟩
  have hvs3 : v3.heap.size = w3.heap.size := by subst hv3; simp
  have HI3 := Lib.hid (I3.far (b' := w.heap.size + 2) (j := 6) (v := (.slice x6 r.tags.length y6)) (by omega))
  rw [← hv3] at HI3
  have HZ3 := Lib.hid (Z3.far (b' := w.heap.size + 2) (j := 6) (v := (.slice x6 r.tags.length y6)) (by omega))
  rw [← hv3] at HZ3
  have HO3 := Lib.hid (O3.set 6 (.slice x6 r.tags.length y6) (by simp))
  rw [← hv3] at HO3
  simp only [List.set] at HO3
  have HB3 : Hid (Below w.heap.size w v3) := by subst hv3; exact (HB2.out.trans (hb3.mono (by omega))).setCell (p := ⟨w.heap.size + 2, 6, none⟩) (by simp) _
  have R4 := Lib.hid (R4a.out.setFar (c := w.heap.size + 2) (i := 6) (v := .slice x6 r.tags.length y6) (by omega))
  rw [← hv3] at R4
  clear R4a
  have R5 := Lib.hid (R5a.out.setFar (c := w.heap.size + 2) (i := 6) (v := .slice x6 r.tags.length y6) (by omega))
  rw [← hv3] at R5
  clear R5a
  have R6 := Lib.hid (hr3.setFar (c := w.heap.size + 2) (i := 6) (v := .slice x6 r.tags.length y6) (by omega))
  rw [← hv3] at R6
  obtain ⟨i7, -⟩ := I3 7 _ rfl
  obtain ⟨o6, p6⟩ := O3 6 _ rfl
  clear hr3 hb3 I3 Z3 O3 HI2 HZ2 HO2
  go_wp2_with fail
  rw [← hv3]
  clear hv3 i7 o6 p6
  refine (to_ints a7 r.kids c7 _ (by omega) (H7.out.below HB3.out)).mono ?_
  rintro e w4 ⟨x7, y7, rfl, hr4, hb4⟩
  have hs4 := hb4.size
  have HLi7 := Lib.hid hr4.1.lies
  have R4a := Lib.hid (R4.out.below hb4)
  clear R4
  have R5a := Lib.hid (R5.out.below hb4)
  clear R5
  have R6a := Lib.hid (R6.out.below hb4)
  clear R6
  have I4 := HI3.out.below hb4
  have Z4 := HZ3.out.below hb4
  have O4 := HO3.out.below hb4
  obtain ⟨v4, hv4⟩ : ∃ v, v = w4.setCell ⟨w.heap.size + 2, 7, none⟩ (.slice x7 r.kids.length y7) := ⟨_, rfl⟩
  have hvs4 : v4.heap.size = w4.heap.size := by subst hv4; simp
  have HI4 := Lib.hid (I4.far (b' := w.heap.size + 2) (j := 7) (v := (.slice x7 r.kids.length y7)) (by omega))
  rw [← hv4] at HI4
  have HZ4 := Lib.hid (Z4.far (b' := w.heap.size + 2) (j := 7) (v := (.slice x7 r.kids.length y7)) (by omega))
  rw [← hv4] at HZ4
  have HO4 := Lib.hid (O4.set 7 (.slice x7 r.kids.length y7) (by simp))
  rw [← hv4] at HO4
  simp only [List.set] at HO4
  have HB4 : Hid (Below w.heap.size w v4) := by subst hv4; exact (HB3.out.trans (hb4.mono (by omega))).setCell (p := ⟨w.heap.size + 2, 7, none⟩) (by simp) _
  have R4 := Lib.hid (R4a.out.setFar (c := w.heap.size + 2) (i := 7) (v := .slice x7 r.kids.length y7) (by omega))
  rw [← hv4] at R4
  clear R4a
  have R5 := Lib.hid (R5a.out.setFar (c := w.heap.size + 2) (i := 7) (v := .slice x7 r.kids.length y7) (by omega))
  rw [← hv4] at R5
  clear R5a
  have R6 := Lib.hid (R6a.out.setFar (c := w.heap.size + 2) (i := 7) (v := .slice x7 r.kids.length y7) (by omega))
  rw [← hv4] at R6
  clear R6a
  have R7 := Lib.hid (hr4.setFar (c := w.heap.size + 2) (i := 7) (v := .slice x7 r.kids.length y7) (by omega))
  rw [← hv4] at R7
  obtain ⟨i7, -⟩ := I4 7 _ rfl
  obtain ⟨o7, p7⟩ := O4 7 _ rfl
  obtain ⟨o0', -⟩ := O4 0 _ rfl
  obtain ⟨o1', -⟩ := O4 1 _ rfl
  obtain ⟨o2', -⟩ := O4 2 _ rfl
  obtain ⟨o3', -⟩ := O4 3 _ rfl
  obtain ⟨o4', -⟩ := O4 4 _ rfl
  obtain ⟨o5', -⟩ := O4 5 _ rfl
  obtain ⟨o6', -⟩ := O4 6 _ rfl
  obtain ⟨z0, t0⟩ := Z4 0 _ rfl
  obtain ⟨z1, t1⟩ := Z4 1 _ rfl
  obtain ⟨z2, t2⟩ := Z4 2 _ rfl
  obtain ⟨z3, t3⟩ := Z4 3 _ rfl
  obtain ⟨z4, t4⟩ := Z4 4 _ rfl
  obtain ⟨z5, t5⟩ := Z4 5 _ rfl
  obtain ⟨z6, t6⟩ := Z4 6 _ rfl
  obtain ⟨z7, t7⟩ := Z4 7 _ rfl
  clear hr4 hb4 I4 Z4 O4 HI3 HZ3 HO3
  clear HI4 HZ4 HO4 i7
  have hown : Hid (OwnRule w0.heap.size v4.heap.size r [.string r.name, .int .i64 r.kind, .int .i64 r.size, .bool r.little, .slice x4 r.bytes.length y4, .slice x5 r.names.length y5, .slice x6 r.tags.length y6, .slice x7 r.kids.length y7] v4) := by
    have q4 := HLi4.out
    have q5 := HLi5.out
    have q6 := HLi6.out
    have q7 := HLi7.out
    rw [hvs1] at q5
    rw [hvs2] at q6
    rw [hvs3] at q7
    rw [← hvs4] at q7
    exact ⟨x4, y4, x5, y5, x6, y6, x7, y7, rfl, R4.out, R5.out.more (by omega), R6.out.more (by omega), R7.out.more (by omega), four_blks q4 q5 q6 q7 (by omega) (by omega) (by omega) (by omega)⟩
  rw [hv4] at hown HB4
  clear hv4
  go_wp2
  (try simp only [Exit.inBlock, Exit.then])
  refine bodyPost_ret (v := .agg #[.string r.name, .int .i64 r.kind, .int .i64 r.size, .bool r.little, .slice x4 r.bytes.length y4, .slice x5 r.names.length y5, .slice x6 r.tags.length y6, .slice x7 r.kids.length y7]) ?_ rfl ?_
  · simp [results, Try.results61, go_sem, z0, z1, z2, z3, z4, z5, z6, z7]
  · exact ⟨_, rfl, ((((((((hown.out.setFar (c := w.heap.size + 1) (by omega)).setFar (c := w.heap.size + 1) (by omega)).setFar (c := w.heap.size + 1) (by omega)).setFar (c := w.heap.size + 1) (by omega)).setFar (c := w.heap.size + 1) (by omega)).setFar (c := w.heap.size + 1) (by omega)).setFar (c := w.heap.size + 1) (by omega)).setFar (c := w.heap.size + 1) (by omega)).more (by omega) (by simp), ((((((((HB4.out.setCell (p := ⟨w.heap.size + 1, 0, none⟩) (by simp) _).setCell (p := ⟨w.heap.size + 1, 1, none⟩) (by simp) _).setCell (p := ⟨w.heap.size + 1, 2, none⟩) (by simp) _).setCell (p := ⟨w.heap.size + 1, 3, none⟩) (by simp) _).setCell (p := ⟨w.heap.size + 1, 4, none⟩) (by simp) _).setCell (p := ⟨w.heap.size + 1, 5, none⟩) (by simp) _).setCell (p := ⟨w.heap.size + 1, 6, none⟩) (by simp) _).setCell (p := ⟨w.heap.size + 1, 7, none⟩) (by simp) _)⟩
/-- Cells written one after the other. -/
def putList (w : World) (b : Nat) : Nat → List Value → World
  | _, [] => w
  | o, v :: vs => putList (w.setCell ⟨b, o, none⟩ v) b (o + 1) vs
theorem putList_frozen (b : Nat) (p : Addr) : ∀ (vs : List Value) (o : Nat) (w : World), (putList w b o vs).frozen? p = w.frozen? p
  | [], _, _ => rfl
  | v :: vs, o, w => by rw [putList, putList_frozen b p vs]; simp
theorem putList_size (b : Nat) : ∀ (vs : List Value) (o : Nat) (w : World), (putList w b o vs).heap.size = w.heap.size
  | [], _, _ => rfl
  | v :: vs, o, w => by rw [putList, putList_size b vs]; simp
theorem putList_far (b : Nat) (p : Addr) : ∀ (vs : List Value) (o : Nat) (w : World), (p.block ≠ b ∨ p.off < o ∨ o + vs.length ≤ p.off) → (putList w b o vs).cell? p = w.cell? p
  | [], _, _, _ => rfl
  | v :: vs, o, w, h => by
    rw [putList, putList_far b p vs (o + 1) _ (by simp only [List.length_cons] at h; omega)]
    refine World.cell?_setCell_other _ _ _ _ (fun he => ?_)
    subst he
    simp at h
    omega
theorem putList_at (b : Nat) : ∀ (vs : List Value) (o i : Nat) (w : World) (v u : Value), vs[i]? = some v → w.cell? ⟨b, o + i, none⟩ = some u → (putList w b o vs).cell? ⟨b, o + i, none⟩ = some v
  | [], _, _, _, _, _, h, _ => by simp at h
  | x :: vs, o, 0, w, v, u, h, hc => by
    simp at h
    subst h
    rw [putList, putList_far b _ vs (o + 1) _ (.inr (.inl (by simp)))]
    exact World.cell?_setCell_same _ _ _ hc
  | x :: vs, o, i + 1, w, v, u, h, hc => by
    have e : o + (i + 1) = (o + 1) + i := by omega
    rw [putList, e]
    refine putList_at b vs (o + 1) i _ v u (by simpa using h) ?_
    rw [World.cell?_setCell_other _ _ _ _ (fun he => by have := congrArg Addr.off he; simp at this; omega), ← e]
    exact hc
theorem putList_below (b : Nat) : ∀ (vs : List Value) (o : Nat) (B : Nat) (w0 w : World), Below B w0 w → B ≤ b → Below B w0 (putList w b o vs)
  | [], _, _, _, _, h, _ => h
  | v :: vs, o, B, w0, _, h, hB => putList_below b vs (o + 1) B w0 _ (h.setCell (p := ⟨b, o, none⟩) hB v) hB
theorem OwnRule.put {lo hi b : Nat} {r : RuleV} {cs : List Value} (hb : b < lo) : ∀ (vs : List Value) (o : Nat) (w : World), OwnRule lo hi r cs w → OwnRule lo hi r cs (putList w b o vs)
  | [], _, _, h => h
  | _ :: vs, o, _, h => OwnRule.put hb vs (o + 1) _ (h.setFar hb)
/-- A description in new memory: the row of its rules and the slices in them, each in a block of its own. -/
def OwnR (lo hi : Nat) (a : Option Addr) (rs : List RuleV) (cap : Nat) (w : World) : Prop :=
  ∃ css : List (List Value), css.length = rs.length ∧ (∀ j (h : j < rs.length) (h' : j < css.length), OwnRule lo hi rs[j] css[j] w) ∧
    (rs = [] ∨ ∃ b off, a = some ⟨b, off, none⟩ ∧ lo ≤ b ∧ b < hi ∧ (∀ j (h : j < css.length) i v, css[j][i]? = some v → w.cell? ⟨b, off + j * 8 + i, none⟩ = some v ∧ w.frozen? ⟨b, off + j * 8 + i, none⟩ = false) ∧ (b :: css.flatMap fun cs => cs.flatMap sliceBlk).Nodup) ∧
    rs.length ≤ cap ∧ (a = none → cap = 0)
theorem OwnR.rd {lo hi : Nat} {a : Option Addr} {rs : List RuleV} {cap : Nat} {w : World} (h : OwnR lo hi a rs cap w) : RdR a rs w := fun j hj => by
  obtain ⟨css, hl, ho, hr, _⟩ := h
  rcases hr with rfl | ⟨b, off, ha, _, _, hc, _⟩
  · simp at hj
  · exact ⟨b, off, css[j]'(by omega), ha, (ho j hj (by omega)).is, fun i v hv => (hc j (by omega) i v hv).1⟩
theorem OwnR.below {lo hi : Nat} {a : Option Addr} {rs : List RuleV} {cap : Nat} {w w' : World} (h : OwnR lo hi a rs cap w) (hb : Below w.heap.size w w') : OwnR lo hi a rs cap w' := by
  obtain ⟨css, hl, ho, hr, hcap⟩ := h
  refine ⟨css, hl, fun j h1 h2 => (ho j h1 h2).below hb, ?_, hcap⟩
  rcases hr with hr | ⟨b, off, ha, h1, h2, hc, hn⟩
  · exact .inl hr
  · refine .inr ⟨b, off, ha, h1, h2, fun j hj i v hv => ?_, hn⟩
    obtain ⟨q1, q2⟩ := hc j hj i v hv
    exact ⟨(hb.cell (cell_lt q1)).trans q1, (hb.frozen (p := ⟨b, off + j * 8 + i, none⟩) (cell_lt q1)).trans q2⟩
/-- The first k rules are copied into the row at block N. -/
def HalfR (rs : List RuleV) (k N : Nat) (w W : World) : Prop :=
  Below w.heap.size w W ∧ N < W.heap.size ∧ ∃ css : List (List Value), css.length = k ∧ (∀ j (h : j < rs.length) (h' : j < css.length), OwnRule (N + 1) W.heap.size rs[j] css[j] W) ∧
    (∀ j (h : j < css.length) i v, css[j][i]? = some v → W.cell? ⟨N, j * 8 + i, none⟩ = some v) ∧ (∀ c, c < rs.length * 8 → W.frozen? ⟨N, c, none⟩ = false) ∧
    (∀ j, k ≤ j → j < rs.length → ∀ i v, ([.string ⟨#[]⟩, .int .i64 0, .int .i64 0, .bool false, .slice none 0 0, .slice none 0 0, .slice none 0 0, .slice none 0 0] : List Value)[i]? = some v → W.cell? ⟨N, j * 8 + i, none⟩ = some v) ∧
    (css.flatMap fun cs => cs.flatMap sliceBlk).Nodup
theorem OwnRule.length {lo hi : Nat} {r : RuleV} {cs : List Value} {w : World} (h : OwnRule lo hi r cs w) : cs.length = 8 := by
  obtain ⟨a4, c4, a5, c5, a6, c6, a7, c7, rfl, _⟩ := h
  rfl
theorem HalfR.next {rs : List RuleV} {k N : Nat} {w W W1 : World} {cs : List Value} (h : HalfR rs k N w W) (hN : w.heap.size ≤ N) (hk : k < rs.length) (hb : Below W.heap.size W W1) (hr : OwnRule W.heap.size W1.heap.size rs[k] cs W1) : HalfR rs (k + 1) N w (putList W1 N (k * 8) cs) := by
  obtain ⟨h1, h2, css, hl, ho, hc, hf, hz, hn⟩ := h
  have hlen := hr.length
  have hs := hb.size
  have hcb : ∀ j (h : j < css.length) i v, css[j][i]? = some v → W1.cell? ⟨N, j * 8 + i, none⟩ = some v := fun j hj i v hv => (hb.cell (p := ⟨N, j * 8 + i, none⟩) h2).trans (hc j hj i v hv)
  have hzb : ∀ j, k ≤ j → j < rs.length → ∀ i v, ([.string ⟨#[]⟩, .int .i64 0, .int .i64 0, .bool false, .slice none 0 0, .slice none 0 0, .slice none 0 0, .slice none 0 0] : List Value)[i]? = some v → W1.cell? ⟨N, j * 8 + i, none⟩ = some v := fun j hj hj' i v hv => (hb.cell (p := ⟨N, j * 8 + i, none⟩) h2).trans (hz j hj hj' i v hv)
  have hat : ∀ {j : Nat} (hj : j < (css ++ [cs]).length), (hjk : j < css.length) → (css ++ [cs])[j] = css[j] := fun hj hjk => List.getElem_append_left hjk
  have hatk : ∀ {j : Nat} (hj : j < (css ++ [cs]).length), ¬ j < css.length → (css ++ [cs])[j] = cs := fun {j} hj hjk => by
    have e : j = css.length := by simp at hj; omega
    subst e
    simp
  refine ⟨putList_below N cs _ _ _ _ (h1.trans (hb.mono h1.size)) hN, by rw [putList_size]; omega, css ++ [cs], by simp [hl], ?_, ?_, ?_, ?_, ?_⟩
  · intro j hj hj'
    rw [putList_size]
    by_cases hjk : j < css.length
    · rw [hat hj' hjk]
      exact OwnRule.put (by omega) cs _ _ (((ho j hj hjk).below hb).more (Nat.le_refl _) hs)
    · rw [hatk hj' hjk]
      have e : j = k := by simp at hj'; omega
      subst e
      exact OwnRule.put (by omega) cs _ _ (hr.more (by omega) (Nat.le_refl _))
  · intro j hj i v hv
    by_cases hjk : j < css.length
    · rw [hat hj hjk] at hv
      have hi8 : i < 8 := by
        have h8 := (ho j (by omega) hjk).length
        rcases Nat.lt_or_ge i 8 with h | h
        · exact h
        · rw [List.getElem?_eq_none (by omega)] at hv; cases hv
      rw [putList_far N _ cs _ _ (.inr (.inl (by show j * 8 + i < k * 8; omega)))]
      exact hcb j hjk i v hv
    · rw [hatk hj hjk] at hv
      have e : j = k := by simp at hj; omega
      subst e
      have hi8 : i < 8 := by
        rcases Nat.lt_or_ge i 8 with h | h
        · exact h
        · rw [List.getElem?_eq_none (by omega)] at hv; cases hv
      obtain ⟨u, hu⟩ : ∃ u, ([.string ⟨#[]⟩, .int .i64 0, .int .i64 0, .bool false, .slice none 0 0, .slice none 0 0, .slice none 0 0, .slice none 0 0] : List Value)[i]? = some u := ⟨_, List.getElem?_eq_getElem (by simpa using hi8)⟩
      exact putList_at N cs (j * 8) i W1 v u hv (hzb j (Nat.le_refl _) hk i u hu)
  · intro c hc8
    rw [putList_frozen]
    exact (hb.frozen (p := ⟨N, c, none⟩) h2).trans (hf c hc8)
  · intro j hj hj' i v hv
    rw [putList_far N _ cs _ _ (.inr (.inr (by rw [hlen]; show k * 8 + 8 ≤ j * 8 + i; omega)))]
    exact hzb j (by omega) hj' i v hv
  · rw [List.flatMap_append]
    simp only [List.flatMap_cons, List.flatMap_nil, List.append_nil]
    obtain ⟨_, _, _, _, _, _, _, _, _, _, _, _, _, hnd, hrange⟩ := hr
    refine List.nodup_append.2 ⟨hn, hnd, ?_⟩
    intro x hx y hy
    obtain ⟨c0, hc0, hx⟩ := List.mem_flatMap.1 hx
    obtain ⟨j, hj, rfl⟩ := List.getElem_of_mem hc0
    obtain ⟨_, _, _, _, _, _, _, _, _, _, _, _, _, _, hr2⟩ := ho j (by omega) hj
    have q1 := hr2 x hx
    have q2 := hrange y hy
    omega
theorem infoRule : (Try.prog.info? 76).map (fun i => (i.zero, i.size, i.bytes)) = some (some (.agg #[.string ⟨#[]⟩, .int .i64 0, .int .i64 0, .bool false, .slice none 0 0, .slice none 0 0, .slice none 0 0, .slice none 0 0]), 8, 136) := by kernel_rfl
theorem make_rules (n : Nat) (hn : n ≤ 1073741824) (W : World) : (Instr.makeSlice 36 (.int .i64 (n : Int)) (.int .i64 (n : Int))).run Try.prog W = .ok (.slice (some ⟨W.heap.size, 0, none⟩) n n) (W.alloc (.cells (madeCells #[.string ⟨#[]⟩, .int .i64 0, .int .i64 0, .bool false, .slice none 0 0, .slice none 0 0, .slice none 0 0, .slice none 0 0] (n * 8)) 76)) := by
  obtain ⟨i0, hi, h⟩ := Option.map_eq_some_iff.1 infoRule
  simp only [Prod.mk.injEq] at h
  obtain ⟨hz0, hz1, hz2⟩ := h
  have hr := run_make (P := Try.prog) W 36 76 i0 _ Try.underlying36 hi hz0 .i64 .i64 (n : Int) (n : Int) (by omega) (by omega) (by rw [hz2]; omega) (by omega)
  rw [hr, hz1]
  simp [Value.cells]
theorem made_at (n c : Nat) (h : c < n) (z : Array Value) : (madeCells z n)[c]? = some z[c % z.size]! := by
  unfold madeCells
  simp [h]
theorem HalfR.start (rs : List RuleV) (t : TypeId) (w : World) : HalfR rs 0 w.heap.size w (w.alloc (.cells (madeCells #[.string ⟨#[]⟩, .int .i64 0, .int .i64 0, .bool false, .slice none 0 0, .slice none 0 0, .slice none 0 0, .slice none 0 0] (rs.length * 8)) t)) := by
  refine ⟨(Below.refl _ _).alloc (Nat.le_refl _) _, by simp, [], rfl, fun j h h' => by simp at h', fun j h => by simp at h, fun c _ => by simp, fun j _ hj i v hv => ?_, by simp⟩
  have hi8 : i < 8 := by
    rcases Nat.lt_or_ge i 8 with h | h
    · exact h
    · rw [List.getElem?_eq_none (by simpa using h)] at hv; cases hv
  refine (World.cell?_alloc_mark w _ t (0, 0) (j * 8 + i)).trans ?_
  rw [made_at _ _ (by omega)]
  have e : (j * 8 + i) % 8 = i := by omega
  show some (#[.string ⟨#[]⟩, .int .i64 0, .int .i64 0, .bool false, .slice none 0 0, .slice none 0 0, .slice none 0 0, .slice none 0 0] : Array Value)[(j * 8 + i) % 8]! = some v
  rw [e]
  rcases (by omega : i = 0 ∨ i = 1 ∨ i = 2 ∨ i = 3 ∨ i = 4 ∨ i = 5 ∨ i = 6 ∨ i = 7) with rfl | rfl | rfl | rfl | rfl | rfl | rfl | rfl <;> exact hv
theorem HalfR.end {rs : List RuleV} {w W : World} (h : HalfR rs rs.length w.heap.size w W) : OwnR w.heap.size W.heap.size (some ⟨w.heap.size, 0, none⟩) rs rs.length W := by
  obtain ⟨h1, h2, css, hl, ho, hc, hf, _, hn⟩ := h
  refine ⟨css, hl, fun j hj hj' => (ho j hj hj').more (by omega) (Nat.le_refl _), .inr ⟨w.heap.size, 0, rfl, Nat.le_refl _, h2, fun j hj i v hv => ?_, ?_⟩, Nat.le_refl _, fun e => by cases e⟩
  · have hi8 : i < 8 := by
      have h8 := (ho j (by omega) hj).length
      rcases Nat.lt_or_ge i 8 with h | h
      · exact h
      · rw [List.getElem?_eq_none (by omega)] at hv; cases hv
    rw [Nat.zero_add]
    exact ⟨hc j hj i v hv, hf _ (by omega)⟩
  · refine List.nodup_cons.2 ⟨fun hm => ?_, hn⟩
    obtain ⟨c0, hc0, hx⟩ := List.mem_flatMap.1 hm
    obtain ⟨j, hj, rfl⟩ := List.getElem_of_mem hc0
    obtain ⟨_, _, _, _, _, _, _, _, _, _, _, _, _, _, hr2⟩ := ho j (by omega) hj
    have := hr2 _ hx
    omega
/-- Rules in new memory come back in a slice. -/
def RulesOut (rs : List RuleV) (w : World) (e : Ending) (w' : World) : Prop := ∃ a cap, e = .returned (.slice a rs.length cap) ∧ OwnR w.heap.size w'.heap.size a rs cap w' ∧ Below w.heap.size w w'
set_option maxRecDepth 100000 in
set_option maxHeartbeats 1000000 in
theorem to_rules (a : Option Addr) (rs : List RuleV) (cap : Nat) (w : World) (hl : rs.length ≤ 1048576) (hs : ∀ r ∈ rs, Short r) (h : RdR a rs w) :
    Calls Try.prog 37 #[.slice a rs.length cap] w (RulesOut rs w) := by
  have H := Lib.hid h
  have HS := Lib.hid hs
  clear h hs
  have hmk := make_rules rs.length (by omega)
  go_enter Try.func37, Try.ntmps37
  go_wp2
  clear hmk
  go_loopw [4] (fun i W => ∃ k : Nat, k ≤ rs.length ∧ i = .int .i64 k ∧ Hid (HalfR rs k w.heap.size w W)) (fun i _ => rs.length - (intOf i).toNat)
  case atStart => exact ⟨0, Nat.zero_le _, rfl, HalfR.start rs _ w⟩
  case round =>
    obtain ⟨k, hk, rfl, hh⟩ := hrel
    have k0 : (0 : Int) ≤ (k : Int) := by omega
    by_cases hlt : k < rs.length
    · have k1 : (k : Int) < (rs.length : Int) := by omega
      have hsh := Lib.hid (HS.out _ (List.getElem_mem hlt))
      obtain ⟨b, off, a4, c4, a5, c5, a6, c6, a7, c7, rfl, ⟨d0, d1, d2, d3, d4, d5, d6, d7⟩, h4, h5, h6, h7⟩ := (H.out.below hh.out.1).at k hlt
      have HR : Hid (IsRule rs[k] _ wr) := ⟨a4, c4, a5, c5, a6, c6, a7, c7, rfl, h4, h5, h6, h7⟩
      have hnext := fun cs W1 => Lib.hid (hh.out.next (W1 := W1) (cs := cs) (Nat.le_refl _) hlt)
      clear h4 h5 h6 h7
      generalize rs[k] = r at d0 d1 d2 d3 d4 d5 d6 d7 HR hsh hnext
      go_wp2_with fail
      refine (to_rule r _ _ hsh.out HR.out).mono ?_
      rintro e w1 ⟨cs, rfl, hown, hb1⟩
      have hN := Lib.hid ((hnext cs w1).out hb1 hown)
      obtain ⟨_, hlt2, css, hcl, _, _, hfz, hzz, _⟩ := hh.out
      have zc := fun i v hv => (hb1.cell (p := ⟨w.heap.size, k * 8 + i, none⟩) hlt2).trans (hzz k (Nat.le_refl _) hlt i v hv)
      have fc := fun i (hi : i < 8) => (hb1.frozen (p := ⟨w.heap.size, k * 8 + i, none⟩) hlt2).trans (hfz (k * 8 + i) (by omega))
      have z0 := zc 0 _ rfl
      have z1 := zc 1 _ rfl
      have z2 := zc 2 _ rfl
      have z3 := zc 3 _ rfl
      have z4 := zc 4 _ rfl
      have z5 := zc 5 _ rfl
      have z6 := zc 6 _ rfl
      have z7 := zc 7 _ rfl
      have f0 := fc 0 (by omega)
      have f1 := fc 1 (by omega)
      have f2 := fc 2 (by omega)
      have f3 := fc 3 (by omega)
      have f4 := fc 4 (by omega)
      have f5 := fc 5 (by omega)
      have f6 := fc 6 (by omega)
      have f7 := fc 7 (by omega)
      rw [Nat.add_zero] at z0 f0
      obtain ⟨x4, y4, x5, y5, x6, y6, x7, y7, rfl, -⟩ := hown
      clear hb1 zc fc hfz hzz hnext d0 d1 d2 d3 d4 d5 d6 d7 HR hh
      go_wp2
      go_roundw
      case rel => exact ⟨k + 1, by omega, by go_num, hN⟩
      case measure => simp [intOf]; omega
    · have k1 : ¬ (k : Int) < (rs.length : Int) := by omega
      obtain rfl : k = rs.length := by omega
      go_wp2
      go_ret
      exact ⟨_, _, rfl, hh.out.end, hh.out.1⟩
theorem OwnR.more {lo lo' hi hi' : Nat} {a : Option Addr} {rs : List RuleV} {cap : Nat} {w : World} (h : OwnR lo hi a rs cap w) (hl : lo' ≤ lo) (hh : hi ≤ hi') : OwnR lo' hi' a rs cap w := by
  obtain ⟨css, hcl, ho, hr, hcap⟩ := h
  refine ⟨css, hcl, fun j h1 h2 => (ho j h1 h2).more hl hh, ?_, hcap⟩
  rcases hr with hr | ⟨b, off, ha, h1, h2, hc⟩
  · exact .inl hr
  · exact .inr ⟨b, off, ha, by omega, by omega, hc⟩
theorem OwnR.setFar {lo hi c i : Nat} {a : Option Addr} {rs : List RuleV} {cap : Nat} {w : World} {v : Value} (h : OwnR lo hi a rs cap w) (hc : c < lo) : OwnR lo hi a rs cap (w.setCell ⟨c, i, none⟩ v) := by
  obtain ⟨css, hcl, ho, hr, hcap⟩ := h
  refine ⟨css, hcl, fun j h1 h2 => (ho j h1 h2).setFar hc, ?_, hcap⟩
  rcases hr with hr | ⟨b, off, ha, h1, h2, hcell, hn⟩
  · exact .inl hr
  · refine .inr ⟨b, off, ha, h1, h2, fun j hj i' v' hv => ?_, hn⟩
    obtain ⟨q1, q2⟩ := hcell j hj i' v' hv
    exact ⟨(World.cell?_setCell_other _ _ _ _ (fun he => by have := congrArg Addr.block he; simp at this; omega)).trans q1, by simpa using q2⟩
/-- A description in new memory comes back. -/
def DescrOut (rs : List RuleV) (w : World) (e : Ending) (w' : World) : Prop := ∃ a cap, e = .returned (.agg #[.slice a rs.length cap]) ∧ OwnR w.heap.size w'.heap.size a rs cap w' ∧ Below w.heap.size w w'
set_option maxRecDepth 100000 in
theorem to_descr (a : Option Addr) (rs : List RuleV) (cap : Nat) (w : World) (hl : rs.length ≤ 1048576) (hs : ∀ r ∈ rs, Short r) (h : RdR a rs w) :
    Calls Try.prog 16 #[.agg #[.slice a rs.length cap]] w (DescrOut rs w) := by
  have HS := Lib.hid hs
  obtain ⟨w0, hw0⟩ : ∃ w0, w0 = ((w.alloc (.cells #[.slice a rs.length cap] 33)).alloc (.cells #[.slice none 0 0] 38)).alloc (.cells #[.slice none 0 0] 38) := ⟨_, rfl⟩
  have hz0 : w0.heap.size = w.heap.size + 3 := by subst hw0; simp
  have hB0 : Below w.heap.size w w0 := by
    subst hw0
    exact (((Below.refl _ w).alloc (Nat.le_refl _) _).alloc (by simp) _).alloc (by simp; omega) _
  have Z0 : CellsAt (w.heap.size + 1) [.slice none 0 0] w0 := by
    subst hw0
    have h1 := CellsAt.new (w.alloc (.cells #[.slice a rs.length cap] 33)) [.slice none 0 0] 38
    simp only [World.size_alloc] at h1
    exact h1.below ((Below.refl _ _).alloc (Nat.le_refl _) _)
  have O0 : CellsAt (w.heap.size + 2) [.slice none 0 0] w0 := by
    subst hw0
    have h1 := CellsAt.new ((w.alloc (.cells #[.slice a rs.length cap] 33)).alloc (.cells #[.slice none 0 0] 38)) [.slice none 0 0] 38
    simp only [World.size_alloc] at h1
    exact h1
  have HB0 := Lib.hid hB0
  have HZ0 := Lib.hid Z0
  have HO0 := Lib.hid O0
  have H := Lib.hid (h.below hB0)
  clear hB0 Z0 O0 h hs
  go_enter Try.func16, Try.ntmps16
  go_wp2_with fail
  rw [← hw0]
  clear hw0
  refine (to_rules a rs cap _ hl HS.out H.out).mono ?_
  rintro e w1 ⟨x, y, rfl, hr, hb⟩
  have hs1 := hb.size
  obtain ⟨z0, t0⟩ := (HZ0.out.below hb) 0 _ rfl
  obtain ⟨o0, p0⟩ := (HO0.out.below hb) 0 _ rfl
  have R := Lib.hid hr
  have HB1 := Lib.hid (HB0.out.trans (hb.mono (by omega)))
  clear hr hb HZ0 HO0
  go_wp2
  (try simp only [Exit.inBlock, Exit.then])
  refine bodyPost_ret (v := .agg #[.slice x rs.length y]) ?_ rfl ?_
  · simp [results, Try.results16, go_sem, z0]
  · exact ⟨x, y, rfl, ((R.out.setFar (c := w.heap.size + 2) (by omega)).setFar (c := w.heap.size + 1) (by omega)).more (by omega) (by simp), (HB1.out.setCell (p := ⟨w.heap.size + 2, 0, none⟩) (by simp) _).setCell (p := ⟨w.heap.size + 1, 0, none⟩) (by simp) _⟩
end Go.Proofs.Ytefkhknfjohnaaa
namespace Go.Proofs.Ytefkhknfjohnaaa
open Go Go.RowKit
/-- Whether two rules are equal in every field. -/
def sameR (r s : RuleV) : Bool := decide (r.name = s.name ∧ r.kind = s.kind ∧ r.size = s.size ∧ r.little = s.little ∧ r.bytes = s.bytes ∧ r.names = s.names ∧ r.tags = s.tags ∧ r.kids = s.kids)
theorem sameR_iff (r s : RuleV) : sameR r s = true ↔ r = s := by
  unfold sameR
  cases r
  cases s
  simp
theorem below_drew {w w' : World} (h : ∃ n, w' = w.drewN n) : Below w.heap.size w w' := by
  obtain ⟨n, rfl⟩ := h
  exact below_drewN (Below.refl _ _) n

theorem eb_impl (a b : Option Addr) (xs ys : List UInt8) (ca cb : Nat) (w : World) (hl : xs.length ≤ 1048576) (hm : ys.length ≤ 1048576) (ha : Rd a xs w) (hb : Rd b ys w) (q : Bool) (hq : decide (xs = ys) = q) :
    Calls Try.prog 53 #[.slice a xs.length ca, .slice b ys.length cb] w fun e w' => e = .returned (.bool q) ∧ Below w.heap.size w w' := by
  subst hq
  exact eqb_impl a xs ca b ys cb w (by omega) ha (by omega) hb
theorem et_impl (a b : Option Addr) (xs ys : List ByteArray) (ca cb : Nat) (w : World) (hl : xs.length ≤ 1048576) (hm : ys.length ≤ 1048576) (ha : RdStr a xs w) (hb : RdStr b ys w) (q : Bool) (hq : decide (xs = ys) = q) :
    Calls Try.prog 116 #[.slice a xs.length ca, .slice b ys.length cb] w fun e w' => e = .returned (.bool q) ∧ Below w.heap.size w w' := by
  subst hq
  have _ := hm
  exact (eqt_lib a b xs ys ca cb w (by omega) ha hb).mono fun e w' h => ⟨h.1, below_drew h.2⟩
theorem ei_impl (a b : Option Addr) (xs ys : List Int) (ca cb : Nat) (w : World) (hl : xs.length ≤ 1048576) (hm : ys.length ≤ 1048576) (ha : RdI a xs w) (hb : RdI b ys w) (q : Bool) (hq : decide (xs = ys) = q) :
    Calls Try.prog 117 #[.slice a xs.length ca, .slice b ys.length cb] w fun e w' => e = .returned (.bool q) ∧ Below w.heap.size w w' := by
  subst hq
  have _ := hm
  exact (eqi_lib a b xs ys ca cb w (by omega) ha hb).mono fun e w' h => ⟨h.1, below_drew h.2⟩
set_option maxRecDepth 100000 in
set_option maxHeartbeats 2000000 in
theorem eqr_impl (r s : RuleV) (cs ds : List Value) (w : World) (hr : Short r) (hs : Short s) (h : IsRule r cs w) (k : IsRule s ds w) :
    Calls Try.prog 104 #[.agg cs.toArray, .agg ds.toArray] w fun e w' => e = .returned (.bool (sameR r s)) ∧ Below w.heap.size w w' := by
  obtain ⟨a4, c4, a5, c5, a6, c6, a7, c7, rfl, h4, h5, h6, h7⟩ := h
  obtain ⟨e4, f4, e5, f5, e6, f6, e7, f7, rfl, k4, k5, k6, k7⟩ := k
  obtain ⟨s4, s5, s6, s7⟩ := hr
  obtain ⟨r4, r5, r6, r7⟩ := hs
  obtain ⟨nm, kd, sz, lt, bs, ns, ts, ks⟩ := r
  obtain ⟨nm', kd', sz', lt', bs', ns', ts', ks'⟩ := s
  dsimp only at *
  obtain ⟨w0, hw0⟩ : ∃ w0, w0 = (w.alloc (.cells #[.string nm, .int .i64 kd, .int .i64 sz, .bool lt, .slice a4 bs.length c4, .slice a5 ns.length c5, .slice a6 ts.length c6, .slice a7 ks.length c7] 76)).alloc (.cells #[.string nm', .int .i64 kd', .int .i64 sz', .bool lt', .slice e4 bs'.length f4, .slice e5 ns'.length f5, .slice e6 ts'.length f6, .slice e7 ks'.length f7] 76) := ⟨_, rfl⟩
  have hB0 : Below w.heap.size w w0 := by subst hw0; exact ((Below.refl _ _).alloc (Nat.le_refl _) _).alloc (by simp) _
  have hX0 : CellsAt w.heap.size [.string nm, .int .i64 kd, .int .i64 sz, .bool lt, .slice a4 bs.length c4, .slice a5 ns.length c5, .slice a6 ts.length c6, .slice a7 ks.length c7] w0 := by subst hw0; exact (CellsAt.new w _ _).below ((Below.refl _ _).alloc (Nat.le_refl _) _)
  have hY0 : CellsAt (w.heap.size + 1) [.string nm', .int .i64 kd', .int .i64 sz', .bool lt', .slice e4 bs'.length f4, .slice e5 ns'.length f5, .slice e6 ts'.length f6, .slice e7 ks'.length f7] w0 := by
    subst hw0
    have h1 := CellsAt.new (w.alloc (.cells #[.string nm, .int .i64 kd, .int .i64 sz, .bool lt, .slice a4 bs.length c4, .slice a5 ns.length c5, .slice a6 ts.length c6, .slice a7 ks.length c7] 76)) [.string nm', .int .i64 kd', .int .i64 sz', .bool lt', .slice e4 bs'.length f4, .slice e5 ns'.length f5, .slice e6 ts'.length f6, .slice e7 ks'.length f7] 76
    simpa using h1
  have HB0 := Lib.hid hB0
  have HX0 := Lib.hid hX0
  have HY0 := Lib.hid hY0
  have H4 := Lib.hid (h4.below hB0)
  have K4 := Lib.hid (k4.below hB0)
  have H5 := Lib.hid (h5.below hB0)
  have K5 := Lib.hid (k5.below hB0)
  have H6 := Lib.hid (h6.below hB0)
  have K6 := Lib.hid (k6.below hB0)
  have H7 := Lib.hid (h7.below hB0)
  have K7 := Lib.hid (k7.below hB0)
  clear hB0 hX0 hY0 h4 h5 h6 h7 k4 k5 k6 k7
  by_cases q0 : nm = nm'
  case neg =>
    have g := str_ne q0
    go_enter Try.func104, Try.ntmps104
    go_wp2
    rw [← hw0]
    go_ret
    exact ⟨ret_bool (by simp [sameR, q0]), HB0.out⟩
  subst q0
  by_cases q1 : kd = kd'
  case neg =>
    have g : (kd == kd') = false := by simpa using q1
    go_enter Try.func104, Try.ntmps104
    go_wp2
    rw [← hw0]
    go_ret
    exact ⟨ret_bool (by simp [sameR, q1]), HB0.out⟩
  subst q1
  by_cases q2 : sz = sz'
  case neg =>
    have g : (sz == sz') = false := by simpa using q2
    go_enter Try.func104, Try.ntmps104
    go_wp2
    rw [← hw0]
    go_ret
    exact ⟨ret_bool (by simp [sameR, q2]), HB0.out⟩
  subst q2
  by_cases q3 : lt = lt'
  case neg =>
    have g : (lt == lt') = false := by simpa using q3
    go_enter Try.func104, Try.ntmps104
    go_wp2
    rw [← hw0]
    go_ret
    exact ⟨ret_bool (by simp [sameR, q3]), HB0.out⟩
  subst q3
  by_cases q4 : bs = bs'
  case neg =>
    go_enter Try.func104, Try.ntmps104
    go_wp2_with fail
    rw [← hw0]
    clear hw0
    refine (eb_impl a4 e4 bs bs' c4 f4 _ (by omega) (by omega) H4.out K4.out false (decide_eq_false q4)).mono ?_
    rintro e w1 ⟨rfl, hb1⟩
    have HB1 := Lib.hid (HB0.out.trans (hb1.mono HB0.out.size))
    clear HB0
    clear hb1
    go_wp2_with fail
    go_ret
    exact ⟨ret_bool (by simp [sameR, q4]), HB1.out⟩
  subst q4
  by_cases q5 : ns = ns'
  case neg =>
    go_enter Try.func104, Try.ntmps104
    go_wp2_with fail
    rw [← hw0]
    clear hw0
    refine (eb_impl a4 e4 bs bs c4 f4 _ (by omega) (by omega) H4.out K4.out true (by simp)).mono ?_
    rintro e w1 ⟨rfl, hb1⟩
    have HB1 := Lib.hid (HB0.out.trans (hb1.mono HB0.out.size))
    clear HB0
    have HX1 := Lib.hid (HX0.out.below hb1)
    have HY1 := Lib.hid (HY0.out.below hb1)
    clear HX0 HY0
    have bx1 := (HX1.out 5 _ rfl).1
    have by1 := (HY1.out 5 _ rfl).1
    replace H5 := Lib.hid (H5.out.below hb1)
    replace K5 := Lib.hid (K5.out.below hb1)
    replace H6 := Lib.hid (H6.out.below hb1)
    replace K6 := Lib.hid (K6.out.below hb1)
    replace H7 := Lib.hid (H7.out.below hb1)
    replace K7 := Lib.hid (K7.out.below hb1)
    clear hb1
    go_wp2_with fail
    refine (et_impl a5 e5 ns ns' c5 f5 _ (by omega) (by omega) H5.out K5.out false (decide_eq_false q5)).mono ?_
    rintro e w2 ⟨rfl, hb2⟩
    have HB2 := Lib.hid (HB1.out.trans (hb2.mono HB1.out.size))
    clear HB1
    clear hb2
    go_wp2_with fail
    go_ret
    exact ⟨ret_bool (by simp [sameR, q5]), HB2.out⟩
  subst q5
  by_cases q6 : ts = ts'
  case neg =>
    go_enter Try.func104, Try.ntmps104
    go_wp2_with fail
    rw [← hw0]
    clear hw0
    refine (eb_impl a4 e4 bs bs c4 f4 _ (by omega) (by omega) H4.out K4.out true (by simp)).mono ?_
    rintro e w1 ⟨rfl, hb1⟩
    have HB1 := Lib.hid (HB0.out.trans (hb1.mono HB0.out.size))
    clear HB0
    have HX1 := Lib.hid (HX0.out.below hb1)
    have HY1 := Lib.hid (HY0.out.below hb1)
    clear HX0 HY0
    have bx1 := (HX1.out 5 _ rfl).1
    have by1 := (HY1.out 5 _ rfl).1
    replace H5 := Lib.hid (H5.out.below hb1)
    replace K5 := Lib.hid (K5.out.below hb1)
    replace H6 := Lib.hid (H6.out.below hb1)
    replace K6 := Lib.hid (K6.out.below hb1)
    replace H7 := Lib.hid (H7.out.below hb1)
    replace K7 := Lib.hid (K7.out.below hb1)
    clear hb1
    go_wp2_with fail
    refine (et_impl a5 e5 ns ns c5 f5 _ (by omega) (by omega) H5.out K5.out true (by simp)).mono ?_
    rintro e w2 ⟨rfl, hb2⟩
    have HB2 := Lib.hid (HB1.out.trans (hb2.mono HB1.out.size))
    clear HB1
    have HX2 := Lib.hid (HX1.out.below hb2)
    have HY2 := Lib.hid (HY1.out.below hb2)
    clear HX1 HY1
    have bx2 := (HX2.out 6 _ rfl).1
    have by2 := (HY2.out 6 _ rfl).1
    replace H6 := Lib.hid (H6.out.below hb2)
    replace K6 := Lib.hid (K6.out.below hb2)
    replace H7 := Lib.hid (H7.out.below hb2)
    replace K7 := Lib.hid (K7.out.below hb2)
    clear hb2
    go_wp2_with fail
    refine (ei_impl a6 e6 ts ts' c6 f6 _ (by omega) (by omega) H6.out K6.out false (decide_eq_false q6)).mono ?_
    rintro e w3 ⟨rfl, hb3⟩
    have HB3 := Lib.hid (HB2.out.trans (hb3.mono HB2.out.size))
    clear HB2
    clear hb3
    go_wp2_with fail
    go_ret
    exact ⟨ret_bool (by simp [sameR, q6]), HB3.out⟩
  subst q6
  by_cases q7 : ks = ks'
  case neg =>
    go_enter Try.func104, Try.ntmps104
    go_wp2_with fail
    rw [← hw0]
    clear hw0
    refine (eb_impl a4 e4 bs bs c4 f4 _ (by omega) (by omega) H4.out K4.out true (by simp)).mono ?_
    rintro e w1 ⟨rfl, hb1⟩
    have HB1 := Lib.hid (HB0.out.trans (hb1.mono HB0.out.size))
    clear HB0
    have HX1 := Lib.hid (HX0.out.below hb1)
    have HY1 := Lib.hid (HY0.out.below hb1)
    clear HX0 HY0
    have bx1 := (HX1.out 5 _ rfl).1
    have by1 := (HY1.out 5 _ rfl).1
    replace H5 := Lib.hid (H5.out.below hb1)
    replace K5 := Lib.hid (K5.out.below hb1)
    replace H6 := Lib.hid (H6.out.below hb1)
    replace K6 := Lib.hid (K6.out.below hb1)
    replace H7 := Lib.hid (H7.out.below hb1)
    replace K7 := Lib.hid (K7.out.below hb1)
    clear hb1
    go_wp2_with fail
    refine (et_impl a5 e5 ns ns c5 f5 _ (by omega) (by omega) H5.out K5.out true (by simp)).mono ?_
    rintro e w2 ⟨rfl, hb2⟩
    have HB2 := Lib.hid (HB1.out.trans (hb2.mono HB1.out.size))
    clear HB1
    have HX2 := Lib.hid (HX1.out.below hb2)
    have HY2 := Lib.hid (HY1.out.below hb2)
    clear HX1 HY1
    have bx2 := (HX2.out 6 _ rfl).1
    have by2 := (HY2.out 6 _ rfl).1
    replace H6 := Lib.hid (H6.out.below hb2)
    replace K6 := Lib.hid (K6.out.below hb2)
    replace H7 := Lib.hid (H7.out.below hb2)
    replace K7 := Lib.hid (K7.out.below hb2)
    clear hb2
    go_wp2_with fail
    refine (ei_impl a6 e6 ts ts c6 f6 _ (by omega) (by omega) H6.out K6.out true (by simp)).mono ?_
    rintro e w3 ⟨rfl, hb3⟩
    have HB3 := Lib.hid (HB2.out.trans (hb3.mono HB2.out.size))
    clear HB2
    have HX3 := Lib.hid (HX2.out.below hb3)
    have HY3 := Lib.hid (HY2.out.below hb3)
    clear HX2 HY2
    have bx3 := (HX3.out 7 _ rfl).1
    have by3 := (HY3.out 7 _ rfl).1
    replace H7 := Lib.hid (H7.out.below hb3)
    replace K7 := Lib.hid (K7.out.below hb3)
    clear hb3
    go_wp2_with fail
    refine (ei_impl a7 e7 ks ks' c7 f7 _ (by omega) (by omega) H7.out K7.out false (decide_eq_false q7)).mono ?_
    rintro e w4 ⟨rfl, hb4⟩
    have HB4 := Lib.hid (HB3.out.trans (hb4.mono HB3.out.size))
    clear HB3
    clear hb4
    go_wp2_with fail
    go_ret
    exact ⟨ret_bool (by simp [sameR, q7]), HB4.out⟩
  subst q7
  go_enter Try.func104, Try.ntmps104
  go_wp2_with fail
  rw [← hw0]
  clear hw0
  refine (eb_impl a4 e4 bs bs c4 f4 _ (by omega) (by omega) H4.out K4.out true (by simp)).mono ?_
  rintro e w1 ⟨rfl, hb1⟩
  have HB1 := Lib.hid (HB0.out.trans (hb1.mono HB0.out.size))
  clear HB0
  have HX1 := Lib.hid (HX0.out.below hb1)
  have HY1 := Lib.hid (HY0.out.below hb1)
  clear HX0 HY0
  have bx1 := (HX1.out 5 _ rfl).1
  have by1 := (HY1.out 5 _ rfl).1
  replace H5 := Lib.hid (H5.out.below hb1)
  replace K5 := Lib.hid (K5.out.below hb1)
  replace H6 := Lib.hid (H6.out.below hb1)
  replace K6 := Lib.hid (K6.out.below hb1)
  replace H7 := Lib.hid (H7.out.below hb1)
  replace K7 := Lib.hid (K7.out.below hb1)
  clear hb1
  go_wp2_with fail
  refine (et_impl a5 e5 ns ns c5 f5 _ (by omega) (by omega) H5.out K5.out true (by simp)).mono ?_
  rintro e w2 ⟨rfl, hb2⟩
  have HB2 := Lib.hid (HB1.out.trans (hb2.mono HB1.out.size))
  clear HB1
  have HX2 := Lib.hid (HX1.out.below hb2)
  have HY2 := Lib.hid (HY1.out.below hb2)
  clear HX1 HY1
  have bx2 := (HX2.out 6 _ rfl).1
  have by2 := (HY2.out 6 _ rfl).1
  replace H6 := Lib.hid (H6.out.below hb2)
  replace K6 := Lib.hid (K6.out.below hb2)
  replace H7 := Lib.hid (H7.out.below hb2)
  replace K7 := Lib.hid (K7.out.below hb2)
  clear hb2
  go_wp2_with fail
  refine (ei_impl a6 e6 ts ts c6 f6 _ (by omega) (by omega) H6.out K6.out true (by simp)).mono ?_
  rintro e w3 ⟨rfl, hb3⟩
  have HB3 := Lib.hid (HB2.out.trans (hb3.mono HB2.out.size))
  clear HB2
  have HX3 := Lib.hid (HX2.out.below hb3)
  have HY3 := Lib.hid (HY2.out.below hb3)
  clear HX2 HY2
  have bx3 := (HX3.out 7 _ rfl).1
  have by3 := (HY3.out 7 _ rfl).1
  replace H7 := Lib.hid (H7.out.below hb3)
  replace K7 := Lib.hid (K7.out.below hb3)
  clear hb3
  go_wp2_with fail
  refine (ei_impl a7 e7 ks ks c7 f7 _ (by omega) (by omega) H7.out K7.out true (by simp)).mono ?_
  rintro e w4 ⟨rfl, hb4⟩
  have HB4 := Lib.hid (HB3.out.trans (hb4.mono HB3.out.size))
  clear HB3
  clear hb4
  go_wp2_with fail
  go_ret
  exact ⟨ret_bool (by simp [sameR]), HB4.out⟩
end Go.Proofs.Ytefkhknfjohnaaa
namespace Go.Proofs.Ytefkhknfjohnaaa
open Go Go.RowKit
/-- Whether the rule at an index is of the kind integer. -/
def kindAtB (rs : List RuleV) (k : Int) : Bool := if h : 0 ≤ k ∧ k < rs.length then decide ((rs[k.toNat]'(by omega)).kind = 1) else false
/-- Tags in ascending order from lo on, up to the limit. -/
def tagsOk (lim : Int) : Int → List Int → Bool
  | _, [] => true
  | lo, t :: ts => decide (lo ≤ t ∧ t ≤ lim) && tagsOk lim (t + 1) ts
/-- Whether the tags of a rule are the tags of a choice. -/
def tagsB (rs : List RuleV) (r : RuleV) : Bool := decide (r.kids.length = r.tags.length + 1 ∧ 1 ≤ r.tags.length ∧ r.tags.length ≤ 8) && tagsOk (limitAt rs (r.kids.headD 0)) 0 r.tags
/-- The one byte is no escape. -/
def termB (r : RuleV) : Bool := decide (r.bytes.length = 1) && decide (r.bytes.headD 0 ≠ 92)
/-- The model's conditions of a kind. -/
noncomputable def kindS (rs : List RuleV) (r : RuleV) : Bool :=
  if r.kind = 1 then shapeB r true false false false 0 && (decide (1 ≤ r.size ∧ r.size ≤ 4) && (!r.little || decide (1 < r.size)))
  else if r.kind = 2 then shapeB r false true false false 0 && decide (1 ≤ (r.bytes.length : Int) ∧ (r.bytes.length : Int) ≤ 16)
  else if r.kind = 3 then shapeB r true false false false 0 && decide (1 ≤ r.size ∧ r.size ≤ 64)
  else if r.kind = 4 then shapeB r false false false false 1 && decide (0 < limitAt rs (r.kids.headD 0))
  else if r.kind = 5 then shapeB r false false false false 2 && decide (0 < limitAt rs (r.kids.headD 0))
  else if r.kind = 6 then shapeB r false false true false (r.names.length : Int) && namesB r.names
  else if r.kind = 7 then shapeB r false false false true (-1) && tagsB rs r
  else if r.kind = 8 ∨ r.kind = 9 then shapeB r false false false false 1
  else if r.kind = 10 then shapeB r false true false false 0 && termB r
  else false
/-- The program's conditions of a kind, but for the fields that it does not mention. -/
noncomputable def meetsB (rs : List RuleV) (r : RuleV) : Bool :=
  if r.kind = 1 then decide (1 ≤ r.size ∧ r.size ≤ 4) && (!r.little || decide (1 < r.size))
  else if r.kind = 2 then decide (1 ≤ (r.bytes.length : Int) ∧ (r.bytes.length : Int) ≤ 16)
  else if r.kind = 3 then decide (1 ≤ r.size ∧ r.size ≤ 64)
  else if r.kind = 4 then decide (r.kids.length = 1) && kindAtB rs (r.kids.headD 0)
  else if r.kind = 5 then decide (r.kids.length = 2) && kindAtB rs (r.kids.headD 0)
  else if r.kind = 6 then decide (r.names.length = r.kids.length) && namesB r.names
  else if r.kind = 7 then tagsB rs r
  else if r.kind = 8 ∨ r.kind = 9 then decide (r.kids.length = 1)
  else if r.kind = 10 then termB r
  else false
/-- The rule with the fields alone that its kind mentions. -/
def onlyR (r : RuleV) : RuleV :=
  if r.kind = 1 then ⟨r.name, r.kind, r.size, r.little, [], [], [], []⟩
  else if r.kind = 3 then ⟨r.name, r.kind, r.size, false, [], [], [], []⟩
  else if r.kind = 2 ∨ r.kind = 10 then ⟨r.name, r.kind, 0, false, r.bytes, [], [], []⟩
  else if r.kind = 4 ∨ r.kind = 5 ∨ r.kind = 8 ∨ r.kind = 9 then ⟨r.name, r.kind, 0, false, [], [], [], r.kids⟩
  else if r.kind = 6 then ⟨r.name, r.kind, 0, false, [], r.names, [], r.kids⟩
  else if r.kind = 7 then ⟨r.name, r.kind, 0, false, [], [], r.tags, r.kids⟩
  else ⟨r.name, r.kind, 0, false, [], [], [], []⟩
noncomputable def kindI (rs : List RuleV) (r : RuleV) : Bool := meetsB rs r && sameR r (onlyR r)
theorem kind_cases (k : Int) : k = 1 ∨ k = 2 ∨ k = 3 ∨ k = 4 ∨ k = 5 ∨ k = 6 ∨ k = 7 ∨ k = 8 ∨ k = 9 ∨ k = 10 ∨ (k ≠ 1 ∧ k ≠ 2 ∧ k ≠ 3 ∧ k ≠ 4 ∧ k ≠ 5 ∧ k ≠ 6 ∧ k ≠ 7 ∧ k ≠ 8 ∧ k ≠ 9 ∧ k ≠ 10) := by omega
/-- Both agree where the first of the kids is an integer with a limit if it is an integer. -/
theorem kind_same {rs : List RuleV} {r : RuleV} (h : kindAtB rs (r.kids.headD 0) = decide (0 < limitAt rs (r.kids.headD 0))) : kindI rs r = kindS rs r := by
  obtain ⟨nm, kd, sz, lt, bs, ns, ts, ks⟩ := r
  dsimp only at h
  rw [Bool.eq_iff_iff]
  rcases kind_cases kd with rfl | rfl | rfl | rfl | rfl | rfl | rfl | rfl | rfl | rfl | hk
  · simp [kindI, kindS, meetsB, onlyR, sameR, shapeB]; constructor <;> (intro h; simp_all; try omega)
  · simp [kindI, kindS, meetsB, onlyR, sameR, shapeB]; constructor <;> (intro h; simp_all; try omega)
  · simp [kindI, kindS, meetsB, onlyR, sameR, shapeB]; constructor <;> (intro h; simp_all; try omega)
  · simp [kindI, kindS, meetsB, onlyR, sameR, shapeB]; constructor <;> (intro h; simp_all; try omega)
  · simp [kindI, kindS, meetsB, onlyR, sameR, shapeB]; constructor <;> (intro h; simp_all; try omega)
  · simp [kindI, kindS, meetsB, onlyR, sameR, shapeB]; constructor <;> (intro h; simp_all; try omega)
  · simp [kindI, kindS, meetsB, onlyR, sameR, shapeB, tagsB]; constructor <;> (intro h; simp_all; try omega)
  · simp [kindI, kindS, meetsB, onlyR, sameR, shapeB]; constructor <;> (intro h; simp_all; try omega)
  · simp [kindI, kindS, meetsB, onlyR, sameR, shapeB]; constructor <;> (intro h; simp_all; try omega)
  · simp [kindI, kindS, meetsB, onlyR, sameR, shapeB, termB]; constructor <;> (intro h; simp_all; try omega)
  · obtain ⟨k1, k2, k3, k4, k5, k6, k7, k8, k9, k10⟩ := hk
    simp [kindI, kindS, meetsB, k1, k2, k3, k4, k5, k6, k7, k8, k9, k10]
theorem limit_pos {rs : List RuleV} {k : Int} (h : 0 < limitAt rs k) : kindAtB rs k = true := by
  unfold limitAt at h
  unfold kindAtB
  by_cases hk : 0 ≤ k ∧ k < rs.length
  · rw [dif_pos hk] at h ⊢
    dsimp only at h
    split at h
    · rename_i hh
      exact decide_eq_true hh.1
    · omega
  · rw [dif_neg hk] at h
    omega
/-- What the model accepts, the program accepts. -/
theorem kindS_I {rs : List RuleV} {r : RuleV} (h : kindS rs r = true) : kindI rs r = true := by
  by_cases hp : 0 < limitAt rs (r.kids.headD 0)
  · rw [kind_same (by rw [limit_pos hp, decide_eq_true hp])]
    exact h
  · obtain ⟨nm, kd, sz, lt, bs, ns, ts, ks⟩ := r
    dsimp only at hp
    rcases kind_cases kd with rfl | rfl | rfl | rfl | rfl | rfl | rfl | rfl | rfl | rfl | hk
    all_goals first
      | (exfalso; simp [kindS] at h; exact hp h.2)
      | (obtain ⟨k1, k2, k3, k4, k5, k6, k7, k8, k9, k10⟩ := hk; simp [kindS, k1, k2, k3, k4, k5, k6, k7, k8, k9, k10] at h; done)
      | (simp [kindI, kindS, meetsB, onlyR, sameR, shapeB] at h ⊢; simp_all; done)
      | (simp [kindI, kindS, meetsB, onlyR, sameR, shapeB] at h ⊢; simp_all; omega)
      | (simp [kindI, kindS, meetsB, onlyR, sameR, shapeB, tagsB] at h ⊢; simp_all; done)
      | (simp [kindI, kindS, meetsB, onlyR, sameR, shapeB, termB] at h ⊢; simp_all; done)
end Go.Proofs.Ytefkhknfjohnaaa
namespace Go.Proofs.Ytefkhknfjohnaaa
open Go Go.RowKit
/-- All kids are earlier rules. -/
def kidsB (ks : List Int) (k : Int) : Bool := ks.all fun x => decide (0 ≤ x ∧ x ≤ k - 1)
/-- Whether the rule at an index is valid; f: the conditions of its kind. -/
noncomputable def validAt (f : RuleV → Bool) (rs : List RuleV) (k : Int) : Bool :=
  if h : 0 ≤ k ∧ k < rs.length then (let r := rs[k.toNat]'(by omega); decide (findFrom r.name rs 0 = k) && (kidsB r.kids k && (nameB r.name && f r))) else false
theorem validAt_out {f : RuleV → Bool} {rs : List RuleV} {k : Int} (h : ¬ (0 ≤ k ∧ k < rs.length)) : validAt f rs k = false := by unfold validAt; rw [dif_neg h]
theorem validAt_in {f : RuleV → Bool} {rs : List RuleV} {k : Nat} (h : k < rs.length) : validAt f rs (k : Int) = (decide (findFrom rs[k].name rs 0 = (k : Int)) && (kidsB rs[k].kids (k : Int) && (nameB rs[k].name && f rs[k]))) := by
  unfold validAt
  rw [dif_pos (by omega)]
  simp only [Int.toNat_natCast]
/-- Whether all rules are valid. -/
def allV (f : RuleV → Bool) (rs : List RuleV) : Prop := ∀ i : Nat, i < rs.length → validAt f rs (i : Int) = true
open Classical in
/-- Whether a description is valid. -/
noncomputable def descrB (f : RuleV → Bool) (rs : List RuleV) : Bool := decide ((1 ≤ rs.length ∧ rs.length ≤ 24) ∧ allV f rs)
open Classical in
theorem descrB_yes {f : RuleV → Bool} {rs : List RuleV} (h : 1 ≤ rs.length ∧ rs.length ≤ 24) (ha : allV f rs) : descrB f rs = true := by
  unfold descrB
  exact decide_eq_true ⟨h, ha⟩
open Classical in
theorem descrB_len {f : RuleV → Bool} {rs : List RuleV} (h : ¬ (1 ≤ rs.length ∧ rs.length ≤ 24)) : descrB f rs = false := by
  unfold descrB
  exact decide_eq_false fun h' => h h'.1
open Classical in
theorem descrB_bad {f : RuleV → Bool} {rs : List RuleV} {k : Nat} (hk : k < rs.length) (h : validAt f rs (k : Int) = false) : descrB f rs = false := by
  unfold descrB
  exact decide_eq_false fun h' => by
    have := h'.2 k hk
    rw [h] at this
    cases this
open Classical in
theorem descrB_iff {f : RuleV → Bool} {rs : List RuleV} : descrB f rs = true ↔ (1 ≤ rs.length ∧ rs.length ≤ 24) ∧ allV f rs := by
  unfold descrB
  exact decide_eq_true_iff
theorem validAt_mono {f g : RuleV → Bool} {rs : List RuleV} {k : Nat} (hk : k < rs.length) (hfg : f rs[k] = true → g rs[k] = true) (h : validAt f rs (k : Int) = true) : validAt g rs (k : Int) = true := by
  rw [validAt_in hk] at h ⊢
  simp only [Bool.and_eq_true] at h ⊢
  exact ⟨h.1, h.2.1, h.2.2.1, hfg h.2.2.2⟩
theorem validAt_kind {f : RuleV → Bool} {rs : List RuleV} {k : Nat} (hk : k < rs.length) (h : validAt f rs (k : Int) = true) : f rs[k] = true := by
  rw [validAt_in hk] at h
  simp only [Bool.and_eq_true] at h
  exact h.2.2.2
theorem kindI_size {rs : List RuleV} {r : RuleV} (h : kindI rs r = true) (hk : r.kind = 1) : 1 ≤ r.size ∧ r.size ≤ 4 := by
  simp [kindI, meetsB, hk] at h
  exact h.1.1
/-- Where all rules are valid, an integer has a limit. -/
theorem limit_of_valid {rs : List RuleV} (h : allV (kindI rs) rs) (k : Int) : kindAtB rs k = decide (0 < limitAt rs k) := by
  by_cases hk : 0 ≤ k ∧ k < rs.length
  · obtain ⟨n, rfl⟩ : ∃ n : Nat, k = (n : Int) := ⟨k.toNat, by omega⟩
    have hn : n < rs.length := by omega
    have hv := validAt_kind hn (h n hn)
    unfold kindAtB
    rw [dif_pos hk, limitAt_in hn]
    simp only [Int.toNat_natCast]
    by_cases h1 : rs[n].kind = 1
    · have hs := kindI_size hv h1
      rw [if_pos ⟨h1, hs⟩, decide_eq_true h1, decide_eq_true]
      have := (pow256_bounds rs[n].size).1
      omega
    · rw [if_neg (fun h => h1 h.1), decide_eq_false h1]
      rfl
  · unfold kindAtB
    rw [dif_neg hk, limitAt_out hk]
    rfl
theorem descr_same (rs : List RuleV) : descrB (kindI rs) rs = descrB (kindS rs) rs := by
  rw [Bool.eq_iff_iff, descrB_iff, descrB_iff]
  constructor
  · rintro ⟨h1, h2⟩
    exact ⟨h1, fun i hi => validAt_mono hi (fun h => by rw [← kind_same (limit_of_valid h2 _)]; exact h) (h2 i hi)⟩
  · rintro ⟨h1, h2⟩
    exact ⟨h1, fun i hi => validAt_mono hi (fun h => kindS_I h) (h2 i hi)⟩
/-- A rule whose slice of names has room for them. -/
def Cap5 (cs : List Value) : Prop := ∀ a n c, cs[5]? = some (.slice a n c) → n ≤ c
/-- A rule whose slice of kids has room for them. -/
def Cap7 (cs : List Value) : Prop := ∀ a n c, cs[7]? = some (.slice a n c) → n ≤ c
/-- .. and its slice of names too. -/
def CapK (cs : List Value) : Prop := Cap5 cs ∧ Cap7 cs
/-- The slice at a reads as these rules, and their names' slices have room for them. -/
def RdC (a : Option Addr) (rs : List RuleV) (w : World) : Prop :=
  ∀ j (h : j < rs.length), ∃ b off cs, a = some ⟨b, off, none⟩ ∧ IsRule rs[j] cs w ∧ Cap5 cs ∧ ∀ i v, cs[i]? = some v → w.cell? ⟨b, off + j * 8 + i, none⟩ = some v
theorem RdC.rd {a : Option Addr} {rs : List RuleV} {w : World} (h : RdC a rs w) : RdR a rs w := fun j hj => by
  obtain ⟨b, off, cs, h1, h2, _, h3⟩ := h j hj
  exact ⟨b, off, cs, h1, h2, h3⟩
theorem RdC.below {a : Option Addr} {rs : List RuleV} {w w' : World} (h : RdC a rs w) (hb : Below w.heap.size w w') : RdC a rs w' := fun j hj => by
  obtain ⟨b, off, cs, ha, hr, hp, hc⟩ := h j hj
  exact ⟨b, off, cs, ha, hr.below hb, hp, fun i v hi => (hb.cell (cell_lt (hc i v hi))).trans (hc i v hi)⟩
theorem OwnRule.cap {lo hi : Nat} {r : RuleV} {cs : List Value} {w : World} (h : OwnRule lo hi r cs w) : Cap5 cs := fun a n c hc => by
  obtain ⟨a4, c4, a5, c5, a6, c6, a7, c7, rfl, _, h5, _⟩ := h
  simp at hc
  obtain ⟨_, rfl, rfl⟩ := hc
  exact h5.2.1
theorem OwnR.rdc {lo hi : Nat} {a : Option Addr} {rs : List RuleV} {cap : Nat} {w : World} (h : OwnR lo hi a rs cap w) : RdC a rs w := fun j hj => by
  obtain ⟨css, hl, ho, hr, _⟩ := h
  rcases hr with rfl | ⟨b, off, ha, _, _, hc, _⟩
  · simp at hj
  · exact ⟨b, off, css[j]'(by omega), ha, (ho j hj (by omega)).is, (ho j hj (by omega)).cap, fun i v hv => (hc j (by omega) i v hv).1⟩
/-- One rule of a slice, cell by cell. -/
theorem RdC.at {a : Option Addr} {rs : List RuleV} {w : World} (h : RdC a rs w) (j : Nat) (hj : j < rs.length) : ∃ b off a4 c4 a5 c5 a6 c6 a7 c7, a = some ⟨b, off, none⟩ ∧
    (w.cell? ⟨b, off + j * 8, none⟩ = some (.string rs[j].name) ∧ w.cell? ⟨b, off + j * 8 + 1, none⟩ = some (.int .i64 rs[j].kind) ∧ w.cell? ⟨b, off + j * 8 + 2, none⟩ = some (.int .i64 rs[j].size) ∧ w.cell? ⟨b, off + j * 8 + 3, none⟩ = some (.bool rs[j].little) ∧
    w.cell? ⟨b, off + j * 8 + 4, none⟩ = some (.slice a4 rs[j].bytes.length c4) ∧ w.cell? ⟨b, off + j * 8 + 5, none⟩ = some (.slice a5 rs[j].names.length c5) ∧ w.cell? ⟨b, off + j * 8 + 6, none⟩ = some (.slice a6 rs[j].tags.length c6) ∧ w.cell? ⟨b, off + j * 8 + 7, none⟩ = some (.slice a7 rs[j].kids.length c7)) ∧
    (Rd a4 rs[j].bytes w ∧ RdStr a5 rs[j].names w ∧ RdI a6 rs[j].tags w ∧ RdI a7 rs[j].kids w) ∧ rs[j].names.length ≤ c5 := by
  obtain ⟨b, off, cs, ha, ⟨a4, c4, a5, c5, a6, c6, a7, c7, rfl, h4, h5, h6, h7⟩, hp, hc⟩ := h j hj
  exact ⟨b, off, a4, c4, a5, c5, a6, c6, a7, c7, ha, ⟨hc 0 _ rfl, hc 1 _ rfl, hc 2 _ rfl, hc 3 _ rfl, hc 4 _ rfl, hc 5 _ rfl, hc 6 _ rfl, hc 7 _ rfl⟩, ⟨h4, h5, h6, h7⟩, hp a5 _ c5 rfl⟩
/-- The strings in a rule are not too long. -/
def Spelt (r : RuleV) : Prop := r.name.size ≤ 1048576 ∧ ∀ s ∈ r.names, s.size ≤ 1048576
end Go.Proofs.Ytefkhknfjohnaaa
