/- The contract of the program's sizeOfParts, with Min and with Max. -/
import Derived.Test.YtfmnjclnhppghaaArr
import Derived.Test.YtfmnjclnhppghaaQL
import Derived.Test.YtfmnjclnhppghaaGDI
import Derived.Test.YtfmnjclnhppghaaDefSz
import Derived.Deep.CutRange
import Derived.IntWalk
set_option maxRecDepth 100000
namespace Go.Proofs.Ytfmnjclnhppghaa
open Go Go.RowKit
set_option maxHeartbeats 4000000 in
theorem partsMin_1 (rs : List RuleV) (r : RuleV) (cs : List Value) (zs : List Int) (n : Nat) (w : World) (_hn : n ≤ 24) (hki : kindI rs r = true) (hkd : ∀ k ∈ r.kids, 0 ≤ k ∧ k < (n : Int)) (hib : InB 401 zs) (_hc7 : Cap7 cs) (h : IsRule r cs w) (hk : r.kind = 1) :
  Calls Try.prog 126 #[.agg cs.toArray, .agg (arr24 zs).toArray, .func (.func 125) #[] #[]] w fun e w' => e = .returned (.int .i64 (minOf zs r)) ∧ Below w.heap.size w w' := by
 obtain ⟨a4, c4, a5, c5, a6, c6, a7, c7, rfl, h4, h5, h6, h7⟩ := h
 obtain ⟨z, hz⟩ : ∃ z, z = (arr24 zs).toArray := ⟨_, rfl⟩
 obtain ⟨w0, hw0⟩ : ∃ w0, w0 = (w.alloc (.cells #[.string r.name, .int .i64 r.kind, .int .i64 r.size, .bool r.little, .slice a4 r.bytes.length c4, .slice a5 r.names.length c5, .slice a6 r.tags.length c6, .slice a7 r.kids.length c7] 66)).alloc (.cells z 130) := ⟨_, rfl⟩
 have hB : Below w.heap.size w w0 := by subst hw0; exact ((Below.refl _ _).alloc (Nat.le_refl _) _).alloc (by simp) _
 have HC : Hid (CellsAt w.heap.size [.string r.name, .int .i64 r.kind, .int .i64 r.size, .bool r.little, .slice a4 r.bytes.length c4, .slice a5 r.names.length c5, .slice a6 r.tags.length c6, .slice a7 r.kids.length c7] w0) := by subst hw0; exact (CellsAt.new w _ _).below ((Below.refl _ _).alloc (Nat.le_refl _) _)
 have HY : Hid (CellsAt (w.heap.size + 1) (arr24 zs) w0) := by subst hw0; subst hz; have h1 := CellsAt.new (w.alloc (.cells #[.string r.name, .int .i64 r.kind, .int .i64 r.size, .bool r.little, .slice a4 r.bytes.length c4, .slice a5 r.names.length c5, .slice a6 r.tags.length c6, .slice a7 r.kids.length c7] 66)) (arr24 zs) 130; rw [World.size_alloc] at h1; exact h1
 have HR7 := Lib.hid (h7.below hB)
 have HB := Lib.hid hB
 have HKI := Lib.hid hki
 have HKD := Lib.hid hkd
 have HIB := Lib.hid hib
 have hW := Lib.hid hw0
 have c1 := (HC.out 1 _ rfl).1
 rw [hk] at c1
 have hHZ := Lib.hid hz
 clear hB hki hkd hib hw0 h4 h5 h6 h7
 have HZ : Hid (r.size = minOf zs r) := by show _ = _; unfold minOf; simp [hk]
 have c2 := (HC.out 2 _ rfl).1
 clear hk
 go_enter Try.func126, Try.ntmps126
 rw [← hz]
 clear hz
 go_upto_region 1 with fail
 rw [← hW.out]
 clear hW
 go_wp2
 go_ret
 exact ⟨ret_int HZ.out, HB.out⟩

set_option maxHeartbeats 4000000 in
theorem partsMax_1 (rs : List RuleV) (r : RuleV) (cs : List Value) (zs : List Int) (n : Nat) (w : World) (_hn : n ≤ 24) (hki : kindI rs r = true) (hkd : ∀ k ∈ r.kids, 0 ≤ k ∧ k < (n : Int)) (hib : InB 401 zs) (_hc7 : Cap7 cs) (h : IsRule r cs w) (hk : r.kind = 1) :
  Calls Try.prog 126 #[.agg cs.toArray, .agg (arr24 zs).toArray, .func (.func 127) #[] #[]] w fun e w' => e = .returned (.int .i64 (maxOf rs zs r)) ∧ Below w.heap.size w w' := by
 obtain ⟨a4, c4, a5, c5, a6, c6, a7, c7, rfl, h4, h5, h6, h7⟩ := h
 obtain ⟨z, hz⟩ : ∃ z, z = (arr24 zs).toArray := ⟨_, rfl⟩
 obtain ⟨w0, hw0⟩ : ∃ w0, w0 = (w.alloc (.cells #[.string r.name, .int .i64 r.kind, .int .i64 r.size, .bool r.little, .slice a4 r.bytes.length c4, .slice a5 r.names.length c5, .slice a6 r.tags.length c6, .slice a7 r.kids.length c7] 66)).alloc (.cells z 130) := ⟨_, rfl⟩
 have hB : Below w.heap.size w w0 := by subst hw0; exact ((Below.refl _ _).alloc (Nat.le_refl _) _).alloc (by simp) _
 have HC : Hid (CellsAt w.heap.size [.string r.name, .int .i64 r.kind, .int .i64 r.size, .bool r.little, .slice a4 r.bytes.length c4, .slice a5 r.names.length c5, .slice a6 r.tags.length c6, .slice a7 r.kids.length c7] w0) := by subst hw0; exact (CellsAt.new w _ _).below ((Below.refl _ _).alloc (Nat.le_refl _) _)
 have HY : Hid (CellsAt (w.heap.size + 1) (arr24 zs) w0) := by subst hw0; subst hz; have h1 := CellsAt.new (w.alloc (.cells #[.string r.name, .int .i64 r.kind, .int .i64 r.size, .bool r.little, .slice a4 r.bytes.length c4, .slice a5 r.names.length c5, .slice a6 r.tags.length c6, .slice a7 r.kids.length c7] 66)) (arr24 zs) 130; rw [World.size_alloc] at h1; exact h1
 have HR7 := Lib.hid (h7.below hB)
 have HB := Lib.hid hB
 have HKI := Lib.hid hki
 have HKD := Lib.hid hkd
 have HIB := Lib.hid hib
 have hW := Lib.hid hw0
 have c1 := (HC.out 1 _ rfl).1
 rw [hk] at c1
 have hHZ := Lib.hid hz
 clear hB hki hkd hib hw0 h4 h5 h6 h7
 have HZ : Hid (r.size = maxOf rs zs r) := by show _ = _; unfold maxOf; simp [hk]
 have c2 := (HC.out 2 _ rfl).1
 clear hk
 go_enter Try.func126, Try.ntmps126
 rw [← hz]
 clear hz
 go_upto_region 1 with fail
 rw [← hW.out]
 clear hW
 go_wp2
 go_ret
 exact ⟨ret_int HZ.out, HB.out⟩

set_option maxHeartbeats 4000000 in
theorem partsMin_2 (rs : List RuleV) (r : RuleV) (cs : List Value) (zs : List Int) (n : Nat) (w : World) (_hn : n ≤ 24) (hki : kindI rs r = true) (hkd : ∀ k ∈ r.kids, 0 ≤ k ∧ k < (n : Int)) (hib : InB 401 zs) (_hc7 : Cap7 cs) (h : IsRule r cs w) (hk : r.kind = 2) :
  Calls Try.prog 126 #[.agg cs.toArray, .agg (arr24 zs).toArray, .func (.func 125) #[] #[]] w fun e w' => e = .returned (.int .i64 (minOf zs r)) ∧ Below w.heap.size w w' := by
 obtain ⟨a4, c4, a5, c5, a6, c6, a7, c7, rfl, h4, h5, h6, h7⟩ := h
 obtain ⟨z, hz⟩ : ∃ z, z = (arr24 zs).toArray := ⟨_, rfl⟩
 obtain ⟨w0, hw0⟩ : ∃ w0, w0 = (w.alloc (.cells #[.string r.name, .int .i64 r.kind, .int .i64 r.size, .bool r.little, .slice a4 r.bytes.length c4, .slice a5 r.names.length c5, .slice a6 r.tags.length c6, .slice a7 r.kids.length c7] 66)).alloc (.cells z 130) := ⟨_, rfl⟩
 have hB : Below w.heap.size w w0 := by subst hw0; exact ((Below.refl _ _).alloc (Nat.le_refl _) _).alloc (by simp) _
 have HC : Hid (CellsAt w.heap.size [.string r.name, .int .i64 r.kind, .int .i64 r.size, .bool r.little, .slice a4 r.bytes.length c4, .slice a5 r.names.length c5, .slice a6 r.tags.length c6, .slice a7 r.kids.length c7] w0) := by subst hw0; exact (CellsAt.new w _ _).below ((Below.refl _ _).alloc (Nat.le_refl _) _)
 have HY : Hid (CellsAt (w.heap.size + 1) (arr24 zs) w0) := by subst hw0; subst hz; have h1 := CellsAt.new (w.alloc (.cells #[.string r.name, .int .i64 r.kind, .int .i64 r.size, .bool r.little, .slice a4 r.bytes.length c4, .slice a5 r.names.length c5, .slice a6 r.tags.length c6, .slice a7 r.kids.length c7] 66)) (arr24 zs) 130; rw [World.size_alloc] at h1; exact h1
 have HR7 := Lib.hid (h7.below hB)
 have HB := Lib.hid hB
 have HKI := Lib.hid hki
 have HKD := Lib.hid hkd
 have HIB := Lib.hid hib
 have hW := Lib.hid hw0
 have c1 := (HC.out 1 _ rfl).1
 rw [hk] at c1
 have hHZ := Lib.hid hz
 clear hB hki hkd hib hw0 h4 h5 h6 h7
 have HZ : Hid ((r.bytes.length : Int) = minOf zs r) := by show _ = _; unfold minOf; simp [hk]
 have c4 := (HC.out 4 _ rfl).1
 clear hk
 go_enter Try.func126, Try.ntmps126
 rw [← hz]
 clear hz
 go_upto_region 1 with fail
 rw [← hW.out]
 clear hW
 go_wp2
 go_ret
 exact ⟨ret_int HZ.out, HB.out⟩

set_option maxHeartbeats 4000000 in
theorem partsMax_2 (rs : List RuleV) (r : RuleV) (cs : List Value) (zs : List Int) (n : Nat) (w : World) (_hn : n ≤ 24) (hki : kindI rs r = true) (hkd : ∀ k ∈ r.kids, 0 ≤ k ∧ k < (n : Int)) (hib : InB 401 zs) (_hc7 : Cap7 cs) (h : IsRule r cs w) (hk : r.kind = 2) :
  Calls Try.prog 126 #[.agg cs.toArray, .agg (arr24 zs).toArray, .func (.func 127) #[] #[]] w fun e w' => e = .returned (.int .i64 (maxOf rs zs r)) ∧ Below w.heap.size w w' := by
 obtain ⟨a4, c4, a5, c5, a6, c6, a7, c7, rfl, h4, h5, h6, h7⟩ := h
 obtain ⟨z, hz⟩ : ∃ z, z = (arr24 zs).toArray := ⟨_, rfl⟩
 obtain ⟨w0, hw0⟩ : ∃ w0, w0 = (w.alloc (.cells #[.string r.name, .int .i64 r.kind, .int .i64 r.size, .bool r.little, .slice a4 r.bytes.length c4, .slice a5 r.names.length c5, .slice a6 r.tags.length c6, .slice a7 r.kids.length c7] 66)).alloc (.cells z 130) := ⟨_, rfl⟩
 have hB : Below w.heap.size w w0 := by subst hw0; exact ((Below.refl _ _).alloc (Nat.le_refl _) _).alloc (by simp) _
 have HC : Hid (CellsAt w.heap.size [.string r.name, .int .i64 r.kind, .int .i64 r.size, .bool r.little, .slice a4 r.bytes.length c4, .slice a5 r.names.length c5, .slice a6 r.tags.length c6, .slice a7 r.kids.length c7] w0) := by subst hw0; exact (CellsAt.new w _ _).below ((Below.refl _ _).alloc (Nat.le_refl _) _)
 have HY : Hid (CellsAt (w.heap.size + 1) (arr24 zs) w0) := by subst hw0; subst hz; have h1 := CellsAt.new (w.alloc (.cells #[.string r.name, .int .i64 r.kind, .int .i64 r.size, .bool r.little, .slice a4 r.bytes.length c4, .slice a5 r.names.length c5, .slice a6 r.tags.length c6, .slice a7 r.kids.length c7] 66)) (arr24 zs) 130; rw [World.size_alloc] at h1; exact h1
 have HR7 := Lib.hid (h7.below hB)
 have HB := Lib.hid hB
 have HKI := Lib.hid hki
 have HKD := Lib.hid hkd
 have HIB := Lib.hid hib
 have hW := Lib.hid hw0
 have c1 := (HC.out 1 _ rfl).1
 rw [hk] at c1
 have hHZ := Lib.hid hz
 clear hB hki hkd hib hw0 h4 h5 h6 h7
 have HZ : Hid ((r.bytes.length : Int) = maxOf rs zs r) := by show _ = _; unfold maxOf; simp [hk]
 have c4 := (HC.out 4 _ rfl).1
 clear hk
 go_enter Try.func126, Try.ntmps126
 rw [← hz]
 clear hz
 go_upto_region 1 with fail
 rw [← hW.out]
 clear hW
 go_wp2
 go_ret
 exact ⟨ret_int HZ.out, HB.out⟩

set_option maxHeartbeats 4000000 in
theorem partsMin_3 (rs : List RuleV) (r : RuleV) (cs : List Value) (zs : List Int) (n : Nat) (w : World) (_hn : n ≤ 24) (hki : kindI rs r = true) (hkd : ∀ k ∈ r.kids, 0 ≤ k ∧ k < (n : Int)) (hib : InB 401 zs) (_hc7 : Cap7 cs) (h : IsRule r cs w) (hk : r.kind = 3) :
  Calls Try.prog 126 #[.agg cs.toArray, .agg (arr24 zs).toArray, .func (.func 125) #[] #[]] w fun e w' => e = .returned (.int .i64 (minOf zs r)) ∧ Below w.heap.size w w' := by
 obtain ⟨a4, c4, a5, c5, a6, c6, a7, c7, rfl, h4, h5, h6, h7⟩ := h
 obtain ⟨z, hz⟩ : ∃ z, z = (arr24 zs).toArray := ⟨_, rfl⟩
 obtain ⟨w0, hw0⟩ : ∃ w0, w0 = (w.alloc (.cells #[.string r.name, .int .i64 r.kind, .int .i64 r.size, .bool r.little, .slice a4 r.bytes.length c4, .slice a5 r.names.length c5, .slice a6 r.tags.length c6, .slice a7 r.kids.length c7] 66)).alloc (.cells z 130) := ⟨_, rfl⟩
 have hB : Below w.heap.size w w0 := by subst hw0; exact ((Below.refl _ _).alloc (Nat.le_refl _) _).alloc (by simp) _
 have HC : Hid (CellsAt w.heap.size [.string r.name, .int .i64 r.kind, .int .i64 r.size, .bool r.little, .slice a4 r.bytes.length c4, .slice a5 r.names.length c5, .slice a6 r.tags.length c6, .slice a7 r.kids.length c7] w0) := by subst hw0; exact (CellsAt.new w _ _).below ((Below.refl _ _).alloc (Nat.le_refl _) _)
 have HY : Hid (CellsAt (w.heap.size + 1) (arr24 zs) w0) := by subst hw0; subst hz; have h1 := CellsAt.new (w.alloc (.cells #[.string r.name, .int .i64 r.kind, .int .i64 r.size, .bool r.little, .slice a4 r.bytes.length c4, .slice a5 r.names.length c5, .slice a6 r.tags.length c6, .slice a7 r.kids.length c7] 66)) (arr24 zs) 130; rw [World.size_alloc] at h1; exact h1
 have HR7 := Lib.hid (h7.below hB)
 have HB := Lib.hid hB
 have HKI := Lib.hid hki
 have HKD := Lib.hid hkd
 have HIB := Lib.hid hib
 have hW := Lib.hid hw0
 have c1 := (HC.out 1 _ rfl).1
 rw [hk] at c1
 have hHZ := Lib.hid hz
 clear hB hki hkd hib hw0 h4 h5 h6 h7
 have HZ : Hid (r.size = minOf zs r) := by show _ = _; unfold minOf; simp [hk]
 have c2 := (HC.out 2 _ rfl).1
 clear hk
 go_enter Try.func126, Try.ntmps126
 rw [← hz]
 clear hz
 go_upto_region 1 with fail
 rw [← hW.out]
 clear hW
 go_wp2
 go_ret
 exact ⟨ret_int HZ.out, HB.out⟩

set_option maxHeartbeats 4000000 in
theorem partsMax_3 (rs : List RuleV) (r : RuleV) (cs : List Value) (zs : List Int) (n : Nat) (w : World) (_hn : n ≤ 24) (hki : kindI rs r = true) (hkd : ∀ k ∈ r.kids, 0 ≤ k ∧ k < (n : Int)) (hib : InB 401 zs) (_hc7 : Cap7 cs) (h : IsRule r cs w) (hk : r.kind = 3) :
  Calls Try.prog 126 #[.agg cs.toArray, .agg (arr24 zs).toArray, .func (.func 127) #[] #[]] w fun e w' => e = .returned (.int .i64 (maxOf rs zs r)) ∧ Below w.heap.size w w' := by
 obtain ⟨a4, c4, a5, c5, a6, c6, a7, c7, rfl, h4, h5, h6, h7⟩ := h
 obtain ⟨z, hz⟩ : ∃ z, z = (arr24 zs).toArray := ⟨_, rfl⟩
 obtain ⟨w0, hw0⟩ : ∃ w0, w0 = (w.alloc (.cells #[.string r.name, .int .i64 r.kind, .int .i64 r.size, .bool r.little, .slice a4 r.bytes.length c4, .slice a5 r.names.length c5, .slice a6 r.tags.length c6, .slice a7 r.kids.length c7] 66)).alloc (.cells z 130) := ⟨_, rfl⟩
 have hB : Below w.heap.size w w0 := by subst hw0; exact ((Below.refl _ _).alloc (Nat.le_refl _) _).alloc (by simp) _
 have HC : Hid (CellsAt w.heap.size [.string r.name, .int .i64 r.kind, .int .i64 r.size, .bool r.little, .slice a4 r.bytes.length c4, .slice a5 r.names.length c5, .slice a6 r.tags.length c6, .slice a7 r.kids.length c7] w0) := by subst hw0; exact (CellsAt.new w _ _).below ((Below.refl _ _).alloc (Nat.le_refl _) _)
 have HY : Hid (CellsAt (w.heap.size + 1) (arr24 zs) w0) := by subst hw0; subst hz; have h1 := CellsAt.new (w.alloc (.cells #[.string r.name, .int .i64 r.kind, .int .i64 r.size, .bool r.little, .slice a4 r.bytes.length c4, .slice a5 r.names.length c5, .slice a6 r.tags.length c6, .slice a7 r.kids.length c7] 66)) (arr24 zs) 130; rw [World.size_alloc] at h1; exact h1
 have HR7 := Lib.hid (h7.below hB)
 have HB := Lib.hid hB
 have HKI := Lib.hid hki
 have HKD := Lib.hid hkd
 have HIB := Lib.hid hib
 have hW := Lib.hid hw0
 have c1 := (HC.out 1 _ rfl).1
 rw [hk] at c1
 have hHZ := Lib.hid hz
 clear hB hki hkd hib hw0 h4 h5 h6 h7
 have HZ : Hid (r.size = maxOf rs zs r) := by show _ = _; unfold maxOf; simp [hk]
 have c2 := (HC.out 2 _ rfl).1
 clear hk
 go_enter Try.func126, Try.ntmps126
 rw [← hz]
 clear hz
 go_upto_region 1 with fail
 rw [← hW.out]
 clear hW
 go_wp2
 go_ret
 exact ⟨ret_int HZ.out, HB.out⟩

set_option maxHeartbeats 4000000 in
theorem partsMin_6 (rs : List RuleV) (r : RuleV) (cs : List Value) (zs : List Int) (n : Nat) (w : World) (hn : n ≤ 24) (hki : kindI rs r = true) (hkd : ∀ k ∈ r.kids, 0 ≤ k ∧ k < (n : Int)) (hib : InB 401 zs) (_hc7 : Cap7 cs) (h : IsRule r cs w) (hk : r.kind = 6) :
  Calls Try.prog 126 #[.agg cs.toArray, .agg (arr24 zs).toArray, .func (.func 125) #[] #[]] w fun e w' => e = .returned (.int .i64 (minOf zs r)) ∧ Below w.heap.size w w' := by
 obtain ⟨a4, c4, a5, c5, a6, c6, a7, c7, rfl, h4, h5, h6, h7⟩ := h
 obtain ⟨z, hz⟩ : ∃ z, z = (arr24 zs).toArray := ⟨_, rfl⟩
 obtain ⟨w0, hw0⟩ : ∃ w0, w0 = (w.alloc (.cells #[.string r.name, .int .i64 r.kind, .int .i64 r.size, .bool r.little, .slice a4 r.bytes.length c4, .slice a5 r.names.length c5, .slice a6 r.tags.length c6, .slice a7 r.kids.length c7] 66)).alloc (.cells z 130) := ⟨_, rfl⟩
 have hB : Below w.heap.size w w0 := by subst hw0; exact ((Below.refl _ _).alloc (Nat.le_refl _) _).alloc (by simp) _
 have HC : Hid (CellsAt w.heap.size [.string r.name, .int .i64 r.kind, .int .i64 r.size, .bool r.little, .slice a4 r.bytes.length c4, .slice a5 r.names.length c5, .slice a6 r.tags.length c6, .slice a7 r.kids.length c7] w0) := by subst hw0; exact (CellsAt.new w _ _).below ((Below.refl _ _).alloc (Nat.le_refl _) _)
 have HY : Hid (CellsAt (w.heap.size + 1) (arr24 zs) w0) := by subst hw0; subst hz; have h1 := CellsAt.new (w.alloc (.cells #[.string r.name, .int .i64 r.kind, .int .i64 r.size, .bool r.little, .slice a4 r.bytes.length c4, .slice a5 r.names.length c5, .slice a6 r.tags.length c6, .slice a7 r.kids.length c7] 66)) (arr24 zs) 130; rw [World.size_alloc] at h1; exact h1
 have HR7 := Lib.hid (h7.below hB)
 have HB := Lib.hid hB
 have HKI := Lib.hid hki
 have HKD := Lib.hid hkd
 have HIB := Lib.hid hib
 have hW := Lib.hid hw0
 have c1 := (HC.out 1 _ rfl).1
 rw [hk] at c1
 have hHZ := Lib.hid hz
 clear hB hki hkd hib hw0 h4 h5 h6 h7
 have hl := Lib.hid (kindI_6 HKI.out hk)
 have hk8 : r.kids.length ≤ 8 := by have := hl.out; omega
 have y7 := (HC.out 7 _ rfl).1
 have HF : Hid (∀ x, x = sumT zs r.kids → x = minOf zs r) := fun x hx => by rw [hx]; unfold minOf; simp [hk]
 clear hk
 go_enter Try.func126, Try.ntmps126
 rw [← hz]
 clear hz
 go_upto_region 1 with fail
 rw [← hW.out]
 clear hW
 go_wp2
 go_loop [7, 9, 30] (fun x _ i => ∃ (j : Nat) (z : Int), j ≤ r.kids.length ∧ i = .int .i64 j ∧ x = .int .i64 z ∧ Hid (z = sumT zs (r.kids.take j)) ∧ 0 ≤ z ∧ z ≤ 401 * (j : Int)) (fun _ _ i => r.kids.length - (intOf i).toNat)
 case atStart => exact ⟨0, 0, Nat.zero_le _, rfl, rfl, rfl, by omega, by omega⟩
 case round =>
  obtain ⟨j, z, hjl, rfl, rfl, hz, hz0, hz1⟩ := hrel
  have j0 : (0 : Int) ≤ (j : Int) := by omega
  by_cases hj : j < r.kids.length
  ·have j1 : (j : Int) < (r.kids.length : Int) := by omega
   obtain ⟨m, hm, hmk⟩ := kid_nat HKD.out (j := j) hj
   obtain ⟨b7, o7, ha7, hc7⟩ := HR7.out.cellAt (j := j) hj
   cases ha7
   have hnx := Lib.hid (sumT_next (t := zs) hj)
   rw [hm] at hc7 hnx
   have hqo := (HY.out m _ (arr24_at zs (by omega))).1
   have hio := HIB.out (m : Int)
   clear hm
   generalize tabAt zs (m : Int) = y at hqo hio hnx
   have n0 : (0 : Int) ≤ (m : Int) := by omega
   have l0 : (m : Int) < 24 := by omega
   have b0 : -9223372036854775808 ≤ z + y := by omega
   have b1 : z + y ≤ 9223372036854775807 := by omega
   go_wp2
   go_round
   case rel => exact ⟨j + 1, z + y, by omega, by go_num, by go_num, by show _ = _; rw [hnx.out, ← hz.out], by omega, by omega⟩
   case measure => simp [intOf]; omega
  ·have j1 : ¬ (j : Int) < (r.kids.length : Int) := by omega
   have hzz : Hid (z = sumT zs r.kids) := by have := hz.out; rw [List.take_of_length_le (by omega)] at this; exact this
   have HZ := Lib.hid (HF.out z hzz.out)
   go_wp2
   go_ret
   exact ⟨ret_int HZ.out, HB.out⟩

set_option maxHeartbeats 4000000 in
theorem partsMax_6 (rs : List RuleV) (r : RuleV) (cs : List Value) (zs : List Int) (n : Nat) (w : World) (hn : n ≤ 24) (hki : kindI rs r = true) (hkd : ∀ k ∈ r.kids, 0 ≤ k ∧ k < (n : Int)) (hib : InB 401 zs) (_hc7 : Cap7 cs) (h : IsRule r cs w) (hk : r.kind = 6) :
  Calls Try.prog 126 #[.agg cs.toArray, .agg (arr24 zs).toArray, .func (.func 127) #[] #[]] w fun e w' => e = .returned (.int .i64 (maxOf rs zs r)) ∧ Below w.heap.size w w' := by
 obtain ⟨a4, c4, a5, c5, a6, c6, a7, c7, rfl, h4, h5, h6, h7⟩ := h
 obtain ⟨z, hz⟩ : ∃ z, z = (arr24 zs).toArray := ⟨_, rfl⟩
 obtain ⟨w0, hw0⟩ : ∃ w0, w0 = (w.alloc (.cells #[.string r.name, .int .i64 r.kind, .int .i64 r.size, .bool r.little, .slice a4 r.bytes.length c4, .slice a5 r.names.length c5, .slice a6 r.tags.length c6, .slice a7 r.kids.length c7] 66)).alloc (.cells z 130) := ⟨_, rfl⟩
 have hB : Below w.heap.size w w0 := by subst hw0; exact ((Below.refl _ _).alloc (Nat.le_refl _) _).alloc (by simp) _
 have HC : Hid (CellsAt w.heap.size [.string r.name, .int .i64 r.kind, .int .i64 r.size, .bool r.little, .slice a4 r.bytes.length c4, .slice a5 r.names.length c5, .slice a6 r.tags.length c6, .slice a7 r.kids.length c7] w0) := by subst hw0; exact (CellsAt.new w _ _).below ((Below.refl _ _).alloc (Nat.le_refl _) _)
 have HY : Hid (CellsAt (w.heap.size + 1) (arr24 zs) w0) := by subst hw0; subst hz; have h1 := CellsAt.new (w.alloc (.cells #[.string r.name, .int .i64 r.kind, .int .i64 r.size, .bool r.little, .slice a4 r.bytes.length c4, .slice a5 r.names.length c5, .slice a6 r.tags.length c6, .slice a7 r.kids.length c7] 66)) (arr24 zs) 130; rw [World.size_alloc] at h1; exact h1
 have HR7 := Lib.hid (h7.below hB)
 have HB := Lib.hid hB
 have HKI := Lib.hid hki
 have HKD := Lib.hid hkd
 have HIB := Lib.hid hib
 have hW := Lib.hid hw0
 have c1 := (HC.out 1 _ rfl).1
 rw [hk] at c1
 have hHZ := Lib.hid hz
 clear hB hki hkd hib hw0 h4 h5 h6 h7
 have hl := Lib.hid (kindI_6 HKI.out hk)
 have hk8 : r.kids.length ≤ 8 := by have := hl.out; omega
 have y7 := (HC.out 7 _ rfl).1
 have HF : Hid (∀ x, x = sumT zs r.kids → x = maxOf rs zs r) := fun x hx => by rw [hx]; unfold maxOf; simp [hk]
 clear hk
 go_enter Try.func126, Try.ntmps126
 rw [← hz]
 clear hz
 go_upto_region 1 with fail
 rw [← hW.out]
 clear hW
 go_wp2
 go_loop [7, 9, 30] (fun x _ i => ∃ (j : Nat) (z : Int), j ≤ r.kids.length ∧ i = .int .i64 j ∧ x = .int .i64 z ∧ Hid (z = sumT zs (r.kids.take j)) ∧ 0 ≤ z ∧ z ≤ 401 * (j : Int)) (fun _ _ i => r.kids.length - (intOf i).toNat)
 case atStart => exact ⟨0, 0, Nat.zero_le _, rfl, rfl, rfl, by omega, by omega⟩
 case round =>
  obtain ⟨j, z, hjl, rfl, rfl, hz, hz0, hz1⟩ := hrel
  have j0 : (0 : Int) ≤ (j : Int) := by omega
  by_cases hj : j < r.kids.length
  ·have j1 : (j : Int) < (r.kids.length : Int) := by omega
   obtain ⟨m, hm, hmk⟩ := kid_nat HKD.out (j := j) hj
   obtain ⟨b7, o7, ha7, hc7⟩ := HR7.out.cellAt (j := j) hj
   cases ha7
   have hnx := Lib.hid (sumT_next (t := zs) hj)
   rw [hm] at hc7 hnx
   have hqo := (HY.out m _ (arr24_at zs (by omega))).1
   have hio := HIB.out (m : Int)
   clear hm
   generalize tabAt zs (m : Int) = y at hqo hio hnx
   have n0 : (0 : Int) ≤ (m : Int) := by omega
   have l0 : (m : Int) < 24 := by omega
   have b0 : -9223372036854775808 ≤ z + y := by omega
   have b1 : z + y ≤ 9223372036854775807 := by omega
   go_wp2
   go_round
   case rel => exact ⟨j + 1, z + y, by omega, by go_num, by go_num, by show _ = _; rw [hnx.out, ← hz.out], by omega, by omega⟩
   case measure => simp [intOf]; omega
  ·have j1 : ¬ (j : Int) < (r.kids.length : Int) := by omega
   have hzz : Hid (z = sumT zs r.kids) := by have := hz.out; rw [List.take_of_length_le (by omega)] at this; exact this
   have HZ := Lib.hid (HF.out z hzz.out)
   go_wp2
   go_ret
   exact ⟨ret_int HZ.out, HB.out⟩

set_option maxHeartbeats 4000000 in
theorem partsMin_7 (rs : List RuleV) (r : RuleV) (cs : List Value) (zs : List Int) (n : Nat) (w : World) (hn : n ≤ 24) (hki : kindI rs r = true) (hkd : ∀ k ∈ r.kids, 0 ≤ k ∧ k < (n : Int)) (hib : InB 401 zs) (hc7 : Cap7 cs) (h : IsRule r cs w) (hk : r.kind = 7) :
  Calls Try.prog 126 #[.agg cs.toArray, .agg (arr24 zs).toArray, .func (.func 125) #[] #[]] w fun e w' => e = .returned (.int .i64 (minOf zs r)) ∧ Below w.heap.size w w' := by
 obtain ⟨a4, c4, a5, c5, a6, c6, a7, c7, rfl, h4, h5, h6, h7⟩ := h
 obtain ⟨z, hz⟩ : ∃ z, z = (arr24 zs).toArray := ⟨_, rfl⟩
 obtain ⟨w0, hw0⟩ : ∃ w0, w0 = (w.alloc (.cells #[.string r.name, .int .i64 r.kind, .int .i64 r.size, .bool r.little, .slice a4 r.bytes.length c4, .slice a5 r.names.length c5, .slice a6 r.tags.length c6, .slice a7 r.kids.length c7] 66)).alloc (.cells z 130) := ⟨_, rfl⟩
 have hB : Below w.heap.size w w0 := by subst hw0; exact ((Below.refl _ _).alloc (Nat.le_refl _) _).alloc (by simp) _
 have HC : Hid (CellsAt w.heap.size [.string r.name, .int .i64 r.kind, .int .i64 r.size, .bool r.little, .slice a4 r.bytes.length c4, .slice a5 r.names.length c5, .slice a6 r.tags.length c6, .slice a7 r.kids.length c7] w0) := by subst hw0; exact (CellsAt.new w _ _).below ((Below.refl _ _).alloc (Nat.le_refl _) _)
 have HY : Hid (CellsAt (w.heap.size + 1) (arr24 zs) w0) := by subst hw0; subst hz; have h1 := CellsAt.new (w.alloc (.cells #[.string r.name, .int .i64 r.kind, .int .i64 r.size, .bool r.little, .slice a4 r.bytes.length c4, .slice a5 r.names.length c5, .slice a6 r.tags.length c6, .slice a7 r.kids.length c7] 66)) (arr24 zs) 130; rw [World.size_alloc] at h1; exact h1
 have HR7 := Lib.hid (h7.below hB)
 have HB := Lib.hid hB
 have HKI := Lib.hid hki
 have HKD := Lib.hid hkd
 have HIB := Lib.hid hib
 have hW := Lib.hid hw0
 have c1 := (HC.out 1 _ rfl).1
 rw [hk] at c1
 have hHZ := Lib.hid hz
 clear hB hki hkd hib hw0 h4 h5 h6 h7
 have hl := Lib.hid (kindI_7 HKI.out hk)
 have hk9 : r.kids.length ≤ 9 := by have := hl.out; omega
 have hk2 : 2 ≤ r.kids.length := by have := hl.out; omega
 have y7 := (HC.out 7 _ rfl).1
 have g0 : (0 : Int) < (r.kids.length : Int) := by omega
 have g1 : (1 : Int) < (r.kids.length : Int) := by omega
 have g2 : (2 : Int) ≤ (r.kids.length : Int) := by omega
 obtain ⟨m0, hm0, hmk0⟩ := kid_nat HKD.out (j := 0) (by omega)
 obtain ⟨b0, o0, ha0, hc0⟩ := HR7.out.cellAt (j := 0) (by omega)
 cases ha0
 rw [hm0] at hc0
 have hq0 := (HY.out m0 _ (arr24_at zs (by omega))).1
 have hi0 := HIB.out (m0 : Int)
 have n0 : (0 : Int) ≤ (m0 : Int) := by omega
 have l0 : (m0 : Int) < 24 := by omega
 simp only [Nat.add_zero] at hc0
 have HK : Hid (tabAt zs (r.kids.getD 0 0) = tabAt zs (m0 : Int)) := by show _ = _; rw [getD_at (by omega), hm0]
 clear hm0
 generalize tabAt zs (m0 : Int) = y0 at hq0 hi0 HK
 obtain ⟨m1, hm1, hmk1⟩ := kid_nat HKD.out (j := 1) (by omega)
 obtain ⟨b1, o1, ha1, hc1⟩ := HR7.out.cellAt (j := 1) (by omega)
 cases ha1
 rw [hm1] at hc1
 have hq1 := (HY.out m1 _ (arr24_at zs (by omega))).1
 have hi1 := HIB.out (m1 : Int)
 have n1 : (0 : Int) ≤ (m1 : Int) := by omega
 have l1 : (m1 : Int) < 24 := by omega
 have HK1 : Hid (tabAt zs (r.kids.getD 1 0) = tabAt zs (m1 : Int)) := by show _ = _; rw [getD_at (by omega), hm1]
 clear hm1
 generalize tabAt zs (m1 : Int) = y1 at hq1 hi1 HK1
 have HF : Hid (∀ x, x = leastT zs (r.kids.drop 2) y1 → y0 + x = minOf zs r) := fun x hx => by rw [hx]; unfold minOf; rw [HK.out, HK1.out]; simp [hk]
 have hcap : r.kids.length ≤ c7 := hc7 _ _ _ rfl
 clear hc7
 by_cases e2 : c7 = 2
 ·subst e2
  have hlen2 : r.kids.length = 2 := by omega
  have HZ : Hid (y0 + y1 = minOf zs r) := HF.out y1 (by rw [List.drop_of_length_le (by omega)]; rfl)
  rw [hlen2] at y7 g0 g1 g2
  clear hlen2 hk2 hk9 hcap HR7
  clear hk
  go_enter Try.func126, Try.ntmps126
  rw [← hz]
  clear hz
  go_upto_region 1 with fail
  rw [← hW.out]
  clear hW
  go_wp2
  go_loop [10, 12, 52] (fun x _ i => i = .int .i64 0 ∧ x = .int .i64 y1) (fun _ _ _ => 0)
  case atStart => exact ⟨rfl, rfl⟩
  case round =>
   obtain ⟨rfl, rfl⟩ := hrel
   go_wp2
   go_ret
   exact ⟨ret_int HZ.out, HB.out⟩
 ·obtain ⟨L, hL⟩ : ∃ L, L + 2 = r.kids.length := ⟨r.kids.length - 2, by omega⟩
  obtain ⟨C, rfl⟩ : ∃ C, c7 = C + 2 := ⟨c7 - 2, by omega⟩
  have hC0 : ¬ C = 0 := by omega
  have hLC : L ≤ C := by omega
  have hL9 : L ≤ 7 := by omega
  rw [← hL] at y7 g0 g1 g2
  have HL := Lib.hid hL
  clear hL hk2 hk9 hcap e2
  clear hk
  go_enter Try.func126, Try.ntmps126
  rw [← hz]
  clear hz
  go_upto_region 1 with fail
  rw [← hW.out]
  clear hW
  go_wp2
  go_loopw [10, 12, 52] (fun x _ i W => ∃ (j : Nat) (z : Int), j ≤ L ∧ i = .int .i64 j ∧ x = .int .i64 z ∧ Hid (z = leastT zs ((r.kids.drop 2).take j) y1) ∧ 0 ≤ z ∧ z ≤ 401 ∧ Hid (Below w0.heap.size w0 W)) (fun _ _ i _ => L - (intOf i).toNat)
  case atStart => exact ⟨0, y1, Nat.zero_le _, rfl, rfl, rfl, by omega, by omega, Below.refl _ _⟩
  case round =>
   obtain ⟨j, z, hjl, rfl, rfl, hz, hz0, hz1, hbw⟩ := hrel
   have j0 : (0 : Int) ≤ (j : Int) := by omega
   have y7 := (HC.out.below hbw.out 7 _ rfl).1
   rw [← HL.out] at y7
   have hc0 := cell_keep hbw.out hc0
   have hq0 := cell_keep hbw.out hq0
   by_cases hj : j < L
   ·have j1 : (j : Int) < (L : Int) := by omega
    have hj2 : 2 + j < r.kids.length := by have := HL.out; omega
    have hjd : j < (r.kids.drop 2).length := by rw [List.length_drop]; omega
    have hnx := Lib.hid (leastT_next (t := zs) (ks := r.kids.drop 2) (m := y1) hjd)
    rw [List.getElem_drop] at hnx
    obtain ⟨m, hm, hmk⟩ := kid_nat HKD.out (j := 2 + j) hj2
    obtain ⟨b7, o7, ha7, hcc⟩ := HR7.out.cellAt (j := 2 + j) hj2
    cases ha7
    rw [hm] at hcc hnx
    rw [← Nat.add_assoc] at hcc
    replace hcc := cell_keep hbw.out hcc
    have hqo := cell_keep hbw.out (HY.out m _ (arr24_at zs (by omega))).1
    have hio := HIB.out (m : Int)
    clear hm
    generalize tabAt zs (m : Int) = y at hqo hio hnx
    have n2 : (0 : Int) ≤ (m : Int) := by omega
    have l2 : (m : Int) < 24 := by omega
    go_wp2_with (go_at_call 125; refine (min_impl z y _).mono ?_; rintro e wx ⟨rfl, hb⟩)
    have HBX := Lib.hid (hbw.out.trans (hb.mono hbw.out.size))
    clear hb
    go_roundw
    case rel => exact ⟨j + 1, min z y, by omega, by go_num, rfl, by show _ = _; rw [hnx.out, ← hz.out], by omega, by omega, HBX⟩
    case measure => simp [intOf]; omega
   ·have j1 : ¬ (j : Int) < (L : Int) := by omega
    have hzz : Hid (z = leastT zs (r.kids.drop 2) y1) := by have := hz.out; have h2 := HL.out; rw [List.take_of_length_le (by rw [List.length_drop]; omega)] at this; exact this
    have HZ := Lib.hid (HF.out z hzz.out)
    have HBX := Lib.hid (HB.out.trans (hbw.out.mono HB.out.size))
    clear hbw
    go_wp2
    go_ret
    exact ⟨ret_int HZ.out, HBX.out⟩

set_option maxHeartbeats 4000000 in
theorem partsMax_7 (rs : List RuleV) (r : RuleV) (cs : List Value) (zs : List Int) (n : Nat) (w : World) (hn : n ≤ 24) (hki : kindI rs r = true) (hkd : ∀ k ∈ r.kids, 0 ≤ k ∧ k < (n : Int)) (hib : InB 401 zs) (hc7 : Cap7 cs) (h : IsRule r cs w) (hk : r.kind = 7) :
  Calls Try.prog 126 #[.agg cs.toArray, .agg (arr24 zs).toArray, .func (.func 127) #[] #[]] w fun e w' => e = .returned (.int .i64 (maxOf rs zs r)) ∧ Below w.heap.size w w' := by
 obtain ⟨a4, c4, a5, c5, a6, c6, a7, c7, rfl, h4, h5, h6, h7⟩ := h
 obtain ⟨z, hz⟩ : ∃ z, z = (arr24 zs).toArray := ⟨_, rfl⟩
 obtain ⟨w0, hw0⟩ : ∃ w0, w0 = (w.alloc (.cells #[.string r.name, .int .i64 r.kind, .int .i64 r.size, .bool r.little, .slice a4 r.bytes.length c4, .slice a5 r.names.length c5, .slice a6 r.tags.length c6, .slice a7 r.kids.length c7] 66)).alloc (.cells z 130) := ⟨_, rfl⟩
 have hB : Below w.heap.size w w0 := by subst hw0; exact ((Below.refl _ _).alloc (Nat.le_refl _) _).alloc (by simp) _
 have HC : Hid (CellsAt w.heap.size [.string r.name, .int .i64 r.kind, .int .i64 r.size, .bool r.little, .slice a4 r.bytes.length c4, .slice a5 r.names.length c5, .slice a6 r.tags.length c6, .slice a7 r.kids.length c7] w0) := by subst hw0; exact (CellsAt.new w _ _).below ((Below.refl _ _).alloc (Nat.le_refl _) _)
 have HY : Hid (CellsAt (w.heap.size + 1) (arr24 zs) w0) := by subst hw0; subst hz; have h1 := CellsAt.new (w.alloc (.cells #[.string r.name, .int .i64 r.kind, .int .i64 r.size, .bool r.little, .slice a4 r.bytes.length c4, .slice a5 r.names.length c5, .slice a6 r.tags.length c6, .slice a7 r.kids.length c7] 66)) (arr24 zs) 130; rw [World.size_alloc] at h1; exact h1
 have HR7 := Lib.hid (h7.below hB)
 have HB := Lib.hid hB
 have HKI := Lib.hid hki
 have HKD := Lib.hid hkd
 have HIB := Lib.hid hib
 have hW := Lib.hid hw0
 have c1 := (HC.out 1 _ rfl).1
 rw [hk] at c1
 have hHZ := Lib.hid hz
 clear hB hki hkd hib hw0 h4 h5 h6 h7
 have hl := Lib.hid (kindI_7 HKI.out hk)
 have hk9 : r.kids.length ≤ 9 := by have := hl.out; omega
 have hk2 : 2 ≤ r.kids.length := by have := hl.out; omega
 have y7 := (HC.out 7 _ rfl).1
 have g0 : (0 : Int) < (r.kids.length : Int) := by omega
 have g1 : (1 : Int) < (r.kids.length : Int) := by omega
 have g2 : (2 : Int) ≤ (r.kids.length : Int) := by omega
 obtain ⟨m0, hm0, hmk0⟩ := kid_nat HKD.out (j := 0) (by omega)
 obtain ⟨b0, o0, ha0, hc0⟩ := HR7.out.cellAt (j := 0) (by omega)
 cases ha0
 rw [hm0] at hc0
 have hq0 := (HY.out m0 _ (arr24_at zs (by omega))).1
 have hi0 := HIB.out (m0 : Int)
 have n0 : (0 : Int) ≤ (m0 : Int) := by omega
 have l0 : (m0 : Int) < 24 := by omega
 simp only [Nat.add_zero] at hc0
 have HK : Hid (tabAt zs (r.kids.getD 0 0) = tabAt zs (m0 : Int)) := by show _ = _; rw [getD_at (by omega), hm0]
 clear hm0
 generalize tabAt zs (m0 : Int) = y0 at hq0 hi0 HK
 obtain ⟨m1, hm1, hmk1⟩ := kid_nat HKD.out (j := 1) (by omega)
 obtain ⟨b1, o1, ha1, hc1⟩ := HR7.out.cellAt (j := 1) (by omega)
 cases ha1
 rw [hm1] at hc1
 have hq1 := (HY.out m1 _ (arr24_at zs (by omega))).1
 have hi1 := HIB.out (m1 : Int)
 have n1 : (0 : Int) ≤ (m1 : Int) := by omega
 have l1 : (m1 : Int) < 24 := by omega
 have HK1 : Hid (tabAt zs (r.kids.getD 1 0) = tabAt zs (m1 : Int)) := by show _ = _; rw [getD_at (by omega), hm1]
 clear hm1
 generalize tabAt zs (m1 : Int) = y1 at hq1 hi1 HK1
 have HF : Hid (∀ x, x = mostT zs (r.kids.drop 2) y1 → y0 + x = maxOf rs zs r) := fun x hx => by rw [hx]; unfold maxOf; rw [HK.out, HK1.out]; simp [hk]
 have hcap : r.kids.length ≤ c7 := hc7 _ _ _ rfl
 clear hc7
 by_cases e2 : c7 = 2
 ·subst e2
  have hlen2 : r.kids.length = 2 := by omega
  have HZ : Hid (y0 + y1 = maxOf rs zs r) := HF.out y1 (by rw [List.drop_of_length_le (by omega)]; rfl)
  rw [hlen2] at y7 g0 g1 g2
  clear hlen2 hk2 hk9 hcap HR7
  clear hk
  go_enter Try.func126, Try.ntmps126
  rw [← hz]
  clear hz
  go_upto_region 1 with fail
  rw [← hW.out]
  clear hW
  go_wp2
  go_loop [10, 12, 52] (fun x _ i => i = .int .i64 0 ∧ x = .int .i64 y1) (fun _ _ _ => 0)
  case atStart => exact ⟨rfl, rfl⟩
  case round =>
   obtain ⟨rfl, rfl⟩ := hrel
   go_wp2
   go_ret
   exact ⟨ret_int HZ.out, HB.out⟩
 ·obtain ⟨L, hL⟩ : ∃ L, L + 2 = r.kids.length := ⟨r.kids.length - 2, by omega⟩
  obtain ⟨C, rfl⟩ : ∃ C, c7 = C + 2 := ⟨c7 - 2, by omega⟩
  have hC0 : ¬ C = 0 := by omega
  have hLC : L ≤ C := by omega
  have hL9 : L ≤ 7 := by omega
  rw [← hL] at y7 g0 g1 g2
  have HL := Lib.hid hL
  clear hL hk2 hk9 hcap e2
  clear hk
  go_enter Try.func126, Try.ntmps126
  rw [← hz]
  clear hz
  go_upto_region 1 with fail
  rw [← hW.out]
  clear hW
  go_wp2
  go_loopw [10, 12, 52] (fun x _ i W => ∃ (j : Nat) (z : Int), j ≤ L ∧ i = .int .i64 j ∧ x = .int .i64 z ∧ Hid (z = mostT zs ((r.kids.drop 2).take j) y1) ∧ 0 ≤ z ∧ z ≤ 401 ∧ Hid (Below w0.heap.size w0 W)) (fun _ _ i _ => L - (intOf i).toNat)
  case atStart => exact ⟨0, y1, Nat.zero_le _, rfl, rfl, rfl, by omega, by omega, Below.refl _ _⟩
  case round =>
   obtain ⟨j, z, hjl, rfl, rfl, hz, hz0, hz1, hbw⟩ := hrel
   have j0 : (0 : Int) ≤ (j : Int) := by omega
   have y7 := (HC.out.below hbw.out 7 _ rfl).1
   rw [← HL.out] at y7
   have hc0 := cell_keep hbw.out hc0
   have hq0 := cell_keep hbw.out hq0
   by_cases hj : j < L
   ·have j1 : (j : Int) < (L : Int) := by omega
    have hj2 : 2 + j < r.kids.length := by have := HL.out; omega
    have hjd : j < (r.kids.drop 2).length := by rw [List.length_drop]; omega
    have hnx := Lib.hid (mostT_next (t := zs) (ks := r.kids.drop 2) (m := y1) hjd)
    rw [List.getElem_drop] at hnx
    obtain ⟨m, hm, hmk⟩ := kid_nat HKD.out (j := 2 + j) hj2
    obtain ⟨b7, o7, ha7, hcc⟩ := HR7.out.cellAt (j := 2 + j) hj2
    cases ha7
    rw [hm] at hcc hnx
    rw [← Nat.add_assoc] at hcc
    replace hcc := cell_keep hbw.out hcc
    have hqo := cell_keep hbw.out (HY.out m _ (arr24_at zs (by omega))).1
    have hio := HIB.out (m : Int)
    clear hm
    generalize tabAt zs (m : Int) = y at hqo hio hnx
    have n2 : (0 : Int) ≤ (m : Int) := by omega
    have l2 : (m : Int) < 24 := by omega
    go_wp2_with (go_at_call 127; refine (max_impl z y _).mono ?_; rintro e wx ⟨rfl, hb⟩)
    have HBX := Lib.hid (hbw.out.trans (hb.mono hbw.out.size))
    clear hb
    go_roundw
    case rel => exact ⟨j + 1, max z y, by omega, by go_num, rfl, by show _ = _; rw [hnx.out, ← hz.out], by omega, by omega, HBX⟩
    case measure => simp [intOf]; omega
   ·have j1 : ¬ (j : Int) < (L : Int) := by omega
    have hzz : Hid (z = mostT zs (r.kids.drop 2) y1) := by have := hz.out; have h2 := HL.out; rw [List.take_of_length_le (by rw [List.length_drop]; omega)] at this; exact this
    have HZ := Lib.hid (HF.out z hzz.out)
    have HBX := Lib.hid (HB.out.trans (hbw.out.mono HB.out.size))
    clear hbw
    go_wp2
    go_ret
    exact ⟨ret_int HZ.out, HBX.out⟩

set_option maxHeartbeats 4000000 in
theorem partsMin_9 (rs : List RuleV) (r : RuleV) (cs : List Value) (zs : List Int) (n : Nat) (w : World) (hn : n ≤ 24) (hki : kindI rs r = true) (hkd : ∀ k ∈ r.kids, 0 ≤ k ∧ k < (n : Int)) (hib : InB 401 zs) (_hc7 : Cap7 cs) (h : IsRule r cs w) (hk : r.kind = 9) :
  Calls Try.prog 126 #[.agg cs.toArray, .agg (arr24 zs).toArray, .func (.func 125) #[] #[]] w fun e w' => e = .returned (.int .i64 (minOf zs r)) ∧ Below w.heap.size w w' := by
 obtain ⟨a4, c4, a5, c5, a6, c6, a7, c7, rfl, h4, h5, h6, h7⟩ := h
 obtain ⟨z, hz⟩ : ∃ z, z = (arr24 zs).toArray := ⟨_, rfl⟩
 obtain ⟨w0, hw0⟩ : ∃ w0, w0 = (w.alloc (.cells #[.string r.name, .int .i64 r.kind, .int .i64 r.size, .bool r.little, .slice a4 r.bytes.length c4, .slice a5 r.names.length c5, .slice a6 r.tags.length c6, .slice a7 r.kids.length c7] 66)).alloc (.cells z 130) := ⟨_, rfl⟩
 have hB : Below w.heap.size w w0 := by subst hw0; exact ((Below.refl _ _).alloc (Nat.le_refl _) _).alloc (by simp) _
 have HC : Hid (CellsAt w.heap.size [.string r.name, .int .i64 r.kind, .int .i64 r.size, .bool r.little, .slice a4 r.bytes.length c4, .slice a5 r.names.length c5, .slice a6 r.tags.length c6, .slice a7 r.kids.length c7] w0) := by subst hw0; exact (CellsAt.new w _ _).below ((Below.refl _ _).alloc (Nat.le_refl _) _)
 have HY : Hid (CellsAt (w.heap.size + 1) (arr24 zs) w0) := by subst hw0; subst hz; have h1 := CellsAt.new (w.alloc (.cells #[.string r.name, .int .i64 r.kind, .int .i64 r.size, .bool r.little, .slice a4 r.bytes.length c4, .slice a5 r.names.length c5, .slice a6 r.tags.length c6, .slice a7 r.kids.length c7] 66)) (arr24 zs) 130; rw [World.size_alloc] at h1; exact h1
 have HR7 := Lib.hid (h7.below hB)
 have HB := Lib.hid hB
 have HKI := Lib.hid hki
 have HKD := Lib.hid hkd
 have HIB := Lib.hid hib
 have hW := Lib.hid hw0
 have c1 := (HC.out 1 _ rfl).1
 rw [hk] at c1
 have hHZ := Lib.hid hz
 clear hB hki hkd hib hw0 h4 h5 h6 h7
 have hl := Lib.hid (kindI_9 HKI.out hk)
 have h0 : 0 < r.kids.length := by have := hl.out; omega
 have g0 : (0 : Int) < (r.kids.length : Int) := by omega
 obtain ⟨m0, hm0, hmk0⟩ := kid_nat HKD.out (j := 0) h0
 obtain ⟨b0, o0, ha0, hc0⟩ := HR7.out.cellAt (j := 0) h0
 cases ha0
 rw [hm0] at hc0
 have hq0 := (HY.out m0 _ (arr24_at zs (by omega))).1
 have hi0 := HIB.out (m0 : Int)
 have n0 : (0 : Int) ≤ (m0 : Int) := by omega
 have l0 : (m0 : Int) < 24 := by omega
 simp only [Nat.add_zero] at hc0
 have HK : Hid (tabAt zs (r.kids.getD 0 0) = tabAt zs (m0 : Int)) := by show _ = _; rw [getD_at h0, hm0]
 clear hm0
 generalize tabAt zs (m0 : Int) = y at hq0 hi0 HK
 have HZ : Hid (y + 1 = minOf zs r) := by show _ = _; unfold minOf; rw [HK.out]; simp [hk]
 have y7 := (HC.out 7 _ rfl).1
 clear hk
 go_enter Try.func126, Try.ntmps126
 rw [← hz]
 clear hz
 go_upto_region 1 with fail
 rw [← hW.out]
 clear hW
 go_wp2
 go_ret
 exact ⟨ret_int HZ.out, HB.out⟩

set_option maxHeartbeats 4000000 in
theorem partsMax_9 (rs : List RuleV) (r : RuleV) (cs : List Value) (zs : List Int) (n : Nat) (w : World) (hn : n ≤ 24) (hki : kindI rs r = true) (hkd : ∀ k ∈ r.kids, 0 ≤ k ∧ k < (n : Int)) (hib : InB 401 zs) (_hc7 : Cap7 cs) (h : IsRule r cs w) (hk : r.kind = 9) :
  Calls Try.prog 126 #[.agg cs.toArray, .agg (arr24 zs).toArray, .func (.func 127) #[] #[]] w fun e w' => e = .returned (.int .i64 (maxOf rs zs r)) ∧ Below w.heap.size w w' := by
 obtain ⟨a4, c4, a5, c5, a6, c6, a7, c7, rfl, h4, h5, h6, h7⟩ := h
 obtain ⟨z, hz⟩ : ∃ z, z = (arr24 zs).toArray := ⟨_, rfl⟩
 obtain ⟨w0, hw0⟩ : ∃ w0, w0 = (w.alloc (.cells #[.string r.name, .int .i64 r.kind, .int .i64 r.size, .bool r.little, .slice a4 r.bytes.length c4, .slice a5 r.names.length c5, .slice a6 r.tags.length c6, .slice a7 r.kids.length c7] 66)).alloc (.cells z 130) := ⟨_, rfl⟩
 have hB : Below w.heap.size w w0 := by subst hw0; exact ((Below.refl _ _).alloc (Nat.le_refl _) _).alloc (by simp) _
 have HC : Hid (CellsAt w.heap.size [.string r.name, .int .i64 r.kind, .int .i64 r.size, .bool r.little, .slice a4 r.bytes.length c4, .slice a5 r.names.length c5, .slice a6 r.tags.length c6, .slice a7 r.kids.length c7] w0) := by subst hw0; exact (CellsAt.new w _ _).below ((Below.refl _ _).alloc (Nat.le_refl _) _)
 have HY : Hid (CellsAt (w.heap.size + 1) (arr24 zs) w0) := by subst hw0; subst hz; have h1 := CellsAt.new (w.alloc (.cells #[.string r.name, .int .i64 r.kind, .int .i64 r.size, .bool r.little, .slice a4 r.bytes.length c4, .slice a5 r.names.length c5, .slice a6 r.tags.length c6, .slice a7 r.kids.length c7] 66)) (arr24 zs) 130; rw [World.size_alloc] at h1; exact h1
 have HR7 := Lib.hid (h7.below hB)
 have HB := Lib.hid hB
 have HKI := Lib.hid hki
 have HKD := Lib.hid hkd
 have HIB := Lib.hid hib
 have hW := Lib.hid hw0
 have c1 := (HC.out 1 _ rfl).1
 rw [hk] at c1
 have hHZ := Lib.hid hz
 clear hB hki hkd hib hw0 h4 h5 h6 h7
 have hl := Lib.hid (kindI_9 HKI.out hk)
 have h0 : 0 < r.kids.length := by have := hl.out; omega
 have g0 : (0 : Int) < (r.kids.length : Int) := by omega
 obtain ⟨m0, hm0, hmk0⟩ := kid_nat HKD.out (j := 0) h0
 obtain ⟨b0, o0, ha0, hc0⟩ := HR7.out.cellAt (j := 0) h0
 cases ha0
 rw [hm0] at hc0
 have hq0 := (HY.out m0 _ (arr24_at zs (by omega))).1
 have hi0 := HIB.out (m0 : Int)
 have n0 : (0 : Int) ≤ (m0 : Int) := by omega
 have l0 : (m0 : Int) < 24 := by omega
 simp only [Nat.add_zero] at hc0
 have HK : Hid (tabAt zs (r.kids.getD 0 0) = tabAt zs (m0 : Int)) := by show _ = _; rw [getD_at h0, hm0]
 clear hm0
 generalize tabAt zs (m0 : Int) = y at hq0 hi0 HK
 have HZ : Hid (y + 1 = maxOf rs zs r) := by show _ = _; unfold maxOf; rw [HK.out]; simp [hk]; omega
 have y7 := (HC.out 7 _ rfl).1
 clear hk
 go_enter Try.func126, Try.ntmps126
 rw [← hz]
 clear hz
 go_upto_region 1 with fail
 rw [← hW.out]
 clear hW
 go_wp2
 go_ret
 exact ⟨ret_int HZ.out, HB.out⟩

end Go.Proofs.Ytfmnjclnhppghaa
