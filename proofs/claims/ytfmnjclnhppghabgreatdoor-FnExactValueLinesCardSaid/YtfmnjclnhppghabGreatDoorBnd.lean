/- The contract of the program's boundsOf. -/
import Derived.Test.YtfmnjclnhppghabGreatDoorFit
import Derived.Test.YtfmnjclnhppghabGreatDoorMinMax
import Derived.Test.YtfmnjclnhppghabGreatDoorGDI
import Derived.Deep.RegionWith
import Derived.Deep.CutRange
namespace Go.Proofs.YtfmnjclnhppghabGreatDoor
open Go Go.RowKit
set_option maxRecDepth 100000 in
set_option maxHeartbeats 4000000 in
theorem bnd_1 (a : Option Addr) (rs : List RuleV) (cap k : Nat) (r : RuleV) (w : World) (hl : rs.length ≤ 1048576) (hk : k < rs.length) (hr : r = rs[k]) (hki : kindI rs r = true) (hrd : RdR a rs w) (hkd : r.kind = 1) :
    Calls Tryz.prog 66 #[.agg #[.slice a rs.length cap], .int .i64 (k : Int)] w fun e w' => e = .returned (.agg #[.int .i64 (bndV rs r).num, .int .i64 (bndV rs r).b0, .int .i64 (bndV rs r).b1, .int .i64 (bndV rs r).i0, .int .i64 (bndV rs r).i1]) ∧ Below w.heap.size w w' := by
  have hdef : bndV rs r = ⟨pow256 r.size - 1, 0, 0, 0, 0⟩ := by unfold bndV; simp [hkd]
  obtain ⟨w0, hw0⟩ : ∃ w0, w0 = (w.alloc (.cells #[.slice a rs.length cap] 35)).alloc (.cells #[.int .i64 0, .int .i64 0, .int .i64 0, .int .i64 0, .int .i64 0] 99) := ⟨_, rfl⟩
  have hB : Below w.heap.size w w0 := by subst hw0; exact ((Below.refl _ _).alloc (Nat.le_refl _) _).alloc (by simp) _
  have hD : CellsAt w.heap.size [.slice a rs.length cap] w0 := by subst hw0; exact (CellsAt.new w _ _).below ((Below.refl _ _).alloc (Nat.le_refl _) _)
  have hZ : CellsAt (w.heap.size + 1) [.int .i64 0, .int .i64 0, .int .i64 0, .int .i64 0, .int .i64 0] w0 := by subst hw0; have h1 := CellsAt.new (w.alloc (.cells #[.slice a rs.length cap] 35)) [.int .i64 0, .int .i64 0, .int .i64 0, .int .i64 0, .int .i64 0] 99; rw [World.size_alloc] at h1; exact h1
  obtain ⟨b0, off, a4, c4, a5, c5, a6, c6, a7, c7, rfl, ⟨d0, d1, d2, d3, d4, d5, d6, d7⟩, r4, r5, r6, r7⟩ := (hrd.below hB).at k hk
  have hlim : limitAt rs (k : Int) = pow256 r.size - 1 := by have := kindI_size hki hkd; rw [limitAt_in hk, ← hr, if_pos ⟨hkd, this.1, this.2⟩]
  rw [← hr] at d0 d1 d2 d3 d4 d5 d6 d7 r4 r5 r6 r7
  obtain ⟨w2, hw2⟩ : ∃ w2, w2 = w0.alloc (.cells #[.string r.name, .int .i64 r.kind, .int .i64 r.size, .bool r.little, .slice a4 r.bytes.length c4, .slice a5 r.names.length c5, .slice a6 r.tags.length c6, .slice a7 r.kids.length c7] 54) := ⟨_, rfl⟩
  have hb2 : Below w0.heap.size w0 w2 := by subst hw2; exact (Below.refl _ _).alloc (Nat.le_refl _) _
  have HC : Hid (CellsAt w0.heap.size [.string r.name, .int .i64 r.kind, .int .i64 r.size, .bool r.little, .slice a4 r.bytes.length c4, .slice a5 r.names.length c5, .slice a6 r.tags.length c6, .slice a7 r.kids.length c7] w2) := by subst hw2; exact CellsAt.new w0 _ _
  have HD := Lib.hid (hD.below hb2)
  have HZ := Lib.hid (hZ.below hb2)
  have HR7 := Lib.hid (r7.below hb2)
  have HRD := Lib.hid ((hrd.below hB).below hb2)
  have HB := Lib.hid (hB.trans (hb2.mono hB.size))
  have hne : w0.heap.size ≠ w.heap.size + 1 := by subst hw0; simp
  have HNE := Lib.hid hne
  have HW := Lib.hid hw0
  have HW2 := Lib.hid hw2
  have HKI := Lib.hid hki
  have bx := (hD 0 _ rfl).1
  have k0 : (0 : Int) ≤ (k : Int) := by omega
  have k1 : (k : Int) < (rs.length : Int) := by omega
  have y1 := (HC.out 1 _ rfl).1
  rw [hkd] at y1
  obtain ⟨M, hM⟩ : ∃ M, M = pow256 r.size - 1 := ⟨_, rfl⟩
  rw [← hM] at hdef hlim
  have HL := Lib.hid hlim
  clear hM hlim
  have HDEF := Lib.hid hdef
  rw [hdef]
  simp only []
  have HKD := Lib.hid hkd
  clear hB hD hZ hb2 hrd r4 r5 r6 r7 hw0 hw2 hne hki hr hdef hkd
  go_enter Tryz.func66, Tryz.ntmps66
  go_upto_region 1 with fail
  rw [← HW.out]
  go_upto_region 2 with fail
  rw [← HW2.out]
  clear bx d0 d1 d2 d3 d4 d5 d6 d7
  have bx := (HD.out 0 _ rfl).1
  go_wp2_with fail
  refine (limit_impl (some ⟨b0, off, none⟩) rs cap (k : Int) _ (by omega) HRD.out).mono ?_
  rintro e w3 ⟨rfl, hb3⟩
  rw [HL.out]
  have HB3 := Lib.hid (HB.out.trans (hb3.mono HB.out.size))
  obtain ⟨z0, t0⟩ := HZ.out.below hb3 0 _ rfl
  obtain ⟨z1, t1⟩ := HZ.out.below hb3 1 _ rfl
  obtain ⟨z2, t2⟩ := HZ.out.below hb3 2 _ rfl
  obtain ⟨z3, t3⟩ := HZ.out.below hb3 3 _ rfl
  obtain ⟨z4, t4⟩ := HZ.out.below hb3 4 _ rfl
  clear hb3
  go_wp2
  (try simp only [Exit.inBlock, Exit.then])
  refine bodyPost_ret (v := .agg #[.int .i64 M, .int .i64 0, .int .i64 0, .int .i64 0, .int .i64 0]) ?_ rfl ?_
  · simp [results, Tryz.results66, go_sem, z0, z1, z2, z3, z4]
  · exact ⟨rfl, (((((HB3.out.setCell (p := ⟨w.heap.size + 1, _, none⟩) (by simp) _).setCell (p := ⟨w.heap.size + 1, _, none⟩) (by simp) _).setCell (p := ⟨w.heap.size + 1, _, none⟩) (by simp) _).setCell (p := ⟨w.heap.size + 1, _, none⟩) (by simp) _).setCell (p := ⟨w.heap.size + 1, _, none⟩) (by simp) _)⟩
set_option maxRecDepth 100000 in
set_option maxHeartbeats 4000000 in
theorem bnd_2 (a : Option Addr) (rs : List RuleV) (cap k : Nat) (r : RuleV) (w : World) (_hl : rs.length ≤ 1048576) (hk : k < rs.length) (hr : r = rs[k]) (hki : kindI rs r = true) (hrd : RdR a rs w) (hkd : r.kind = 2) :
    Calls Tryz.prog 66 #[.agg #[.slice a rs.length cap], .int .i64 (k : Int)] w fun e w' => e = .returned (.agg #[.int .i64 (bndV rs r).num, .int .i64 (bndV rs r).b0, .int .i64 (bndV rs r).b1, .int .i64 (bndV rs r).i0, .int .i64 (bndV rs r).i1]) ∧ Below w.heap.size w w' := by
  have hdef : bndV rs r = ⟨0, 0, 0, 0, 0⟩ := by unfold bndV; simp [hkd]
  obtain ⟨w0, hw0⟩ : ∃ w0, w0 = (w.alloc (.cells #[.slice a rs.length cap] 35)).alloc (.cells #[.int .i64 0, .int .i64 0, .int .i64 0, .int .i64 0, .int .i64 0] 99) := ⟨_, rfl⟩
  have hB : Below w.heap.size w w0 := by subst hw0; exact ((Below.refl _ _).alloc (Nat.le_refl _) _).alloc (by simp) _
  have hD : CellsAt w.heap.size [.slice a rs.length cap] w0 := by subst hw0; exact (CellsAt.new w _ _).below ((Below.refl _ _).alloc (Nat.le_refl _) _)
  have hZ : CellsAt (w.heap.size + 1) [.int .i64 0, .int .i64 0, .int .i64 0, .int .i64 0, .int .i64 0] w0 := by subst hw0; have h1 := CellsAt.new (w.alloc (.cells #[.slice a rs.length cap] 35)) [.int .i64 0, .int .i64 0, .int .i64 0, .int .i64 0, .int .i64 0] 99; rw [World.size_alloc] at h1; exact h1
  obtain ⟨b0, off, a4, c4, a5, c5, a6, c6, a7, c7, rfl, ⟨d0, d1, d2, d3, d4, d5, d6, d7⟩, r4, r5, r6, r7⟩ := (hrd.below hB).at k hk
  rw [← hr] at d0 d1 d2 d3 d4 d5 d6 d7 r4 r5 r6 r7
  obtain ⟨w2, hw2⟩ : ∃ w2, w2 = w0.alloc (.cells #[.string r.name, .int .i64 r.kind, .int .i64 r.size, .bool r.little, .slice a4 r.bytes.length c4, .slice a5 r.names.length c5, .slice a6 r.tags.length c6, .slice a7 r.kids.length c7] 54) := ⟨_, rfl⟩
  have hb2 : Below w0.heap.size w0 w2 := by subst hw2; exact (Below.refl _ _).alloc (Nat.le_refl _) _
  have HC : Hid (CellsAt w0.heap.size [.string r.name, .int .i64 r.kind, .int .i64 r.size, .bool r.little, .slice a4 r.bytes.length c4, .slice a5 r.names.length c5, .slice a6 r.tags.length c6, .slice a7 r.kids.length c7] w2) := by subst hw2; exact CellsAt.new w0 _ _
  have HD := Lib.hid (hD.below hb2)
  have HZ := Lib.hid (hZ.below hb2)
  have HR7 := Lib.hid (r7.below hb2)
  have HRD := Lib.hid ((hrd.below hB).below hb2)
  have HB := Lib.hid (hB.trans (hb2.mono hB.size))
  have hne : w0.heap.size ≠ w.heap.size + 1 := by subst hw0; simp
  have HNE := Lib.hid hne
  have HW := Lib.hid hw0
  have HW2 := Lib.hid hw2
  have HKI := Lib.hid hki
  have bx := (hD 0 _ rfl).1
  have k0 : (0 : Int) ≤ (k : Int) := by omega
  have k1 : (k : Int) < (rs.length : Int) := by omega
  have y1 := (HC.out 1 _ rfl).1
  rw [hkd] at y1
  have HDEF := Lib.hid hdef
  rw [hdef]
  simp only []
  have HKD := Lib.hid hkd
  clear hB hD hZ hb2 hrd r4 r5 r6 r7 hw0 hw2 hne hki hr hdef hkd
  go_enter Tryz.func66, Tryz.ntmps66
  go_upto_region 1 with fail
  rw [← HW.out]
  go_upto_region 2 with fail
  rw [← HW2.out]
  clear bx d0 d1 d2 d3 d4 d5 d6 d7
  have bx := (HD.out 0 _ rfl).1
  obtain ⟨z0, t0⟩ := HZ.out 0 _ rfl
  obtain ⟨z1, t1⟩ := HZ.out 1 _ rfl
  obtain ⟨z2, t2⟩ := HZ.out 2 _ rfl
  obtain ⟨z3, t3⟩ := HZ.out 3 _ rfl
  obtain ⟨z4, t4⟩ := HZ.out 4 _ rfl
  go_wp2
  (try simp only [Exit.inBlock, Exit.then])
  refine bodyPost_ret (v := .agg #[.int .i64 0, .int .i64 0, .int .i64 0, .int .i64 0, .int .i64 0]) ?_ rfl ?_
  · simp [results, Tryz.results66, go_sem, z0, z1, z2, z3, z4]
  · exact ⟨rfl, (((((HB.out.setCell (p := ⟨w.heap.size + 1, _, none⟩) (by simp) _).setCell (p := ⟨w.heap.size + 1, _, none⟩) (by simp) _).setCell (p := ⟨w.heap.size + 1, _, none⟩) (by simp) _).setCell (p := ⟨w.heap.size + 1, _, none⟩) (by simp) _).setCell (p := ⟨w.heap.size + 1, _, none⟩) (by simp) _)⟩
set_option maxRecDepth 100000 in
set_option maxHeartbeats 4000000 in
theorem bnd_3 (a : Option Addr) (rs : List RuleV) (cap k : Nat) (r : RuleV) (w : World) (_hl : rs.length ≤ 1048576) (hk : k < rs.length) (hr : r = rs[k]) (hki : kindI rs r = true) (hrd : RdR a rs w) (hkd : r.kind = 3) :
    Calls Tryz.prog 66 #[.agg #[.slice a rs.length cap], .int .i64 (k : Int)] w fun e w' => e = .returned (.agg #[.int .i64 (bndV rs r).num, .int .i64 (bndV rs r).b0, .int .i64 (bndV rs r).b1, .int .i64 (bndV rs r).i0, .int .i64 (bndV rs r).i1]) ∧ Below w.heap.size w w' := by
  have hdef : bndV rs r = ⟨0, r.size, r.size, 0, 0⟩ := by unfold bndV; simp [hkd]
  obtain ⟨w0, hw0⟩ : ∃ w0, w0 = (w.alloc (.cells #[.slice a rs.length cap] 35)).alloc (.cells #[.int .i64 0, .int .i64 0, .int .i64 0, .int .i64 0, .int .i64 0] 99) := ⟨_, rfl⟩
  have hB : Below w.heap.size w w0 := by subst hw0; exact ((Below.refl _ _).alloc (Nat.le_refl _) _).alloc (by simp) _
  have hD : CellsAt w.heap.size [.slice a rs.length cap] w0 := by subst hw0; exact (CellsAt.new w _ _).below ((Below.refl _ _).alloc (Nat.le_refl _) _)
  have hZ : CellsAt (w.heap.size + 1) [.int .i64 0, .int .i64 0, .int .i64 0, .int .i64 0, .int .i64 0] w0 := by subst hw0; have h1 := CellsAt.new (w.alloc (.cells #[.slice a rs.length cap] 35)) [.int .i64 0, .int .i64 0, .int .i64 0, .int .i64 0, .int .i64 0] 99; rw [World.size_alloc] at h1; exact h1
  obtain ⟨b0, off, a4, c4, a5, c5, a6, c6, a7, c7, rfl, ⟨d0, d1, d2, d3, d4, d5, d6, d7⟩, r4, r5, r6, r7⟩ := (hrd.below hB).at k hk
  rw [← hr] at d0 d1 d2 d3 d4 d5 d6 d7 r4 r5 r6 r7
  obtain ⟨w2, hw2⟩ : ∃ w2, w2 = w0.alloc (.cells #[.string r.name, .int .i64 r.kind, .int .i64 r.size, .bool r.little, .slice a4 r.bytes.length c4, .slice a5 r.names.length c5, .slice a6 r.tags.length c6, .slice a7 r.kids.length c7] 54) := ⟨_, rfl⟩
  have hb2 : Below w0.heap.size w0 w2 := by subst hw2; exact (Below.refl _ _).alloc (Nat.le_refl _) _
  have HC : Hid (CellsAt w0.heap.size [.string r.name, .int .i64 r.kind, .int .i64 r.size, .bool r.little, .slice a4 r.bytes.length c4, .slice a5 r.names.length c5, .slice a6 r.tags.length c6, .slice a7 r.kids.length c7] w2) := by subst hw2; exact CellsAt.new w0 _ _
  have HD := Lib.hid (hD.below hb2)
  have HZ := Lib.hid (hZ.below hb2)
  have HR7 := Lib.hid (r7.below hb2)
  have HRD := Lib.hid ((hrd.below hB).below hb2)
  have HB := Lib.hid (hB.trans (hb2.mono hB.size))
  have hne : w0.heap.size ≠ w.heap.size + 1 := by subst hw0; simp
  have HNE := Lib.hid hne
  have HW := Lib.hid hw0
  have HW2 := Lib.hid hw2
  have HKI := Lib.hid hki
  have bx := (hD 0 _ rfl).1
  have k0 : (0 : Int) ≤ (k : Int) := by omega
  have k1 : (k : Int) < (rs.length : Int) := by omega
  have y1 := (HC.out 1 _ rfl).1
  rw [hkd] at y1
  have y2 := (HC.out 2 _ rfl).1
  obtain ⟨sz, hsz⟩ : ∃ sz, sz = r.size := ⟨_, rfl⟩
  rw [← hsz] at y2 hdef
  clear hsz
  have HDEF := Lib.hid hdef
  rw [hdef]
  simp only []
  have HKD := Lib.hid hkd
  clear hB hD hZ hb2 hrd r4 r5 r6 r7 hw0 hw2 hne hki hr hdef hkd
  go_enter Tryz.func66, Tryz.ntmps66
  go_upto_region 1 with fail
  rw [← HW.out]
  go_upto_region 2 with fail
  rw [← HW2.out]
  clear bx d0 d1 d2 d3 d4 d5 d6 d7
  have bx := (HD.out 0 _ rfl).1
  obtain ⟨z0, t0⟩ := HZ.out 0 _ rfl
  obtain ⟨z1, t1⟩ := HZ.out 1 _ rfl
  obtain ⟨z2, t2⟩ := HZ.out 2 _ rfl
  obtain ⟨z3, t3⟩ := HZ.out 3 _ rfl
  obtain ⟨z4, t4⟩ := HZ.out 4 _ rfl
  go_wp2
  (try simp only [Exit.inBlock, Exit.then])
  refine bodyPost_ret (v := .agg #[.int .i64 0, .int .i64 sz, .int .i64 sz, .int .i64 0, .int .i64 0]) ?_ rfl ?_
  · simp [results, Tryz.results66, go_sem, z0, z1, z2, z3, z4]
  · exact ⟨rfl, (((((HB.out.setCell (p := ⟨w.heap.size + 1, _, none⟩) (by simp) _).setCell (p := ⟨w.heap.size + 1, _, none⟩) (by simp) _).setCell (p := ⟨w.heap.size + 1, _, none⟩) (by simp) _).setCell (p := ⟨w.heap.size + 1, _, none⟩) (by simp) _).setCell (p := ⟨w.heap.size + 1, _, none⟩) (by simp) _)⟩
set_option maxRecDepth 100000 in
set_option maxHeartbeats 4000000 in
theorem bnd_4 (a : Option Addr) (rs : List RuleV) (cap k : Nat) (r : RuleV) (w : World) (hl : rs.length ≤ 1048576) (hk : k < rs.length) (hr : r = rs[k]) (hki : kindI rs r = true) (hrd : RdR a rs w) (hkd : r.kind = 4) :
    Calls Tryz.prog 66 #[.agg #[.slice a rs.length cap], .int .i64 (k : Int)] w fun e w' => e = .returned (.agg #[.int .i64 (bndV rs r).num, .int .i64 (bndV rs r).b0, .int .i64 (bndV rs r).b1, .int .i64 (bndV rs r).i0, .int .i64 (bndV rs r).i1]) ∧ Below w.heap.size w w' := by
  have hdef : bndV rs r = ⟨0, 0, min 400 (limitAt rs (r.kids.getD 0 0)), 0, 0⟩ := by unfold bndV; simp [hkd]
  obtain ⟨w0, hw0⟩ : ∃ w0, w0 = (w.alloc (.cells #[.slice a rs.length cap] 35)).alloc (.cells #[.int .i64 0, .int .i64 0, .int .i64 0, .int .i64 0, .int .i64 0] 99) := ⟨_, rfl⟩
  have hB : Below w.heap.size w w0 := by subst hw0; exact ((Below.refl _ _).alloc (Nat.le_refl _) _).alloc (by simp) _
  have hD : CellsAt w.heap.size [.slice a rs.length cap] w0 := by subst hw0; exact (CellsAt.new w _ _).below ((Below.refl _ _).alloc (Nat.le_refl _) _)
  have hZ : CellsAt (w.heap.size + 1) [.int .i64 0, .int .i64 0, .int .i64 0, .int .i64 0, .int .i64 0] w0 := by subst hw0; have h1 := CellsAt.new (w.alloc (.cells #[.slice a rs.length cap] 35)) [.int .i64 0, .int .i64 0, .int .i64 0, .int .i64 0, .int .i64 0] 99; rw [World.size_alloc] at h1; exact h1
  obtain ⟨b0, off, a4, c4, a5, c5, a6, c6, a7, c7, rfl, ⟨d0, d1, d2, d3, d4, d5, d6, d7⟩, r4, r5, r6, r7⟩ := (hrd.below hB).at k hk
  rw [← hr] at d0 d1 d2 d3 d4 d5 d6 d7 r4 r5 r6 r7
  obtain ⟨w2, hw2⟩ : ∃ w2, w2 = w0.alloc (.cells #[.string r.name, .int .i64 r.kind, .int .i64 r.size, .bool r.little, .slice a4 r.bytes.length c4, .slice a5 r.names.length c5, .slice a6 r.tags.length c6, .slice a7 r.kids.length c7] 54) := ⟨_, rfl⟩
  have hb2 : Below w0.heap.size w0 w2 := by subst hw2; exact (Below.refl _ _).alloc (Nat.le_refl _) _
  have HC : Hid (CellsAt w0.heap.size [.string r.name, .int .i64 r.kind, .int .i64 r.size, .bool r.little, .slice a4 r.bytes.length c4, .slice a5 r.names.length c5, .slice a6 r.tags.length c6, .slice a7 r.kids.length c7] w2) := by subst hw2; exact CellsAt.new w0 _ _
  have HD := Lib.hid (hD.below hb2)
  have HZ := Lib.hid (hZ.below hb2)
  have HR7 := Lib.hid (r7.below hb2)
  have HRD := Lib.hid ((hrd.below hB).below hb2)
  have HB := Lib.hid (hB.trans (hb2.mono hB.size))
  have hne : w0.heap.size ≠ w.heap.size + 1 := by subst hw0; simp
  have HNE := Lib.hid hne
  have HW := Lib.hid hw0
  have HW2 := Lib.hid hw2
  have HKI := Lib.hid hki
  have bx := (hD 0 _ rfl).1
  have k0 : (0 : Int) ≤ (k : Int) := by omega
  have k1 : (k : Int) < (rs.length : Int) := by omega
  have y1 := (HC.out 1 _ rfl).1
  rw [hkd] at y1
  have h0 : 0 < r.kids.length := by have := kindI_4 hki hkd; omega
  have g0 : (0 : Int) < (r.kids.length : Int) := by omega
  obtain ⟨b7, o7, ha7, hc7⟩ := HR7.out.cellAt (j := 0) h0
  subst ha7
  simp only [Nat.add_zero] at hc7
  rw [getD_at h0] at hdef
  generalize r.kids[0] = kk at hc7 hdef
  have y7 := (HC.out 7 _ rfl).1
  obtain ⟨L, hL⟩ : ∃ L, L = limitAt rs kk := ⟨_, rfl⟩
  obtain ⟨M, hM⟩ : ∃ M, M = min 400 (limitAt rs kk) := ⟨_, rfl⟩
  rw [← hM] at hdef
  rw [← hL] at hM
  have HL := Lib.hid hL
  have HM := Lib.hid hM
  clear hM hL
  have HDEF := Lib.hid hdef
  rw [hdef]
  simp only []
  have HKD := Lib.hid hkd
  clear hB hD hZ hb2 hrd r4 r5 r6 r7 hw0 hw2 hne hki hr hdef hkd
  go_enter Tryz.func66, Tryz.ntmps66
  go_upto_region 1 with fail
  rw [← HW.out]
  go_upto_region 2 with fail
  rw [← HW2.out]
  clear bx d0 d1 d2 d3 d4 d5 d6 d7
  have bx := (HD.out 0 _ rfl).1
  go_upto_region 8 with fail
  have HSW : Hid (∀ W, Below w2.heap.size w2 W → W.cell? ⟨w.heap.size, 0, none⟩ = some (.slice (some ⟨b0, off, none⟩) rs.length cap) ∧ W.cell? ⟨w0.heap.size, 7, none⟩ = some (.slice (some ⟨b7, o7, none⟩) r.kids.length c7) ∧ W.cell? ⟨b7, o7, none⟩ = some (.int .i64 kk)) := fun W hW => ⟨(HD.out.below hW 0 _ rfl).1, (HC.out.below hW 7 _ rfl).1, cell_keep hW hc7⟩
  go_region_with (first | (go_at_call 80; refine (limit_impl (some ⟨b0, off, none⟩) rs cap kk _ (by omega) (HRD.out.below (below_drewN (Below.refl _ w2) 1))).mono ?_; rintro e w3 ⟨rfl, hb3⟩; rw [← HL.out]; replace hb3 := Lib.hid ((below_drewN (Below.refl _ w2) 1).trans hb3)) | (go_at_call 81; refine (min_impl 400 L _).mono ?_; rintro e w4 ⟨rfl, hb4⟩; rw [← HM.out]; have hb5 := Lib.hid (hb3.out.trans (hb4.mono hb3.out.size)); obtain ⟨z0, t0⟩ := HZ.out.below hb5.out 0 _ rfl; obtain ⟨z1, t1⟩ := HZ.out.below hb5.out 1 _ rfl; obtain ⟨z2, t2⟩ := HZ.out.below hb5.out 2 _ rfl; obtain ⟨z3, t3⟩ := HZ.out.below hb5.out 3 _ rfl; obtain ⟨z4, t4⟩ := HZ.out.below hb5.out 4 _ rfl; have HB5 := Lib.hid (HB.out.trans (hb5.out.mono HB.out.size)); clear hb3 hb4 hb5))
  all_goals (
    go_wp2
    (try simp only [Exit.inBlock, Exit.then])
    refine bodyPost_ret (v := .agg #[.int .i64 0, .int .i64 0, .int .i64 M, .int .i64 0, .int .i64 0]) ?_ rfl ?_
    · simp [results, Tryz.results66, go_sem, z0, z1, z2, z3, z4]
    · exact ⟨rfl, (((((HB5.out.setCell (p := ⟨w.heap.size + 1, _, none⟩) (by simp) _).setCell (p := ⟨w.heap.size + 1, _, none⟩) (by simp) _).setCell (p := ⟨w.heap.size + 1, _, none⟩) (by simp) _).setCell (p := ⟨w.heap.size + 1, _, none⟩) (by simp) _).setCell (p := ⟨w.heap.size + 1, _, none⟩) (by simp) _)⟩)
set_option maxRecDepth 100000 in
set_option maxHeartbeats 4000000 in
theorem bnd_5 (a : Option Addr) (rs : List RuleV) (cap k : Nat) (r : RuleV) (w : World) (hl : rs.length ≤ 1048576) (hk : k < rs.length) (hr : r = rs[k]) (hki : kindI rs r = true) (hrd : RdR a rs w) (hkd : r.kind = 5) :
    Calls Tryz.prog 66 #[.agg #[.slice a rs.length cap], .int .i64 (k : Int)] w fun e w' => e = .returned (.agg #[.int .i64 (bndV rs r).num, .int .i64 (bndV rs r).b0, .int .i64 (bndV rs r).b1, .int .i64 (bndV rs r).i0, .int .i64 (bndV rs r).i1]) ∧ Below w.heap.size w w' := by
  have hdef : bndV rs r = ⟨0, 0, 0, 0, min 40 (limitAt rs (r.kids.getD 0 0))⟩ := by unfold bndV; simp [hkd]
  obtain ⟨w0, hw0⟩ : ∃ w0, w0 = (w.alloc (.cells #[.slice a rs.length cap] 35)).alloc (.cells #[.int .i64 0, .int .i64 0, .int .i64 0, .int .i64 0, .int .i64 0] 99) := ⟨_, rfl⟩
  have hB : Below w.heap.size w w0 := by subst hw0; exact ((Below.refl _ _).alloc (Nat.le_refl _) _).alloc (by simp) _
  have hD : CellsAt w.heap.size [.slice a rs.length cap] w0 := by subst hw0; exact (CellsAt.new w _ _).below ((Below.refl _ _).alloc (Nat.le_refl _) _)
  have hZ : CellsAt (w.heap.size + 1) [.int .i64 0, .int .i64 0, .int .i64 0, .int .i64 0, .int .i64 0] w0 := by subst hw0; have h1 := CellsAt.new (w.alloc (.cells #[.slice a rs.length cap] 35)) [.int .i64 0, .int .i64 0, .int .i64 0, .int .i64 0, .int .i64 0] 99; rw [World.size_alloc] at h1; exact h1
  obtain ⟨b0, off, a4, c4, a5, c5, a6, c6, a7, c7, rfl, ⟨d0, d1, d2, d3, d4, d5, d6, d7⟩, r4, r5, r6, r7⟩ := (hrd.below hB).at k hk
  rw [← hr] at d0 d1 d2 d3 d4 d5 d6 d7 r4 r5 r6 r7
  obtain ⟨w2, hw2⟩ : ∃ w2, w2 = w0.alloc (.cells #[.string r.name, .int .i64 r.kind, .int .i64 r.size, .bool r.little, .slice a4 r.bytes.length c4, .slice a5 r.names.length c5, .slice a6 r.tags.length c6, .slice a7 r.kids.length c7] 54) := ⟨_, rfl⟩
  have hb2 : Below w0.heap.size w0 w2 := by subst hw2; exact (Below.refl _ _).alloc (Nat.le_refl _) _
  have HC : Hid (CellsAt w0.heap.size [.string r.name, .int .i64 r.kind, .int .i64 r.size, .bool r.little, .slice a4 r.bytes.length c4, .slice a5 r.names.length c5, .slice a6 r.tags.length c6, .slice a7 r.kids.length c7] w2) := by subst hw2; exact CellsAt.new w0 _ _
  have HD := Lib.hid (hD.below hb2)
  have HZ := Lib.hid (hZ.below hb2)
  have HR7 := Lib.hid (r7.below hb2)
  have HRD := Lib.hid ((hrd.below hB).below hb2)
  have HB := Lib.hid (hB.trans (hb2.mono hB.size))
  have hne : w0.heap.size ≠ w.heap.size + 1 := by subst hw0; simp
  have HNE := Lib.hid hne
  have HW := Lib.hid hw0
  have HW2 := Lib.hid hw2
  have HKI := Lib.hid hki
  have bx := (hD 0 _ rfl).1
  have k0 : (0 : Int) ≤ (k : Int) := by omega
  have k1 : (k : Int) < (rs.length : Int) := by omega
  have y1 := (HC.out 1 _ rfl).1
  rw [hkd] at y1
  have h0 : 0 < r.kids.length := by have := kindI_5 hki hkd; omega
  have g0 : (0 : Int) < (r.kids.length : Int) := by omega
  obtain ⟨b7, o7, ha7, hc7⟩ := HR7.out.cellAt (j := 0) h0
  subst ha7
  simp only [Nat.add_zero] at hc7
  rw [getD_at h0] at hdef
  generalize r.kids[0] = kk at hc7 hdef
  have y7 := (HC.out 7 _ rfl).1
  obtain ⟨L, hL⟩ : ∃ L, L = limitAt rs kk := ⟨_, rfl⟩
  obtain ⟨M, hM⟩ : ∃ M, M = min 40 (limitAt rs kk) := ⟨_, rfl⟩
  rw [← hM] at hdef
  rw [← hL] at hM
  have HL := Lib.hid hL
  have HM := Lib.hid hM
  clear hM hL
  have HDEF := Lib.hid hdef
  rw [hdef]
  simp only []
  have HKD := Lib.hid hkd
  clear hB hD hZ hb2 hrd r4 r5 r6 r7 hw0 hw2 hne hki hr hdef hkd
  go_enter Tryz.func66, Tryz.ntmps66
  go_upto_region 1 with fail
  rw [← HW.out]
  go_upto_region 2 with fail
  rw [← HW2.out]
  clear bx d0 d1 d2 d3 d4 d5 d6 d7
  have bx := (HD.out 0 _ rfl).1
  go_upto_region 12 with fail
  have HSW : Hid (∀ W, Below w2.heap.size w2 W → W.cell? ⟨w.heap.size, 0, none⟩ = some (.slice (some ⟨b0, off, none⟩) rs.length cap) ∧ W.cell? ⟨w0.heap.size, 7, none⟩ = some (.slice (some ⟨b7, o7, none⟩) r.kids.length c7) ∧ W.cell? ⟨b7, o7, none⟩ = some (.int .i64 kk)) := fun W hW => ⟨(HD.out.below hW 0 _ rfl).1, (HC.out.below hW 7 _ rfl).1, cell_keep hW hc7⟩
  go_region_with (first | (go_at_call 80; refine (limit_impl (some ⟨b0, off, none⟩) rs cap kk _ (by omega) (HRD.out.below (below_drewN (Below.refl _ w2) 1))).mono ?_; rintro e w3 ⟨rfl, hb3⟩; rw [← HL.out]; replace hb3 := Lib.hid ((below_drewN (Below.refl _ w2) 1).trans hb3)) | (go_at_call 81; refine (min_impl 40 L _).mono ?_; rintro e w4 ⟨rfl, hb4⟩; rw [← HM.out]; have hb5 := Lib.hid (hb3.out.trans (hb4.mono hb3.out.size)); obtain ⟨z0, t0⟩ := HZ.out.below hb5.out 0 _ rfl; obtain ⟨z1, t1⟩ := HZ.out.below hb5.out 1 _ rfl; obtain ⟨z2, t2⟩ := HZ.out.below hb5.out 2 _ rfl; obtain ⟨z3, t3⟩ := HZ.out.below hb5.out 3 _ rfl; obtain ⟨z4, t4⟩ := HZ.out.below hb5.out 4 _ rfl; have HB5 := Lib.hid (HB.out.trans (hb5.out.mono HB.out.size)); clear hb3 hb4 hb5))
  all_goals (
    go_wp2
    (try simp only [Exit.inBlock, Exit.then])
    refine bodyPost_ret (v := .agg #[.int .i64 0, .int .i64 0, .int .i64 0, .int .i64 0, .int .i64 M]) ?_ rfl ?_
    · simp [results, Tryz.results66, go_sem, z0, z1, z2, z3, z4]
    · exact ⟨rfl, (((((HB5.out.setCell (p := ⟨w.heap.size + 1, _, none⟩) (by simp) _).setCell (p := ⟨w.heap.size + 1, _, none⟩) (by simp) _).setCell (p := ⟨w.heap.size + 1, _, none⟩) (by simp) _).setCell (p := ⟨w.heap.size + 1, _, none⟩) (by simp) _).setCell (p := ⟨w.heap.size + 1, _, none⟩) (by simp) _)⟩)
set_option maxRecDepth 100000 in
set_option maxHeartbeats 4000000 in
theorem bnd_6 (a : Option Addr) (rs : List RuleV) (cap k : Nat) (r : RuleV) (w : World) (_hl : rs.length ≤ 1048576) (hk : k < rs.length) (hr : r = rs[k]) (hki : kindI rs r = true) (hrd : RdR a rs w) (hkd : r.kind = 6) :
    Calls Tryz.prog 66 #[.agg #[.slice a rs.length cap], .int .i64 (k : Int)] w fun e w' => e = .returned (.agg #[.int .i64 (bndV rs r).num, .int .i64 (bndV rs r).b0, .int .i64 (bndV rs r).b1, .int .i64 (bndV rs r).i0, .int .i64 (bndV rs r).i1]) ∧ Below w.heap.size w w' := by
  have hdef : bndV rs r = ⟨0, 0, 0, (r.kids.length : Int), (r.kids.length : Int)⟩ := by unfold bndV; simp [hkd]
  obtain ⟨w0, hw0⟩ : ∃ w0, w0 = (w.alloc (.cells #[.slice a rs.length cap] 35)).alloc (.cells #[.int .i64 0, .int .i64 0, .int .i64 0, .int .i64 0, .int .i64 0] 99) := ⟨_, rfl⟩
  have hB : Below w.heap.size w w0 := by subst hw0; exact ((Below.refl _ _).alloc (Nat.le_refl _) _).alloc (by simp) _
  have hD : CellsAt w.heap.size [.slice a rs.length cap] w0 := by subst hw0; exact (CellsAt.new w _ _).below ((Below.refl _ _).alloc (Nat.le_refl _) _)
  have hZ : CellsAt (w.heap.size + 1) [.int .i64 0, .int .i64 0, .int .i64 0, .int .i64 0, .int .i64 0] w0 := by subst hw0; have h1 := CellsAt.new (w.alloc (.cells #[.slice a rs.length cap] 35)) [.int .i64 0, .int .i64 0, .int .i64 0, .int .i64 0, .int .i64 0] 99; rw [World.size_alloc] at h1; exact h1
  obtain ⟨b0, off, a4, c4, a5, c5, a6, c6, a7, c7, rfl, ⟨d0, d1, d2, d3, d4, d5, d6, d7⟩, r4, r5, r6, r7⟩ := (hrd.below hB).at k hk
  rw [← hr] at d0 d1 d2 d3 d4 d5 d6 d7 r4 r5 r6 r7
  obtain ⟨w2, hw2⟩ : ∃ w2, w2 = w0.alloc (.cells #[.string r.name, .int .i64 r.kind, .int .i64 r.size, .bool r.little, .slice a4 r.bytes.length c4, .slice a5 r.names.length c5, .slice a6 r.tags.length c6, .slice a7 r.kids.length c7] 54) := ⟨_, rfl⟩
  have hb2 : Below w0.heap.size w0 w2 := by subst hw2; exact (Below.refl _ _).alloc (Nat.le_refl _) _
  have HC : Hid (CellsAt w0.heap.size [.string r.name, .int .i64 r.kind, .int .i64 r.size, .bool r.little, .slice a4 r.bytes.length c4, .slice a5 r.names.length c5, .slice a6 r.tags.length c6, .slice a7 r.kids.length c7] w2) := by subst hw2; exact CellsAt.new w0 _ _
  have HD := Lib.hid (hD.below hb2)
  have HZ := Lib.hid (hZ.below hb2)
  have HR7 := Lib.hid (r7.below hb2)
  have HRD := Lib.hid ((hrd.below hB).below hb2)
  have HB := Lib.hid (hB.trans (hb2.mono hB.size))
  have hne : w0.heap.size ≠ w.heap.size + 1 := by subst hw0; simp
  have HNE := Lib.hid hne
  have HW := Lib.hid hw0
  have HW2 := Lib.hid hw2
  have HKI := Lib.hid hki
  have bx := (hD 0 _ rfl).1
  have k0 : (0 : Int) ≤ (k : Int) := by omega
  have k1 : (k : Int) < (rs.length : Int) := by omega
  have y1 := (HC.out 1 _ rfl).1
  rw [hkd] at y1
  have y7 := (HC.out 7 _ rfl).1
  obtain ⟨kl, hkl⟩ : ∃ kl, kl = r.kids.length := ⟨_, rfl⟩
  have hkl2 : kl ≤ 8 := by have := kindI_6 hki hkd; omega
  rw [← hkl] at y7 hdef
  clear hkl
  have HDEF := Lib.hid hdef
  rw [hdef]
  simp only []
  have HKD := Lib.hid hkd
  clear hB hD hZ hb2 hrd r4 r5 r6 r7 hw0 hw2 hne hki hr hdef hkd
  go_enter Tryz.func66, Tryz.ntmps66
  go_upto_region 1 with fail
  rw [← HW.out]
  go_upto_region 2 with fail
  rw [← HW2.out]
  clear bx d0 d1 d2 d3 d4 d5 d6 d7
  have bx := (HD.out 0 _ rfl).1
  obtain ⟨z0, t0⟩ := HZ.out 0 _ rfl
  obtain ⟨z1, t1⟩ := HZ.out 1 _ rfl
  obtain ⟨z2, t2⟩ := HZ.out 2 _ rfl
  obtain ⟨z3, t3⟩ := HZ.out 3 _ rfl
  obtain ⟨z4, t4⟩ := HZ.out 4 _ rfl
  go_wp2
  (try simp only [Exit.inBlock, Exit.then])
  refine bodyPost_ret (v := .agg #[.int .i64 0, .int .i64 0, .int .i64 0, .int .i64 (kl : Int), .int .i64 (kl : Int)]) ?_ rfl ?_
  · simp [results, Tryz.results66, go_sem, z0, z1, z2, z3, z4]
  · exact ⟨rfl, (((((HB.out.setCell (p := ⟨w.heap.size + 1, _, none⟩) (by simp) _).setCell (p := ⟨w.heap.size + 1, _, none⟩) (by simp) _).setCell (p := ⟨w.heap.size + 1, _, none⟩) (by simp) _).setCell (p := ⟨w.heap.size + 1, _, none⟩) (by simp) _).setCell (p := ⟨w.heap.size + 1, _, none⟩) (by simp) _)⟩
set_option maxRecDepth 100000 in
set_option maxHeartbeats 4000000 in
theorem bnd_7 (a : Option Addr) (rs : List RuleV) (cap k : Nat) (r : RuleV) (w : World) (hl : rs.length ≤ 1048576) (hk : k < rs.length) (hr : r = rs[k]) (hki : kindI rs r = true) (hrd : RdR a rs w) (hkd : r.kind = 7) :
    Calls Tryz.prog 66 #[.agg #[.slice a rs.length cap], .int .i64 (k : Int)] w fun e w' => e = .returned (.agg #[.int .i64 (bndV rs r).num, .int .i64 (bndV rs r).b0, .int .i64 (bndV rs r).b1, .int .i64 (bndV rs r).i0, .int .i64 (bndV rs r).i1]) ∧ Below w.heap.size w w' := by
  have hdef : bndV rs r = ⟨limitAt rs (r.kids.getD 0 0), 0, 0, 1, 1⟩ := by unfold bndV; simp [hkd]
  obtain ⟨w0, hw0⟩ : ∃ w0, w0 = (w.alloc (.cells #[.slice a rs.length cap] 35)).alloc (.cells #[.int .i64 0, .int .i64 0, .int .i64 0, .int .i64 0, .int .i64 0] 99) := ⟨_, rfl⟩
  have hB : Below w.heap.size w w0 := by subst hw0; exact ((Below.refl _ _).alloc (Nat.le_refl _) _).alloc (by simp) _
  have hD : CellsAt w.heap.size [.slice a rs.length cap] w0 := by subst hw0; exact (CellsAt.new w _ _).below ((Below.refl _ _).alloc (Nat.le_refl _) _)
  have hZ : CellsAt (w.heap.size + 1) [.int .i64 0, .int .i64 0, .int .i64 0, .int .i64 0, .int .i64 0] w0 := by subst hw0; have h1 := CellsAt.new (w.alloc (.cells #[.slice a rs.length cap] 35)) [.int .i64 0, .int .i64 0, .int .i64 0, .int .i64 0, .int .i64 0] 99; rw [World.size_alloc] at h1; exact h1
  obtain ⟨b0, off, a4, c4, a5, c5, a6, c6, a7, c7, rfl, ⟨d0, d1, d2, d3, d4, d5, d6, d7⟩, r4, r5, r6, r7⟩ := (hrd.below hB).at k hk
  rw [← hr] at d0 d1 d2 d3 d4 d5 d6 d7 r4 r5 r6 r7
  obtain ⟨w2, hw2⟩ : ∃ w2, w2 = w0.alloc (.cells #[.string r.name, .int .i64 r.kind, .int .i64 r.size, .bool r.little, .slice a4 r.bytes.length c4, .slice a5 r.names.length c5, .slice a6 r.tags.length c6, .slice a7 r.kids.length c7] 54) := ⟨_, rfl⟩
  have hb2 : Below w0.heap.size w0 w2 := by subst hw2; exact (Below.refl _ _).alloc (Nat.le_refl _) _
  have HC : Hid (CellsAt w0.heap.size [.string r.name, .int .i64 r.kind, .int .i64 r.size, .bool r.little, .slice a4 r.bytes.length c4, .slice a5 r.names.length c5, .slice a6 r.tags.length c6, .slice a7 r.kids.length c7] w2) := by subst hw2; exact CellsAt.new w0 _ _
  have HD := Lib.hid (hD.below hb2)
  have HZ := Lib.hid (hZ.below hb2)
  have HR7 := Lib.hid (r7.below hb2)
  have HRD := Lib.hid ((hrd.below hB).below hb2)
  have HB := Lib.hid (hB.trans (hb2.mono hB.size))
  have hne : w0.heap.size ≠ w.heap.size + 1 := by subst hw0; simp
  have HNE := Lib.hid hne
  have HW := Lib.hid hw0
  have HW2 := Lib.hid hw2
  have HKI := Lib.hid hki
  have bx := (hD 0 _ rfl).1
  have k0 : (0 : Int) ≤ (k : Int) := by omega
  have k1 : (k : Int) < (rs.length : Int) := by omega
  have y1 := (HC.out 1 _ rfl).1
  rw [hkd] at y1
  have h0 : 0 < r.kids.length := by have := kindI_7 hki hkd; omega
  have g0 : (0 : Int) < (r.kids.length : Int) := by omega
  obtain ⟨b7, o7, ha7, hc7⟩ := HR7.out.cellAt (j := 0) h0
  subst ha7
  simp only [Nat.add_zero] at hc7
  rw [getD_at h0] at hdef
  generalize r.kids[0] = kk at hc7 hdef
  have y7 := (HC.out 7 _ rfl).1
  obtain ⟨M, hM⟩ : ∃ M, M = limitAt rs kk := ⟨_, rfl⟩
  rw [← hM] at hdef
  have HL := Lib.hid hM
  clear hM
  have HDEF := Lib.hid hdef
  rw [hdef]
  simp only []
  have HKD := Lib.hid hkd
  clear hB hD hZ hb2 hrd r4 r5 r6 r7 hw0 hw2 hne hki hr hdef hkd
  go_enter Tryz.func66, Tryz.ntmps66
  go_upto_region 1 with fail
  rw [← HW.out]
  go_upto_region 2 with fail
  rw [← HW2.out]
  clear bx d0 d1 d2 d3 d4 d5 d6 d7
  have bx := (HD.out 0 _ rfl).1
  go_upto_region 16 with fail
  have HSW : Hid (∀ W, Below w2.heap.size w2 W → W.cell? ⟨w.heap.size, 0, none⟩ = some (.slice (some ⟨b0, off, none⟩) rs.length cap) ∧ W.cell? ⟨w0.heap.size, 7, none⟩ = some (.slice (some ⟨b7, o7, none⟩) r.kids.length c7) ∧ W.cell? ⟨b7, o7, none⟩ = some (.int .i64 kk)) := fun W hW => ⟨(HD.out.below hW 0 _ rfl).1, (HC.out.below hW 7 _ rfl).1, cell_keep hW hc7⟩
  go_region_with (first | (go_at_call 80; refine (limit_impl (some ⟨b0, off, none⟩) rs cap kk _ (by omega) (HRD.out.below (below_drewN (Below.refl _ w2) 1))).mono ?_; rintro e w3 ⟨rfl, hb3⟩; rw [← HL.out]; replace hb3 := Lib.hid ((below_drewN (Below.refl _ w2) 1).trans hb3); obtain ⟨z0, t0⟩ := HZ.out.below hb3.out 0 _ rfl; obtain ⟨z1, t1⟩ := HZ.out.below hb3.out 1 _ rfl; obtain ⟨z2, t2⟩ := HZ.out.below hb3.out 2 _ rfl; obtain ⟨z3, t3⟩ := HZ.out.below hb3.out 3 _ rfl; obtain ⟨z4, t4⟩ := HZ.out.below hb3.out 4 _ rfl; have HB5 := Lib.hid (HB.out.trans (hb3.out.mono HB.out.size)); clear hb3))
  all_goals (
    go_wp2
    (try simp only [Exit.inBlock, Exit.then])
    refine bodyPost_ret (v := .agg #[.int .i64 M, .int .i64 0, .int .i64 0, .int .i64 1, .int .i64 1]) ?_ rfl ?_
    · simp [results, Tryz.results66, go_sem, z0, z1, z2, z3, z4]
    · exact ⟨rfl, (((((HB5.out.setCell (p := ⟨w.heap.size + 1, _, none⟩) (by simp) _).setCell (p := ⟨w.heap.size + 1, _, none⟩) (by simp) _).setCell (p := ⟨w.heap.size + 1, _, none⟩) (by simp) _).setCell (p := ⟨w.heap.size + 1, _, none⟩) (by simp) _).setCell (p := ⟨w.heap.size + 1, _, none⟩) (by simp) _)⟩)
set_option maxRecDepth 100000 in
set_option maxHeartbeats 4000000 in
theorem bnd_8 (a : Option Addr) (rs : List RuleV) (cap k : Nat) (r : RuleV) (w : World) (_hl : rs.length ≤ 1048576) (hk : k < rs.length) (hr : r = rs[k]) (hki : kindI rs r = true) (hrd : RdR a rs w) (hkd : r.kind = 8) :
    Calls Tryz.prog 66 #[.agg #[.slice a rs.length cap], .int .i64 (k : Int)] w fun e w' => e = .returned (.agg #[.int .i64 (bndV rs r).num, .int .i64 (bndV rs r).b0, .int .i64 (bndV rs r).b1, .int .i64 (bndV rs r).i0, .int .i64 (bndV rs r).i1]) ∧ Below w.heap.size w w' := by
  have hdef : bndV rs r = ⟨0, 0, 0, 0, 1⟩ := by unfold bndV; simp [hkd]
  obtain ⟨w0, hw0⟩ : ∃ w0, w0 = (w.alloc (.cells #[.slice a rs.length cap] 35)).alloc (.cells #[.int .i64 0, .int .i64 0, .int .i64 0, .int .i64 0, .int .i64 0] 99) := ⟨_, rfl⟩
  have hB : Below w.heap.size w w0 := by subst hw0; exact ((Below.refl _ _).alloc (Nat.le_refl _) _).alloc (by simp) _
  have hD : CellsAt w.heap.size [.slice a rs.length cap] w0 := by subst hw0; exact (CellsAt.new w _ _).below ((Below.refl _ _).alloc (Nat.le_refl _) _)
  have hZ : CellsAt (w.heap.size + 1) [.int .i64 0, .int .i64 0, .int .i64 0, .int .i64 0, .int .i64 0] w0 := by subst hw0; have h1 := CellsAt.new (w.alloc (.cells #[.slice a rs.length cap] 35)) [.int .i64 0, .int .i64 0, .int .i64 0, .int .i64 0, .int .i64 0] 99; rw [World.size_alloc] at h1; exact h1
  obtain ⟨b0, off, a4, c4, a5, c5, a6, c6, a7, c7, rfl, ⟨d0, d1, d2, d3, d4, d5, d6, d7⟩, r4, r5, r6, r7⟩ := (hrd.below hB).at k hk
  rw [← hr] at d0 d1 d2 d3 d4 d5 d6 d7 r4 r5 r6 r7
  obtain ⟨w2, hw2⟩ : ∃ w2, w2 = w0.alloc (.cells #[.string r.name, .int .i64 r.kind, .int .i64 r.size, .bool r.little, .slice a4 r.bytes.length c4, .slice a5 r.names.length c5, .slice a6 r.tags.length c6, .slice a7 r.kids.length c7] 54) := ⟨_, rfl⟩
  have hb2 : Below w0.heap.size w0 w2 := by subst hw2; exact (Below.refl _ _).alloc (Nat.le_refl _) _
  have HC : Hid (CellsAt w0.heap.size [.string r.name, .int .i64 r.kind, .int .i64 r.size, .bool r.little, .slice a4 r.bytes.length c4, .slice a5 r.names.length c5, .slice a6 r.tags.length c6, .slice a7 r.kids.length c7] w2) := by subst hw2; exact CellsAt.new w0 _ _
  have HD := Lib.hid (hD.below hb2)
  have HZ := Lib.hid (hZ.below hb2)
  have HR7 := Lib.hid (r7.below hb2)
  have HRD := Lib.hid ((hrd.below hB).below hb2)
  have HB := Lib.hid (hB.trans (hb2.mono hB.size))
  have hne : w0.heap.size ≠ w.heap.size + 1 := by subst hw0; simp
  have HNE := Lib.hid hne
  have HW := Lib.hid hw0
  have HW2 := Lib.hid hw2
  have HKI := Lib.hid hki
  have bx := (hD 0 _ rfl).1
  have k0 : (0 : Int) ≤ (k : Int) := by omega
  have k1 : (k : Int) < (rs.length : Int) := by omega
  have y1 := (HC.out 1 _ rfl).1
  rw [hkd] at y1
  have HDEF := Lib.hid hdef
  rw [hdef]
  simp only []
  have HKD := Lib.hid hkd
  clear hB hD hZ hb2 hrd r4 r5 r6 r7 hw0 hw2 hne hki hr hdef hkd
  go_enter Tryz.func66, Tryz.ntmps66
  go_upto_region 1 with fail
  rw [← HW.out]
  go_upto_region 2 with fail
  rw [← HW2.out]
  clear bx d0 d1 d2 d3 d4 d5 d6 d7
  have bx := (HD.out 0 _ rfl).1
  obtain ⟨z0, t0⟩ := HZ.out 0 _ rfl
  obtain ⟨z1, t1⟩ := HZ.out 1 _ rfl
  obtain ⟨z2, t2⟩ := HZ.out 2 _ rfl
  obtain ⟨z3, t3⟩ := HZ.out 3 _ rfl
  obtain ⟨z4, t4⟩ := HZ.out 4 _ rfl
  go_wp2
  (try simp only [Exit.inBlock, Exit.then])
  refine bodyPost_ret (v := .agg #[.int .i64 0, .int .i64 0, .int .i64 0, .int .i64 0, .int .i64 1]) ?_ rfl ?_
  · simp [results, Tryz.results66, go_sem, z0, z1, z2, z3, z4]
  · exact ⟨rfl, (((((HB.out.setCell (p := ⟨w.heap.size + 1, _, none⟩) (by simp) _).setCell (p := ⟨w.heap.size + 1, _, none⟩) (by simp) _).setCell (p := ⟨w.heap.size + 1, _, none⟩) (by simp) _).setCell (p := ⟨w.heap.size + 1, _, none⟩) (by simp) _).setCell (p := ⟨w.heap.size + 1, _, none⟩) (by simp) _)⟩
set_option maxRecDepth 100000 in
set_option maxHeartbeats 4000000 in
theorem bnd_9 (a : Option Addr) (rs : List RuleV) (cap k : Nat) (r : RuleV) (w : World) (_hl : rs.length ≤ 1048576) (hk : k < rs.length) (hr : r = rs[k]) (hki : kindI rs r = true) (hrd : RdR a rs w) (hkd : r.kind = 9) :
    Calls Tryz.prog 66 #[.agg #[.slice a rs.length cap], .int .i64 (k : Int)] w fun e w' => e = .returned (.agg #[.int .i64 (bndV rs r).num, .int .i64 (bndV rs r).b0, .int .i64 (bndV rs r).b1, .int .i64 (bndV rs r).i0, .int .i64 (bndV rs r).i1]) ∧ Below w.heap.size w w' := by
  have hdef : bndV rs r = ⟨0, 0, 0, 1, 1⟩ := by unfold bndV; simp [hkd]
  obtain ⟨w0, hw0⟩ : ∃ w0, w0 = (w.alloc (.cells #[.slice a rs.length cap] 35)).alloc (.cells #[.int .i64 0, .int .i64 0, .int .i64 0, .int .i64 0, .int .i64 0] 99) := ⟨_, rfl⟩
  have hB : Below w.heap.size w w0 := by subst hw0; exact ((Below.refl _ _).alloc (Nat.le_refl _) _).alloc (by simp) _
  have hD : CellsAt w.heap.size [.slice a rs.length cap] w0 := by subst hw0; exact (CellsAt.new w _ _).below ((Below.refl _ _).alloc (Nat.le_refl _) _)
  have hZ : CellsAt (w.heap.size + 1) [.int .i64 0, .int .i64 0, .int .i64 0, .int .i64 0, .int .i64 0] w0 := by subst hw0; have h1 := CellsAt.new (w.alloc (.cells #[.slice a rs.length cap] 35)) [.int .i64 0, .int .i64 0, .int .i64 0, .int .i64 0, .int .i64 0] 99; rw [World.size_alloc] at h1; exact h1
  obtain ⟨b0, off, a4, c4, a5, c5, a6, c6, a7, c7, rfl, ⟨d0, d1, d2, d3, d4, d5, d6, d7⟩, r4, r5, r6, r7⟩ := (hrd.below hB).at k hk
  rw [← hr] at d0 d1 d2 d3 d4 d5 d6 d7 r4 r5 r6 r7
  obtain ⟨w2, hw2⟩ : ∃ w2, w2 = w0.alloc (.cells #[.string r.name, .int .i64 r.kind, .int .i64 r.size, .bool r.little, .slice a4 r.bytes.length c4, .slice a5 r.names.length c5, .slice a6 r.tags.length c6, .slice a7 r.kids.length c7] 54) := ⟨_, rfl⟩
  have hb2 : Below w0.heap.size w0 w2 := by subst hw2; exact (Below.refl _ _).alloc (Nat.le_refl _) _
  have HC : Hid (CellsAt w0.heap.size [.string r.name, .int .i64 r.kind, .int .i64 r.size, .bool r.little, .slice a4 r.bytes.length c4, .slice a5 r.names.length c5, .slice a6 r.tags.length c6, .slice a7 r.kids.length c7] w2) := by subst hw2; exact CellsAt.new w0 _ _
  have HD := Lib.hid (hD.below hb2)
  have HZ := Lib.hid (hZ.below hb2)
  have HR7 := Lib.hid (r7.below hb2)
  have HRD := Lib.hid ((hrd.below hB).below hb2)
  have HB := Lib.hid (hB.trans (hb2.mono hB.size))
  have hne : w0.heap.size ≠ w.heap.size + 1 := by subst hw0; simp
  have HNE := Lib.hid hne
  have HW := Lib.hid hw0
  have HW2 := Lib.hid hw2
  have HKI := Lib.hid hki
  have bx := (hD 0 _ rfl).1
  have k0 : (0 : Int) ≤ (k : Int) := by omega
  have k1 : (k : Int) < (rs.length : Int) := by omega
  have y1 := (HC.out 1 _ rfl).1
  rw [hkd] at y1
  have HDEF := Lib.hid hdef
  rw [hdef]
  simp only []
  have HKD := Lib.hid hkd
  clear hB hD hZ hb2 hrd r4 r5 r6 r7 hw0 hw2 hne hki hr hdef hkd
  go_enter Tryz.func66, Tryz.ntmps66
  go_upto_region 1 with fail
  rw [← HW.out]
  go_upto_region 2 with fail
  rw [← HW2.out]
  clear bx d0 d1 d2 d3 d4 d5 d6 d7
  have bx := (HD.out 0 _ rfl).1
  obtain ⟨z0, t0⟩ := HZ.out 0 _ rfl
  obtain ⟨z1, t1⟩ := HZ.out 1 _ rfl
  obtain ⟨z2, t2⟩ := HZ.out 2 _ rfl
  obtain ⟨z3, t3⟩ := HZ.out 3 _ rfl
  obtain ⟨z4, t4⟩ := HZ.out 4 _ rfl
  go_wp2
  (try simp only [Exit.inBlock, Exit.then])
  refine bodyPost_ret (v := .agg #[.int .i64 0, .int .i64 0, .int .i64 0, .int .i64 1, .int .i64 1]) ?_ rfl ?_
  · simp [results, Tryz.results66, go_sem, z0, z1, z2, z3, z4]
  · exact ⟨rfl, (((((HB.out.setCell (p := ⟨w.heap.size + 1, _, none⟩) (by simp) _).setCell (p := ⟨w.heap.size + 1, _, none⟩) (by simp) _).setCell (p := ⟨w.heap.size + 1, _, none⟩) (by simp) _).setCell (p := ⟨w.heap.size + 1, _, none⟩) (by simp) _).setCell (p := ⟨w.heap.size + 1, _, none⟩) (by simp) _)⟩
set_option maxRecDepth 100000 in
set_option maxHeartbeats 4000000 in
theorem bnd_10 (a : Option Addr) (rs : List RuleV) (cap k : Nat) (r : RuleV) (w : World) (_hl : rs.length ≤ 1048576) (hk : k < rs.length) (hr : r = rs[k]) (hki : kindI rs r = true) (hrd : RdR a rs w) (hkd : r.kind = 10) :
    Calls Tryz.prog 66 #[.agg #[.slice a rs.length cap], .int .i64 (k : Int)] w fun e w' => e = .returned (.agg #[.int .i64 (bndV rs r).num, .int .i64 (bndV rs r).b0, .int .i64 (bndV rs r).b1, .int .i64 (bndV rs r).i0, .int .i64 (bndV rs r).i1]) ∧ Below w.heap.size w w' := by
  have hdef : bndV rs r = ⟨0, 0, 400, 0, 0⟩ := by unfold bndV; simp [hkd]
  obtain ⟨w0, hw0⟩ : ∃ w0, w0 = (w.alloc (.cells #[.slice a rs.length cap] 35)).alloc (.cells #[.int .i64 0, .int .i64 0, .int .i64 0, .int .i64 0, .int .i64 0] 99) := ⟨_, rfl⟩
  have hB : Below w.heap.size w w0 := by subst hw0; exact ((Below.refl _ _).alloc (Nat.le_refl _) _).alloc (by simp) _
  have hD : CellsAt w.heap.size [.slice a rs.length cap] w0 := by subst hw0; exact (CellsAt.new w _ _).below ((Below.refl _ _).alloc (Nat.le_refl _) _)
  have hZ : CellsAt (w.heap.size + 1) [.int .i64 0, .int .i64 0, .int .i64 0, .int .i64 0, .int .i64 0] w0 := by subst hw0; have h1 := CellsAt.new (w.alloc (.cells #[.slice a rs.length cap] 35)) [.int .i64 0, .int .i64 0, .int .i64 0, .int .i64 0, .int .i64 0] 99; rw [World.size_alloc] at h1; exact h1
  obtain ⟨b0, off, a4, c4, a5, c5, a6, c6, a7, c7, rfl, ⟨d0, d1, d2, d3, d4, d5, d6, d7⟩, r4, r5, r6, r7⟩ := (hrd.below hB).at k hk
  rw [← hr] at d0 d1 d2 d3 d4 d5 d6 d7 r4 r5 r6 r7
  obtain ⟨w2, hw2⟩ : ∃ w2, w2 = w0.alloc (.cells #[.string r.name, .int .i64 r.kind, .int .i64 r.size, .bool r.little, .slice a4 r.bytes.length c4, .slice a5 r.names.length c5, .slice a6 r.tags.length c6, .slice a7 r.kids.length c7] 54) := ⟨_, rfl⟩
  have hb2 : Below w0.heap.size w0 w2 := by subst hw2; exact (Below.refl _ _).alloc (Nat.le_refl _) _
  have HC : Hid (CellsAt w0.heap.size [.string r.name, .int .i64 r.kind, .int .i64 r.size, .bool r.little, .slice a4 r.bytes.length c4, .slice a5 r.names.length c5, .slice a6 r.tags.length c6, .slice a7 r.kids.length c7] w2) := by subst hw2; exact CellsAt.new w0 _ _
  have HD := Lib.hid (hD.below hb2)
  have HZ := Lib.hid (hZ.below hb2)
  have HR7 := Lib.hid (r7.below hb2)
  have HRD := Lib.hid ((hrd.below hB).below hb2)
  have HB := Lib.hid (hB.trans (hb2.mono hB.size))
  have hne : w0.heap.size ≠ w.heap.size + 1 := by subst hw0; simp
  have HNE := Lib.hid hne
  have HW := Lib.hid hw0
  have HW2 := Lib.hid hw2
  have HKI := Lib.hid hki
  have bx := (hD 0 _ rfl).1
  have k0 : (0 : Int) ≤ (k : Int) := by omega
  have k1 : (k : Int) < (rs.length : Int) := by omega
  have y1 := (HC.out 1 _ rfl).1
  rw [hkd] at y1
  have HDEF := Lib.hid hdef
  rw [hdef]
  simp only []
  have HKD := Lib.hid hkd
  clear hB hD hZ hb2 hrd r4 r5 r6 r7 hw0 hw2 hne hki hr hdef hkd
  go_enter Tryz.func66, Tryz.ntmps66
  go_upto_region 1 with fail
  rw [← HW.out]
  go_upto_region 2 with fail
  rw [← HW2.out]
  clear bx d0 d1 d2 d3 d4 d5 d6 d7
  have bx := (HD.out 0 _ rfl).1
  obtain ⟨z0, t0⟩ := HZ.out 0 _ rfl
  obtain ⟨z1, t1⟩ := HZ.out 1 _ rfl
  obtain ⟨z2, t2⟩ := HZ.out 2 _ rfl
  obtain ⟨z3, t3⟩ := HZ.out 3 _ rfl
  obtain ⟨z4, t4⟩ := HZ.out 4 _ rfl
  go_wp2
  (try simp only [Exit.inBlock, Exit.then])
  refine bodyPost_ret (v := .agg #[.int .i64 0, .int .i64 0, .int .i64 400, .int .i64 0, .int .i64 0]) ?_ rfl ?_
  · simp [results, Tryz.results66, go_sem, z0, z1, z2, z3, z4]
  · exact ⟨rfl, (((((HB.out.setCell (p := ⟨w.heap.size + 1, _, none⟩) (by simp) _).setCell (p := ⟨w.heap.size + 1, _, none⟩) (by simp) _).setCell (p := ⟨w.heap.size + 1, _, none⟩) (by simp) _).setCell (p := ⟨w.heap.size + 1, _, none⟩) (by simp) _).setCell (p := ⟨w.heap.size + 1, _, none⟩) (by simp) _)⟩
theorem bnd_impl (a : Option Addr) (rs : List RuleV) (cap k : Nat) (r : RuleV) (w : World) (hl : rs.length ≤ 1048576) (hk : k < rs.length) (hr : r = rs[k]) (hki : kindI rs r = true) (hrd : RdR a rs w) :
    Calls Tryz.prog 66 #[.agg #[.slice a rs.length cap], .int .i64 (k : Int)] w fun e w' => e = .returned (.agg #[.int .i64 (bndV rs r).num, .int .i64 (bndV rs r).b0, .int .i64 (bndV rs r).b1, .int .i64 (bndV rs r).i0, .int .i64 (bndV rs r).i1]) ∧ Below w.heap.size w w' := by
  have hkn := kindI_known hki
  rcases (by omega : r.kind = 1 ∨ r.kind = 2 ∨ r.kind = 3 ∨ r.kind = 4 ∨ r.kind = 5 ∨ r.kind = 6 ∨ r.kind = 7 ∨ r.kind = 8 ∨ r.kind = 9 ∨ r.kind = 10) with e | e | e | e | e | e | e | e | e | e
  · exact bnd_1 a rs cap k r w hl hk hr hki hrd e
  · exact bnd_2 a rs cap k r w hl hk hr hki hrd e
  · exact bnd_3 a rs cap k r w hl hk hr hki hrd e
  · exact bnd_4 a rs cap k r w hl hk hr hki hrd e
  · exact bnd_5 a rs cap k r w hl hk hr hki hrd e
  · exact bnd_6 a rs cap k r w hl hk hr hki hrd e
  · exact bnd_7 a rs cap k r w hl hk hr hki hrd e
  · exact bnd_8 a rs cap k r w hl hk hr hki hrd e
  · exact bnd_9 a rs cap k r w hl hk hr hki hrd e
  · exact bnd_10 a rs cap k r w hl hk hr hki hrd e
end Go.Proofs.YtfmnjclnhppghabGreatDoor
