/- The contracts of the program's leastSize and greatestSize. -/
import Derived.Test.YtfmnjclnhppghaaParts
import Derived.Test.YtfmnjclnhppghaaGDI
import Derived.Deep.RegionHeld3
set_option maxRecDepth 100000
namespace Go.Proofs.Ytfmnjclnhppghaa
open Go Go.RowKit
set_option maxHeartbeats 4000000 in
theorem swcMin_1 (rs : List RuleV) (r : RuleV) (cs : List Value) (zs : List Int) (n : Nat) (w : World) (hn : n ≤ 24) (hki : kindI rs r = true) (hkd : ∀ k ∈ r.kids, 0 ≤ k ∧ k < (n : Int)) (hib : InB 401 zs) (hcp : Cap7 cs) (h : IsRule r cs w) (hk : r.kind = 1) :
  Calls Try.prog 124 #[.agg cs.toArray, .agg (arr24 zs).toArray, .func (.func 125) #[] #[]] w fun e w' => e = .returned (.int .i64 (minStep zs r)) ∧ Below w.heap.size w w' := by
 have hof := minOf_b hki hib
 obtain ⟨a4, c4, a5, c5, a6, c6, a7, c7, rfl, h4, h5, h6, h7⟩ := h
 obtain ⟨z, hz⟩ : ∃ z, z = (arr24 zs).toArray := ⟨_, rfl⟩
 obtain ⟨w0, hw0⟩ : ∃ w0, w0 = (w.alloc (.cells #[.string r.name, .int .i64 r.kind, .int .i64 r.size, .bool r.little, .slice a4 r.bytes.length c4, .slice a5 r.names.length c5, .slice a6 r.tags.length c6, .slice a7 r.kids.length c7] 66)).alloc (.cells z 130) := ⟨_, rfl⟩
 have hB : Below w.heap.size w w0 := by subst hw0; exact ((Below.refl _ _).alloc (Nat.le_refl _) _).alloc (by simp) _
 have HC : Hid (CellsAt w.heap.size [.string r.name, .int .i64 r.kind, .int .i64 r.size, .bool r.little, .slice a4 r.bytes.length c4, .slice a5 r.names.length c5, .slice a6 r.tags.length c6, .slice a7 r.kids.length c7] w0) := by subst hw0; exact (CellsAt.new w _ _).below ((Below.refl _ _).alloc (Nat.le_refl _) _)
 have HY : Hid (CellsAt (w.heap.size + 1) (arr24 zs) w0) := by subst hw0; subst hz; have h1 := CellsAt.new (w.alloc (.cells #[.string r.name, .int .i64 r.kind, .int .i64 r.size, .bool r.little, .slice a4 r.bytes.length c4, .slice a5 r.names.length c5, .slice a6 r.tags.length c6, .slice a7 r.kids.length c7] 66)) (arr24 zs) 130; rw [World.size_alloc] at h1; exact h1
 have HR7 := Lib.hid (h7.below hB)
 have HIS : Hid (IsRule r [.string r.name, .int .i64 r.kind, .int .i64 r.size, .bool r.little, .slice a4 r.bytes.length c4, .slice a5 r.names.length c5, .slice a6 r.tags.length c6, .slice a7 r.kids.length c7] w0) := ⟨a4, c4, a5, c5, a6, c6, a7, c7, rfl, h4.below hB, h5.below hB, h6.below hB, h7.below hB⟩
 have HB := Lib.hid hB
 have HKI := Lib.hid hki
 have HKD := Lib.hid hkd
 have HIB := Lib.hid hib
 have HCP := Lib.hid hcp
 have hW := Lib.hid hw0
 have y1 := (HC.out 1 _ rfl).1
 rw [hk] at y1
 have hHZ := Lib.hid hz
 have HKK := Lib.hid hk
 clear hB hki hkd hib hcp hw0 h4 h5 h6 h7
 have HIS1 : Hid (IsRule r [.string r.name, .int .i64 1, .int .i64 r.size, .bool r.little, .slice a4 r.bytes.length c4, .slice a5 r.names.length c5, .slice a6 r.tags.length c6, .slice a7 r.kids.length c7] w0) := by have h := HIS.out; rw [hk] at h; exact h
 have HCP1 : Hid (Cap7 [.string r.name, .int .i64 1, .int .i64 r.size, .bool r.little, .slice a4 r.bytes.length c4, .slice a5 r.names.length c5, .slice a6 r.tags.length c6, .slice a7 r.kids.length c7]) := by have h := HCP.out; rw [hk] at h; exact h
 have HPP := Lib.hid (fun wx hbx => partsMin_1 rs r _ zs n wx hn HKI.out HKD.out HIB.out HCP1.out (HIS1.out.below (w' := wx) hbx) HKK.out)
 obtain ⟨v, hvv⟩ : ∃ v, v = minOf zs r := ⟨_, rfl⟩
 have HZ : Hid (min v 401 = minStep zs r) := by show _ = _; rw [hvv]; unfold minStep; omega
 rw [← hvv] at hof
 have HV := Lib.hid hvv
 clear hvv
 have y0 := (HC.out 0 _ rfl).1
 have y2 := (HC.out 2 _ rfl).1
 have y3 := (HC.out 3 _ rfl).1
 have y4 := (HC.out 4 _ rfl).1
 have y5 := (HC.out 5 _ rfl).1
 have y6 := (HC.out 6 _ rfl).1
 have y7 := (HC.out 7 _ rfl).1
 clear hk
 go_enter Try.func124, Try.ntmps124
 rw [← hz]
 clear hz
 go_upto_region 1 with fail
 rw [← hW.out]
 clear hW
 go_wp2_with (refine wpList_load_mid rfl 130 (.tmp 4) rfl (w.heap.size + 1) 0 rfl (arr24 zs) _ HY.out.range Try.underlying130 rfl (info24 zs) ?_)
 refine (HPP.out _ (Below.refl _ _)).mono ?_
 rintro e wx ⟨rfl, hbx⟩
 rw [← HV.out]
 have HBX := Lib.hid (HB.out.trans (hbx.mono HB.out.size))
 clear hbx
 go_wp2_with fail
 refine (min_impl v 401 _).mono ?_
 rintro e wy ⟨rfl, hb⟩
 have HBZ := Lib.hid (HBX.out.trans (hb.mono HBX.out.size))
 clear hb
 go_wp2
 go_ret
 exact ⟨ret_int HZ.out, HBZ.out⟩
set_option maxHeartbeats 4000000 in
theorem most_1 (a : Option Addr) (rs : List RuleV) (cap : Nat) (r : RuleV) (cs : List Value) (zs : List Int) (n : Nat) (w : World) (_hl : rs.length ≤ 1048576) (hrd : RdR a rs w) (hn : n ≤ 24) (hki : kindI rs r = true) (hkd : ∀ k ∈ r.kids, 0 ≤ k ∧ k < (n : Int)) (hib : InB 401 zs) (hcp : Cap7 cs) (h : IsRule r cs w) (hk : r.kind = 1) (hv : allV (kindI rs) rs) :
  Calls Try.prog 86 #[.agg #[.slice a rs.length cap], .agg cs.toArray, .agg (arr24 zs).toArray] w fun e w' => e = .returned (.int .i64 (maxStep rs zs r)) ∧ Below w.heap.size w w' := by
 have hof := maxOf_b hki hv hib
 obtain ⟨a4, c4, a5, c5, a6, c6, a7, c7, rfl, h4, h5, h6, h7⟩ := h
 obtain ⟨z, hz⟩ : ∃ z, z = (arr24 zs).toArray := ⟨_, rfl⟩
 obtain ⟨w0, hw0⟩ : ∃ w0, w0 = ((w.alloc (.cells #[.slice a rs.length cap] 35)).alloc (.cells #[.string r.name, .int .i64 r.kind, .int .i64 r.size, .bool r.little, .slice a4 r.bytes.length c4, .slice a5 r.names.length c5, .slice a6 r.tags.length c6, .slice a7 r.kids.length c7] 66)).alloc (.cells z 130) := ⟨_, rfl⟩
 have hB : Below w.heap.size w w0 := by subst hw0; exact (((Below.refl _ _).alloc (Nat.le_refl _) _).alloc (by simp) _).alloc (by simp; omega) _
 have HX : Hid (CellsAt w.heap.size [.slice a rs.length cap] w0) := by subst hw0; exact ((CellsAt.new w _ _).below ((Below.refl _ _).alloc (Nat.le_refl _) _)).below ((Below.refl _ _).alloc (Nat.le_refl _) _)
 have HC : Hid (CellsAt (w.heap.size + 1) [.string r.name, .int .i64 r.kind, .int .i64 r.size, .bool r.little, .slice a4 r.bytes.length c4, .slice a5 r.names.length c5, .slice a6 r.tags.length c6, .slice a7 r.kids.length c7] w0) := by subst hw0; have h1 := CellsAt.new (w.alloc (.cells #[.slice a rs.length cap] 35)) [.string r.name, .int .i64 r.kind, .int .i64 r.size, .bool r.little, .slice a4 r.bytes.length c4, .slice a5 r.names.length c5, .slice a6 r.tags.length c6, .slice a7 r.kids.length c7] 66; rw [World.size_alloc] at h1; exact h1.below ((Below.refl _ _).alloc (Nat.le_refl _) _)
 have HY : Hid (CellsAt (w.heap.size + 2) (arr24 zs) w0) := by subst hw0; subst hz; have h1 := CellsAt.new ((w.alloc (.cells #[.slice a rs.length cap] 35)).alloc (.cells #[.string r.name, .int .i64 r.kind, .int .i64 r.size, .bool r.little, .slice a4 r.bytes.length c4, .slice a5 r.names.length c5, .slice a6 r.tags.length c6, .slice a7 r.kids.length c7] 66)) (arr24 zs) 130; rw [World.size_alloc, World.size_alloc] at h1; exact h1
 have HR7 := Lib.hid (h7.below hB)
 have HRD := Lib.hid (hrd.below hB)
 have HIS : Hid (IsRule r [.string r.name, .int .i64 r.kind, .int .i64 r.size, .bool r.little, .slice a4 r.bytes.length c4, .slice a5 r.names.length c5, .slice a6 r.tags.length c6, .slice a7 r.kids.length c7] w0) := ⟨a4, c4, a5, c5, a6, c6, a7, c7, rfl, h4.below hB, h5.below hB, h6.below hB, h7.below hB⟩
 have HB := Lib.hid hB
 have HKI := Lib.hid hki
 have HKD := Lib.hid hkd
 have HIB := Lib.hid hib
 have HCP := Lib.hid hcp
 have HVV := Lib.hid hv
 have hW := Lib.hid hw0
 have y1 := (HC.out 1 _ rfl).1
 rw [hk] at y1
 have hHZ := Lib.hid hz
 have HKK := Lib.hid hk
 clear hB hki hkd hib hcp hv hw0 h4 h5 h6 h7 hrd
 have hst : Hid (min (maxOf rs zs r) 400 = maxStep rs zs r) := by show _ = _; unfold maxStep; omega
 have HIS1 : Hid (IsRule r [.string r.name, .int .i64 1, .int .i64 r.size, .bool r.little, .slice a4 r.bytes.length c4, .slice a5 r.names.length c5, .slice a6 r.tags.length c6, .slice a7 r.kids.length c7] w0) := by have h := HIS.out; rw [hk] at h; exact h
 have HCP1 : Hid (Cap7 [.string r.name, .int .i64 1, .int .i64 r.size, .bool r.little, .slice a4 r.bytes.length c4, .slice a5 r.names.length c5, .slice a6 r.tags.length c6, .slice a7 r.kids.length c7]) := by have h := HCP.out; rw [hk] at h; exact h
 have HPP := Lib.hid (fun wx hbx => partsMax_1 rs r _ zs n wx hn HKI.out HKD.out HIB.out HCP1.out (HIS1.out.below (w' := wx) hbx) HKK.out)
 obtain ⟨v, hvv⟩ : ∃ v, v = maxOf rs zs r := ⟨_, rfl⟩
 rw [← hvv] at hst hof
 have HV := Lib.hid hvv
 clear hvv
 have y0 := (HC.out 0 _ rfl).1
 have y2 := (HC.out 2 _ rfl).1
 have y3 := (HC.out 3 _ rfl).1
 have y4 := (HC.out 4 _ rfl).1
 have y5 := (HC.out 5 _ rfl).1
 have y6 := (HC.out 6 _ rfl).1
 have y7 := (HC.out 7 _ rfl).1
 have HZ : Hid (min v 400 = maxStep rs zs r) := hst
 clear hk
 go_enter Try.func86, Try.ntmps86
 rw [← hz]
 clear hz
 go_upto_region 1 with fail
 rw [← hW.out]
 clear hW
 go_wp2_with (refine wpList_load_mid rfl 130 (.tmp 5) rfl (w.heap.size + 2) 0 rfl (arr24 zs) _ HY.out.range Try.underlying130 rfl (info24 zs) ?_)
 refine (HPP.out _ (Below.refl _ _)).mono ?_
 rintro e wx ⟨rfl, hbx⟩
 rw [← HV.out]
 have HBX := Lib.hid (HB.out.trans (hbx.mono HB.out.size))
 clear hbx
 go_wp2_with fail
 refine (min_impl v 400 _).mono ?_
 rintro e wy ⟨rfl, hb⟩
 have HBZ := Lib.hid (HBX.out.trans (hb.mono HBX.out.size))
 clear hb
 go_wp2
 go_ret
 exact ⟨ret_int HZ.out, HBZ.out⟩
set_option maxHeartbeats 4000000 in
theorem swcMin_2 (rs : List RuleV) (r : RuleV) (cs : List Value) (zs : List Int) (n : Nat) (w : World) (hn : n ≤ 24) (hki : kindI rs r = true) (hkd : ∀ k ∈ r.kids, 0 ≤ k ∧ k < (n : Int)) (hib : InB 401 zs) (hcp : Cap7 cs) (h : IsRule r cs w) (hk : r.kind = 2) :
  Calls Try.prog 124 #[.agg cs.toArray, .agg (arr24 zs).toArray, .func (.func 125) #[] #[]] w fun e w' => e = .returned (.int .i64 (minStep zs r)) ∧ Below w.heap.size w w' := by
 have hof := minOf_b hki hib
 obtain ⟨a4, c4, a5, c5, a6, c6, a7, c7, rfl, h4, h5, h6, h7⟩ := h
 obtain ⟨z, hz⟩ : ∃ z, z = (arr24 zs).toArray := ⟨_, rfl⟩
 obtain ⟨w0, hw0⟩ : ∃ w0, w0 = (w.alloc (.cells #[.string r.name, .int .i64 r.kind, .int .i64 r.size, .bool r.little, .slice a4 r.bytes.length c4, .slice a5 r.names.length c5, .slice a6 r.tags.length c6, .slice a7 r.kids.length c7] 66)).alloc (.cells z 130) := ⟨_, rfl⟩
 have hB : Below w.heap.size w w0 := by subst hw0; exact ((Below.refl _ _).alloc (Nat.le_refl _) _).alloc (by simp) _
 have HC : Hid (CellsAt w.heap.size [.string r.name, .int .i64 r.kind, .int .i64 r.size, .bool r.little, .slice a4 r.bytes.length c4, .slice a5 r.names.length c5, .slice a6 r.tags.length c6, .slice a7 r.kids.length c7] w0) := by subst hw0; exact (CellsAt.new w _ _).below ((Below.refl _ _).alloc (Nat.le_refl _) _)
 have HY : Hid (CellsAt (w.heap.size + 1) (arr24 zs) w0) := by subst hw0; subst hz; have h1 := CellsAt.new (w.alloc (.cells #[.string r.name, .int .i64 r.kind, .int .i64 r.size, .bool r.little, .slice a4 r.bytes.length c4, .slice a5 r.names.length c5, .slice a6 r.tags.length c6, .slice a7 r.kids.length c7] 66)) (arr24 zs) 130; rw [World.size_alloc] at h1; exact h1
 have HR7 := Lib.hid (h7.below hB)
 have HIS : Hid (IsRule r [.string r.name, .int .i64 r.kind, .int .i64 r.size, .bool r.little, .slice a4 r.bytes.length c4, .slice a5 r.names.length c5, .slice a6 r.tags.length c6, .slice a7 r.kids.length c7] w0) := ⟨a4, c4, a5, c5, a6, c6, a7, c7, rfl, h4.below hB, h5.below hB, h6.below hB, h7.below hB⟩
 have HB := Lib.hid hB
 have HKI := Lib.hid hki
 have HKD := Lib.hid hkd
 have HIB := Lib.hid hib
 have HCP := Lib.hid hcp
 have hW := Lib.hid hw0
 have y1 := (HC.out 1 _ rfl).1
 rw [hk] at y1
 have hHZ := Lib.hid hz
 have HKK := Lib.hid hk
 clear hB hki hkd hib hcp hw0 h4 h5 h6 h7
 have HIS1 : Hid (IsRule r [.string r.name, .int .i64 2, .int .i64 r.size, .bool r.little, .slice a4 r.bytes.length c4, .slice a5 r.names.length c5, .slice a6 r.tags.length c6, .slice a7 r.kids.length c7] w0) := by have h := HIS.out; rw [hk] at h; exact h
 have HCP1 : Hid (Cap7 [.string r.name, .int .i64 2, .int .i64 r.size, .bool r.little, .slice a4 r.bytes.length c4, .slice a5 r.names.length c5, .slice a6 r.tags.length c6, .slice a7 r.kids.length c7]) := by have h := HCP.out; rw [hk] at h; exact h
 have HPP := Lib.hid (fun wx hbx => partsMin_2 rs r _ zs n wx hn HKI.out HKD.out HIB.out HCP1.out (HIS1.out.below (w' := wx) hbx) HKK.out)
 obtain ⟨v, hvv⟩ : ∃ v, v = minOf zs r := ⟨_, rfl⟩
 have HZ : Hid (min v 401 = minStep zs r) := by show _ = _; rw [hvv]; unfold minStep; omega
 rw [← hvv] at hof
 have HV := Lib.hid hvv
 clear hvv
 have y0 := (HC.out 0 _ rfl).1
 have y2 := (HC.out 2 _ rfl).1
 have y3 := (HC.out 3 _ rfl).1
 have y4 := (HC.out 4 _ rfl).1
 have y5 := (HC.out 5 _ rfl).1
 have y6 := (HC.out 6 _ rfl).1
 have y7 := (HC.out 7 _ rfl).1
 clear hk
 go_enter Try.func124, Try.ntmps124
 rw [← hz]
 clear hz
 go_upto_region 1 with fail
 rw [← hW.out]
 clear hW
 go_wp2_with (refine wpList_load_mid rfl 130 (.tmp 4) rfl (w.heap.size + 1) 0 rfl (arr24 zs) _ HY.out.range Try.underlying130 rfl (info24 zs) ?_)
 refine (HPP.out _ (Below.refl _ _)).mono ?_
 rintro e wx ⟨rfl, hbx⟩
 rw [← HV.out]
 have HBX := Lib.hid (HB.out.trans (hbx.mono HB.out.size))
 clear hbx
 go_wp2_with fail
 refine (min_impl v 401 _).mono ?_
 rintro e wy ⟨rfl, hb⟩
 have HBZ := Lib.hid (HBX.out.trans (hb.mono HBX.out.size))
 clear hb
 go_wp2
 go_ret
 exact ⟨ret_int HZ.out, HBZ.out⟩
set_option maxHeartbeats 4000000 in
theorem most_2 (a : Option Addr) (rs : List RuleV) (cap : Nat) (r : RuleV) (cs : List Value) (zs : List Int) (n : Nat) (w : World) (_hl : rs.length ≤ 1048576) (hrd : RdR a rs w) (hn : n ≤ 24) (hki : kindI rs r = true) (hkd : ∀ k ∈ r.kids, 0 ≤ k ∧ k < (n : Int)) (hib : InB 401 zs) (hcp : Cap7 cs) (h : IsRule r cs w) (hk : r.kind = 2) (hv : allV (kindI rs) rs) :
  Calls Try.prog 86 #[.agg #[.slice a rs.length cap], .agg cs.toArray, .agg (arr24 zs).toArray] w fun e w' => e = .returned (.int .i64 (maxStep rs zs r)) ∧ Below w.heap.size w w' := by
 have hof := maxOf_b hki hv hib
 obtain ⟨a4, c4, a5, c5, a6, c6, a7, c7, rfl, h4, h5, h6, h7⟩ := h
 obtain ⟨z, hz⟩ : ∃ z, z = (arr24 zs).toArray := ⟨_, rfl⟩
 obtain ⟨w0, hw0⟩ : ∃ w0, w0 = ((w.alloc (.cells #[.slice a rs.length cap] 35)).alloc (.cells #[.string r.name, .int .i64 r.kind, .int .i64 r.size, .bool r.little, .slice a4 r.bytes.length c4, .slice a5 r.names.length c5, .slice a6 r.tags.length c6, .slice a7 r.kids.length c7] 66)).alloc (.cells z 130) := ⟨_, rfl⟩
 have hB : Below w.heap.size w w0 := by subst hw0; exact (((Below.refl _ _).alloc (Nat.le_refl _) _).alloc (by simp) _).alloc (by simp; omega) _
 have HX : Hid (CellsAt w.heap.size [.slice a rs.length cap] w0) := by subst hw0; exact ((CellsAt.new w _ _).below ((Below.refl _ _).alloc (Nat.le_refl _) _)).below ((Below.refl _ _).alloc (Nat.le_refl _) _)
 have HC : Hid (CellsAt (w.heap.size + 1) [.string r.name, .int .i64 r.kind, .int .i64 r.size, .bool r.little, .slice a4 r.bytes.length c4, .slice a5 r.names.length c5, .slice a6 r.tags.length c6, .slice a7 r.kids.length c7] w0) := by subst hw0; have h1 := CellsAt.new (w.alloc (.cells #[.slice a rs.length cap] 35)) [.string r.name, .int .i64 r.kind, .int .i64 r.size, .bool r.little, .slice a4 r.bytes.length c4, .slice a5 r.names.length c5, .slice a6 r.tags.length c6, .slice a7 r.kids.length c7] 66; rw [World.size_alloc] at h1; exact h1.below ((Below.refl _ _).alloc (Nat.le_refl _) _)
 have HY : Hid (CellsAt (w.heap.size + 2) (arr24 zs) w0) := by subst hw0; subst hz; have h1 := CellsAt.new ((w.alloc (.cells #[.slice a rs.length cap] 35)).alloc (.cells #[.string r.name, .int .i64 r.kind, .int .i64 r.size, .bool r.little, .slice a4 r.bytes.length c4, .slice a5 r.names.length c5, .slice a6 r.tags.length c6, .slice a7 r.kids.length c7] 66)) (arr24 zs) 130; rw [World.size_alloc, World.size_alloc] at h1; exact h1
 have HR7 := Lib.hid (h7.below hB)
 have HRD := Lib.hid (hrd.below hB)
 have HIS : Hid (IsRule r [.string r.name, .int .i64 r.kind, .int .i64 r.size, .bool r.little, .slice a4 r.bytes.length c4, .slice a5 r.names.length c5, .slice a6 r.tags.length c6, .slice a7 r.kids.length c7] w0) := ⟨a4, c4, a5, c5, a6, c6, a7, c7, rfl, h4.below hB, h5.below hB, h6.below hB, h7.below hB⟩
 have HB := Lib.hid hB
 have HKI := Lib.hid hki
 have HKD := Lib.hid hkd
 have HIB := Lib.hid hib
 have HCP := Lib.hid hcp
 have HVV := Lib.hid hv
 have hW := Lib.hid hw0
 have y1 := (HC.out 1 _ rfl).1
 rw [hk] at y1
 have hHZ := Lib.hid hz
 have HKK := Lib.hid hk
 clear hB hki hkd hib hcp hv hw0 h4 h5 h6 h7 hrd
 have hst : Hid (min (maxOf rs zs r) 400 = maxStep rs zs r) := by show _ = _; unfold maxStep; omega
 have HIS1 : Hid (IsRule r [.string r.name, .int .i64 2, .int .i64 r.size, .bool r.little, .slice a4 r.bytes.length c4, .slice a5 r.names.length c5, .slice a6 r.tags.length c6, .slice a7 r.kids.length c7] w0) := by have h := HIS.out; rw [hk] at h; exact h
 have HCP1 : Hid (Cap7 [.string r.name, .int .i64 2, .int .i64 r.size, .bool r.little, .slice a4 r.bytes.length c4, .slice a5 r.names.length c5, .slice a6 r.tags.length c6, .slice a7 r.kids.length c7]) := by have h := HCP.out; rw [hk] at h; exact h
 have HPP := Lib.hid (fun wx hbx => partsMax_2 rs r _ zs n wx hn HKI.out HKD.out HIB.out HCP1.out (HIS1.out.below (w' := wx) hbx) HKK.out)
 obtain ⟨v, hvv⟩ : ∃ v, v = maxOf rs zs r := ⟨_, rfl⟩
 rw [← hvv] at hst hof
 have HV := Lib.hid hvv
 clear hvv
 have y0 := (HC.out 0 _ rfl).1
 have y2 := (HC.out 2 _ rfl).1
 have y3 := (HC.out 3 _ rfl).1
 have y4 := (HC.out 4 _ rfl).1
 have y5 := (HC.out 5 _ rfl).1
 have y6 := (HC.out 6 _ rfl).1
 have y7 := (HC.out 7 _ rfl).1
 have HZ : Hid (min v 400 = maxStep rs zs r) := hst
 clear hk
 go_enter Try.func86, Try.ntmps86
 rw [← hz]
 clear hz
 go_upto_region 1 with fail
 rw [← hW.out]
 clear hW
 go_wp2_with (refine wpList_load_mid rfl 130 (.tmp 5) rfl (w.heap.size + 2) 0 rfl (arr24 zs) _ HY.out.range Try.underlying130 rfl (info24 zs) ?_)
 refine (HPP.out _ (Below.refl _ _)).mono ?_
 rintro e wx ⟨rfl, hbx⟩
 rw [← HV.out]
 have HBX := Lib.hid (HB.out.trans (hbx.mono HB.out.size))
 clear hbx
 go_wp2_with fail
 refine (min_impl v 400 _).mono ?_
 rintro e wy ⟨rfl, hb⟩
 have HBZ := Lib.hid (HBX.out.trans (hb.mono HBX.out.size))
 clear hb
 go_wp2
 go_ret
 exact ⟨ret_int HZ.out, HBZ.out⟩
set_option maxHeartbeats 4000000 in
theorem swcMin_3 (rs : List RuleV) (r : RuleV) (cs : List Value) (zs : List Int) (n : Nat) (w : World) (hn : n ≤ 24) (hki : kindI rs r = true) (hkd : ∀ k ∈ r.kids, 0 ≤ k ∧ k < (n : Int)) (hib : InB 401 zs) (hcp : Cap7 cs) (h : IsRule r cs w) (hk : r.kind = 3) :
  Calls Try.prog 124 #[.agg cs.toArray, .agg (arr24 zs).toArray, .func (.func 125) #[] #[]] w fun e w' => e = .returned (.int .i64 (minStep zs r)) ∧ Below w.heap.size w w' := by
 have hof := minOf_b hki hib
 obtain ⟨a4, c4, a5, c5, a6, c6, a7, c7, rfl, h4, h5, h6, h7⟩ := h
 obtain ⟨z, hz⟩ : ∃ z, z = (arr24 zs).toArray := ⟨_, rfl⟩
 obtain ⟨w0, hw0⟩ : ∃ w0, w0 = (w.alloc (.cells #[.string r.name, .int .i64 r.kind, .int .i64 r.size, .bool r.little, .slice a4 r.bytes.length c4, .slice a5 r.names.length c5, .slice a6 r.tags.length c6, .slice a7 r.kids.length c7] 66)).alloc (.cells z 130) := ⟨_, rfl⟩
 have hB : Below w.heap.size w w0 := by subst hw0; exact ((Below.refl _ _).alloc (Nat.le_refl _) _).alloc (by simp) _
 have HC : Hid (CellsAt w.heap.size [.string r.name, .int .i64 r.kind, .int .i64 r.size, .bool r.little, .slice a4 r.bytes.length c4, .slice a5 r.names.length c5, .slice a6 r.tags.length c6, .slice a7 r.kids.length c7] w0) := by subst hw0; exact (CellsAt.new w _ _).below ((Below.refl _ _).alloc (Nat.le_refl _) _)
 have HY : Hid (CellsAt (w.heap.size + 1) (arr24 zs) w0) := by subst hw0; subst hz; have h1 := CellsAt.new (w.alloc (.cells #[.string r.name, .int .i64 r.kind, .int .i64 r.size, .bool r.little, .slice a4 r.bytes.length c4, .slice a5 r.names.length c5, .slice a6 r.tags.length c6, .slice a7 r.kids.length c7] 66)) (arr24 zs) 130; rw [World.size_alloc] at h1; exact h1
 have HR7 := Lib.hid (h7.below hB)
 have HIS : Hid (IsRule r [.string r.name, .int .i64 r.kind, .int .i64 r.size, .bool r.little, .slice a4 r.bytes.length c4, .slice a5 r.names.length c5, .slice a6 r.tags.length c6, .slice a7 r.kids.length c7] w0) := ⟨a4, c4, a5, c5, a6, c6, a7, c7, rfl, h4.below hB, h5.below hB, h6.below hB, h7.below hB⟩
 have HB := Lib.hid hB
 have HKI := Lib.hid hki
 have HKD := Lib.hid hkd
 have HIB := Lib.hid hib
 have HCP := Lib.hid hcp
 have hW := Lib.hid hw0
 have y1 := (HC.out 1 _ rfl).1
 rw [hk] at y1
 have hHZ := Lib.hid hz
 have HKK := Lib.hid hk
 clear hB hki hkd hib hcp hw0 h4 h5 h6 h7
 have HIS1 : Hid (IsRule r [.string r.name, .int .i64 3, .int .i64 r.size, .bool r.little, .slice a4 r.bytes.length c4, .slice a5 r.names.length c5, .slice a6 r.tags.length c6, .slice a7 r.kids.length c7] w0) := by have h := HIS.out; rw [hk] at h; exact h
 have HCP1 : Hid (Cap7 [.string r.name, .int .i64 3, .int .i64 r.size, .bool r.little, .slice a4 r.bytes.length c4, .slice a5 r.names.length c5, .slice a6 r.tags.length c6, .slice a7 r.kids.length c7]) := by have h := HCP.out; rw [hk] at h; exact h
 have HPP := Lib.hid (fun wx hbx => partsMin_3 rs r _ zs n wx hn HKI.out HKD.out HIB.out HCP1.out (HIS1.out.below (w' := wx) hbx) HKK.out)
 obtain ⟨v, hvv⟩ : ∃ v, v = minOf zs r := ⟨_, rfl⟩
 have HZ : Hid (min v 401 = minStep zs r) := by show _ = _; rw [hvv]; unfold minStep; omega
 rw [← hvv] at hof
 have HV := Lib.hid hvv
 clear hvv
 have y0 := (HC.out 0 _ rfl).1
 have y2 := (HC.out 2 _ rfl).1
 have y3 := (HC.out 3 _ rfl).1
 have y4 := (HC.out 4 _ rfl).1
 have y5 := (HC.out 5 _ rfl).1
 have y6 := (HC.out 6 _ rfl).1
 have y7 := (HC.out 7 _ rfl).1
 clear hk
 go_enter Try.func124, Try.ntmps124
 rw [← hz]
 clear hz
 go_upto_region 1 with fail
 rw [← hW.out]
 clear hW
 go_wp2_with (refine wpList_load_mid rfl 130 (.tmp 4) rfl (w.heap.size + 1) 0 rfl (arr24 zs) _ HY.out.range Try.underlying130 rfl (info24 zs) ?_)
 refine (HPP.out _ (Below.refl _ _)).mono ?_
 rintro e wx ⟨rfl, hbx⟩
 rw [← HV.out]
 have HBX := Lib.hid (HB.out.trans (hbx.mono HB.out.size))
 clear hbx
 go_wp2_with fail
 refine (min_impl v 401 _).mono ?_
 rintro e wy ⟨rfl, hb⟩
 have HBZ := Lib.hid (HBX.out.trans (hb.mono HBX.out.size))
 clear hb
 go_wp2
 go_ret
 exact ⟨ret_int HZ.out, HBZ.out⟩
set_option maxHeartbeats 4000000 in
theorem most_3 (a : Option Addr) (rs : List RuleV) (cap : Nat) (r : RuleV) (cs : List Value) (zs : List Int) (n : Nat) (w : World) (_hl : rs.length ≤ 1048576) (hrd : RdR a rs w) (hn : n ≤ 24) (hki : kindI rs r = true) (hkd : ∀ k ∈ r.kids, 0 ≤ k ∧ k < (n : Int)) (hib : InB 401 zs) (hcp : Cap7 cs) (h : IsRule r cs w) (hk : r.kind = 3) (hv : allV (kindI rs) rs) :
  Calls Try.prog 86 #[.agg #[.slice a rs.length cap], .agg cs.toArray, .agg (arr24 zs).toArray] w fun e w' => e = .returned (.int .i64 (maxStep rs zs r)) ∧ Below w.heap.size w w' := by
 have hof := maxOf_b hki hv hib
 obtain ⟨a4, c4, a5, c5, a6, c6, a7, c7, rfl, h4, h5, h6, h7⟩ := h
 obtain ⟨z, hz⟩ : ∃ z, z = (arr24 zs).toArray := ⟨_, rfl⟩
 obtain ⟨w0, hw0⟩ : ∃ w0, w0 = ((w.alloc (.cells #[.slice a rs.length cap] 35)).alloc (.cells #[.string r.name, .int .i64 r.kind, .int .i64 r.size, .bool r.little, .slice a4 r.bytes.length c4, .slice a5 r.names.length c5, .slice a6 r.tags.length c6, .slice a7 r.kids.length c7] 66)).alloc (.cells z 130) := ⟨_, rfl⟩
 have hB : Below w.heap.size w w0 := by subst hw0; exact (((Below.refl _ _).alloc (Nat.le_refl _) _).alloc (by simp) _).alloc (by simp; omega) _
 have HX : Hid (CellsAt w.heap.size [.slice a rs.length cap] w0) := by subst hw0; exact ((CellsAt.new w _ _).below ((Below.refl _ _).alloc (Nat.le_refl _) _)).below ((Below.refl _ _).alloc (Nat.le_refl _) _)
 have HC : Hid (CellsAt (w.heap.size + 1) [.string r.name, .int .i64 r.kind, .int .i64 r.size, .bool r.little, .slice a4 r.bytes.length c4, .slice a5 r.names.length c5, .slice a6 r.tags.length c6, .slice a7 r.kids.length c7] w0) := by subst hw0; have h1 := CellsAt.new (w.alloc (.cells #[.slice a rs.length cap] 35)) [.string r.name, .int .i64 r.kind, .int .i64 r.size, .bool r.little, .slice a4 r.bytes.length c4, .slice a5 r.names.length c5, .slice a6 r.tags.length c6, .slice a7 r.kids.length c7] 66; rw [World.size_alloc] at h1; exact h1.below ((Below.refl _ _).alloc (Nat.le_refl _) _)
 have HY : Hid (CellsAt (w.heap.size + 2) (arr24 zs) w0) := by subst hw0; subst hz; have h1 := CellsAt.new ((w.alloc (.cells #[.slice a rs.length cap] 35)).alloc (.cells #[.string r.name, .int .i64 r.kind, .int .i64 r.size, .bool r.little, .slice a4 r.bytes.length c4, .slice a5 r.names.length c5, .slice a6 r.tags.length c6, .slice a7 r.kids.length c7] 66)) (arr24 zs) 130; rw [World.size_alloc, World.size_alloc] at h1; exact h1
 have HR7 := Lib.hid (h7.below hB)
 have HRD := Lib.hid (hrd.below hB)
 have HIS : Hid (IsRule r [.string r.name, .int .i64 r.kind, .int .i64 r.size, .bool r.little, .slice a4 r.bytes.length c4, .slice a5 r.names.length c5, .slice a6 r.tags.length c6, .slice a7 r.kids.length c7] w0) := ⟨a4, c4, a5, c5, a6, c6, a7, c7, rfl, h4.below hB, h5.below hB, h6.below hB, h7.below hB⟩
 have HB := Lib.hid hB
 have HKI := Lib.hid hki
 have HKD := Lib.hid hkd
 have HIB := Lib.hid hib
 have HCP := Lib.hid hcp
 have HVV := Lib.hid hv
 have hW := Lib.hid hw0
 have y1 := (HC.out 1 _ rfl).1
 rw [hk] at y1
 have hHZ := Lib.hid hz
 have HKK := Lib.hid hk
 clear hB hki hkd hib hcp hv hw0 h4 h5 h6 h7 hrd
 have hst : Hid (min (maxOf rs zs r) 400 = maxStep rs zs r) := by show _ = _; unfold maxStep; omega
 have HIS1 : Hid (IsRule r [.string r.name, .int .i64 3, .int .i64 r.size, .bool r.little, .slice a4 r.bytes.length c4, .slice a5 r.names.length c5, .slice a6 r.tags.length c6, .slice a7 r.kids.length c7] w0) := by have h := HIS.out; rw [hk] at h; exact h
 have HCP1 : Hid (Cap7 [.string r.name, .int .i64 3, .int .i64 r.size, .bool r.little, .slice a4 r.bytes.length c4, .slice a5 r.names.length c5, .slice a6 r.tags.length c6, .slice a7 r.kids.length c7]) := by have h := HCP.out; rw [hk] at h; exact h
 have HPP := Lib.hid (fun wx hbx => partsMax_3 rs r _ zs n wx hn HKI.out HKD.out HIB.out HCP1.out (HIS1.out.below (w' := wx) hbx) HKK.out)
 obtain ⟨v, hvv⟩ : ∃ v, v = maxOf rs zs r := ⟨_, rfl⟩
 rw [← hvv] at hst hof
 have HV := Lib.hid hvv
 clear hvv
 have y0 := (HC.out 0 _ rfl).1
 have y2 := (HC.out 2 _ rfl).1
 have y3 := (HC.out 3 _ rfl).1
 have y4 := (HC.out 4 _ rfl).1
 have y5 := (HC.out 5 _ rfl).1
 have y6 := (HC.out 6 _ rfl).1
 have y7 := (HC.out 7 _ rfl).1
 have HZ : Hid (min v 400 = maxStep rs zs r) := hst
 clear hk
 go_enter Try.func86, Try.ntmps86
 rw [← hz]
 clear hz
 go_upto_region 1 with fail
 rw [← hW.out]
 clear hW
 go_wp2_with (refine wpList_load_mid rfl 130 (.tmp 5) rfl (w.heap.size + 2) 0 rfl (arr24 zs) _ HY.out.range Try.underlying130 rfl (info24 zs) ?_)
 refine (HPP.out _ (Below.refl _ _)).mono ?_
 rintro e wx ⟨rfl, hbx⟩
 rw [← HV.out]
 have HBX := Lib.hid (HB.out.trans (hbx.mono HB.out.size))
 clear hbx
 go_wp2_with fail
 refine (min_impl v 400 _).mono ?_
 rintro e wy ⟨rfl, hb⟩
 have HBZ := Lib.hid (HBX.out.trans (hb.mono HBX.out.size))
 clear hb
 go_wp2
 go_ret
 exact ⟨ret_int HZ.out, HBZ.out⟩
set_option maxHeartbeats 4000000 in
theorem swcMin_4 (rs : List RuleV) (r : RuleV) (cs : List Value) (zs : List Int) (n : Nat) (w : World) (hn : n ≤ 24) (hki : kindI rs r = true) (hkd : ∀ k ∈ r.kids, 0 ≤ k ∧ k < (n : Int)) (hib : InB 401 zs) (hcp : Cap7 cs) (h : IsRule r cs w) (hk : r.kind = 4) :
  Calls Try.prog 124 #[.agg cs.toArray, .agg (arr24 zs).toArray, .func (.func 125) #[] #[]] w fun e w' => e = .returned (.int .i64 (minStep zs r)) ∧ Below w.heap.size w w' := by
 have hof := minOf_b hki hib
 obtain ⟨a4, c4, a5, c5, a6, c6, a7, c7, rfl, h4, h5, h6, h7⟩ := h
 obtain ⟨z, hz⟩ : ∃ z, z = (arr24 zs).toArray := ⟨_, rfl⟩
 obtain ⟨w0, hw0⟩ : ∃ w0, w0 = (w.alloc (.cells #[.string r.name, .int .i64 r.kind, .int .i64 r.size, .bool r.little, .slice a4 r.bytes.length c4, .slice a5 r.names.length c5, .slice a6 r.tags.length c6, .slice a7 r.kids.length c7] 66)).alloc (.cells z 130) := ⟨_, rfl⟩
 have hB : Below w.heap.size w w0 := by subst hw0; exact ((Below.refl _ _).alloc (Nat.le_refl _) _).alloc (by simp) _
 have HC : Hid (CellsAt w.heap.size [.string r.name, .int .i64 r.kind, .int .i64 r.size, .bool r.little, .slice a4 r.bytes.length c4, .slice a5 r.names.length c5, .slice a6 r.tags.length c6, .slice a7 r.kids.length c7] w0) := by subst hw0; exact (CellsAt.new w _ _).below ((Below.refl _ _).alloc (Nat.le_refl _) _)
 have HY : Hid (CellsAt (w.heap.size + 1) (arr24 zs) w0) := by subst hw0; subst hz; have h1 := CellsAt.new (w.alloc (.cells #[.string r.name, .int .i64 r.kind, .int .i64 r.size, .bool r.little, .slice a4 r.bytes.length c4, .slice a5 r.names.length c5, .slice a6 r.tags.length c6, .slice a7 r.kids.length c7] 66)) (arr24 zs) 130; rw [World.size_alloc] at h1; exact h1
 have HR7 := Lib.hid (h7.below hB)
 have HIS : Hid (IsRule r [.string r.name, .int .i64 r.kind, .int .i64 r.size, .bool r.little, .slice a4 r.bytes.length c4, .slice a5 r.names.length c5, .slice a6 r.tags.length c6, .slice a7 r.kids.length c7] w0) := ⟨a4, c4, a5, c5, a6, c6, a7, c7, rfl, h4.below hB, h5.below hB, h6.below hB, h7.below hB⟩
 have HB := Lib.hid hB
 have HKI := Lib.hid hki
 have HKD := Lib.hid hkd
 have HIB := Lib.hid hib
 have HCP := Lib.hid hcp
 have hW := Lib.hid hw0
 have y1 := (HC.out 1 _ rfl).1
 rw [hk] at y1
 have hHZ := Lib.hid hz
 have HKK := Lib.hid hk
 clear hB hki hkd hib hcp hw0 h4 h5 h6 h7
 have hl0 := Lib.hid (kindI_4 HKI.out hk)
 have h0 : 0 < r.kids.length := by have := hl0.out; omega
 have g0 : (0 : Int) < (r.kids.length : Int) := by omega
 obtain ⟨m0, hm0, hmk0⟩ := kid_nat HKD.out (j := 0) h0
 obtain ⟨b0, o0, ha0, hc0⟩ := HR7.out.cellAt (j := 0) h0
 cases ha0
 rw [hm0] at hc0
 have hq0 := (HY.out m0 _ (arr24_at zs (by omega))).1
 have hi0 := HIB.out (m0 : Int)
 have n0 : (0 : Int) ≤ (m0 : Int) := by omega
 have l0 : (m0 : Int) < 24 := by omega
 simp only [Nat.add_zero] at hc0
 have HK : Hid (tabAt zs (r.kids.getD 0 0) = tabAt zs (m0 : Int)) := by show _ = _; rw [getD_at h0, hm0]
 clear hm0
 generalize tabAt zs (m0 : Int) = y at hq0 hi0 HK
 have HZ : Hid (min y 401 = minStep zs r) := by show _ = _; have h9 := HK.out; unfold minStep minOf; simp [hk]; simp at h9; omega
 have y7 := (HC.out 7 _ rfl).1
 clear hk
 go_enter Try.func124, Try.ntmps124
 rw [← hz]
 clear hz
 go_upto_region 1 with fail
 rw [← hW.out]
 clear hW
 go_wp2_with fail
 refine (min_impl y 401 _).mono ?_
 rintro e wy ⟨rfl, hb⟩
 have HBZ := Lib.hid (HB.out.trans (hb.mono HB.out.size))
 clear hb
 go_wp2
 go_ret
 exact ⟨ret_int HZ.out, HBZ.out⟩
set_option maxHeartbeats 4000000 in
theorem most_4 (a : Option Addr) (rs : List RuleV) (cap : Nat) (r : RuleV) (cs : List Value) (zs : List Int) (n : Nat) (w : World) (hl : rs.length ≤ 1048576) (hrd : RdR a rs w) (hn : n ≤ 24) (hki : kindI rs r = true) (hkd : ∀ k ∈ r.kids, 0 ≤ k ∧ k < (n : Int)) (hib : InB 401 zs) (hcp : Cap7 cs) (h : IsRule r cs w) (hk : r.kind = 4) (hv : allV (kindI rs) rs) :
  Calls Try.prog 86 #[.agg #[.slice a rs.length cap], .agg cs.toArray, .agg (arr24 zs).toArray] w fun e w' => e = .returned (.int .i64 (maxStep rs zs r)) ∧ Below w.heap.size w w' := by
 have hof := maxOf_b hki hv hib
 obtain ⟨a4, c4, a5, c5, a6, c6, a7, c7, rfl, h4, h5, h6, h7⟩ := h
 obtain ⟨z, hz⟩ : ∃ z, z = (arr24 zs).toArray := ⟨_, rfl⟩
 obtain ⟨w0, hw0⟩ : ∃ w0, w0 = ((w.alloc (.cells #[.slice a rs.length cap] 35)).alloc (.cells #[.string r.name, .int .i64 r.kind, .int .i64 r.size, .bool r.little, .slice a4 r.bytes.length c4, .slice a5 r.names.length c5, .slice a6 r.tags.length c6, .slice a7 r.kids.length c7] 66)).alloc (.cells z 130) := ⟨_, rfl⟩
 have hB : Below w.heap.size w w0 := by subst hw0; exact (((Below.refl _ _).alloc (Nat.le_refl _) _).alloc (by simp) _).alloc (by simp; omega) _
 have HX : Hid (CellsAt w.heap.size [.slice a rs.length cap] w0) := by subst hw0; exact ((CellsAt.new w _ _).below ((Below.refl _ _).alloc (Nat.le_refl _) _)).below ((Below.refl _ _).alloc (Nat.le_refl _) _)
 have HC : Hid (CellsAt (w.heap.size + 1) [.string r.name, .int .i64 r.kind, .int .i64 r.size, .bool r.little, .slice a4 r.bytes.length c4, .slice a5 r.names.length c5, .slice a6 r.tags.length c6, .slice a7 r.kids.length c7] w0) := by subst hw0; have h1 := CellsAt.new (w.alloc (.cells #[.slice a rs.length cap] 35)) [.string r.name, .int .i64 r.kind, .int .i64 r.size, .bool r.little, .slice a4 r.bytes.length c4, .slice a5 r.names.length c5, .slice a6 r.tags.length c6, .slice a7 r.kids.length c7] 66; rw [World.size_alloc] at h1; exact h1.below ((Below.refl _ _).alloc (Nat.le_refl _) _)
 have HY : Hid (CellsAt (w.heap.size + 2) (arr24 zs) w0) := by subst hw0; subst hz; have h1 := CellsAt.new ((w.alloc (.cells #[.slice a rs.length cap] 35)).alloc (.cells #[.string r.name, .int .i64 r.kind, .int .i64 r.size, .bool r.little, .slice a4 r.bytes.length c4, .slice a5 r.names.length c5, .slice a6 r.tags.length c6, .slice a7 r.kids.length c7] 66)) (arr24 zs) 130; rw [World.size_alloc, World.size_alloc] at h1; exact h1
 have HR7 := Lib.hid (h7.below hB)
 have HRD := Lib.hid (hrd.below hB)
 have HIS : Hid (IsRule r [.string r.name, .int .i64 r.kind, .int .i64 r.size, .bool r.little, .slice a4 r.bytes.length c4, .slice a5 r.names.length c5, .slice a6 r.tags.length c6, .slice a7 r.kids.length c7] w0) := ⟨a4, c4, a5, c5, a6, c6, a7, c7, rfl, h4.below hB, h5.below hB, h6.below hB, h7.below hB⟩
 have HB := Lib.hid hB
 have HKI := Lib.hid hki
 have HKD := Lib.hid hkd
 have HIB := Lib.hid hib
 have HCP := Lib.hid hcp
 have HVV := Lib.hid hv
 have hW := Lib.hid hw0
 have y1 := (HC.out 1 _ rfl).1
 rw [hk] at y1
 have hHZ := Lib.hid hz
 have HKK := Lib.hid hk
 clear hB hki hkd hib hcp hv hw0 h4 h5 h6 h7 hrd
 have hl0 := Lib.hid (kindI_4 HKI.out hk)
 have h0 : 0 < r.kids.length := by have := hl0.out; omega
 have g0 : (0 : Int) < (r.kids.length : Int) := by omega
 obtain ⟨m0, hm0, hmk0⟩ := kid_nat HKD.out (j := 0) h0
 obtain ⟨b0, o0, ha0, hc0⟩ := HR7.out.cellAt (j := 0) h0
 cases ha0
 rw [hm0] at hc0
 have hq0 := (HY.out m0 _ (arr24_at zs (by omega))).1
 have hi0 := HIB.out (m0 : Int)
 have n0 : (0 : Int) ≤ (m0 : Int) := by omega
 have l0 : (m0 : Int) < 24 := by omega
 simp only [Nat.add_zero] at hc0
 have HK : Hid (tabAt zs (r.kids.getD 0 0) = tabAt zs (m0 : Int)) := by show _ = _; rw [getD_at h0, hm0]
 have HG : Hid (r.kids.getD 0 0 = (m0 : Int)) := by show _ = _; rw [getD_at h0, hm0]
 clear hm0
 generalize tabAt zs (m0 : Int) = y at hq0 hi0 HK
 have hlb := limitAt_b rs (m0 : Int)
 have hlp : 0 < limitAt rs (m0 : Int) := by have h5 := (kindI_4 HKI.out hk).2; rw [limit_of_valid HVV.out, HG.out] at h5; exact of_decide_eq_true h5
 obtain ⟨L, hL⟩ : ∃ L, L = limitAt rs (m0 : Int) := ⟨_, rfl⟩
 rw [← hL] at hlb hlp
 have HL := Lib.hid hL
 clear hL
 obtain ⟨T, hT⟩ : ∃ T, y + L = T := ⟨_, rfl⟩
 have hw : IntKind.i64.wrap T = T := IntWalk.i64_in _ (by omega)
 have HZ : Hid (min T 400 = maxStep rs zs r) := by show _ = _; unfold maxStep; rw [show maxOf rs zs r = T from by unfold maxOf; rw [HK.out, HG.out, ← HL.out]; simp [hk]; omega]; omega
 have y7 := (HC.out 7 _ rfl).1
 clear hk
 go_enter Try.func86, Try.ntmps86
 rw [← hz]
 clear hz
 go_upto_region 1 with fail
 rw [← hW.out]
 clear hW
 go_upto_region 5 with fail
 have HBW : Hid (Below w0.heap.size w0 w0.drew) := below_drewN (Below.refl _ w0) 1
 have HX3 : Hid (w0.drew.cell? ⟨w.heap.size, 0, none⟩ = some (.slice a rs.length cap)) := (HX.out 0 _ rfl).1
 have HC7 : Hid (w0.drew.cell? ⟨w.heap.size + 1, 7, none⟩ = some (.slice (some ⟨b0, o0, none⟩) r.kids.length c7)) := y7
 have HK0 : Hid (w0.drew.cell? ⟨b0, o0, none⟩ = some (.int .i64 (m0 : Int))) := hc0
 have HY0 : Hid (w0.drew.cell? ⟨w.heap.size + 2, m0, none⟩ = some (.int .i64 y)) := hq0
 replace HRD : Hid (RdR a rs w0.drew) := HRD.out
 clear hc0 hq0 y7
 go_region_held3 (fun W => W.cell? ⟨w.heap.size, 0, none⟩ = some (.slice a rs.length cap) ∧ W.cell? ⟨w.heap.size + 1, 7, none⟩ = some (.slice (some ⟨b0, o0, none⟩) r.kids.length c7) ∧ W.cell? ⟨b0, o0, none⟩ = some (.int .i64 (m0 : Int)) ∧ W.cell? ⟨w.heap.size + 2, m0, none⟩ = some (.int .i64 y)) (exact ⟨HX3.out, HC7.out, HK0.out, HY0.out⟩) (first | (go_at_call 67; refine (limit_impl a rs cap (m0 : Int) _ (by omega) HRD.out).mono ?_; rintro e w4 ⟨rfl, hb⟩; rw [← HL.out]; replace HX3 := Lib.hid (cell_keep hb HX3.out); replace HC7 := Lib.hid (cell_keep hb HC7.out); replace HK0 := Lib.hid (cell_keep hb HK0.out); replace HY0 := Lib.hid (cell_keep hb HY0.out); replace HBW := Lib.hid (HBW.out.trans (hb.mono HBW.out.size)); clear hb))
 have HBX := Lib.hid (HB.out.trans (HBW.out.mono HB.out.size))
 go_wp2_with fail
 refine (min_impl T 400 _).mono ?_
 rintro e wy ⟨rfl, hb⟩
 have HBZ := Lib.hid (HBX.out.trans (hb.mono HBX.out.size))
 clear hb
 go_wp2
 go_ret
 exact ⟨ret_int HZ.out, HBZ.out⟩
set_option maxHeartbeats 4000000 in
theorem swcMin_5 (rs : List RuleV) (r : RuleV) (cs : List Value) (zs : List Int) (n : Nat) (w : World) (hn : n ≤ 24) (hki : kindI rs r = true) (hkd : ∀ k ∈ r.kids, 0 ≤ k ∧ k < (n : Int)) (hib : InB 401 zs) (hcp : Cap7 cs) (h : IsRule r cs w) (hk : r.kind = 5) :
  Calls Try.prog 124 #[.agg cs.toArray, .agg (arr24 zs).toArray, .func (.func 125) #[] #[]] w fun e w' => e = .returned (.int .i64 (minStep zs r)) ∧ Below w.heap.size w w' := by
 have hof := minOf_b hki hib
 obtain ⟨a4, c4, a5, c5, a6, c6, a7, c7, rfl, h4, h5, h6, h7⟩ := h
 obtain ⟨z, hz⟩ : ∃ z, z = (arr24 zs).toArray := ⟨_, rfl⟩
 obtain ⟨w0, hw0⟩ : ∃ w0, w0 = (w.alloc (.cells #[.string r.name, .int .i64 r.kind, .int .i64 r.size, .bool r.little, .slice a4 r.bytes.length c4, .slice a5 r.names.length c5, .slice a6 r.tags.length c6, .slice a7 r.kids.length c7] 66)).alloc (.cells z 130) := ⟨_, rfl⟩
 have hB : Below w.heap.size w w0 := by subst hw0; exact ((Below.refl _ _).alloc (Nat.le_refl _) _).alloc (by simp) _
 have HC : Hid (CellsAt w.heap.size [.string r.name, .int .i64 r.kind, .int .i64 r.size, .bool r.little, .slice a4 r.bytes.length c4, .slice a5 r.names.length c5, .slice a6 r.tags.length c6, .slice a7 r.kids.length c7] w0) := by subst hw0; exact (CellsAt.new w _ _).below ((Below.refl _ _).alloc (Nat.le_refl _) _)
 have HY : Hid (CellsAt (w.heap.size + 1) (arr24 zs) w0) := by subst hw0; subst hz; have h1 := CellsAt.new (w.alloc (.cells #[.string r.name, .int .i64 r.kind, .int .i64 r.size, .bool r.little, .slice a4 r.bytes.length c4, .slice a5 r.names.length c5, .slice a6 r.tags.length c6, .slice a7 r.kids.length c7] 66)) (arr24 zs) 130; rw [World.size_alloc] at h1; exact h1
 have HR7 := Lib.hid (h7.below hB)
 have HIS : Hid (IsRule r [.string r.name, .int .i64 r.kind, .int .i64 r.size, .bool r.little, .slice a4 r.bytes.length c4, .slice a5 r.names.length c5, .slice a6 r.tags.length c6, .slice a7 r.kids.length c7] w0) := ⟨a4, c4, a5, c5, a6, c6, a7, c7, rfl, h4.below hB, h5.below hB, h6.below hB, h7.below hB⟩
 have HB := Lib.hid hB
 have HKI := Lib.hid hki
 have HKD := Lib.hid hkd
 have HIB := Lib.hid hib
 have HCP := Lib.hid hcp
 have hW := Lib.hid hw0
 have y1 := (HC.out 1 _ rfl).1
 rw [hk] at y1
 have hHZ := Lib.hid hz
 have HKK := Lib.hid hk
 clear hB hki hkd hib hcp hw0 h4 h5 h6 h7
 have hl0 := Lib.hid (kindI_5 HKI.out hk)
 have h0 : 0 < r.kids.length := by have := hl0.out; omega
 have g0 : (0 : Int) < (r.kids.length : Int) := by omega
 obtain ⟨m0, hm0, hmk0⟩ := kid_nat HKD.out (j := 0) h0
 obtain ⟨b0, o0, ha0, hc0⟩ := HR7.out.cellAt (j := 0) h0
 cases ha0
 rw [hm0] at hc0
 have hq0 := (HY.out m0 _ (arr24_at zs (by omega))).1
 have hi0 := HIB.out (m0 : Int)
 have n0 : (0 : Int) ≤ (m0 : Int) := by omega
 have l0 : (m0 : Int) < 24 := by omega
 simp only [Nat.add_zero] at hc0
 have HK : Hid (tabAt zs (r.kids.getD 0 0) = tabAt zs (m0 : Int)) := by show _ = _; rw [getD_at h0, hm0]
 clear hm0
 generalize tabAt zs (m0 : Int) = y at hq0 hi0 HK
 have HZ : Hid (min y 401 = minStep zs r) := by show _ = _; have h9 := HK.out; unfold minStep minOf; simp [hk]; simp at h9; omega
 have y7 := (HC.out 7 _ rfl).1
 clear hk
 go_enter Try.func124, Try.ntmps124
 rw [← hz]
 clear hz
 go_upto_region 1 with fail
 rw [← hW.out]
 clear hW
 go_wp2_with fail
 refine (min_impl y 401 _).mono ?_
 rintro e wy ⟨rfl, hb⟩
 have HBZ := Lib.hid (HB.out.trans (hb.mono HB.out.size))
 clear hb
 go_wp2
 go_ret
 exact ⟨ret_int HZ.out, HBZ.out⟩
set_option maxHeartbeats 4000000 in
theorem most_5 (a : Option Addr) (rs : List RuleV) (cap : Nat) (r : RuleV) (cs : List Value) (zs : List Int) (n : Nat) (w : World) (hl : rs.length ≤ 1048576) (hrd : RdR a rs w) (hn : n ≤ 24) (hki : kindI rs r = true) (hkd : ∀ k ∈ r.kids, 0 ≤ k ∧ k < (n : Int)) (hib : InB 401 zs) (hcp : Cap7 cs) (h : IsRule r cs w) (hk : r.kind = 5) (hv : allV (kindI rs) rs) :
  Calls Try.prog 86 #[.agg #[.slice a rs.length cap], .agg cs.toArray, .agg (arr24 zs).toArray] w fun e w' => e = .returned (.int .i64 (maxStep rs zs r)) ∧ Below w.heap.size w w' := by
 have hof := maxOf_b hki hv hib
 obtain ⟨a4, c4, a5, c5, a6, c6, a7, c7, rfl, h4, h5, h6, h7⟩ := h
 obtain ⟨z, hz⟩ : ∃ z, z = (arr24 zs).toArray := ⟨_, rfl⟩
 obtain ⟨w0, hw0⟩ : ∃ w0, w0 = ((w.alloc (.cells #[.slice a rs.length cap] 35)).alloc (.cells #[.string r.name, .int .i64 r.kind, .int .i64 r.size, .bool r.little, .slice a4 r.bytes.length c4, .slice a5 r.names.length c5, .slice a6 r.tags.length c6, .slice a7 r.kids.length c7] 66)).alloc (.cells z 130) := ⟨_, rfl⟩
 have hB : Below w.heap.size w w0 := by subst hw0; exact (((Below.refl _ _).alloc (Nat.le_refl _) _).alloc (by simp) _).alloc (by simp; omega) _
 have HX : Hid (CellsAt w.heap.size [.slice a rs.length cap] w0) := by subst hw0; exact ((CellsAt.new w _ _).below ((Below.refl _ _).alloc (Nat.le_refl _) _)).below ((Below.refl _ _).alloc (Nat.le_refl _) _)
 have HC : Hid (CellsAt (w.heap.size + 1) [.string r.name, .int .i64 r.kind, .int .i64 r.size, .bool r.little, .slice a4 r.bytes.length c4, .slice a5 r.names.length c5, .slice a6 r.tags.length c6, .slice a7 r.kids.length c7] w0) := by subst hw0; have h1 := CellsAt.new (w.alloc (.cells #[.slice a rs.length cap] 35)) [.string r.name, .int .i64 r.kind, .int .i64 r.size, .bool r.little, .slice a4 r.bytes.length c4, .slice a5 r.names.length c5, .slice a6 r.tags.length c6, .slice a7 r.kids.length c7] 66; rw [World.size_alloc] at h1; exact h1.below ((Below.refl _ _).alloc (Nat.le_refl _) _)
 have HY : Hid (CellsAt (w.heap.size + 2) (arr24 zs) w0) := by subst hw0; subst hz; have h1 := CellsAt.new ((w.alloc (.cells #[.slice a rs.length cap] 35)).alloc (.cells #[.string r.name, .int .i64 r.kind, .int .i64 r.size, .bool r.little, .slice a4 r.bytes.length c4, .slice a5 r.names.length c5, .slice a6 r.tags.length c6, .slice a7 r.kids.length c7] 66)) (arr24 zs) 130; rw [World.size_alloc, World.size_alloc] at h1; exact h1
 have HR7 := Lib.hid (h7.below hB)
 have HRD := Lib.hid (hrd.below hB)
 have HIS : Hid (IsRule r [.string r.name, .int .i64 r.kind, .int .i64 r.size, .bool r.little, .slice a4 r.bytes.length c4, .slice a5 r.names.length c5, .slice a6 r.tags.length c6, .slice a7 r.kids.length c7] w0) := ⟨a4, c4, a5, c5, a6, c6, a7, c7, rfl, h4.below hB, h5.below hB, h6.below hB, h7.below hB⟩
 have HB := Lib.hid hB
 have HKI := Lib.hid hki
 have HKD := Lib.hid hkd
 have HIB := Lib.hid hib
 have HCP := Lib.hid hcp
 have HVV := Lib.hid hv
 have hW := Lib.hid hw0
 have y1 := (HC.out 1 _ rfl).1
 rw [hk] at y1
 have hHZ := Lib.hid hz
 have HKK := Lib.hid hk
 clear hB hki hkd hib hcp hv hw0 h4 h5 h6 h7 hrd
 have hl0 := Lib.hid (kindI_5 HKI.out hk)
 have h0 : 0 < r.kids.length := by have := hl0.out; omega
 have g0 : (0 : Int) < (r.kids.length : Int) := by omega
 obtain ⟨m0, hm0, hmk0⟩ := kid_nat HKD.out (j := 0) h0
 obtain ⟨b0, o0, ha0, hc0⟩ := HR7.out.cellAt (j := 0) h0
 cases ha0
 rw [hm0] at hc0
 have hq0 := (HY.out m0 _ (arr24_at zs (by omega))).1
 have hi0 := HIB.out (m0 : Int)
 have n0 : (0 : Int) ≤ (m0 : Int) := by omega
 have l0 : (m0 : Int) < 24 := by omega
 simp only [Nat.add_zero] at hc0
 have HK : Hid (tabAt zs (r.kids.getD 0 0) = tabAt zs (m0 : Int)) := by show _ = _; rw [getD_at h0, hm0]
 have HG : Hid (r.kids.getD 0 0 = (m0 : Int)) := by show _ = _; rw [getD_at h0, hm0]
 clear hm0
 generalize tabAt zs (m0 : Int) = y at hq0 hi0 HK
 have h1 : 1 < r.kids.length := by have := hl0.out; omega
 have g1 : (1 : Int) < (r.kids.length : Int) := by omega
 obtain ⟨m1, hm1, hmk1⟩ := kid_nat HKD.out (j := 1) h1
 obtain ⟨b1, o1, ha1, hc1⟩ := HR7.out.cellAt (j := 1) h1
 cases ha1
 rw [hm1] at hc1
 have hq1 := (HY.out m1 _ (arr24_at zs (by omega))).1
 have hi1 := HIB.out (m1 : Int)
 have n1 : (0 : Int) ≤ (m1 : Int) := by omega
 have l1 : (m1 : Int) < 24 := by omega
 have HK1 : Hid (tabAt zs (r.kids.getD 1 0) = tabAt zs (m1 : Int)) := by show _ = _; rw [getD_at h1, hm1]
 clear hm1
 generalize tabAt zs (m1 : Int) = y1 at hq1 hi1 HK1
 have hlb := limitAt_b rs (m0 : Int)
 have hlp : 0 < limitAt rs (m0 : Int) := by have h5 := (kindI_5 HKI.out hk).2; rw [limit_of_valid HVV.out, HG.out] at h5; exact of_decide_eq_true h5
 obtain ⟨L, hL⟩ : ∃ L, L = limitAt rs (m0 : Int) := ⟨_, rfl⟩
 rw [← hL] at hlb hlp
 have HL := Lib.hid hL
 clear hL
 obtain ⟨M, hM⟩ : ∃ M, M = min 40 L := ⟨_, rfl⟩
 have hM0 : 0 ≤ M := by omega
 have hM1 : M ≤ 40 := by omega
 have HM := Lib.hid hM
 clear hM
 have hP := mul_b hM0 hM1 hi1.1 hi1.2
 obtain ⟨P, hPP⟩ : ∃ P, M * y1 = P := ⟨_, rfl⟩
 rw [hPP] at hP
 have hwm : IntKind.i64.wrap P = P := IntWalk.i64_in _ (by omega)
 obtain ⟨T, hT⟩ : ∃ T, y + P = T := ⟨_, rfl⟩
 have hw : IntKind.i64.wrap T = T := IntWalk.i64_in _ (by omega)
 have HZ : Hid (min T 400 = maxStep rs zs r) := by show _ = _; unfold maxStep; rw [show maxOf rs zs r = T from by unfold maxOf; rw [HK.out, HK1.out, HG.out, ← HL.out, ← HM.out]; simp [hk]; omega]; omega
 have y7 := (HC.out 7 _ rfl).1
 clear hk
 go_enter Try.func86, Try.ntmps86
 rw [← hz]
 clear hz
 go_upto_region 1 with fail
 rw [← hW.out]
 clear hW
 go_upto_region 7 with fail
 have HBW : Hid (Below w0.heap.size w0 w0.drew) := below_drewN (Below.refl _ w0) 1
 have HX3 : Hid (w0.drew.cell? ⟨w.heap.size, 0, none⟩ = some (.slice a rs.length cap)) := (HX.out 0 _ rfl).1
 have HC7 : Hid (w0.drew.cell? ⟨w.heap.size + 1, 7, none⟩ = some (.slice (some ⟨b0, o0, none⟩) r.kids.length c7)) := y7
 have HK0 : Hid (w0.drew.cell? ⟨b0, o0, none⟩ = some (.int .i64 (m0 : Int))) := hc0
 have HY0 : Hid (w0.drew.cell? ⟨w.heap.size + 2, m0, none⟩ = some (.int .i64 y)) := hq0
 replace HRD : Hid (RdR a rs w0.drew) := HRD.out
 have HK1' : Hid (w0.drew.cell? ⟨b0, o0 + 1, none⟩ = some (.int .i64 (m1 : Int))) := hc1
 have HY1 : Hid (w0.drew.cell? ⟨w.heap.size + 2, m1, none⟩ = some (.int .i64 y1)) := hq1
 clear hc0 hq0 y7 hc1 hq1
 go_region_held3 (fun W => W.cell? ⟨w.heap.size, 0, none⟩ = some (.slice a rs.length cap) ∧ W.cell? ⟨w.heap.size + 1, 7, none⟩ = some (.slice (some ⟨b0, o0, none⟩) r.kids.length c7) ∧ W.cell? ⟨b0, o0, none⟩ = some (.int .i64 (m0 : Int))) (exact ⟨HX3.out, HC7.out, HK0.out⟩) (first | (go_at_call 67; refine (limit_impl a rs cap (m0 : Int) _ (by omega) HRD.out).mono ?_; rintro e w4 ⟨rfl, hb⟩; rw [← HL.out]; replace HX3 := Lib.hid (cell_keep hb HX3.out); replace HC7 := Lib.hid (cell_keep hb HC7.out); replace HK0 := Lib.hid (cell_keep hb HK0.out); replace HY0 := Lib.hid (cell_keep hb HY0.out); replace HK1' := Lib.hid (cell_keep hb HK1'.out); replace HY1 := Lib.hid (cell_keep hb HY1.out); replace HBW := Lib.hid (HBW.out.trans (hb.mono HBW.out.size)); clear hb) | (go_at_call 125; refine (min_impl 40 L _).mono ?_; rintro e w5 ⟨rfl, hb⟩; rw [← HM.out]; replace HX3 := Lib.hid (cell_keep hb HX3.out); replace HC7 := Lib.hid (cell_keep hb HC7.out); replace HK0 := Lib.hid (cell_keep hb HK0.out); replace HY0 := Lib.hid (cell_keep hb HY0.out); replace HK1' := Lib.hid (cell_keep hb HK1'.out); replace HY1 := Lib.hid (cell_keep hb HY1.out); replace HBW := Lib.hid (HBW.out.trans (hb.mono HBW.out.size)); clear hb))
 go_upto_region 8 with fail
 go_region_held3 (fun W => W.cell? ⟨w.heap.size + 1, 7, none⟩ = some (.slice (some ⟨b0, o0, none⟩) r.kids.length c7) ∧ W.cell? ⟨b0, o0, none⟩ = some (.int .i64 (m0 : Int)) ∧ W.cell? ⟨w.heap.size + 2, m0, none⟩ = some (.int .i64 y) ∧ W.cell? ⟨b0, o0 + 1, none⟩ = some (.int .i64 (m1 : Int)) ∧ W.cell? ⟨w.heap.size + 2, m1, none⟩ = some (.int .i64 y1)) (exact ⟨(show World.cell? (World.drew _) _ = _ from HC7.out), (show World.cell? (World.drew _) _ = _ from HK0.out), (show World.cell? (World.drew _) _ = _ from HY0.out), (show World.cell? (World.drew _) _ = _ from HK1'.out), (show World.cell? (World.drew _) _ = _ from HY1.out)⟩) (fail)
 have HBX := Lib.hid (HB.out.trans (HBW.out.mono HB.out.size))
 go_wp2_with fail
 refine (min_impl T 400 _).mono ?_
 rintro e wy ⟨rfl, hb⟩
 replace HBX : Hid (Below w.heap.size w (World.drew _)) := below_drewN HBX.out 1
 have HBZ := Lib.hid (HBX.out.trans (hb.mono HBX.out.size))
 clear hb
 go_wp2
 go_ret
 exact ⟨ret_int HZ.out, HBZ.out⟩
set_option maxHeartbeats 4000000 in
theorem swcMin_6 (rs : List RuleV) (r : RuleV) (cs : List Value) (zs : List Int) (n : Nat) (w : World) (hn : n ≤ 24) (hki : kindI rs r = true) (hkd : ∀ k ∈ r.kids, 0 ≤ k ∧ k < (n : Int)) (hib : InB 401 zs) (hcp : Cap7 cs) (h : IsRule r cs w) (hk : r.kind = 6) :
  Calls Try.prog 124 #[.agg cs.toArray, .agg (arr24 zs).toArray, .func (.func 125) #[] #[]] w fun e w' => e = .returned (.int .i64 (minStep zs r)) ∧ Below w.heap.size w w' := by
 have hof := minOf_b hki hib
 obtain ⟨a4, c4, a5, c5, a6, c6, a7, c7, rfl, h4, h5, h6, h7⟩ := h
 obtain ⟨z, hz⟩ : ∃ z, z = (arr24 zs).toArray := ⟨_, rfl⟩
 obtain ⟨w0, hw0⟩ : ∃ w0, w0 = (w.alloc (.cells #[.string r.name, .int .i64 r.kind, .int .i64 r.size, .bool r.little, .slice a4 r.bytes.length c4, .slice a5 r.names.length c5, .slice a6 r.tags.length c6, .slice a7 r.kids.length c7] 66)).alloc (.cells z 130) := ⟨_, rfl⟩
 have hB : Below w.heap.size w w0 := by subst hw0; exact ((Below.refl _ _).alloc (Nat.le_refl _) _).alloc (by simp) _
 have HC : Hid (CellsAt w.heap.size [.string r.name, .int .i64 r.kind, .int .i64 r.size, .bool r.little, .slice a4 r.bytes.length c4, .slice a5 r.names.length c5, .slice a6 r.tags.length c6, .slice a7 r.kids.length c7] w0) := by subst hw0; exact (CellsAt.new w _ _).below ((Below.refl _ _).alloc (Nat.le_refl _) _)
 have HY : Hid (CellsAt (w.heap.size + 1) (arr24 zs) w0) := by subst hw0; subst hz; have h1 := CellsAt.new (w.alloc (.cells #[.string r.name, .int .i64 r.kind, .int .i64 r.size, .bool r.little, .slice a4 r.bytes.length c4, .slice a5 r.names.length c5, .slice a6 r.tags.length c6, .slice a7 r.kids.length c7] 66)) (arr24 zs) 130; rw [World.size_alloc] at h1; exact h1
 have HR7 := Lib.hid (h7.below hB)
 have HIS : Hid (IsRule r [.string r.name, .int .i64 r.kind, .int .i64 r.size, .bool r.little, .slice a4 r.bytes.length c4, .slice a5 r.names.length c5, .slice a6 r.tags.length c6, .slice a7 r.kids.length c7] w0) := ⟨a4, c4, a5, c5, a6, c6, a7, c7, rfl, h4.below hB, h5.below hB, h6.below hB, h7.below hB⟩
 have HB := Lib.hid hB
 have HKI := Lib.hid hki
 have HKD := Lib.hid hkd
 have HIB := Lib.hid hib
 have HCP := Lib.hid hcp
 have hW := Lib.hid hw0
 have y1 := (HC.out 1 _ rfl).1
 rw [hk] at y1
 have hHZ := Lib.hid hz
 have HKK := Lib.hid hk
 clear hB hki hkd hib hcp hw0 h4 h5 h6 h7
 have HIS1 : Hid (IsRule r [.string r.name, .int .i64 6, .int .i64 r.size, .bool r.little, .slice a4 r.bytes.length c4, .slice a5 r.names.length c5, .slice a6 r.tags.length c6, .slice a7 r.kids.length c7] w0) := by have h := HIS.out; rw [hk] at h; exact h
 have HCP1 : Hid (Cap7 [.string r.name, .int .i64 6, .int .i64 r.size, .bool r.little, .slice a4 r.bytes.length c4, .slice a5 r.names.length c5, .slice a6 r.tags.length c6, .slice a7 r.kids.length c7]) := by have h := HCP.out; rw [hk] at h; exact h
 have HPP := Lib.hid (fun wx hbx => partsMin_6 rs r _ zs n wx hn HKI.out HKD.out HIB.out HCP1.out (HIS1.out.below (w' := wx) hbx) HKK.out)
 obtain ⟨v, hvv⟩ : ∃ v, v = minOf zs r := ⟨_, rfl⟩
 have HZ : Hid (min v 401 = minStep zs r) := by show _ = _; rw [hvv]; unfold minStep; omega
 rw [← hvv] at hof
 have HV := Lib.hid hvv
 clear hvv
 have y0 := (HC.out 0 _ rfl).1
 have y2 := (HC.out 2 _ rfl).1
 have y3 := (HC.out 3 _ rfl).1
 have y4 := (HC.out 4 _ rfl).1
 have y5 := (HC.out 5 _ rfl).1
 have y6 := (HC.out 6 _ rfl).1
 have y7 := (HC.out 7 _ rfl).1
 clear hk
 go_enter Try.func124, Try.ntmps124
 rw [← hz]
 clear hz
 go_upto_region 1 with fail
 rw [← hW.out]
 clear hW
 go_wp2_with (refine wpList_load_mid rfl 130 (.tmp 4) rfl (w.heap.size + 1) 0 rfl (arr24 zs) _ HY.out.range Try.underlying130 rfl (info24 zs) ?_)
 refine (HPP.out _ (Below.refl _ _)).mono ?_
 rintro e wx ⟨rfl, hbx⟩
 rw [← HV.out]
 have HBX := Lib.hid (HB.out.trans (hbx.mono HB.out.size))
 clear hbx
 go_wp2_with fail
 refine (min_impl v 401 _).mono ?_
 rintro e wy ⟨rfl, hb⟩
 have HBZ := Lib.hid (HBX.out.trans (hb.mono HBX.out.size))
 clear hb
 go_wp2
 go_ret
 exact ⟨ret_int HZ.out, HBZ.out⟩
set_option maxHeartbeats 4000000 in
theorem most_6 (a : Option Addr) (rs : List RuleV) (cap : Nat) (r : RuleV) (cs : List Value) (zs : List Int) (n : Nat) (w : World) (_hl : rs.length ≤ 1048576) (hrd : RdR a rs w) (hn : n ≤ 24) (hki : kindI rs r = true) (hkd : ∀ k ∈ r.kids, 0 ≤ k ∧ k < (n : Int)) (hib : InB 401 zs) (hcp : Cap7 cs) (h : IsRule r cs w) (hk : r.kind = 6) (hv : allV (kindI rs) rs) :
  Calls Try.prog 86 #[.agg #[.slice a rs.length cap], .agg cs.toArray, .agg (arr24 zs).toArray] w fun e w' => e = .returned (.int .i64 (maxStep rs zs r)) ∧ Below w.heap.size w w' := by
 have hof := maxOf_b hki hv hib
 obtain ⟨a4, c4, a5, c5, a6, c6, a7, c7, rfl, h4, h5, h6, h7⟩ := h
 obtain ⟨z, hz⟩ : ∃ z, z = (arr24 zs).toArray := ⟨_, rfl⟩
 obtain ⟨w0, hw0⟩ : ∃ w0, w0 = ((w.alloc (.cells #[.slice a rs.length cap] 35)).alloc (.cells #[.string r.name, .int .i64 r.kind, .int .i64 r.size, .bool r.little, .slice a4 r.bytes.length c4, .slice a5 r.names.length c5, .slice a6 r.tags.length c6, .slice a7 r.kids.length c7] 66)).alloc (.cells z 130) := ⟨_, rfl⟩
 have hB : Below w.heap.size w w0 := by subst hw0; exact (((Below.refl _ _).alloc (Nat.le_refl _) _).alloc (by simp) _).alloc (by simp; omega) _
 have HX : Hid (CellsAt w.heap.size [.slice a rs.length cap] w0) := by subst hw0; exact ((CellsAt.new w _ _).below ((Below.refl _ _).alloc (Nat.le_refl _) _)).below ((Below.refl _ _).alloc (Nat.le_refl _) _)
 have HC : Hid (CellsAt (w.heap.size + 1) [.string r.name, .int .i64 r.kind, .int .i64 r.size, .bool r.little, .slice a4 r.bytes.length c4, .slice a5 r.names.length c5, .slice a6 r.tags.length c6, .slice a7 r.kids.length c7] w0) := by subst hw0; have h1 := CellsAt.new (w.alloc (.cells #[.slice a rs.length cap] 35)) [.string r.name, .int .i64 r.kind, .int .i64 r.size, .bool r.little, .slice a4 r.bytes.length c4, .slice a5 r.names.length c5, .slice a6 r.tags.length c6, .slice a7 r.kids.length c7] 66; rw [World.size_alloc] at h1; exact h1.below ((Below.refl _ _).alloc (Nat.le_refl _) _)
 have HY : Hid (CellsAt (w.heap.size + 2) (arr24 zs) w0) := by subst hw0; subst hz; have h1 := CellsAt.new ((w.alloc (.cells #[.slice a rs.length cap] 35)).alloc (.cells #[.string r.name, .int .i64 r.kind, .int .i64 r.size, .bool r.little, .slice a4 r.bytes.length c4, .slice a5 r.names.length c5, .slice a6 r.tags.length c6, .slice a7 r.kids.length c7] 66)) (arr24 zs) 130; rw [World.size_alloc, World.size_alloc] at h1; exact h1
 have HR7 := Lib.hid (h7.below hB)
 have HRD := Lib.hid (hrd.below hB)
 have HIS : Hid (IsRule r [.string r.name, .int .i64 r.kind, .int .i64 r.size, .bool r.little, .slice a4 r.bytes.length c4, .slice a5 r.names.length c5, .slice a6 r.tags.length c6, .slice a7 r.kids.length c7] w0) := ⟨a4, c4, a5, c5, a6, c6, a7, c7, rfl, h4.below hB, h5.below hB, h6.below hB, h7.below hB⟩
 have HB := Lib.hid hB
 have HKI := Lib.hid hki
 have HKD := Lib.hid hkd
 have HIB := Lib.hid hib
 have HCP := Lib.hid hcp
 have HVV := Lib.hid hv
 have hW := Lib.hid hw0
 have y1 := (HC.out 1 _ rfl).1
 rw [hk] at y1
 have hHZ := Lib.hid hz
 have HKK := Lib.hid hk
 clear hB hki hkd hib hcp hv hw0 h4 h5 h6 h7 hrd
 have hst : Hid (min (maxOf rs zs r) 400 = maxStep rs zs r) := by show _ = _; unfold maxStep; omega
 have HIS1 : Hid (IsRule r [.string r.name, .int .i64 6, .int .i64 r.size, .bool r.little, .slice a4 r.bytes.length c4, .slice a5 r.names.length c5, .slice a6 r.tags.length c6, .slice a7 r.kids.length c7] w0) := by have h := HIS.out; rw [hk] at h; exact h
 have HCP1 : Hid (Cap7 [.string r.name, .int .i64 6, .int .i64 r.size, .bool r.little, .slice a4 r.bytes.length c4, .slice a5 r.names.length c5, .slice a6 r.tags.length c6, .slice a7 r.kids.length c7]) := by have h := HCP.out; rw [hk] at h; exact h
 have HPP := Lib.hid (fun wx hbx => partsMax_6 rs r _ zs n wx hn HKI.out HKD.out HIB.out HCP1.out (HIS1.out.below (w' := wx) hbx) HKK.out)
 obtain ⟨v, hvv⟩ : ∃ v, v = maxOf rs zs r := ⟨_, rfl⟩
 rw [← hvv] at hst hof
 have HV := Lib.hid hvv
 clear hvv
 have y0 := (HC.out 0 _ rfl).1
 have y2 := (HC.out 2 _ rfl).1
 have y3 := (HC.out 3 _ rfl).1
 have y4 := (HC.out 4 _ rfl).1
 have y5 := (HC.out 5 _ rfl).1
 have y6 := (HC.out 6 _ rfl).1
 have y7 := (HC.out 7 _ rfl).1
 have HZ : Hid (min v 400 = maxStep rs zs r) := hst
 clear hk
 go_enter Try.func86, Try.ntmps86
 rw [← hz]
 clear hz
 go_upto_region 1 with fail
 rw [← hW.out]
 clear hW
 go_wp2_with (refine wpList_load_mid rfl 130 (.tmp 5) rfl (w.heap.size + 2) 0 rfl (arr24 zs) _ HY.out.range Try.underlying130 rfl (info24 zs) ?_)
 refine (HPP.out _ (Below.refl _ _)).mono ?_
 rintro e wx ⟨rfl, hbx⟩
 rw [← HV.out]
 have HBX := Lib.hid (HB.out.trans (hbx.mono HB.out.size))
 clear hbx
 go_wp2_with fail
 refine (min_impl v 400 _).mono ?_
 rintro e wy ⟨rfl, hb⟩
 have HBZ := Lib.hid (HBX.out.trans (hb.mono HBX.out.size))
 clear hb
 go_wp2
 go_ret
 exact ⟨ret_int HZ.out, HBZ.out⟩
set_option maxHeartbeats 4000000 in
theorem swcMin_7 (rs : List RuleV) (r : RuleV) (cs : List Value) (zs : List Int) (n : Nat) (w : World) (hn : n ≤ 24) (hki : kindI rs r = true) (hkd : ∀ k ∈ r.kids, 0 ≤ k ∧ k < (n : Int)) (hib : InB 401 zs) (hcp : Cap7 cs) (h : IsRule r cs w) (hk : r.kind = 7) :
  Calls Try.prog 124 #[.agg cs.toArray, .agg (arr24 zs).toArray, .func (.func 125) #[] #[]] w fun e w' => e = .returned (.int .i64 (minStep zs r)) ∧ Below w.heap.size w w' := by
 have hof := minOf_b hki hib
 obtain ⟨a4, c4, a5, c5, a6, c6, a7, c7, rfl, h4, h5, h6, h7⟩ := h
 obtain ⟨z, hz⟩ : ∃ z, z = (arr24 zs).toArray := ⟨_, rfl⟩
 obtain ⟨w0, hw0⟩ : ∃ w0, w0 = (w.alloc (.cells #[.string r.name, .int .i64 r.kind, .int .i64 r.size, .bool r.little, .slice a4 r.bytes.length c4, .slice a5 r.names.length c5, .slice a6 r.tags.length c6, .slice a7 r.kids.length c7] 66)).alloc (.cells z 130) := ⟨_, rfl⟩
 have hB : Below w.heap.size w w0 := by subst hw0; exact ((Below.refl _ _).alloc (Nat.le_refl _) _).alloc (by simp) _
 have HC : Hid (CellsAt w.heap.size [.string r.name, .int .i64 r.kind, .int .i64 r.size, .bool r.little, .slice a4 r.bytes.length c4, .slice a5 r.names.length c5, .slice a6 r.tags.length c6, .slice a7 r.kids.length c7] w0) := by subst hw0; exact (CellsAt.new w _ _).below ((Below.refl _ _).alloc (Nat.le_refl _) _)
 have HY : Hid (CellsAt (w.heap.size + 1) (arr24 zs) w0) := by subst hw0; subst hz; have h1 := CellsAt.new (w.alloc (.cells #[.string r.name, .int .i64 r.kind, .int .i64 r.size, .bool r.little, .slice a4 r.bytes.length c4, .slice a5 r.names.length c5, .slice a6 r.tags.length c6, .slice a7 r.kids.length c7] 66)) (arr24 zs) 130; rw [World.size_alloc] at h1; exact h1
 have HR7 := Lib.hid (h7.below hB)
 have HIS : Hid (IsRule r [.string r.name, .int .i64 r.kind, .int .i64 r.size, .bool r.little, .slice a4 r.bytes.length c4, .slice a5 r.names.length c5, .slice a6 r.tags.length c6, .slice a7 r.kids.length c7] w0) := ⟨a4, c4, a5, c5, a6, c6, a7, c7, rfl, h4.below hB, h5.below hB, h6.below hB, h7.below hB⟩
 have HB := Lib.hid hB
 have HKI := Lib.hid hki
 have HKD := Lib.hid hkd
 have HIB := Lib.hid hib
 have HCP := Lib.hid hcp
 have hW := Lib.hid hw0
 have y1 := (HC.out 1 _ rfl).1
 rw [hk] at y1
 have hHZ := Lib.hid hz
 have HKK := Lib.hid hk
 clear hB hki hkd hib hcp hw0 h4 h5 h6 h7
 have HIS1 : Hid (IsRule r [.string r.name, .int .i64 7, .int .i64 r.size, .bool r.little, .slice a4 r.bytes.length c4, .slice a5 r.names.length c5, .slice a6 r.tags.length c6, .slice a7 r.kids.length c7] w0) := by have h := HIS.out; rw [hk] at h; exact h
 have HCP1 : Hid (Cap7 [.string r.name, .int .i64 7, .int .i64 r.size, .bool r.little, .slice a4 r.bytes.length c4, .slice a5 r.names.length c5, .slice a6 r.tags.length c6, .slice a7 r.kids.length c7]) := by have h := HCP.out; rw [hk] at h; exact h
 have HPP := Lib.hid (fun wx hbx => partsMin_7 rs r _ zs n wx hn HKI.out HKD.out HIB.out HCP1.out (HIS1.out.below (w' := wx) hbx) HKK.out)
 obtain ⟨v, hvv⟩ : ∃ v, v = minOf zs r := ⟨_, rfl⟩
 have HZ : Hid (min v 401 = minStep zs r) := by show _ = _; rw [hvv]; unfold minStep; omega
 rw [← hvv] at hof
 have HV := Lib.hid hvv
 clear hvv
 have y0 := (HC.out 0 _ rfl).1
 have y2 := (HC.out 2 _ rfl).1
 have y3 := (HC.out 3 _ rfl).1
 have y4 := (HC.out 4 _ rfl).1
 have y5 := (HC.out 5 _ rfl).1
 have y6 := (HC.out 6 _ rfl).1
 have y7 := (HC.out 7 _ rfl).1
 clear hk
 go_enter Try.func124, Try.ntmps124
 rw [← hz]
 clear hz
 go_upto_region 1 with fail
 rw [← hW.out]
 clear hW
 go_wp2_with (refine wpList_load_mid rfl 130 (.tmp 4) rfl (w.heap.size + 1) 0 rfl (arr24 zs) _ HY.out.range Try.underlying130 rfl (info24 zs) ?_)
 refine (HPP.out _ (Below.refl _ _)).mono ?_
 rintro e wx ⟨rfl, hbx⟩
 rw [← HV.out]
 have HBX := Lib.hid (HB.out.trans (hbx.mono HB.out.size))
 clear hbx
 go_wp2_with fail
 refine (min_impl v 401 _).mono ?_
 rintro e wy ⟨rfl, hb⟩
 have HBZ := Lib.hid (HBX.out.trans (hb.mono HBX.out.size))
 clear hb
 go_wp2
 go_ret
 exact ⟨ret_int HZ.out, HBZ.out⟩
set_option maxHeartbeats 4000000 in
theorem most_7 (a : Option Addr) (rs : List RuleV) (cap : Nat) (r : RuleV) (cs : List Value) (zs : List Int) (n : Nat) (w : World) (_hl : rs.length ≤ 1048576) (hrd : RdR a rs w) (hn : n ≤ 24) (hki : kindI rs r = true) (hkd : ∀ k ∈ r.kids, 0 ≤ k ∧ k < (n : Int)) (hib : InB 401 zs) (hcp : Cap7 cs) (h : IsRule r cs w) (hk : r.kind = 7) (hv : allV (kindI rs) rs) :
  Calls Try.prog 86 #[.agg #[.slice a rs.length cap], .agg cs.toArray, .agg (arr24 zs).toArray] w fun e w' => e = .returned (.int .i64 (maxStep rs zs r)) ∧ Below w.heap.size w w' := by
 have hof := maxOf_b hki hv hib
 obtain ⟨a4, c4, a5, c5, a6, c6, a7, c7, rfl, h4, h5, h6, h7⟩ := h
 obtain ⟨z, hz⟩ : ∃ z, z = (arr24 zs).toArray := ⟨_, rfl⟩
 obtain ⟨w0, hw0⟩ : ∃ w0, w0 = ((w.alloc (.cells #[.slice a rs.length cap] 35)).alloc (.cells #[.string r.name, .int .i64 r.kind, .int .i64 r.size, .bool r.little, .slice a4 r.bytes.length c4, .slice a5 r.names.length c5, .slice a6 r.tags.length c6, .slice a7 r.kids.length c7] 66)).alloc (.cells z 130) := ⟨_, rfl⟩
 have hB : Below w.heap.size w w0 := by subst hw0; exact (((Below.refl _ _).alloc (Nat.le_refl _) _).alloc (by simp) _).alloc (by simp; omega) _
 have HX : Hid (CellsAt w.heap.size [.slice a rs.length cap] w0) := by subst hw0; exact ((CellsAt.new w _ _).below ((Below.refl _ _).alloc (Nat.le_refl _) _)).below ((Below.refl _ _).alloc (Nat.le_refl _) _)
 have HC : Hid (CellsAt (w.heap.size + 1) [.string r.name, .int .i64 r.kind, .int .i64 r.size, .bool r.little, .slice a4 r.bytes.length c4, .slice a5 r.names.length c5, .slice a6 r.tags.length c6, .slice a7 r.kids.length c7] w0) := by subst hw0; have h1 := CellsAt.new (w.alloc (.cells #[.slice a rs.length cap] 35)) [.string r.name, .int .i64 r.kind, .int .i64 r.size, .bool r.little, .slice a4 r.bytes.length c4, .slice a5 r.names.length c5, .slice a6 r.tags.length c6, .slice a7 r.kids.length c7] 66; rw [World.size_alloc] at h1; exact h1.below ((Below.refl _ _).alloc (Nat.le_refl _) _)
 have HY : Hid (CellsAt (w.heap.size + 2) (arr24 zs) w0) := by subst hw0; subst hz; have h1 := CellsAt.new ((w.alloc (.cells #[.slice a rs.length cap] 35)).alloc (.cells #[.string r.name, .int .i64 r.kind, .int .i64 r.size, .bool r.little, .slice a4 r.bytes.length c4, .slice a5 r.names.length c5, .slice a6 r.tags.length c6, .slice a7 r.kids.length c7] 66)) (arr24 zs) 130; rw [World.size_alloc, World.size_alloc] at h1; exact h1
 have HR7 := Lib.hid (h7.below hB)
 have HRD := Lib.hid (hrd.below hB)
 have HIS : Hid (IsRule r [.string r.name, .int .i64 r.kind, .int .i64 r.size, .bool r.little, .slice a4 r.bytes.length c4, .slice a5 r.names.length c5, .slice a6 r.tags.length c6, .slice a7 r.kids.length c7] w0) := ⟨a4, c4, a5, c5, a6, c6, a7, c7, rfl, h4.below hB, h5.below hB, h6.below hB, h7.below hB⟩
 have HB := Lib.hid hB
 have HKI := Lib.hid hki
 have HKD := Lib.hid hkd
 have HIB := Lib.hid hib
 have HCP := Lib.hid hcp
 have HVV := Lib.hid hv
 have hW := Lib.hid hw0
 have y1 := (HC.out 1 _ rfl).1
 rw [hk] at y1
 have hHZ := Lib.hid hz
 have HKK := Lib.hid hk
 clear hB hki hkd hib hcp hv hw0 h4 h5 h6 h7 hrd
 have hst : Hid (min (maxOf rs zs r) 400 = maxStep rs zs r) := by show _ = _; unfold maxStep; omega
 have HIS1 : Hid (IsRule r [.string r.name, .int .i64 7, .int .i64 r.size, .bool r.little, .slice a4 r.bytes.length c4, .slice a5 r.names.length c5, .slice a6 r.tags.length c6, .slice a7 r.kids.length c7] w0) := by have h := HIS.out; rw [hk] at h; exact h
 have HCP1 : Hid (Cap7 [.string r.name, .int .i64 7, .int .i64 r.size, .bool r.little, .slice a4 r.bytes.length c4, .slice a5 r.names.length c5, .slice a6 r.tags.length c6, .slice a7 r.kids.length c7]) := by have h := HCP.out; rw [hk] at h; exact h
 have HPP := Lib.hid (fun wx hbx => partsMax_7 rs r _ zs n wx hn HKI.out HKD.out HIB.out HCP1.out (HIS1.out.below (w' := wx) hbx) HKK.out)
 obtain ⟨v, hvv⟩ : ∃ v, v = maxOf rs zs r := ⟨_, rfl⟩
 rw [← hvv] at hst hof
 have HV := Lib.hid hvv
 clear hvv
 have y0 := (HC.out 0 _ rfl).1
 have y2 := (HC.out 2 _ rfl).1
 have y3 := (HC.out 3 _ rfl).1
 have y4 := (HC.out 4 _ rfl).1
 have y5 := (HC.out 5 _ rfl).1
 have y6 := (HC.out 6 _ rfl).1
 have y7 := (HC.out 7 _ rfl).1
 have HZ : Hid (min v 400 = maxStep rs zs r) := hst
 clear hk
 go_enter Try.func86, Try.ntmps86
 rw [← hz]
 clear hz
 go_upto_region 1 with fail
 rw [← hW.out]
 clear hW
 go_wp2_with (refine wpList_load_mid rfl 130 (.tmp 5) rfl (w.heap.size + 2) 0 rfl (arr24 zs) _ HY.out.range Try.underlying130 rfl (info24 zs) ?_)
 refine (HPP.out _ (Below.refl _ _)).mono ?_
 rintro e wx ⟨rfl, hbx⟩
 rw [← HV.out]
 have HBX := Lib.hid (HB.out.trans (hbx.mono HB.out.size))
 clear hbx
 go_wp2_with fail
 refine (min_impl v 400 _).mono ?_
 rintro e wy ⟨rfl, hb⟩
 have HBZ := Lib.hid (HBX.out.trans (hb.mono HBX.out.size))
 clear hb
 go_wp2
 go_ret
 exact ⟨ret_int HZ.out, HBZ.out⟩
set_option maxHeartbeats 4000000 in
theorem swcMin_8 (rs : List RuleV) (r : RuleV) (cs : List Value) (zs : List Int) (n : Nat) (w : World) (_hn : n ≤ 24) (hki : kindI rs r = true) (hkd : ∀ k ∈ r.kids, 0 ≤ k ∧ k < (n : Int)) (hib : InB 401 zs) (hcp : Cap7 cs) (h : IsRule r cs w) (hk : r.kind = 8) :
  Calls Try.prog 124 #[.agg cs.toArray, .agg (arr24 zs).toArray, .func (.func 125) #[] #[]] w fun e w' => e = .returned (.int .i64 (minStep zs r)) ∧ Below w.heap.size w w' := by
 have hof := minOf_b hki hib
 obtain ⟨a4, c4, a5, c5, a6, c6, a7, c7, rfl, h4, h5, h6, h7⟩ := h
 obtain ⟨z, hz⟩ : ∃ z, z = (arr24 zs).toArray := ⟨_, rfl⟩
 obtain ⟨w0, hw0⟩ : ∃ w0, w0 = (w.alloc (.cells #[.string r.name, .int .i64 r.kind, .int .i64 r.size, .bool r.little, .slice a4 r.bytes.length c4, .slice a5 r.names.length c5, .slice a6 r.tags.length c6, .slice a7 r.kids.length c7] 66)).alloc (.cells z 130) := ⟨_, rfl⟩
 have hB : Below w.heap.size w w0 := by subst hw0; exact ((Below.refl _ _).alloc (Nat.le_refl _) _).alloc (by simp) _
 have HC : Hid (CellsAt w.heap.size [.string r.name, .int .i64 r.kind, .int .i64 r.size, .bool r.little, .slice a4 r.bytes.length c4, .slice a5 r.names.length c5, .slice a6 r.tags.length c6, .slice a7 r.kids.length c7] w0) := by subst hw0; exact (CellsAt.new w _ _).below ((Below.refl _ _).alloc (Nat.le_refl _) _)
 have HY : Hid (CellsAt (w.heap.size + 1) (arr24 zs) w0) := by subst hw0; subst hz; have h1 := CellsAt.new (w.alloc (.cells #[.string r.name, .int .i64 r.kind, .int .i64 r.size, .bool r.little, .slice a4 r.bytes.length c4, .slice a5 r.names.length c5, .slice a6 r.tags.length c6, .slice a7 r.kids.length c7] 66)) (arr24 zs) 130; rw [World.size_alloc] at h1; exact h1
 have HR7 := Lib.hid (h7.below hB)
 have HIS : Hid (IsRule r [.string r.name, .int .i64 r.kind, .int .i64 r.size, .bool r.little, .slice a4 r.bytes.length c4, .slice a5 r.names.length c5, .slice a6 r.tags.length c6, .slice a7 r.kids.length c7] w0) := ⟨a4, c4, a5, c5, a6, c6, a7, c7, rfl, h4.below hB, h5.below hB, h6.below hB, h7.below hB⟩
 have HB := Lib.hid hB
 have HKI := Lib.hid hki
 have HKD := Lib.hid hkd
 have HIB := Lib.hid hib
 have HCP := Lib.hid hcp
 have hW := Lib.hid hw0
 have y1 := (HC.out 1 _ rfl).1
 rw [hk] at y1
 have hHZ := Lib.hid hz
 have HKK := Lib.hid hk
 clear hB hki hkd hib hcp hw0 h4 h5 h6 h7
 have HZ : Hid (min 1 401 = minStep zs r) := by show _ = _; unfold minStep; rw [show minOf zs r = 1 from by unfold minOf; simp [hk]]; try rfl
 clear hk
 go_enter Try.func124, Try.ntmps124
 rw [← hz]
 clear hz
 go_upto_region 1 with fail
 rw [← hW.out]
 clear hW
 go_wp2_with fail
 refine (min_impl 1 401 _).mono ?_
 rintro e wy ⟨rfl, hb⟩
 have HBZ := Lib.hid (HB.out.trans (hb.mono HB.out.size))
 clear hb
 go_wp2
 go_ret
 exact ⟨ret_int HZ.out, HBZ.out⟩
set_option maxHeartbeats 4000000 in
theorem most_8 (a : Option Addr) (rs : List RuleV) (cap : Nat) (r : RuleV) (cs : List Value) (zs : List Int) (n : Nat) (w : World) (_hl : rs.length ≤ 1048576) (hrd : RdR a rs w) (hn : n ≤ 24) (hki : kindI rs r = true) (hkd : ∀ k ∈ r.kids, 0 ≤ k ∧ k < (n : Int)) (hib : InB 401 zs) (hcp : Cap7 cs) (h : IsRule r cs w) (hk : r.kind = 8) (hv : allV (kindI rs) rs) :
  Calls Try.prog 86 #[.agg #[.slice a rs.length cap], .agg cs.toArray, .agg (arr24 zs).toArray] w fun e w' => e = .returned (.int .i64 (maxStep rs zs r)) ∧ Below w.heap.size w w' := by
 have hof := maxOf_b hki hv hib
 obtain ⟨a4, c4, a5, c5, a6, c6, a7, c7, rfl, h4, h5, h6, h7⟩ := h
 obtain ⟨z, hz⟩ : ∃ z, z = (arr24 zs).toArray := ⟨_, rfl⟩
 obtain ⟨w0, hw0⟩ : ∃ w0, w0 = ((w.alloc (.cells #[.slice a rs.length cap] 35)).alloc (.cells #[.string r.name, .int .i64 r.kind, .int .i64 r.size, .bool r.little, .slice a4 r.bytes.length c4, .slice a5 r.names.length c5, .slice a6 r.tags.length c6, .slice a7 r.kids.length c7] 66)).alloc (.cells z 130) := ⟨_, rfl⟩
 have hB : Below w.heap.size w w0 := by subst hw0; exact (((Below.refl _ _).alloc (Nat.le_refl _) _).alloc (by simp) _).alloc (by simp; omega) _
 have HX : Hid (CellsAt w.heap.size [.slice a rs.length cap] w0) := by subst hw0; exact ((CellsAt.new w _ _).below ((Below.refl _ _).alloc (Nat.le_refl _) _)).below ((Below.refl _ _).alloc (Nat.le_refl _) _)
 have HC : Hid (CellsAt (w.heap.size + 1) [.string r.name, .int .i64 r.kind, .int .i64 r.size, .bool r.little, .slice a4 r.bytes.length c4, .slice a5 r.names.length c5, .slice a6 r.tags.length c6, .slice a7 r.kids.length c7] w0) := by subst hw0; have h1 := CellsAt.new (w.alloc (.cells #[.slice a rs.length cap] 35)) [.string r.name, .int .i64 r.kind, .int .i64 r.size, .bool r.little, .slice a4 r.bytes.length c4, .slice a5 r.names.length c5, .slice a6 r.tags.length c6, .slice a7 r.kids.length c7] 66; rw [World.size_alloc] at h1; exact h1.below ((Below.refl _ _).alloc (Nat.le_refl _) _)
 have HY : Hid (CellsAt (w.heap.size + 2) (arr24 zs) w0) := by subst hw0; subst hz; have h1 := CellsAt.new ((w.alloc (.cells #[.slice a rs.length cap] 35)).alloc (.cells #[.string r.name, .int .i64 r.kind, .int .i64 r.size, .bool r.little, .slice a4 r.bytes.length c4, .slice a5 r.names.length c5, .slice a6 r.tags.length c6, .slice a7 r.kids.length c7] 66)) (arr24 zs) 130; rw [World.size_alloc, World.size_alloc] at h1; exact h1
 have HR7 := Lib.hid (h7.below hB)
 have HRD := Lib.hid (hrd.below hB)
 have HIS : Hid (IsRule r [.string r.name, .int .i64 r.kind, .int .i64 r.size, .bool r.little, .slice a4 r.bytes.length c4, .slice a5 r.names.length c5, .slice a6 r.tags.length c6, .slice a7 r.kids.length c7] w0) := ⟨a4, c4, a5, c5, a6, c6, a7, c7, rfl, h4.below hB, h5.below hB, h6.below hB, h7.below hB⟩
 have HB := Lib.hid hB
 have HKI := Lib.hid hki
 have HKD := Lib.hid hkd
 have HIB := Lib.hid hib
 have HCP := Lib.hid hcp
 have HVV := Lib.hid hv
 have hW := Lib.hid hw0
 have y1 := (HC.out 1 _ rfl).1
 rw [hk] at y1
 have hHZ := Lib.hid hz
 have HKK := Lib.hid hk
 clear hB hki hkd hib hcp hv hw0 h4 h5 h6 h7 hrd
 have hl0 := Lib.hid (kindI_8 HKI.out hk)
 have h0 : 0 < r.kids.length := by have := hl0.out; omega
 have g0 : (0 : Int) < (r.kids.length : Int) := by omega
 obtain ⟨m0, hm0, hmk0⟩ := kid_nat HKD.out (j := 0) h0
 obtain ⟨b0, o0, ha0, hc0⟩ := HR7.out.cellAt (j := 0) h0
 cases ha0
 rw [hm0] at hc0
 have hq0 := (HY.out m0 _ (arr24_at zs (by omega))).1
 have hi0 := HIB.out (m0 : Int)
 have n0 : (0 : Int) ≤ (m0 : Int) := by omega
 have l0 : (m0 : Int) < 24 := by omega
 simp only [Nat.add_zero] at hc0
 have HK : Hid (tabAt zs (r.kids.getD 0 0) = tabAt zs (m0 : Int)) := by show _ = _; rw [getD_at h0, hm0]
 clear hm0
 generalize tabAt zs (m0 : Int) = y at hq0 hi0 HK
 have HZ : Hid (min (1 + y) 400 = maxStep rs zs r) := by show _ = _; unfold maxStep maxOf; rw [HK.out]; (try simp [hk]) <;> (try omega)
 have y7 := (HC.out 7 _ rfl).1
 clear hk
 go_enter Try.func86, Try.ntmps86
 rw [← hz]
 clear hz
 go_upto_region 1 with fail
 rw [← hW.out]
 clear hW
 go_wp2_with fail
 refine (min_impl (1 + y) 400 _).mono ?_
 rintro e wy ⟨rfl, hb⟩
 have HBZ := Lib.hid (HB.out.trans (hb.mono HB.out.size))
 clear hb
 go_wp2
 go_ret
 exact ⟨ret_int HZ.out, HBZ.out⟩
set_option maxHeartbeats 4000000 in
theorem swcMin_9 (rs : List RuleV) (r : RuleV) (cs : List Value) (zs : List Int) (n : Nat) (w : World) (hn : n ≤ 24) (hki : kindI rs r = true) (hkd : ∀ k ∈ r.kids, 0 ≤ k ∧ k < (n : Int)) (hib : InB 401 zs) (hcp : Cap7 cs) (h : IsRule r cs w) (hk : r.kind = 9) :
  Calls Try.prog 124 #[.agg cs.toArray, .agg (arr24 zs).toArray, .func (.func 125) #[] #[]] w fun e w' => e = .returned (.int .i64 (minStep zs r)) ∧ Below w.heap.size w w' := by
 have hof := minOf_b hki hib
 obtain ⟨a4, c4, a5, c5, a6, c6, a7, c7, rfl, h4, h5, h6, h7⟩ := h
 obtain ⟨z, hz⟩ : ∃ z, z = (arr24 zs).toArray := ⟨_, rfl⟩
 obtain ⟨w0, hw0⟩ : ∃ w0, w0 = (w.alloc (.cells #[.string r.name, .int .i64 r.kind, .int .i64 r.size, .bool r.little, .slice a4 r.bytes.length c4, .slice a5 r.names.length c5, .slice a6 r.tags.length c6, .slice a7 r.kids.length c7] 66)).alloc (.cells z 130) := ⟨_, rfl⟩
 have hB : Below w.heap.size w w0 := by subst hw0; exact ((Below.refl _ _).alloc (Nat.le_refl _) _).alloc (by simp) _
 have HC : Hid (CellsAt w.heap.size [.string r.name, .int .i64 r.kind, .int .i64 r.size, .bool r.little, .slice a4 r.bytes.length c4, .slice a5 r.names.length c5, .slice a6 r.tags.length c6, .slice a7 r.kids.length c7] w0) := by subst hw0; exact (CellsAt.new w _ _).below ((Below.refl _ _).alloc (Nat.le_refl _) _)
 have HY : Hid (CellsAt (w.heap.size + 1) (arr24 zs) w0) := by subst hw0; subst hz; have h1 := CellsAt.new (w.alloc (.cells #[.string r.name, .int .i64 r.kind, .int .i64 r.size, .bool r.little, .slice a4 r.bytes.length c4, .slice a5 r.names.length c5, .slice a6 r.tags.length c6, .slice a7 r.kids.length c7] 66)) (arr24 zs) 130; rw [World.size_alloc] at h1; exact h1
 have HR7 := Lib.hid (h7.below hB)
 have HIS : Hid (IsRule r [.string r.name, .int .i64 r.kind, .int .i64 r.size, .bool r.little, .slice a4 r.bytes.length c4, .slice a5 r.names.length c5, .slice a6 r.tags.length c6, .slice a7 r.kids.length c7] w0) := ⟨a4, c4, a5, c5, a6, c6, a7, c7, rfl, h4.below hB, h5.below hB, h6.below hB, h7.below hB⟩
 have HB := Lib.hid hB
 have HKI := Lib.hid hki
 have HKD := Lib.hid hkd
 have HIB := Lib.hid hib
 have HCP := Lib.hid hcp
 have hW := Lib.hid hw0
 have y1 := (HC.out 1 _ rfl).1
 rw [hk] at y1
 have hHZ := Lib.hid hz
 have HKK := Lib.hid hk
 clear hB hki hkd hib hcp hw0 h4 h5 h6 h7
 have HIS1 : Hid (IsRule r [.string r.name, .int .i64 9, .int .i64 r.size, .bool r.little, .slice a4 r.bytes.length c4, .slice a5 r.names.length c5, .slice a6 r.tags.length c6, .slice a7 r.kids.length c7] w0) := by have h := HIS.out; rw [hk] at h; exact h
 have HCP1 : Hid (Cap7 [.string r.name, .int .i64 9, .int .i64 r.size, .bool r.little, .slice a4 r.bytes.length c4, .slice a5 r.names.length c5, .slice a6 r.tags.length c6, .slice a7 r.kids.length c7]) := by have h := HCP.out; rw [hk] at h; exact h
 have HPP := Lib.hid (fun wx hbx => partsMin_9 rs r _ zs n wx hn HKI.out HKD.out HIB.out HCP1.out (HIS1.out.below (w' := wx) hbx) HKK.out)
 obtain ⟨v, hvv⟩ : ∃ v, v = minOf zs r := ⟨_, rfl⟩
 have HZ : Hid (min v 401 = minStep zs r) := by show _ = _; rw [hvv]; unfold minStep; omega
 rw [← hvv] at hof
 have HV := Lib.hid hvv
 clear hvv
 have y0 := (HC.out 0 _ rfl).1
 have y2 := (HC.out 2 _ rfl).1
 have y3 := (HC.out 3 _ rfl).1
 have y4 := (HC.out 4 _ rfl).1
 have y5 := (HC.out 5 _ rfl).1
 have y6 := (HC.out 6 _ rfl).1
 have y7 := (HC.out 7 _ rfl).1
 clear hk
 go_enter Try.func124, Try.ntmps124
 rw [← hz]
 clear hz
 go_upto_region 1 with fail
 rw [← hW.out]
 clear hW
 go_wp2_with (refine wpList_load_mid rfl 130 (.tmp 4) rfl (w.heap.size + 1) 0 rfl (arr24 zs) _ HY.out.range Try.underlying130 rfl (info24 zs) ?_)
 refine (HPP.out _ (Below.refl _ _)).mono ?_
 rintro e wx ⟨rfl, hbx⟩
 rw [← HV.out]
 have HBX := Lib.hid (HB.out.trans (hbx.mono HB.out.size))
 clear hbx
 go_wp2_with fail
 refine (min_impl v 401 _).mono ?_
 rintro e wy ⟨rfl, hb⟩
 have HBZ := Lib.hid (HBX.out.trans (hb.mono HBX.out.size))
 clear hb
 go_wp2
 go_ret
 exact ⟨ret_int HZ.out, HBZ.out⟩
set_option maxHeartbeats 4000000 in
theorem most_9 (a : Option Addr) (rs : List RuleV) (cap : Nat) (r : RuleV) (cs : List Value) (zs : List Int) (n : Nat) (w : World) (_hl : rs.length ≤ 1048576) (hrd : RdR a rs w) (hn : n ≤ 24) (hki : kindI rs r = true) (hkd : ∀ k ∈ r.kids, 0 ≤ k ∧ k < (n : Int)) (hib : InB 401 zs) (hcp : Cap7 cs) (h : IsRule r cs w) (hk : r.kind = 9) (hv : allV (kindI rs) rs) :
  Calls Try.prog 86 #[.agg #[.slice a rs.length cap], .agg cs.toArray, .agg (arr24 zs).toArray] w fun e w' => e = .returned (.int .i64 (maxStep rs zs r)) ∧ Below w.heap.size w w' := by
 have hof := maxOf_b hki hv hib
 obtain ⟨a4, c4, a5, c5, a6, c6, a7, c7, rfl, h4, h5, h6, h7⟩ := h
 obtain ⟨z, hz⟩ : ∃ z, z = (arr24 zs).toArray := ⟨_, rfl⟩
 obtain ⟨w0, hw0⟩ : ∃ w0, w0 = ((w.alloc (.cells #[.slice a rs.length cap] 35)).alloc (.cells #[.string r.name, .int .i64 r.kind, .int .i64 r.size, .bool r.little, .slice a4 r.bytes.length c4, .slice a5 r.names.length c5, .slice a6 r.tags.length c6, .slice a7 r.kids.length c7] 66)).alloc (.cells z 130) := ⟨_, rfl⟩
 have hB : Below w.heap.size w w0 := by subst hw0; exact (((Below.refl _ _).alloc (Nat.le_refl _) _).alloc (by simp) _).alloc (by simp; omega) _
 have HX : Hid (CellsAt w.heap.size [.slice a rs.length cap] w0) := by subst hw0; exact ((CellsAt.new w _ _).below ((Below.refl _ _).alloc (Nat.le_refl _) _)).below ((Below.refl _ _).alloc (Nat.le_refl _) _)
 have HC : Hid (CellsAt (w.heap.size + 1) [.string r.name, .int .i64 r.kind, .int .i64 r.size, .bool r.little, .slice a4 r.bytes.length c4, .slice a5 r.names.length c5, .slice a6 r.tags.length c6, .slice a7 r.kids.length c7] w0) := by subst hw0; have h1 := CellsAt.new (w.alloc (.cells #[.slice a rs.length cap] 35)) [.string r.name, .int .i64 r.kind, .int .i64 r.size, .bool r.little, .slice a4 r.bytes.length c4, .slice a5 r.names.length c5, .slice a6 r.tags.length c6, .slice a7 r.kids.length c7] 66; rw [World.size_alloc] at h1; exact h1.below ((Below.refl _ _).alloc (Nat.le_refl _) _)
 have HY : Hid (CellsAt (w.heap.size + 2) (arr24 zs) w0) := by subst hw0; subst hz; have h1 := CellsAt.new ((w.alloc (.cells #[.slice a rs.length cap] 35)).alloc (.cells #[.string r.name, .int .i64 r.kind, .int .i64 r.size, .bool r.little, .slice a4 r.bytes.length c4, .slice a5 r.names.length c5, .slice a6 r.tags.length c6, .slice a7 r.kids.length c7] 66)) (arr24 zs) 130; rw [World.size_alloc, World.size_alloc] at h1; exact h1
 have HR7 := Lib.hid (h7.below hB)
 have HRD := Lib.hid (hrd.below hB)
 have HIS : Hid (IsRule r [.string r.name, .int .i64 r.kind, .int .i64 r.size, .bool r.little, .slice a4 r.bytes.length c4, .slice a5 r.names.length c5, .slice a6 r.tags.length c6, .slice a7 r.kids.length c7] w0) := ⟨a4, c4, a5, c5, a6, c6, a7, c7, rfl, h4.below hB, h5.below hB, h6.below hB, h7.below hB⟩
 have HB := Lib.hid hB
 have HKI := Lib.hid hki
 have HKD := Lib.hid hkd
 have HIB := Lib.hid hib
 have HCP := Lib.hid hcp
 have HVV := Lib.hid hv
 have hW := Lib.hid hw0
 have y1 := (HC.out 1 _ rfl).1
 rw [hk] at y1
 have hHZ := Lib.hid hz
 have HKK := Lib.hid hk
 clear hB hki hkd hib hcp hv hw0 h4 h5 h6 h7 hrd
 have hst : Hid (min (maxOf rs zs r) 400 = maxStep rs zs r) := by show _ = _; unfold maxStep; omega
 have HIS1 : Hid (IsRule r [.string r.name, .int .i64 9, .int .i64 r.size, .bool r.little, .slice a4 r.bytes.length c4, .slice a5 r.names.length c5, .slice a6 r.tags.length c6, .slice a7 r.kids.length c7] w0) := by have h := HIS.out; rw [hk] at h; exact h
 have HCP1 : Hid (Cap7 [.string r.name, .int .i64 9, .int .i64 r.size, .bool r.little, .slice a4 r.bytes.length c4, .slice a5 r.names.length c5, .slice a6 r.tags.length c6, .slice a7 r.kids.length c7]) := by have h := HCP.out; rw [hk] at h; exact h
 have HPP := Lib.hid (fun wx hbx => partsMax_9 rs r _ zs n wx hn HKI.out HKD.out HIB.out HCP1.out (HIS1.out.below (w' := wx) hbx) HKK.out)
 obtain ⟨v, hvv⟩ : ∃ v, v = maxOf rs zs r := ⟨_, rfl⟩
 rw [← hvv] at hst hof
 have HV := Lib.hid hvv
 clear hvv
 have y0 := (HC.out 0 _ rfl).1
 have y2 := (HC.out 2 _ rfl).1
 have y3 := (HC.out 3 _ rfl).1
 have y4 := (HC.out 4 _ rfl).1
 have y5 := (HC.out 5 _ rfl).1
 have y6 := (HC.out 6 _ rfl).1
 have y7 := (HC.out 7 _ rfl).1
 have HZ : Hid (min v 400 = maxStep rs zs r) := hst
 clear hk
 go_enter Try.func86, Try.ntmps86
 rw [← hz]
 clear hz
 go_upto_region 1 with fail
 rw [← hW.out]
 clear hW
 go_wp2_with (refine wpList_load_mid rfl 130 (.tmp 5) rfl (w.heap.size + 2) 0 rfl (arr24 zs) _ HY.out.range Try.underlying130 rfl (info24 zs) ?_)
 refine (HPP.out _ (Below.refl _ _)).mono ?_
 rintro e wx ⟨rfl, hbx⟩
 rw [← HV.out]
 have HBX := Lib.hid (HB.out.trans (hbx.mono HB.out.size))
 clear hbx
 go_wp2_with fail
 refine (min_impl v 400 _).mono ?_
 rintro e wy ⟨rfl, hb⟩
 have HBZ := Lib.hid (HBX.out.trans (hb.mono HBX.out.size))
 clear hb
 go_wp2
 go_ret
 exact ⟨ret_int HZ.out, HBZ.out⟩
set_option maxHeartbeats 4000000 in
theorem swcMin_10 (rs : List RuleV) (r : RuleV) (cs : List Value) (zs : List Int) (n : Nat) (w : World) (_hn : n ≤ 24) (hki : kindI rs r = true) (hkd : ∀ k ∈ r.kids, 0 ≤ k ∧ k < (n : Int)) (hib : InB 401 zs) (hcp : Cap7 cs) (h : IsRule r cs w) (hk : r.kind = 10) :
  Calls Try.prog 124 #[.agg cs.toArray, .agg (arr24 zs).toArray, .func (.func 125) #[] #[]] w fun e w' => e = .returned (.int .i64 (minStep zs r)) ∧ Below w.heap.size w w' := by
 have hof := minOf_b hki hib
 obtain ⟨a4, c4, a5, c5, a6, c6, a7, c7, rfl, h4, h5, h6, h7⟩ := h
 obtain ⟨z, hz⟩ : ∃ z, z = (arr24 zs).toArray := ⟨_, rfl⟩
 obtain ⟨w0, hw0⟩ : ∃ w0, w0 = (w.alloc (.cells #[.string r.name, .int .i64 r.kind, .int .i64 r.size, .bool r.little, .slice a4 r.bytes.length c4, .slice a5 r.names.length c5, .slice a6 r.tags.length c6, .slice a7 r.kids.length c7] 66)).alloc (.cells z 130) := ⟨_, rfl⟩
 have hB : Below w.heap.size w w0 := by subst hw0; exact ((Below.refl _ _).alloc (Nat.le_refl _) _).alloc (by simp) _
 have HC : Hid (CellsAt w.heap.size [.string r.name, .int .i64 r.kind, .int .i64 r.size, .bool r.little, .slice a4 r.bytes.length c4, .slice a5 r.names.length c5, .slice a6 r.tags.length c6, .slice a7 r.kids.length c7] w0) := by subst hw0; exact (CellsAt.new w _ _).below ((Below.refl _ _).alloc (Nat.le_refl _) _)
 have HY : Hid (CellsAt (w.heap.size + 1) (arr24 zs) w0) := by subst hw0; subst hz; have h1 := CellsAt.new (w.alloc (.cells #[.string r.name, .int .i64 r.kind, .int .i64 r.size, .bool r.little, .slice a4 r.bytes.length c4, .slice a5 r.names.length c5, .slice a6 r.tags.length c6, .slice a7 r.kids.length c7] 66)) (arr24 zs) 130; rw [World.size_alloc] at h1; exact h1
 have HR7 := Lib.hid (h7.below hB)
 have HIS : Hid (IsRule r [.string r.name, .int .i64 r.kind, .int .i64 r.size, .bool r.little, .slice a4 r.bytes.length c4, .slice a5 r.names.length c5, .slice a6 r.tags.length c6, .slice a7 r.kids.length c7] w0) := ⟨a4, c4, a5, c5, a6, c6, a7, c7, rfl, h4.below hB, h5.below hB, h6.below hB, h7.below hB⟩
 have HB := Lib.hid hB
 have HKI := Lib.hid hki
 have HKD := Lib.hid hkd
 have HIB := Lib.hid hib
 have HCP := Lib.hid hcp
 have hW := Lib.hid hw0
 have y1 := (HC.out 1 _ rfl).1
 rw [hk] at y1
 have hHZ := Lib.hid hz
 have HKK := Lib.hid hk
 clear hB hki hkd hib hcp hw0 h4 h5 h6 h7
 have HZ : Hid (min 1 401 = minStep zs r) := by show _ = _; unfold minStep; rw [show minOf zs r = 1 from by unfold minOf; simp [hk]]; try rfl
 clear hk
 go_enter Try.func124, Try.ntmps124
 rw [← hz]
 clear hz
 go_upto_region 1 with fail
 rw [← hW.out]
 clear hW
 go_wp2_with fail
 refine (min_impl 1 401 _).mono ?_
 rintro e wy ⟨rfl, hb⟩
 have HBZ := Lib.hid (HB.out.trans (hb.mono HB.out.size))
 clear hb
 go_wp2
 go_ret
 exact ⟨ret_int HZ.out, HBZ.out⟩
set_option maxHeartbeats 4000000 in
theorem most_10 (a : Option Addr) (rs : List RuleV) (cap : Nat) (r : RuleV) (cs : List Value) (zs : List Int) (n : Nat) (w : World) (_hl : rs.length ≤ 1048576) (hrd : RdR a rs w) (_hn : n ≤ 24) (hki : kindI rs r = true) (hkd : ∀ k ∈ r.kids, 0 ≤ k ∧ k < (n : Int)) (hib : InB 401 zs) (hcp : Cap7 cs) (h : IsRule r cs w) (hk : r.kind = 10) (hv : allV (kindI rs) rs) :
  Calls Try.prog 86 #[.agg #[.slice a rs.length cap], .agg cs.toArray, .agg (arr24 zs).toArray] w fun e w' => e = .returned (.int .i64 (maxStep rs zs r)) ∧ Below w.heap.size w w' := by
 have hof := maxOf_b hki hv hib
 obtain ⟨a4, c4, a5, c5, a6, c6, a7, c7, rfl, h4, h5, h6, h7⟩ := h
 obtain ⟨z, hz⟩ : ∃ z, z = (arr24 zs).toArray := ⟨_, rfl⟩
 obtain ⟨w0, hw0⟩ : ∃ w0, w0 = ((w.alloc (.cells #[.slice a rs.length cap] 35)).alloc (.cells #[.string r.name, .int .i64 r.kind, .int .i64 r.size, .bool r.little, .slice a4 r.bytes.length c4, .slice a5 r.names.length c5, .slice a6 r.tags.length c6, .slice a7 r.kids.length c7] 66)).alloc (.cells z 130) := ⟨_, rfl⟩
 have hB : Below w.heap.size w w0 := by subst hw0; exact (((Below.refl _ _).alloc (Nat.le_refl _) _).alloc (by simp) _).alloc (by simp; omega) _
 have HX : Hid (CellsAt w.heap.size [.slice a rs.length cap] w0) := by subst hw0; exact ((CellsAt.new w _ _).below ((Below.refl _ _).alloc (Nat.le_refl _) _)).below ((Below.refl _ _).alloc (Nat.le_refl _) _)
 have HC : Hid (CellsAt (w.heap.size + 1) [.string r.name, .int .i64 r.kind, .int .i64 r.size, .bool r.little, .slice a4 r.bytes.length c4, .slice a5 r.names.length c5, .slice a6 r.tags.length c6, .slice a7 r.kids.length c7] w0) := by subst hw0; have h1 := CellsAt.new (w.alloc (.cells #[.slice a rs.length cap] 35)) [.string r.name, .int .i64 r.kind, .int .i64 r.size, .bool r.little, .slice a4 r.bytes.length c4, .slice a5 r.names.length c5, .slice a6 r.tags.length c6, .slice a7 r.kids.length c7] 66; rw [World.size_alloc] at h1; exact h1.below ((Below.refl _ _).alloc (Nat.le_refl _) _)
 have HY : Hid (CellsAt (w.heap.size + 2) (arr24 zs) w0) := by subst hw0; subst hz; have h1 := CellsAt.new ((w.alloc (.cells #[.slice a rs.length cap] 35)).alloc (.cells #[.string r.name, .int .i64 r.kind, .int .i64 r.size, .bool r.little, .slice a4 r.bytes.length c4, .slice a5 r.names.length c5, .slice a6 r.tags.length c6, .slice a7 r.kids.length c7] 66)) (arr24 zs) 130; rw [World.size_alloc, World.size_alloc] at h1; exact h1
 have HR7 := Lib.hid (h7.below hB)
 have HRD := Lib.hid (hrd.below hB)
 have HIS : Hid (IsRule r [.string r.name, .int .i64 r.kind, .int .i64 r.size, .bool r.little, .slice a4 r.bytes.length c4, .slice a5 r.names.length c5, .slice a6 r.tags.length c6, .slice a7 r.kids.length c7] w0) := ⟨a4, c4, a5, c5, a6, c6, a7, c7, rfl, h4.below hB, h5.below hB, h6.below hB, h7.below hB⟩
 have HB := Lib.hid hB
 have HKI := Lib.hid hki
 have HKD := Lib.hid hkd
 have HIB := Lib.hid hib
 have HCP := Lib.hid hcp
 have HVV := Lib.hid hv
 have hW := Lib.hid hw0
 have y1 := (HC.out 1 _ rfl).1
 rw [hk] at y1
 have hHZ := Lib.hid hz
 have HKK := Lib.hid hk
 clear hB hki hkd hib hcp hv hw0 h4 h5 h6 h7 hrd
 have HZ : Hid (min 400 400 = maxStep rs zs r) := by show _ = _; unfold maxStep; rw [show maxOf rs zs r = 400 from by unfold maxOf; simp [hk]]; try rfl
 clear hk
 go_enter Try.func86, Try.ntmps86
 rw [← hz]
 clear hz
 go_upto_region 1 with fail
 rw [← hW.out]
 clear hW
 go_wp2_with fail
 refine (min_impl 400 400 _).mono ?_
 rintro e wy ⟨rfl, hb⟩
 have HBZ := Lib.hid (HB.out.trans (hb.mono HB.out.size))
 clear hb
 go_wp2
 go_ret
 exact ⟨ret_int HZ.out, HBZ.out⟩
theorem swcMin_impl (rs : List RuleV) (r : RuleV) (cs : List Value) (zs : List Int) (n : Nat) (w : World) (hn : n ≤ 24) (hki : kindI rs r = true) (hkd : ∀ k ∈ r.kids, 0 ≤ k ∧ k < (n : Int)) (hib : InB 401 zs) (hcp : Cap7 cs) (h : IsRule r cs w) :
  Calls Try.prog 124 #[.agg cs.toArray, .agg (arr24 zs).toArray, .func (.func 125) #[] #[]] w fun e w' => e = .returned (.int .i64 (minStep zs r)) ∧ Below w.heap.size w w' := by
 have hkn := kindI_known hki
 rcases (by omega : r.kind = 1 ∨ r.kind = 2 ∨ r.kind = 3 ∨ r.kind = 4 ∨ r.kind = 5 ∨ r.kind = 6 ∨ r.kind = 7 ∨ r.kind = 8 ∨ r.kind = 9 ∨ r.kind = 10) with hk | hk | hk | hk | hk | hk | hk | hk | hk | hk
 ·exact swcMin_1 rs r cs zs n w hn hki hkd hib hcp h hk
 ·exact swcMin_2 rs r cs zs n w hn hki hkd hib hcp h hk
 ·exact swcMin_3 rs r cs zs n w hn hki hkd hib hcp h hk
 ·exact swcMin_4 rs r cs zs n w hn hki hkd hib hcp h hk
 ·exact swcMin_5 rs r cs zs n w hn hki hkd hib hcp h hk
 ·exact swcMin_6 rs r cs zs n w hn hki hkd hib hcp h hk
 ·exact swcMin_7 rs r cs zs n w hn hki hkd hib hcp h hk
 ·exact swcMin_8 rs r cs zs n w hn hki hkd hib hcp h hk
 ·exact swcMin_9 rs r cs zs n w hn hki hkd hib hcp h hk
 ·exact swcMin_10 rs r cs zs n w hn hki hkd hib hcp h hk
set_option maxHeartbeats 4000000 in
theorem least_impl (a : Option Addr) (rs : List RuleV) (cap : Nat) (r : RuleV) (cs : List Value) (zs : List Int) (n : Nat) (w : World) (_hl : rs.length ≤ 1048576) (_hrd : RdR a rs w) (hn : n ≤ 24) (hki : kindI rs r = true) (hkd : ∀ k ∈ r.kids, 0 ≤ k ∧ k < (n : Int)) (hib : InB 401 zs) (hcp : Cap7 cs) (h : IsRule r cs w) (_hv : allV (kindI rs) rs) :
  Calls Try.prog 85 #[.agg #[.slice a rs.length cap], .agg cs.toArray, .agg (arr24 zs).toArray] w fun e w' => e = .returned (.int .i64 (minStep zs r)) ∧ Below w.heap.size w w' := by
 have h0 := h
 obtain ⟨a4, c4, a5, c5, a6, c6, a7, c7, rfl, -, -, -, -⟩ := h
 obtain ⟨z, hz⟩ : ∃ z, z = (arr24 zs).toArray := ⟨_, rfl⟩
 obtain ⟨w0, hw0⟩ : ∃ w0, w0 = ((w.alloc (.cells #[.slice a rs.length cap] 35)).alloc (.cells #[.string r.name, .int .i64 r.kind, .int .i64 r.size, .bool r.little, .slice a4 r.bytes.length c4, .slice a5 r.names.length c5, .slice a6 r.tags.length c6, .slice a7 r.kids.length c7] 66)).alloc (.cells z 130) := ⟨_, rfl⟩
 have hB : Below w.heap.size w w0 := by subst hw0; exact (((Below.refl _ _).alloc (Nat.le_refl _) _).alloc (by simp) _).alloc (by simp; omega) _
 have hC : CellsAt (w.heap.size + 1) [.string r.name, .int .i64 r.kind, .int .i64 r.size, .bool r.little, .slice a4 r.bytes.length c4, .slice a5 r.names.length c5, .slice a6 r.tags.length c6, .slice a7 r.kids.length c7] w0 := by subst hw0; have h1 := CellsAt.new (w.alloc (.cells #[.slice a rs.length cap] 35)) [.string r.name, .int .i64 r.kind, .int .i64 r.size, .bool r.little, .slice a4 r.bytes.length c4, .slice a5 r.names.length c5, .slice a6 r.tags.length c6, .slice a7 r.kids.length c7] 66; rw [World.size_alloc] at h1; exact h1.below ((Below.refl _ _).alloc (Nat.le_refl _) _)
 have HY : Hid (CellsAt (w.heap.size + 2) (arr24 zs) w0) := by subst hw0; subst hz; have h1 := CellsAt.new ((w.alloc (.cells #[.slice a rs.length cap] 35)).alloc (.cells #[.string r.name, .int .i64 r.kind, .int .i64 r.size, .bool r.little, .slice a4 r.bytes.length c4, .slice a5 r.names.length c5, .slice a6 r.tags.length c6, .slice a7 r.kids.length c7] 66)) (arr24 zs) 130; rw [World.size_alloc, World.size_alloc] at h1; exact h1
 obtain ⟨S, hS⟩ : ∃ S, S = minStep zs r := ⟨_, rfl⟩
 have HCL : Hid (Calls Try.prog 124 #[.agg #[.string r.name, .int .i64 r.kind, .int .i64 r.size, .bool r.little, .slice a4 r.bytes.length c4, .slice a5 r.names.length c5, .slice a6 r.tags.length c6, .slice a7 r.kids.length c7], .agg (arr24 zs).toArray, .func (.func 125) #[] #[]] w0 fun e w' => e = .returned (.int .i64 S) ∧ Below w0.heap.size w0 w') := by rw [hS]; exact swcMin_impl rs r _ zs n w0 hn hki hkd hib hcp (h0.below hB)
 have y0 := (hC 0 _ rfl).1
 have y1 := (hC 1 _ rfl).1
 have y2 := (hC 2 _ rfl).1
 have y3 := (hC 3 _ rfl).1
 have y4 := (hC 4 _ rfl).1
 have y5 := (hC 5 _ rfl).1
 have y6 := (hC 6 _ rfl).1
 have y7 := (hC 7 _ rfl).1
 have HB := Lib.hid hB
 have hW := Lib.hid hw0
 rw [← hS]
 have hHZ := Lib.hid hz
 clear hB hC hw0 h0 hki hkd hib hcp _hv _hrd hS
 go_enter Try.func85, Try.ntmps85
 rw [← hz]
 clear hz
 go_upto_region 1 with fail
 rw [← hW.out]
 clear hW
 go_wp2_with (refine wpList_load_mid rfl 130 (.tmp 5) rfl (w.heap.size + 2) 0 rfl (arr24 zs) _ HY.out.range Try.underlying130 rfl (info24 zs) ?_)
 refine HCL.out.mono ?_
 rintro e wx ⟨rfl, hbx⟩
 have HBX := Lib.hid (HB.out.trans (hbx.mono HB.out.size))
 clear hbx y0 y1 y2 y3 y4 y5 y6 y7
 go_wp2
 go_ret
 exact ⟨rfl, HBX.out⟩
theorem most_impl (a : Option Addr) (rs : List RuleV) (cap : Nat) (r : RuleV) (cs : List Value) (zs : List Int) (n : Nat) (w : World) (hl : rs.length ≤ 1048576) (hrd : RdR a rs w) (hn : n ≤ 24) (hki : kindI rs r = true) (hkd : ∀ k ∈ r.kids, 0 ≤ k ∧ k < (n : Int)) (hib : InB 401 zs) (hcp : Cap7 cs) (h : IsRule r cs w) (hv : allV (kindI rs) rs) :
  Calls Try.prog 86 #[.agg #[.slice a rs.length cap], .agg cs.toArray, .agg (arr24 zs).toArray] w fun e w' => e = .returned (.int .i64 (maxStep rs zs r)) ∧ Below w.heap.size w w' := by
 have hkn := kindI_known hki
 rcases (by omega : r.kind = 1 ∨ r.kind = 2 ∨ r.kind = 3 ∨ r.kind = 4 ∨ r.kind = 5 ∨ r.kind = 6 ∨ r.kind = 7 ∨ r.kind = 8 ∨ r.kind = 9 ∨ r.kind = 10) with hk | hk | hk | hk | hk | hk | hk | hk | hk | hk
 ·exact most_1 a rs cap r cs zs n w hl hrd hn hki hkd hib hcp h hk hv
 ·exact most_2 a rs cap r cs zs n w hl hrd hn hki hkd hib hcp h hk hv
 ·exact most_3 a rs cap r cs zs n w hl hrd hn hki hkd hib hcp h hk hv
 ·exact most_4 a rs cap r cs zs n w hl hrd hn hki hkd hib hcp h hk hv
 ·exact most_5 a rs cap r cs zs n w hl hrd hn hki hkd hib hcp h hk hv
 ·exact most_6 a rs cap r cs zs n w hl hrd hn hki hkd hib hcp h hk hv
 ·exact most_7 a rs cap r cs zs n w hl hrd hn hki hkd hib hcp h hk hv
 ·exact most_8 a rs cap r cs zs n w hl hrd hn hki hkd hib hcp h hk hv
 ·exact most_9 a rs cap r cs zs n w hl hrd hn hki hkd hib hcp h hk hv
 ·exact most_10 a rs cap r cs zs n w hl hrd hn hki hkd hib hcp h hk hv
set_option maxHeartbeats 4000000 in
theorem deep_impl (a : Option Addr) (rs : List RuleV) (cap : Nat) (r : RuleV) (cs : List Value) (zs : List Int) (n : Nat) (w : World) (hn : n ≤ 24) (hks : r.kids.length ≤ 1048576) (hkd : ∀ k ∈ r.kids, 0 ≤ k ∧ k < (n : Int)) (hib : InB 24 zs) (h : IsRule r cs w) :
  Calls Try.prog 87 #[.agg #[.slice a rs.length cap], .agg cs.toArray, .agg (arr24 zs).toArray] w fun e w' => e = .returned (.int .i64 (depthStep zs r)) ∧ Below w.heap.size w w' := by
 obtain ⟨a4, c4, a5, c5, a6, c6, a7, c7, rfl, h4, h5, h6, h7⟩ := h
 obtain ⟨z, hz⟩ : ∃ z, z = (arr24 zs).toArray := ⟨_, rfl⟩
 obtain ⟨w0, hw0⟩ : ∃ w0, w0 = ((w.alloc (.cells #[.slice a rs.length cap] 35)).alloc (.cells #[.string r.name, .int .i64 r.kind, .int .i64 r.size, .bool r.little, .slice a4 r.bytes.length c4, .slice a5 r.names.length c5, .slice a6 r.tags.length c6, .slice a7 r.kids.length c7] 66)).alloc (.cells z 130) := ⟨_, rfl⟩
 have hB : Below w.heap.size w w0 := by subst hw0; exact (((Below.refl _ _).alloc (Nat.le_refl _) _).alloc (by simp) _).alloc (by simp; omega) _
 have HC : Hid (CellsAt (w.heap.size + 1) [.string r.name, .int .i64 r.kind, .int .i64 r.size, .bool r.little, .slice a4 r.bytes.length c4, .slice a5 r.names.length c5, .slice a6 r.tags.length c6, .slice a7 r.kids.length c7] w0) := by subst hw0; have h1 := CellsAt.new (w.alloc (.cells #[.slice a rs.length cap] 35)) [.string r.name, .int .i64 r.kind, .int .i64 r.size, .bool r.little, .slice a4 r.bytes.length c4, .slice a5 r.names.length c5, .slice a6 r.tags.length c6, .slice a7 r.kids.length c7] 66; rw [World.size_alloc] at h1; exact h1.below ((Below.refl _ _).alloc (Nat.le_refl _) _)
 have HY : Hid (CellsAt (w.heap.size + 2) (arr24 zs) w0) := by subst hw0; subst hz; have h1 := CellsAt.new ((w.alloc (.cells #[.slice a rs.length cap] 35)).alloc (.cells #[.string r.name, .int .i64 r.kind, .int .i64 r.size, .bool r.little, .slice a4 r.bytes.length c4, .slice a5 r.names.length c5, .slice a6 r.tags.length c6, .slice a7 r.kids.length c7] 66)) (arr24 zs) 130; rw [World.size_alloc, World.size_alloc] at h1; exact h1
 have HR7 := Lib.hid (h7.below hB)
 have HB := Lib.hid hB
 have HKD := Lib.hid hkd
 have HIB := Lib.hid hib
 have hW := Lib.hid hw0
 have y7 := (HC.out 7 _ rfl).1
 have hHZ := Lib.hid hz
 clear hB hkd hib hw0 h4 h5 h6 h7
 go_enter Try.func87, Try.ntmps87
 rw [← hz]
 clear hz
 go_upto_region 1 with fail
 rw [← hW.out]
 clear hW
 go_wp2
 go_loopw [7, 9, 13] (fun x _ i W => ∃ (j : Nat) (z : Int), j ≤ r.kids.length ∧ i = .int .i64 j ∧ x = .int .i64 z ∧ Hid (z = mostT zs (r.kids.take j) 0) ∧ 0 ≤ z ∧ z ≤ 24 ∧ Hid (Below w0.heap.size w0 W)) (fun _ _ i _ => r.kids.length - (intOf i).toNat)
 case atStart => exact ⟨0, 0, Nat.zero_le _, rfl, rfl, rfl, by omega, by omega, Below.refl _ _⟩
 case round =>
  obtain ⟨j, z, hjl, rfl, rfl, hz, hz0, hz1, hbw⟩ := hrel
  have j0 : (0 : Int) ≤ (j : Int) := by omega
  replace y7 := cell_keep hbw.out y7
  by_cases hj : j < r.kids.length
  ·have j1 : (j : Int) < (r.kids.length : Int) := by omega
   have hnx := Lib.hid (mostT_next (t := zs) (ks := r.kids) (m := 0) hj)
   obtain ⟨m, hm, hmk⟩ := kid_nat HKD.out (j := j) hj
   obtain ⟨b7, o7, ha7, hcc⟩ := HR7.out.cellAt (j := j) hj
   cases ha7
   rw [hm] at hcc hnx
   replace hcc := cell_keep hbw.out hcc
   have hqo := cell_keep hbw.out (HY.out m _ (arr24_at zs (by omega))).1
   have hio := HIB.out (m : Int)
   clear hm
   generalize tabAt zs (m : Int) = y at hqo hio hnx
   have n2 : (0 : Int) ≤ (m : Int) := by omega
   have l2 : (m : Int) < 24 := by omega
   go_wp2_with (go_at_call 127; refine (max_impl z y _).mono ?_; rintro e wx ⟨rfl, hb⟩)
   have HBX := Lib.hid (hbw.out.trans (hb.mono hbw.out.size))
   clear hb
   go_roundw
   case rel => exact ⟨j + 1, max z y, by omega, by go_num, rfl, by show _ = _; rw [hnx.out, ← hz.out], by omega, by omega, HBX⟩
   case measure => simp [intOf]; omega
  ·have j1 : ¬ (j : Int) < (r.kids.length : Int) := by omega
   have hzz : Hid (z + 1 = depthStep zs r) := by show _ = _; have := hz.out; rw [List.take_of_length_le (by omega)] at this; rw [this]; rfl
   have HBX := Lib.hid (HB.out.trans (hbw.out.mono HB.out.size))
   clear hbw
   go_wp2
   go_ret
   exact ⟨ret_int hzz.out, HBX.out⟩
end Go.Proofs.Ytfmnjclnhppghaa
