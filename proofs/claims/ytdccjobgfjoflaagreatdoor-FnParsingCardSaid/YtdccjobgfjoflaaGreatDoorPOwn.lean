/- The contract of the model's l9Own. -/
import Derived.Test.YtdccjobgfjoflaaGreatDoorPGI
import Derived.Test.YtdccjobgfjoflaaGreatDoorPGP
import Derived.Test.YtdccjobgfjoflaaGreatDoorPGX
import Derived.Test.YtdccjobgfjoflaaGreatDoorPGDI
import Derived.Deep.RegionHeld3
import Derived.Deep.CutRange
import Derived.IntWalk
set_option maxRecDepth 100000
set_option maxHeartbeats 8000000
namespace Go.Proofs.YtdccjobgfjoflaaGreatDoor
open Go Go.RowKit
private theorem tk {P : Program} {ops : Array Oper} {Q : Exit → Act → World → Prop} {md : Region.Mode} {S : World → Prop} (i : Nat) {oi : Oper} {v : Value} {fuel : Nat} {listed : Array Bool} {a : Act} {w : World} (hi : ops[i]? = some oi := by simp only [List.getElem?_toArray, List.getElem?_cons_succ, List.getElem?_cons_zero]; rfl)
 (hs : Region.noSelect ops = true := by kernel_rfl) (hf : Region.free md ops listed i = true := by kernel_rfl) (hr : (Region.ready md ops listed).contains i = true := by kernel_rfl)
 (hQ : ∀ c a w, Q (.panic c) (a.put oi.dst v) w → Q (.panic c) a w := by exact fun _ _ _ h => h) (hy : YieldsIf P ops S oi v a) (hS : S w := by assumption)
 (h : wpAnyH P md ops Q S fuel (listed.setIfInBounds i true) (a.put oi.dst v) w) : wpAnyH P md ops Q S (fuel + 1) listed a w := wpAnyH_take hi hs hf hr hQ hy hS h
theorem own_1 (a : Option Addr) (rs : List RuleV) (cap : Nat) (r : RuleV) (cs vs : List Value) (v : ValueV) (n : Nat) (w : World) (_hl : rs.length ≤ 1048576) (hrd : RdR a rs w) (hki : kindI rs r = true) (h : IsRule r cs w) (hv : IsVal (n + 1) v vs w) (hk : r.kind = 1) :
  Calls Tryz.prog 178 #[.agg #[.slice a rs.length cap], .agg cs.toArray, .agg vs.toArray] w fun e w' => e = .returned (.bool (ownB rs r v)) ∧ Below w.heap.size w w' := by
 obtain ⟨a4, c4, a5, c5, a6, c6, a7, c7, rfl, h4, h5, h6, h7⟩ := h
 obtain ⟨ab, cb, ai, ci, rfl, -, -⟩ := hv
 have hres : Hid (ownB rs r v = (decide (0 ≤ v.number ∧ v.number ≤ pow256 r.size - 1) && (decide (v.bytes.length = 0) && decide (v.items.length = 0)))) := by show _ = _; unfold ownB; simp [hk]
 obtain ⟨x, hx⟩ : ∃ x, x = v.number := ⟨_, rfl⟩
 obtain ⟨bl, hbl⟩ : ∃ bl, bl = v.bytes.length := ⟨_, rfl⟩
 obtain ⟨il, hil⟩ : ∃ il, il = v.items.length := ⟨_, rfl⟩
 rw [← hx, ← hbl, ← hil]
 rw [← hx, ← hbl, ← hil] at hres
 have HX := kq hx
 clear hx hbl hil
 obtain ⟨w0, hw0⟩ : ∃ w0, w0 = ((w.alloc (.cells #[.slice a rs.length cap] 26)).alloc (.cells #[.string r.name, .int .i64 r.kind, .int .i64 r.size, .bool r.little, .slice a4 r.bytes.length c4, .slice a5 r.names.length c5, .slice a6 r.tags.length c6, .slice a7 r.kids.length c7] 42)).alloc (.cells #[.int .i64 x, .slice ab bl cb, .slice ai il ci] 29) := ⟨_, rfl⟩
 have hB : Below w.heap.size w w0 := by subst hw0; exact (((Below.refl _ _).alloc (Nat.le_refl _) _).alloc (by simp) _).alloc (by simp; omega) _
 have HD : Hid (CellsAt w.heap.size [.slice a rs.length cap] w0) := by subst hw0; exact ((CellsAt.new w _ _).below ((Below.refl _ _).alloc (Nat.le_refl _) _)).below ((Below.refl _ _).alloc (Nat.le_refl _) _)
 have HC : Hid (CellsAt (w.heap.size + 1) [.string r.name, .int .i64 r.kind, .int .i64 r.size, .bool r.little, .slice a4 r.bytes.length c4, .slice a5 r.names.length c5, .slice a6 r.tags.length c6, .slice a7 r.kids.length c7] w0) := by subst hw0; have h1 := CellsAt.new (w.alloc (.cells #[.slice a rs.length cap] 26)) [.string r.name, .int .i64 r.kind, .int .i64 r.size, .bool r.little, .slice a4 r.bytes.length c4, .slice a5 r.names.length c5, .slice a6 r.tags.length c6, .slice a7 r.kids.length c7] 42; rw [World.size_alloc] at h1; exact h1.below ((Below.refl _ _).alloc (Nat.le_refl _) _)
 have HVC : Hid (CellsAt (w.heap.size + 2) [.int .i64 x, .slice ab bl cb, .slice ai il ci] w0) := by subst hw0; have h1 := CellsAt.new ((w.alloc (.cells #[.slice a rs.length cap] 26)).alloc (.cells #[.string r.name, .int .i64 r.kind, .int .i64 r.size, .bool r.little, .slice a4 r.bytes.length c4, .slice a5 r.names.length c5, .slice a6 r.tags.length c6, .slice a7 r.kids.length c7] 42)) [.int .i64 x, .slice ab bl cb, .slice ai il ci] 29; rw [World.size_alloc, World.size_alloc] at h1; exact h1
 have HR7 := kq (h7.below hB)
 have HRD := kq (hrd.below hB)
 have HIS : Hid (IsRule r [.string r.name, .int .i64 r.kind, .int .i64 r.size, .bool r.little, .slice a4 r.bytes.length c4, .slice a5 r.names.length c5, .slice a6 r.tags.length c6, .slice a7 r.kids.length c7] w0) := ⟨a4, c4, a5, c5, a6, c6, a7, c7, rfl, h4.below hB, h5.below hB, h6.below hB, h7.below hB⟩
 have HB := kq hB
 have HKI := kq hki
 have hW := kq hw0
 have HKK := kq hk
 have z0 := (HVC.out 0 _ rfl).1
 have z1 := (HVC.out 1 _ rfl).1
 have z2 := (HVC.out 2 _ rfl).1
 have y1 := (HC.out 1 _ rfl).1
 rw [hk] at y1
 clear hB hki hw0 h4 h5 h6 h7 hrd
 have hsz := kindI_size HKI.out hk
 have y2 := (HC.out 2 _ rfl).1
 obtain ⟨P, hP⟩ : ∃ P, P = pow256 r.size := ⟨_, rfl⟩
 have P0 : 256 ≤ P := by rw [hP]; exact (pow256_bounds r.size).1
 have P1 : P ≤ 4294967296 := by rw [hP]; exact (pow256_bounds r.size).2
 rw [← hP] at hres
 have HPP := kq hP
 obtain ⟨Q, hQ⟩ : ∃ Q, P - 1 = Q := ⟨_, rfl⟩
 rw [hQ] at hres
 have hQ0 : IntKind.i64.wrap Q = Q := IntWalk.i64_in _ (by omega)
 have hs1 := hsz.1
 have hs2 := hsz.2
 obtain ⟨sz, hszz⟩ : ∃ sz, sz = r.size := ⟨_, rfl⟩
 rw [← hszz] at y2 hs1 hs2
 have HSZ := kq hszz
 clear hP hsz hszz
 clear hk
 by_cases g1 : 0 ≤ x ∧ x ≤ Q
 ·have e1 : (0 ≤ x ∧ x ≤ Q) := by omega
  have hd1 := decide_eq_true g1
  by_cases g2 : bl = 0
  ·have e2 : ((bl : Int) == 0) = true := by simp; omega
   by_cases g3 : il = 0
   ·have e3 : ((il : Int) == 0) = true := by simp; omega
    have hr : Hid (ownB rs r v = true) := by show _ = _; rw [hres.out]; simp [g1, g2, g3]
    clear hres g2 g3
    go_enter Tryz.func178, Tryz.ntmps178
    go_upto_region 1 with fail
    rw [← hW.out]
    clear hW
    go_upto_region 3 with fail
    have HBW : Hid (Below w0.heap.size w0 w0.drew) := below_drewN (Below.refl _ w0) 1
    have HSW : Hid (∀ W, Below w0.heap.size w0 W → W.cell? ⟨w.heap.size + 2, 0, none⟩ = some (.int .i64 x) ∧ W.cell? ⟨w.heap.size + 2, 1, none⟩ = some (.slice ab bl cb) ∧ W.cell? ⟨w.heap.size + 2, 2, none⟩ = some (.slice ai il ci) ∧ W.cell? ⟨w.heap.size + 1, 2, none⟩ = some (.int .i64 sz)) := fun W hW => ⟨cell_keep hW z0, cell_keep hW z1, cell_keep hW z2, cell_keep hW y2⟩
    clear z0 z1 z2 y2
    refine wp_region_held_drew (S := (fun W => W.cell? ⟨w.heap.size + 2, 0, none⟩ = some (.int .i64 x) ∧ W.cell? ⟨w.heap.size + 2, 1, none⟩ = some (.slice ab bl cb) ∧ W.cell? ⟨w.heap.size + 2, 2, none⟩ = some (.slice ai il ci) ∧ W.cell? ⟨w.heap.size + 1, 2, none⟩ = some (.int .i64 sz))) (by kernel_rfl) ?_ (fun hHeld => ?_)
    ·(try dsimp only); exact HSW.out _ HBW.out
    refine tk 0 (v := ?v1) (hy := Or.inl ⟨by rfl, ?hy1⟩) (h := ?rest1)
    case hy1 => ((intro W hSw; (try dsimp only at hSw); go_simp); (try with_reducible rfl))
    simp only [Act.put, List.setIfInBounds_toArray, List.set_cons_zero, List.set_cons_succ]
    refine tk 1 (v := ?v2) (hy := Or.inl ⟨by rfl, ?hy2⟩) (h := ?rest2)
    case hy2 => ((intro W hSw; (try dsimp only at hSw); go_simp); (try with_reducible rfl))
    simp only [Act.put, List.setIfInBounds_toArray, List.set_cons_zero, List.set_cons_succ]
    refine tk 2 (v := ?v3) (hy := Or.inl ⟨by rfl, ?hy3⟩) (h := ?rest3)
    case hy3 => ((intro W hSw; (try dsimp only at hSw); go_simp); (try with_reducible rfl))
    simp only [Act.put, List.setIfInBounds_toArray, List.set_cons_zero, List.set_cons_succ]
    refine tk 3 (v := ?v4) (hy := Or.inl ⟨by rfl, ?hy4⟩) (h := ?rest4)
    case hy4 => ((intro W hSw; (try dsimp only at hSw); go_simp); (try with_reducible rfl))
    simp only [Act.put, List.setIfInBounds_toArray, List.set_cons_zero, List.set_cons_succ]
    refine wpAnyH_ready (rs := [4]) (by kernel_rfl) (by simp) ?_
    refine AllReadyH.cons (by simp only [List.getElem?_toArray, List.getElem?_cons_succ, List.getElem?_cons_zero]; rfl) (fun K hK => ?_) AllReadyH.nil
    go_simp
    (go_at_call 76; refine (power_spec sz _ (by omega) (by omega)).mono ?_; rintro e wx ⟨rfl, rfl⟩; rw [show pow256 sz = P from by rw [HPP.out, HSZ.out]])
    go_wp2_with fail
    refine hK.out _ _ ?_ (fun hHeld => ?_)
    ·(try dsimp only); exact HSW.out _ HBW.out
    clear hK K
    refine tk 5 (v := ?v5) (hy := Or.inl ⟨by rfl, ?hy5⟩) (h := ?rest5)
    case hy5 => ((intro W hSw; (try dsimp only at hSw); go_simp); (try with_reducible rfl))
    simp only [Act.put, List.setIfInBounds_toArray, List.set_cons_zero, List.set_cons_succ]
    refine wpAnyH_ready (rs := [6]) (by kernel_rfl) (by simp) ?_
    refine AllReadyH.cons (by simp only [List.getElem?_toArray, List.getElem?_cons_succ, List.getElem?_cons_zero]; rfl) (fun K hK => ?_) AllReadyH.nil
    go_simp
    (go_at_call 71; refine (in_any _ _ _ true _ hd1).mono ?_; rintro e wx ⟨rfl, rfl⟩)
    go_wp2_with fail
    refine hK.out _ _ ?_ (fun hHeld => ?_)
    ·(try dsimp only); exact HSW.out _ HBW.out
    clear hK K
    refine tk 7 (v := ?v6) (hy := Or.inl ⟨by rfl, ?hy6⟩) (h := ?rest6)
    case hy6 => ((intro W hSw; (try dsimp only at hSw); go_simp); (try with_reducible rfl))
    simp only [Act.put, List.setIfInBounds_toArray, List.set_cons_zero, List.set_cons_succ]
    refine tk 8 (v := ?v7) (hy := Or.inl ⟨by rfl, ?hy7⟩) (h := ?rest7)
    case hy7 => ((intro W hSw; (try dsimp only at hSw); go_simp); (try with_reducible rfl))
    simp only [Act.put, List.setIfInBounds_toArray, List.set_cons_zero, List.set_cons_succ]
    refine tk 9 (v := ?v8) (hy := Or.inl ⟨by rfl, ?hy8⟩) (h := ?rest8)
    case hy8 => ((intro W hSw; (try dsimp only at hSw); go_simp); (try with_reducible rfl))
    simp only [Act.put, List.setIfInBounds_toArray, List.set_cons_zero, List.set_cons_succ]
    refine tk 10 (v := ?v9) (hy := Or.inl ⟨by rfl, ?hy9⟩) (h := ?rest9)
    case hy9 => ((intro W hSw; (try dsimp only at hSw); go_simp); (try with_reducible rfl))
    simp only [Act.put, List.setIfInBounds_toArray, List.set_cons_zero, List.set_cons_succ]
    refine tk 11 (v := ?v10) (hy := Or.inl ⟨by rfl, ?hy10⟩) (h := ?rest10)
    case hy10 => ((intro W hSw; (try dsimp only at hSw); go_simp); (try with_reducible rfl))
    simp only [Act.put, List.setIfInBounds_toArray, List.set_cons_zero, List.set_cons_succ]
    refine tk 12 (v := ?v11) (hy := Or.inl ⟨by rfl, ?hy11⟩) (h := ?rest11)
    case hy11 => ((intro W hSw; (try dsimp only at hSw); go_simp); (try with_reducible rfl))
    simp only [Act.put, List.setIfInBounds_toArray, List.set_cons_zero, List.set_cons_succ]
    refine tk 13 (v := ?v12) (hy := Or.inl ⟨by rfl, ?hy12⟩) (h := ?rest12)
    case hy12 => ((intro W hSw; (try dsimp only at hSw); go_simp); (try with_reducible rfl))
    simp only [Act.put, List.setIfInBounds_toArray, List.set_cons_zero, List.set_cons_succ]
    refine tk 14 (v := ?v13) (hy := Or.inl ⟨by rfl, ?hy13⟩) (h := ?rest13)
    case hy13 => ((intro W hSw; (try dsimp only at hSw); go_simp); (try with_reducible rfl))
    simp only [Act.put, List.setIfInBounds_toArray, List.set_cons_zero, List.set_cons_succ]
    refine tk 15 (v := ?v14) (hy := Or.inl ⟨by rfl, ?hy14⟩) (h := ?rest14)
    case hy14 => ((intro W hSw; (try dsimp only at hSw); go_simp); (try with_reducible rfl))
    simp only [Act.put, List.setIfInBounds_toArray, List.set_cons_zero, List.set_cons_succ]
    refine tk 16 (v := ?v15) (hy := Or.inl ⟨by rfl, ?hy15⟩) (h := ?rest15)
    case hy15 => ((intro W hSw; (try dsimp only at hSw); go_simp); (try with_reducible rfl))
    simp only [Act.put, List.setIfInBounds_toArray, List.set_cons_zero, List.set_cons_succ]
    refine tk 17 (v := ?v16) (hy := Or.inl ⟨by rfl, ?hy16⟩) (h := ?rest16)
    case hy16 => ((intro W hSw; (try dsimp only at hSw); go_simp); (try with_reducible rfl))
    simp only [Act.put, List.setIfInBounds_toArray, List.set_cons_zero, List.set_cons_succ]
    refine tk 18 (v := ?v17) (hy := Or.inl ⟨by rfl, ?hy17⟩) (h := ?rest17)
    case hy17 => ((intro W hSw; (try dsimp only at hSw); go_simp); (try with_reducible rfl))
    simp only [Act.put, List.setIfInBounds_toArray, List.set_cons_zero, List.set_cons_succ]
    refine tk 19 (v := ?v18) (hy := Or.inl ⟨by rfl, ?hy18⟩) (h := ?rest18)
    case hy18 => ((intro W hSw; (try dsimp only at hSw); go_simp); (try with_reducible rfl))
    simp only [Act.put, List.setIfInBounds_toArray, List.set_cons_zero, List.set_cons_succ]
    refine wpAnyH_done (by kernel_rfl) ?_ _
    have HBF := kq (HB.out.trans (HBW.out.mono HB.out.size))
    go_wp2
    go_ret
    exact ⟨ret_bool (by first | exact hr.out.symm | (rw [hr.out]; exact decide_eq_true (by omega)) | (rw [hr.out]; exact decide_eq_false (by omega))), HBF.out⟩
   ·have e3 : ((il : Int) == 0) = false := by simp; omega
    have hr : Hid (ownB rs r v = false) := by show _ = _; rw [hres.out]; simp [g1, g2, g3]
    clear hres g2 g3
    go_enter Tryz.func178, Tryz.ntmps178
    go_upto_region 1 with fail
    rw [← hW.out]
    clear hW
    go_upto_region 3 with fail
    have HBW : Hid (Below w0.heap.size w0 w0.drew) := below_drewN (Below.refl _ w0) 1
    have HSW : Hid (∀ W, Below w0.heap.size w0 W → W.cell? ⟨w.heap.size + 2, 0, none⟩ = some (.int .i64 x) ∧ W.cell? ⟨w.heap.size + 2, 1, none⟩ = some (.slice ab bl cb) ∧ W.cell? ⟨w.heap.size + 2, 2, none⟩ = some (.slice ai il ci) ∧ W.cell? ⟨w.heap.size + 1, 2, none⟩ = some (.int .i64 sz)) := fun W hW => ⟨cell_keep hW z0, cell_keep hW z1, cell_keep hW z2, cell_keep hW y2⟩
    clear z0 z1 z2 y2
    refine wp_region_held_drew (S := (fun W => W.cell? ⟨w.heap.size + 2, 0, none⟩ = some (.int .i64 x) ∧ W.cell? ⟨w.heap.size + 2, 1, none⟩ = some (.slice ab bl cb) ∧ W.cell? ⟨w.heap.size + 2, 2, none⟩ = some (.slice ai il ci) ∧ W.cell? ⟨w.heap.size + 1, 2, none⟩ = some (.int .i64 sz))) (by kernel_rfl) ?_ (fun hHeld => ?_)
    ·(try dsimp only); exact HSW.out _ HBW.out
    refine tk 0 (v := ?v19) (hy := Or.inl ⟨by rfl, ?hy19⟩) (h := ?rest19)
    case hy19 => ((intro W hSw; (try dsimp only at hSw); go_simp); (try with_reducible rfl))
    simp only [Act.put, List.setIfInBounds_toArray, List.set_cons_zero, List.set_cons_succ]
    refine tk 1 (v := ?v20) (hy := Or.inl ⟨by rfl, ?hy20⟩) (h := ?rest20)
    case hy20 => ((intro W hSw; (try dsimp only at hSw); go_simp); (try with_reducible rfl))
    simp only [Act.put, List.setIfInBounds_toArray, List.set_cons_zero, List.set_cons_succ]
    refine tk 2 (v := ?v21) (hy := Or.inl ⟨by rfl, ?hy21⟩) (h := ?rest21)
    case hy21 => ((intro W hSw; (try dsimp only at hSw); go_simp); (try with_reducible rfl))
    simp only [Act.put, List.setIfInBounds_toArray, List.set_cons_zero, List.set_cons_succ]
    refine tk 3 (v := ?v22) (hy := Or.inl ⟨by rfl, ?hy22⟩) (h := ?rest22)
    case hy22 => ((intro W hSw; (try dsimp only at hSw); go_simp); (try with_reducible rfl))
    simp only [Act.put, List.setIfInBounds_toArray, List.set_cons_zero, List.set_cons_succ]
    refine wpAnyH_ready (rs := [4]) (by kernel_rfl) (by simp) ?_
    refine AllReadyH.cons (by simp only [List.getElem?_toArray, List.getElem?_cons_succ, List.getElem?_cons_zero]; rfl) (fun K hK => ?_) AllReadyH.nil
    go_simp
    (go_at_call 76; refine (power_spec sz _ (by omega) (by omega)).mono ?_; rintro e wx ⟨rfl, rfl⟩; rw [show pow256 sz = P from by rw [HPP.out, HSZ.out]])
    go_wp2_with fail
    refine hK.out _ _ ?_ (fun hHeld => ?_)
    ·(try dsimp only); exact HSW.out _ HBW.out
    clear hK K
    refine tk 5 (v := ?v23) (hy := Or.inl ⟨by rfl, ?hy23⟩) (h := ?rest23)
    case hy23 => ((intro W hSw; (try dsimp only at hSw); go_simp); (try with_reducible rfl))
    simp only [Act.put, List.setIfInBounds_toArray, List.set_cons_zero, List.set_cons_succ]
    refine wpAnyH_ready (rs := [6]) (by kernel_rfl) (by simp) ?_
    refine AllReadyH.cons (by simp only [List.getElem?_toArray, List.getElem?_cons_succ, List.getElem?_cons_zero]; rfl) (fun K hK => ?_) AllReadyH.nil
    go_simp
    (go_at_call 71; refine (in_any _ _ _ true _ hd1).mono ?_; rintro e wx ⟨rfl, rfl⟩)
    go_wp2_with fail
    refine hK.out _ _ ?_ (fun hHeld => ?_)
    ·(try dsimp only); exact HSW.out _ HBW.out
    clear hK K
    refine tk 7 (v := ?v24) (hy := Or.inl ⟨by rfl, ?hy24⟩) (h := ?rest24)
    case hy24 => ((intro W hSw; (try dsimp only at hSw); go_simp); (try with_reducible rfl))
    simp only [Act.put, List.setIfInBounds_toArray, List.set_cons_zero, List.set_cons_succ]
    refine tk 8 (v := ?v25) (hy := Or.inl ⟨by rfl, ?hy25⟩) (h := ?rest25)
    case hy25 => ((intro W hSw; (try dsimp only at hSw); go_simp); (try with_reducible rfl))
    simp only [Act.put, List.setIfInBounds_toArray, List.set_cons_zero, List.set_cons_succ]
    refine tk 9 (v := ?v26) (hy := Or.inl ⟨by rfl, ?hy26⟩) (h := ?rest26)
    case hy26 => ((intro W hSw; (try dsimp only at hSw); go_simp); (try with_reducible rfl))
    simp only [Act.put, List.setIfInBounds_toArray, List.set_cons_zero, List.set_cons_succ]
    refine tk 10 (v := ?v27) (hy := Or.inl ⟨by rfl, ?hy27⟩) (h := ?rest27)
    case hy27 => ((intro W hSw; (try dsimp only at hSw); go_simp); (try with_reducible rfl))
    simp only [Act.put, List.setIfInBounds_toArray, List.set_cons_zero, List.set_cons_succ]
    refine tk 11 (v := ?v28) (hy := Or.inl ⟨by rfl, ?hy28⟩) (h := ?rest28)
    case hy28 => ((intro W hSw; (try dsimp only at hSw); go_simp); (try with_reducible rfl))
    simp only [Act.put, List.setIfInBounds_toArray, List.set_cons_zero, List.set_cons_succ]
    refine tk 12 (v := ?v29) (hy := Or.inl ⟨by rfl, ?hy29⟩) (h := ?rest29)
    case hy29 => ((intro W hSw; (try dsimp only at hSw); go_simp); (try with_reducible rfl))
    simp only [Act.put, List.setIfInBounds_toArray, List.set_cons_zero, List.set_cons_succ]
    refine tk 13 (v := ?v30) (hy := Or.inl ⟨by rfl, ?hy30⟩) (h := ?rest30)
    case hy30 => ((intro W hSw; (try dsimp only at hSw); go_simp); (try with_reducible rfl))
    simp only [Act.put, List.setIfInBounds_toArray, List.set_cons_zero, List.set_cons_succ]
    refine tk 14 (v := ?v31) (hy := Or.inl ⟨by rfl, ?hy31⟩) (h := ?rest31)
    case hy31 => ((intro W hSw; (try dsimp only at hSw); go_simp); (try with_reducible rfl))
    simp only [Act.put, List.setIfInBounds_toArray, List.set_cons_zero, List.set_cons_succ]
    refine tk 15 (v := ?v32) (hy := Or.inl ⟨by rfl, ?hy32⟩) (h := ?rest32)
    case hy32 => ((intro W hSw; (try dsimp only at hSw); go_simp); (try with_reducible rfl))
    simp only [Act.put, List.setIfInBounds_toArray, List.set_cons_zero, List.set_cons_succ]
    refine tk 16 (v := ?v33) (hy := Or.inl ⟨by rfl, ?hy33⟩) (h := ?rest33)
    case hy33 => ((intro W hSw; (try dsimp only at hSw); go_simp); (try with_reducible rfl))
    simp only [Act.put, List.setIfInBounds_toArray, List.set_cons_zero, List.set_cons_succ]
    refine tk 17 (v := ?v34) (hy := Or.inl ⟨by rfl, ?hy34⟩) (h := ?rest34)
    case hy34 => ((intro W hSw; (try dsimp only at hSw); go_simp); (try with_reducible rfl))
    simp only [Act.put, List.setIfInBounds_toArray, List.set_cons_zero, List.set_cons_succ]
    refine tk 18 (v := ?v35) (hy := Or.inl ⟨by rfl, ?hy35⟩) (h := ?rest35)
    case hy35 => ((intro W hSw; (try dsimp only at hSw); go_simp); (try with_reducible rfl))
    simp only [Act.put, List.setIfInBounds_toArray, List.set_cons_zero, List.set_cons_succ]
    refine tk 19 (v := ?v36) (hy := Or.inl ⟨by rfl, ?hy36⟩) (h := ?rest36)
    case hy36 => ((intro W hSw; (try dsimp only at hSw); go_simp); (try with_reducible rfl))
    simp only [Act.put, List.setIfInBounds_toArray, List.set_cons_zero, List.set_cons_succ]
    refine wpAnyH_done (by kernel_rfl) ?_ _
    have HBF := kq (HB.out.trans (HBW.out.mono HB.out.size))
    go_wp2
    go_ret
    exact ⟨ret_bool (by first | exact hr.out.symm | (rw [hr.out]; exact decide_eq_true (by omega)) | (rw [hr.out]; exact decide_eq_false (by omega))), HBF.out⟩
  ·have e2 : ((bl : Int) == 0) = false := by simp; omega
   have hr : Hid (ownB rs r v = false) := by show _ = _; rw [hres.out]; simp [g1, g2]
   clear hres g2
   go_enter Tryz.func178, Tryz.ntmps178
   go_upto_region 1 with fail
   rw [← hW.out]
   clear hW
   go_upto_region 3 with fail
   have HBW : Hid (Below w0.heap.size w0 w0.drew) := below_drewN (Below.refl _ w0) 1
   have HSW : Hid (∀ W, Below w0.heap.size w0 W → W.cell? ⟨w.heap.size + 2, 0, none⟩ = some (.int .i64 x) ∧ W.cell? ⟨w.heap.size + 2, 1, none⟩ = some (.slice ab bl cb) ∧ W.cell? ⟨w.heap.size + 2, 2, none⟩ = some (.slice ai il ci) ∧ W.cell? ⟨w.heap.size + 1, 2, none⟩ = some (.int .i64 sz)) := fun W hW => ⟨cell_keep hW z0, cell_keep hW z1, cell_keep hW z2, cell_keep hW y2⟩
   clear z0 z1 z2 y2
   refine wp_region_held_drew (S := (fun W => W.cell? ⟨w.heap.size + 2, 0, none⟩ = some (.int .i64 x) ∧ W.cell? ⟨w.heap.size + 2, 1, none⟩ = some (.slice ab bl cb) ∧ W.cell? ⟨w.heap.size + 2, 2, none⟩ = some (.slice ai il ci) ∧ W.cell? ⟨w.heap.size + 1, 2, none⟩ = some (.int .i64 sz))) (by kernel_rfl) ?_ (fun hHeld => ?_)
   ·(try dsimp only); exact HSW.out _ HBW.out
   refine tk 0 (v := ?v37) (hy := Or.inl ⟨by rfl, ?hy37⟩) (h := ?rest37)
   case hy37 => ((intro W hSw; (try dsimp only at hSw); go_simp); (try with_reducible rfl))
   simp only [Act.put, List.setIfInBounds_toArray, List.set_cons_zero, List.set_cons_succ]
   refine tk 1 (v := ?v38) (hy := Or.inl ⟨by rfl, ?hy38⟩) (h := ?rest38)
   case hy38 => ((intro W hSw; (try dsimp only at hSw); go_simp); (try with_reducible rfl))
   simp only [Act.put, List.setIfInBounds_toArray, List.set_cons_zero, List.set_cons_succ]
   refine tk 2 (v := ?v39) (hy := Or.inl ⟨by rfl, ?hy39⟩) (h := ?rest39)
   case hy39 => ((intro W hSw; (try dsimp only at hSw); go_simp); (try with_reducible rfl))
   simp only [Act.put, List.setIfInBounds_toArray, List.set_cons_zero, List.set_cons_succ]
   refine tk 3 (v := ?v40) (hy := Or.inl ⟨by rfl, ?hy40⟩) (h := ?rest40)
   case hy40 => ((intro W hSw; (try dsimp only at hSw); go_simp); (try with_reducible rfl))
   simp only [Act.put, List.setIfInBounds_toArray, List.set_cons_zero, List.set_cons_succ]
   refine wpAnyH_ready (rs := [4]) (by kernel_rfl) (by simp) ?_
   refine AllReadyH.cons (by simp only [List.getElem?_toArray, List.getElem?_cons_succ, List.getElem?_cons_zero]; rfl) (fun K hK => ?_) AllReadyH.nil
   go_simp
   (go_at_call 76; refine (power_spec sz _ (by omega) (by omega)).mono ?_; rintro e wx ⟨rfl, rfl⟩; rw [show pow256 sz = P from by rw [HPP.out, HSZ.out]])
   go_wp2_with fail
   refine hK.out _ _ ?_ (fun hHeld => ?_)
   ·(try dsimp only); exact HSW.out _ HBW.out
   clear hK K
   refine tk 5 (v := ?v41) (hy := Or.inl ⟨by rfl, ?hy41⟩) (h := ?rest41)
   case hy41 => ((intro W hSw; (try dsimp only at hSw); go_simp); (try with_reducible rfl))
   simp only [Act.put, List.setIfInBounds_toArray, List.set_cons_zero, List.set_cons_succ]
   refine wpAnyH_ready (rs := [6]) (by kernel_rfl) (by simp) ?_
   refine AllReadyH.cons (by simp only [List.getElem?_toArray, List.getElem?_cons_succ, List.getElem?_cons_zero]; rfl) (fun K hK => ?_) AllReadyH.nil
   go_simp
   (go_at_call 71; refine (in_any _ _ _ true _ hd1).mono ?_; rintro e wx ⟨rfl, rfl⟩)
   go_wp2_with fail
   refine hK.out _ _ ?_ (fun hHeld => ?_)
   ·(try dsimp only); exact HSW.out _ HBW.out
   clear hK K
   refine tk 7 (v := ?v42) (hy := Or.inl ⟨by rfl, ?hy42⟩) (h := ?rest42)
   case hy42 => ((intro W hSw; (try dsimp only at hSw); go_simp); (try with_reducible rfl))
   simp only [Act.put, List.setIfInBounds_toArray, List.set_cons_zero, List.set_cons_succ]
   refine tk 8 (v := ?v43) (hy := Or.inl ⟨by rfl, ?hy43⟩) (h := ?rest43)
   case hy43 => ((intro W hSw; (try dsimp only at hSw); go_simp); (try with_reducible rfl))
   simp only [Act.put, List.setIfInBounds_toArray, List.set_cons_zero, List.set_cons_succ]
   refine tk 9 (v := ?v44) (hy := Or.inl ⟨by rfl, ?hy44⟩) (h := ?rest44)
   case hy44 => ((intro W hSw; (try dsimp only at hSw); go_simp); (try with_reducible rfl))
   simp only [Act.put, List.setIfInBounds_toArray, List.set_cons_zero, List.set_cons_succ]
   refine tk 10 (v := ?v45) (hy := Or.inl ⟨by rfl, ?hy45⟩) (h := ?rest45)
   case hy45 => ((intro W hSw; (try dsimp only at hSw); go_simp); (try with_reducible rfl))
   simp only [Act.put, List.setIfInBounds_toArray, List.set_cons_zero, List.set_cons_succ]
   refine tk 11 (v := ?v46) (hy := Or.inl ⟨by rfl, ?hy46⟩) (h := ?rest46)
   case hy46 => ((intro W hSw; (try dsimp only at hSw); go_simp); (try with_reducible rfl))
   simp only [Act.put, List.setIfInBounds_toArray, List.set_cons_zero, List.set_cons_succ]
   refine tk 12 (v := ?v47) (hy := Or.inl ⟨by rfl, ?hy47⟩) (h := ?rest47)
   case hy47 => ((intro W hSw; (try dsimp only at hSw); go_simp); (try with_reducible rfl))
   simp only [Act.put, List.setIfInBounds_toArray, List.set_cons_zero, List.set_cons_succ]
   refine tk 13 (v := ?v48) (hy := Or.inl ⟨by rfl, ?hy48⟩) (h := ?rest48)
   case hy48 => ((intro W hSw; (try dsimp only at hSw); go_simp); (try with_reducible rfl))
   simp only [Act.put, List.setIfInBounds_toArray, List.set_cons_zero, List.set_cons_succ]
   refine tk 14 (v := undef) (hy := Or.inr ⟨by rfl, rfl⟩) (h := ?_)
   simp only [Act.put, List.setIfInBounds_toArray, List.set_cons_zero, List.set_cons_succ]
   refine tk 15 (v := undef) (hy := Or.inr ⟨by rfl, rfl⟩) (h := ?_)
   simp only [Act.put, List.setIfInBounds_toArray, List.set_cons_zero, List.set_cons_succ]
   refine tk 16 (v := undef) (hy := Or.inr ⟨by rfl, rfl⟩) (h := ?_)
   simp only [Act.put, List.setIfInBounds_toArray, List.set_cons_zero, List.set_cons_succ]
   refine tk 17 (v := undef) (hy := Or.inr ⟨by rfl, rfl⟩) (h := ?_)
   simp only [Act.put, List.setIfInBounds_toArray, List.set_cons_zero, List.set_cons_succ]
   refine tk 18 (v := ?v49) (hy := Or.inl ⟨by rfl, ?hy49⟩) (h := ?rest49)
   case hy49 => ((intro W hSw; (try dsimp only at hSw); go_simp); (try with_reducible rfl))
   simp only [Act.put, List.setIfInBounds_toArray, List.set_cons_zero, List.set_cons_succ]
   refine tk 19 (v := ?v50) (hy := Or.inl ⟨by rfl, ?hy50⟩) (h := ?rest50)
   case hy50 => ((intro W hSw; (try dsimp only at hSw); go_simp); (try with_reducible rfl))
   simp only [Act.put, List.setIfInBounds_toArray, List.set_cons_zero, List.set_cons_succ]
   refine wpAnyH_done (by kernel_rfl) ?_ _
   have HBF := kq (HB.out.trans (HBW.out.mono HB.out.size))
   go_wp2
   go_ret
   exact ⟨ret_bool (by first | exact hr.out.symm | (rw [hr.out]; exact decide_eq_true (by omega)) | (rw [hr.out]; exact decide_eq_false (by omega))), HBF.out⟩
 ·have e1 : ¬ (0 ≤ x ∧ x ≤ Q) := by omega
  have hd1 := decide_eq_false g1
  have hr : Hid (ownB rs r v = false) := by show _ = _; rw [hres.out]; simp [g1]
  clear hres
  go_enter Tryz.func178, Tryz.ntmps178
  go_upto_region 1 with fail
  rw [← hW.out]
  clear hW
  go_upto_region 3 with fail
  have HBW : Hid (Below w0.heap.size w0 w0.drew) := below_drewN (Below.refl _ w0) 1
  have HSW : Hid (∀ W, Below w0.heap.size w0 W → W.cell? ⟨w.heap.size + 2, 0, none⟩ = some (.int .i64 x) ∧ W.cell? ⟨w.heap.size + 2, 1, none⟩ = some (.slice ab bl cb) ∧ W.cell? ⟨w.heap.size + 2, 2, none⟩ = some (.slice ai il ci) ∧ W.cell? ⟨w.heap.size + 1, 2, none⟩ = some (.int .i64 sz)) := fun W hW => ⟨cell_keep hW z0, cell_keep hW z1, cell_keep hW z2, cell_keep hW y2⟩
  clear z0 z1 z2 y2
  refine wp_region_held_drew (S := (fun W => W.cell? ⟨w.heap.size + 2, 0, none⟩ = some (.int .i64 x) ∧ W.cell? ⟨w.heap.size + 2, 1, none⟩ = some (.slice ab bl cb) ∧ W.cell? ⟨w.heap.size + 2, 2, none⟩ = some (.slice ai il ci) ∧ W.cell? ⟨w.heap.size + 1, 2, none⟩ = some (.int .i64 sz))) (by kernel_rfl) ?_ (fun hHeld => ?_)
  ·(try dsimp only); exact HSW.out _ HBW.out
  refine tk 0 (v := ?v51) (hy := Or.inl ⟨by rfl, ?hy51⟩) (h := ?rest51)
  case hy51 => ((intro W hSw; (try dsimp only at hSw); go_simp); (try with_reducible rfl))
  simp only [Act.put, List.setIfInBounds_toArray, List.set_cons_zero, List.set_cons_succ]
  refine tk 1 (v := ?v52) (hy := Or.inl ⟨by rfl, ?hy52⟩) (h := ?rest52)
  case hy52 => ((intro W hSw; (try dsimp only at hSw); go_simp); (try with_reducible rfl))
  simp only [Act.put, List.setIfInBounds_toArray, List.set_cons_zero, List.set_cons_succ]
  refine tk 2 (v := ?v53) (hy := Or.inl ⟨by rfl, ?hy53⟩) (h := ?rest53)
  case hy53 => ((intro W hSw; (try dsimp only at hSw); go_simp); (try with_reducible rfl))
  simp only [Act.put, List.setIfInBounds_toArray, List.set_cons_zero, List.set_cons_succ]
  refine tk 3 (v := ?v54) (hy := Or.inl ⟨by rfl, ?hy54⟩) (h := ?rest54)
  case hy54 => ((intro W hSw; (try dsimp only at hSw); go_simp); (try with_reducible rfl))
  simp only [Act.put, List.setIfInBounds_toArray, List.set_cons_zero, List.set_cons_succ]
  refine wpAnyH_ready (rs := [4]) (by kernel_rfl) (by simp) ?_
  refine AllReadyH.cons (by simp only [List.getElem?_toArray, List.getElem?_cons_succ, List.getElem?_cons_zero]; rfl) (fun K hK => ?_) AllReadyH.nil
  go_simp
  (go_at_call 76; refine (power_spec sz _ (by omega) (by omega)).mono ?_; rintro e wx ⟨rfl, rfl⟩; rw [show pow256 sz = P from by rw [HPP.out, HSZ.out]])
  go_wp2_with fail
  refine hK.out _ _ ?_ (fun hHeld => ?_)
  ·(try dsimp only); exact HSW.out _ HBW.out
  clear hK K
  refine tk 5 (v := ?v55) (hy := Or.inl ⟨by rfl, ?hy55⟩) (h := ?rest55)
  case hy55 => ((intro W hSw; (try dsimp only at hSw); go_simp); (try with_reducible rfl))
  simp only [Act.put, List.setIfInBounds_toArray, List.set_cons_zero, List.set_cons_succ]
  refine wpAnyH_ready (rs := [6]) (by kernel_rfl) (by simp) ?_
  refine AllReadyH.cons (by simp only [List.getElem?_toArray, List.getElem?_cons_succ, List.getElem?_cons_zero]; rfl) (fun K hK => ?_) AllReadyH.nil
  go_simp
  (go_at_call 71; refine (in_any _ _ _ false _ hd1).mono ?_; rintro e wx ⟨rfl, rfl⟩)
  go_wp2_with fail
  refine hK.out _ _ ?_ (fun hHeld => ?_)
  ·(try dsimp only); exact HSW.out _ HBW.out
  clear hK K
  refine tk 7 (v := ?v56) (hy := Or.inl ⟨by rfl, ?hy56⟩) (h := ?rest56)
  case hy56 => ((intro W hSw; (try dsimp only at hSw); go_simp); (try with_reducible rfl))
  simp only [Act.put, List.setIfInBounds_toArray, List.set_cons_zero, List.set_cons_succ]
  refine tk 8 (v := undef) (hy := Or.inr ⟨by rfl, rfl⟩) (h := ?_)
  simp only [Act.put, List.setIfInBounds_toArray, List.set_cons_zero, List.set_cons_succ]
  refine tk 9 (v := undef) (hy := Or.inr ⟨by rfl, rfl⟩) (h := ?_)
  simp only [Act.put, List.setIfInBounds_toArray, List.set_cons_zero, List.set_cons_succ]
  refine tk 10 (v := undef) (hy := Or.inr ⟨by rfl, rfl⟩) (h := ?_)
  simp only [Act.put, List.setIfInBounds_toArray, List.set_cons_zero, List.set_cons_succ]
  refine tk 11 (v := undef) (hy := Or.inr ⟨by rfl, rfl⟩) (h := ?_)
  simp only [Act.put, List.setIfInBounds_toArray, List.set_cons_zero, List.set_cons_succ]
  refine tk 12 (v := ?v57) (hy := Or.inl ⟨by rfl, ?hy57⟩) (h := ?rest57)
  case hy57 => ((intro W hSw; (try dsimp only at hSw); go_simp); (try with_reducible rfl))
  simp only [Act.put, List.setIfInBounds_toArray, List.set_cons_zero, List.set_cons_succ]
  refine tk 13 (v := ?v58) (hy := Or.inl ⟨by rfl, ?hy58⟩) (h := ?rest58)
  case hy58 => ((intro W hSw; (try dsimp only at hSw); go_simp); (try with_reducible rfl))
  simp only [Act.put, List.setIfInBounds_toArray, List.set_cons_zero, List.set_cons_succ]
  refine tk 14 (v := undef) (hy := Or.inr ⟨by rfl, rfl⟩) (h := ?_)
  simp only [Act.put, List.setIfInBounds_toArray, List.set_cons_zero, List.set_cons_succ]
  refine tk 15 (v := undef) (hy := Or.inr ⟨by rfl, rfl⟩) (h := ?_)
  simp only [Act.put, List.setIfInBounds_toArray, List.set_cons_zero, List.set_cons_succ]
  refine tk 16 (v := undef) (hy := Or.inr ⟨by rfl, rfl⟩) (h := ?_)
  simp only [Act.put, List.setIfInBounds_toArray, List.set_cons_zero, List.set_cons_succ]
  refine tk 17 (v := undef) (hy := Or.inr ⟨by rfl, rfl⟩) (h := ?_)
  simp only [Act.put, List.setIfInBounds_toArray, List.set_cons_zero, List.set_cons_succ]
  refine tk 18 (v := ?v59) (hy := Or.inl ⟨by rfl, ?hy59⟩) (h := ?rest59)
  case hy59 => ((intro W hSw; (try dsimp only at hSw); go_simp); (try with_reducible rfl))
  simp only [Act.put, List.setIfInBounds_toArray, List.set_cons_zero, List.set_cons_succ]
  refine tk 19 (v := ?v60) (hy := Or.inl ⟨by rfl, ?hy60⟩) (h := ?rest60)
  case hy60 => ((intro W hSw; (try dsimp only at hSw); go_simp); (try with_reducible rfl))
  simp only [Act.put, List.setIfInBounds_toArray, List.set_cons_zero, List.set_cons_succ]
  refine wpAnyH_done (by kernel_rfl) ?_ _
  have HBF := kq (HB.out.trans (HBW.out.mono HB.out.size))
  go_wp2
  go_ret
  exact ⟨ret_bool (by first | exact hr.out.symm | (rw [hr.out]; exact decide_eq_true (by omega)) | (rw [hr.out]; exact decide_eq_false (by omega))), HBF.out⟩
theorem own_2 (a : Option Addr) (rs : List RuleV) (cap : Nat) (r : RuleV) (cs vs : List Value) (v : ValueV) (n : Nat) (w : World) (_hl : rs.length ≤ 1048576) (hrd : RdR a rs w) (hki : kindI rs r = true) (h : IsRule r cs w) (hv : IsVal (n + 1) v vs w) (hk : r.kind = 2) :
  Calls Tryz.prog 178 #[.agg #[.slice a rs.length cap], .agg cs.toArray, .agg vs.toArray] w fun e w' => e = .returned (.bool (ownB rs r v)) ∧ Below w.heap.size w w' := by
 obtain ⟨a4, c4, a5, c5, a6, c6, a7, c7, rfl, h4, h5, h6, h7⟩ := h
 obtain ⟨ab, cb, ai, ci, rfl, -, -⟩ := hv
 have hres : Hid (ownB rs r v = (decide (v.number = 0) && (decide (v.bytes.length = 0) && decide (v.items.length = 0)))) := by show _ = _; unfold ownB; simp [hk]
 obtain ⟨x, hx⟩ : ∃ x, x = v.number := ⟨_, rfl⟩
 obtain ⟨bl, hbl⟩ : ∃ bl, bl = v.bytes.length := ⟨_, rfl⟩
 obtain ⟨il, hil⟩ : ∃ il, il = v.items.length := ⟨_, rfl⟩
 rw [← hx, ← hbl, ← hil]
 rw [← hx, ← hbl, ← hil] at hres
 have HX := kq hx
 clear hx hbl hil
 obtain ⟨w0, hw0⟩ : ∃ w0, w0 = ((w.alloc (.cells #[.slice a rs.length cap] 26)).alloc (.cells #[.string r.name, .int .i64 r.kind, .int .i64 r.size, .bool r.little, .slice a4 r.bytes.length c4, .slice a5 r.names.length c5, .slice a6 r.tags.length c6, .slice a7 r.kids.length c7] 42)).alloc (.cells #[.int .i64 x, .slice ab bl cb, .slice ai il ci] 29) := ⟨_, rfl⟩
 have hB : Below w.heap.size w w0 := by subst hw0; exact (((Below.refl _ _).alloc (Nat.le_refl _) _).alloc (by simp) _).alloc (by simp; omega) _
 have HD : Hid (CellsAt w.heap.size [.slice a rs.length cap] w0) := by subst hw0; exact ((CellsAt.new w _ _).below ((Below.refl _ _).alloc (Nat.le_refl _) _)).below ((Below.refl _ _).alloc (Nat.le_refl _) _)
 have HC : Hid (CellsAt (w.heap.size + 1) [.string r.name, .int .i64 r.kind, .int .i64 r.size, .bool r.little, .slice a4 r.bytes.length c4, .slice a5 r.names.length c5, .slice a6 r.tags.length c6, .slice a7 r.kids.length c7] w0) := by subst hw0; have h1 := CellsAt.new (w.alloc (.cells #[.slice a rs.length cap] 26)) [.string r.name, .int .i64 r.kind, .int .i64 r.size, .bool r.little, .slice a4 r.bytes.length c4, .slice a5 r.names.length c5, .slice a6 r.tags.length c6, .slice a7 r.kids.length c7] 42; rw [World.size_alloc] at h1; exact h1.below ((Below.refl _ _).alloc (Nat.le_refl _) _)
 have HVC : Hid (CellsAt (w.heap.size + 2) [.int .i64 x, .slice ab bl cb, .slice ai il ci] w0) := by subst hw0; have h1 := CellsAt.new ((w.alloc (.cells #[.slice a rs.length cap] 26)).alloc (.cells #[.string r.name, .int .i64 r.kind, .int .i64 r.size, .bool r.little, .slice a4 r.bytes.length c4, .slice a5 r.names.length c5, .slice a6 r.tags.length c6, .slice a7 r.kids.length c7] 42)) [.int .i64 x, .slice ab bl cb, .slice ai il ci] 29; rw [World.size_alloc, World.size_alloc] at h1; exact h1
 have HR7 := kq (h7.below hB)
 have HRD := kq (hrd.below hB)
 have HIS : Hid (IsRule r [.string r.name, .int .i64 r.kind, .int .i64 r.size, .bool r.little, .slice a4 r.bytes.length c4, .slice a5 r.names.length c5, .slice a6 r.tags.length c6, .slice a7 r.kids.length c7] w0) := ⟨a4, c4, a5, c5, a6, c6, a7, c7, rfl, h4.below hB, h5.below hB, h6.below hB, h7.below hB⟩
 have HB := kq hB
 have HKI := kq hki
 have hW := kq hw0
 have HKK := kq hk
 have z0 := (HVC.out 0 _ rfl).1
 have z1 := (HVC.out 1 _ rfl).1
 have z2 := (HVC.out 2 _ rfl).1
 have y1 := (HC.out 1 _ rfl).1
 rw [hk] at y1
 clear hB hki hw0 h4 h5 h6 h7 hrd
 clear hk
 by_cases g1 : x = 0
 ·have e1 : (x == 0) = true := by simpa using g1
  by_cases g2 : bl = 0
  ·have e2 : ((bl : Int) == 0) = true := by simp; omega
   by_cases g3 : il = 0
   ·have e3 : ((il : Int) == 0) = true := by simp; omega
    have hr : Hid (ownB rs r v = true) := by show _ = _; rw [hres.out]; simp [g1, g2, g3]
    clear hres g1 g2 g3
    go_enter Tryz.func178, Tryz.ntmps178
    go_upto_region 1 with fail
    rw [← hW.out]
    clear hW
    have HBF := HB
    go_wp2
    go_ret
    exact ⟨ret_bool (by first | exact hr.out.symm | (rw [hr.out]; exact decide_eq_true (by omega)) | (rw [hr.out]; exact decide_eq_false (by omega))), HBF.out⟩
   ·have e3 : ((il : Int) == 0) = false := by simp; omega
    have hr : Hid (ownB rs r v = false) := by show _ = _; rw [hres.out]; simp [g1, g2, g3]
    clear hres g1 g2 g3
    go_enter Tryz.func178, Tryz.ntmps178
    go_upto_region 1 with fail
    rw [← hW.out]
    clear hW
    have HBF := HB
    go_wp2
    go_ret
    exact ⟨ret_bool (by first | exact hr.out.symm | (rw [hr.out]; exact decide_eq_true (by omega)) | (rw [hr.out]; exact decide_eq_false (by omega))), HBF.out⟩
  ·have e2 : ((bl : Int) == 0) = false := by simp; omega
   have hr : Hid (ownB rs r v = false) := by show _ = _; rw [hres.out]; simp [g1, g2]
   clear hres g1 g2
   go_enter Tryz.func178, Tryz.ntmps178
   go_upto_region 1 with fail
   rw [← hW.out]
   clear hW
   have HBF := HB
   go_wp2
   go_ret
   exact ⟨ret_bool (by first | exact hr.out.symm | (rw [hr.out]; exact decide_eq_true (by omega)) | (rw [hr.out]; exact decide_eq_false (by omega))), HBF.out⟩
 ·have e1 : (x == 0) = false := by simpa using g1
  have hr : Hid (ownB rs r v = false) := by show _ = _; rw [hres.out]; simp [g1]
  clear hres g1
  go_enter Tryz.func178, Tryz.ntmps178
  go_upto_region 1 with fail
  rw [← hW.out]
  clear hW
  have HBF := HB
  go_wp2
  go_ret
  exact ⟨ret_bool (by first | exact hr.out.symm | (rw [hr.out]; exact decide_eq_true (by omega)) | (rw [hr.out]; exact decide_eq_false (by omega))), HBF.out⟩
theorem own_3 (a : Option Addr) (rs : List RuleV) (cap : Nat) (r : RuleV) (cs vs : List Value) (v : ValueV) (n : Nat) (w : World) (_hl : rs.length ≤ 1048576) (hrd : RdR a rs w) (hki : kindI rs r = true) (h : IsRule r cs w) (hv : IsVal (n + 1) v vs w) (hk : r.kind = 3) :
  Calls Tryz.prog 178 #[.agg #[.slice a rs.length cap], .agg cs.toArray, .agg vs.toArray] w fun e w' => e = .returned (.bool (ownB rs r v)) ∧ Below w.heap.size w w' := by
 obtain ⟨a4, c4, a5, c5, a6, c6, a7, c7, rfl, h4, h5, h6, h7⟩ := h
 obtain ⟨ab, cb, ai, ci, rfl, -, -⟩ := hv
 have hres : Hid (ownB rs r v = (decide (v.number = 0) && (decide ((v.bytes.length : Int) = r.size) && decide (v.items.length = 0)))) := by show _ = _; unfold ownB; simp [hk]
 obtain ⟨x, hx⟩ : ∃ x, x = v.number := ⟨_, rfl⟩
 obtain ⟨bl, hbl⟩ : ∃ bl, bl = v.bytes.length := ⟨_, rfl⟩
 obtain ⟨il, hil⟩ : ∃ il, il = v.items.length := ⟨_, rfl⟩
 rw [← hx, ← hbl, ← hil]
 rw [← hx, ← hbl, ← hil] at hres
 have HX := kq hx
 clear hx hbl hil
 obtain ⟨w0, hw0⟩ : ∃ w0, w0 = ((w.alloc (.cells #[.slice a rs.length cap] 26)).alloc (.cells #[.string r.name, .int .i64 r.kind, .int .i64 r.size, .bool r.little, .slice a4 r.bytes.length c4, .slice a5 r.names.length c5, .slice a6 r.tags.length c6, .slice a7 r.kids.length c7] 42)).alloc (.cells #[.int .i64 x, .slice ab bl cb, .slice ai il ci] 29) := ⟨_, rfl⟩
 have hB : Below w.heap.size w w0 := by subst hw0; exact (((Below.refl _ _).alloc (Nat.le_refl _) _).alloc (by simp) _).alloc (by simp; omega) _
 have HD : Hid (CellsAt w.heap.size [.slice a rs.length cap] w0) := by subst hw0; exact ((CellsAt.new w _ _).below ((Below.refl _ _).alloc (Nat.le_refl _) _)).below ((Below.refl _ _).alloc (Nat.le_refl _) _)
 have HC : Hid (CellsAt (w.heap.size + 1) [.string r.name, .int .i64 r.kind, .int .i64 r.size, .bool r.little, .slice a4 r.bytes.length c4, .slice a5 r.names.length c5, .slice a6 r.tags.length c6, .slice a7 r.kids.length c7] w0) := by subst hw0; have h1 := CellsAt.new (w.alloc (.cells #[.slice a rs.length cap] 26)) [.string r.name, .int .i64 r.kind, .int .i64 r.size, .bool r.little, .slice a4 r.bytes.length c4, .slice a5 r.names.length c5, .slice a6 r.tags.length c6, .slice a7 r.kids.length c7] 42; rw [World.size_alloc] at h1; exact h1.below ((Below.refl _ _).alloc (Nat.le_refl _) _)
 have HVC : Hid (CellsAt (w.heap.size + 2) [.int .i64 x, .slice ab bl cb, .slice ai il ci] w0) := by subst hw0; have h1 := CellsAt.new ((w.alloc (.cells #[.slice a rs.length cap] 26)).alloc (.cells #[.string r.name, .int .i64 r.kind, .int .i64 r.size, .bool r.little, .slice a4 r.bytes.length c4, .slice a5 r.names.length c5, .slice a6 r.tags.length c6, .slice a7 r.kids.length c7] 42)) [.int .i64 x, .slice ab bl cb, .slice ai il ci] 29; rw [World.size_alloc, World.size_alloc] at h1; exact h1
 have HR7 := kq (h7.below hB)
 have HRD := kq (hrd.below hB)
 have HIS : Hid (IsRule r [.string r.name, .int .i64 r.kind, .int .i64 r.size, .bool r.little, .slice a4 r.bytes.length c4, .slice a5 r.names.length c5, .slice a6 r.tags.length c6, .slice a7 r.kids.length c7] w0) := ⟨a4, c4, a5, c5, a6, c6, a7, c7, rfl, h4.below hB, h5.below hB, h6.below hB, h7.below hB⟩
 have HB := kq hB
 have HKI := kq hki
 have hW := kq hw0
 have HKK := kq hk
 have z0 := (HVC.out 0 _ rfl).1
 have z1 := (HVC.out 1 _ rfl).1
 have z2 := (HVC.out 2 _ rfl).1
 have y1 := (HC.out 1 _ rfl).1
 rw [hk] at y1
 clear hB hki hw0 h4 h5 h6 h7 hrd
 have y2 := (HC.out 2 _ rfl).1
 obtain ⟨sz, hsz⟩ : ∃ sz, sz = r.size := ⟨_, rfl⟩
 rw [← hsz] at y2 hres
 clear hsz
 clear hk
 by_cases g1 : x = 0
 ·have e1 : (x == 0) = true := by simpa using g1
  by_cases g2 : (bl : Int) = sz
  ·have e2 : ((bl : Int) == sz) = true := by simp; omega
   by_cases g3 : il = 0
   ·have e3 : ((il : Int) == 0) = true := by simp; omega
    have hr : Hid (ownB rs r v = true) := by show _ = _; rw [hres.out]; simp [g1, g2, g3]
    clear hres g1 g2 g3
    go_enter Tryz.func178, Tryz.ntmps178
    go_upto_region 1 with fail
    rw [← hW.out]
    clear hW
    have HBF := HB
    go_wp2
    go_ret
    exact ⟨ret_bool (by first | exact hr.out.symm | (rw [hr.out]; exact decide_eq_true (by omega)) | (rw [hr.out]; exact decide_eq_false (by omega))), HBF.out⟩
   ·have e3 : ((il : Int) == 0) = false := by simp; omega
    have hr : Hid (ownB rs r v = false) := by show _ = _; rw [hres.out]; simp [g1, g2, g3]
    clear hres g1 g2 g3
    go_enter Tryz.func178, Tryz.ntmps178
    go_upto_region 1 with fail
    rw [← hW.out]
    clear hW
    have HBF := HB
    go_wp2
    go_ret
    exact ⟨ret_bool (by first | exact hr.out.symm | (rw [hr.out]; exact decide_eq_true (by omega)) | (rw [hr.out]; exact decide_eq_false (by omega))), HBF.out⟩
  ·have e2 : ((bl : Int) == sz) = false := by simp; omega
   have hr : Hid (ownB rs r v = false) := by show _ = _; rw [hres.out]; simp [g1, g2]
   clear hres g1 g2
   go_enter Tryz.func178, Tryz.ntmps178
   go_upto_region 1 with fail
   rw [← hW.out]
   clear hW
   have HBF := HB
   go_wp2
   go_ret
   exact ⟨ret_bool (by first | exact hr.out.symm | (rw [hr.out]; exact decide_eq_true (by omega)) | (rw [hr.out]; exact decide_eq_false (by omega))), HBF.out⟩
 ·have e1 : (x == 0) = false := by simpa using g1
  have hr : Hid (ownB rs r v = false) := by show _ = _; rw [hres.out]; simp [g1]
  clear hres g1
  go_enter Tryz.func178, Tryz.ntmps178
  go_upto_region 1 with fail
  rw [← hW.out]
  clear hW
  have HBF := HB
  go_wp2
  go_ret
  exact ⟨ret_bool (by first | exact hr.out.symm | (rw [hr.out]; exact decide_eq_true (by omega)) | (rw [hr.out]; exact decide_eq_false (by omega))), HBF.out⟩
theorem own_4 (a : Option Addr) (rs : List RuleV) (cap : Nat) (r : RuleV) (cs vs : List Value) (v : ValueV) (n : Nat) (w : World) (hl : rs.length ≤ 1048576) (hrd : RdR a rs w) (hki : kindI rs r = true) (h : IsRule r cs w) (hv : IsVal (n + 1) v vs w) (hk : r.kind = 4) :
  Calls Tryz.prog 178 #[.agg #[.slice a rs.length cap], .agg cs.toArray, .agg vs.toArray] w fun e w' => e = .returned (.bool (ownB rs r v)) ∧ Below w.heap.size w w' := by
 obtain ⟨a4, c4, a5, c5, a6, c6, a7, c7, rfl, h4, h5, h6, h7⟩ := h
 obtain ⟨ab, cb, ai, ci, rfl, -, -⟩ := hv
 have hres : Hid (ownB rs r v = (decide (v.number = 0) && (decide ((v.bytes.length : Int) ≤ min 400 (limitAt rs (r.kids.getD 0 0))) && decide (v.items.length = 0)))) := by show _ = _; unfold ownB; simp [hk]
 obtain ⟨x, hx⟩ : ∃ x, x = v.number := ⟨_, rfl⟩
 obtain ⟨bl, hbl⟩ : ∃ bl, bl = v.bytes.length := ⟨_, rfl⟩
 obtain ⟨il, hil⟩ : ∃ il, il = v.items.length := ⟨_, rfl⟩
 rw [← hx, ← hbl, ← hil]
 rw [← hx, ← hbl, ← hil] at hres
 have HX := kq hx
 clear hx hbl hil
 obtain ⟨w0, hw0⟩ : ∃ w0, w0 = ((w.alloc (.cells #[.slice a rs.length cap] 26)).alloc (.cells #[.string r.name, .int .i64 r.kind, .int .i64 r.size, .bool r.little, .slice a4 r.bytes.length c4, .slice a5 r.names.length c5, .slice a6 r.tags.length c6, .slice a7 r.kids.length c7] 42)).alloc (.cells #[.int .i64 x, .slice ab bl cb, .slice ai il ci] 29) := ⟨_, rfl⟩
 have hB : Below w.heap.size w w0 := by subst hw0; exact (((Below.refl _ _).alloc (Nat.le_refl _) _).alloc (by simp) _).alloc (by simp; omega) _
 have HD : Hid (CellsAt w.heap.size [.slice a rs.length cap] w0) := by subst hw0; exact ((CellsAt.new w _ _).below ((Below.refl _ _).alloc (Nat.le_refl _) _)).below ((Below.refl _ _).alloc (Nat.le_refl _) _)
 have HC : Hid (CellsAt (w.heap.size + 1) [.string r.name, .int .i64 r.kind, .int .i64 r.size, .bool r.little, .slice a4 r.bytes.length c4, .slice a5 r.names.length c5, .slice a6 r.tags.length c6, .slice a7 r.kids.length c7] w0) := by subst hw0; have h1 := CellsAt.new (w.alloc (.cells #[.slice a rs.length cap] 26)) [.string r.name, .int .i64 r.kind, .int .i64 r.size, .bool r.little, .slice a4 r.bytes.length c4, .slice a5 r.names.length c5, .slice a6 r.tags.length c6, .slice a7 r.kids.length c7] 42; rw [World.size_alloc] at h1; exact h1.below ((Below.refl _ _).alloc (Nat.le_refl _) _)
 have HVC : Hid (CellsAt (w.heap.size + 2) [.int .i64 x, .slice ab bl cb, .slice ai il ci] w0) := by subst hw0; have h1 := CellsAt.new ((w.alloc (.cells #[.slice a rs.length cap] 26)).alloc (.cells #[.string r.name, .int .i64 r.kind, .int .i64 r.size, .bool r.little, .slice a4 r.bytes.length c4, .slice a5 r.names.length c5, .slice a6 r.tags.length c6, .slice a7 r.kids.length c7] 42)) [.int .i64 x, .slice ab bl cb, .slice ai il ci] 29; rw [World.size_alloc, World.size_alloc] at h1; exact h1
 have HR7 := kq (h7.below hB)
 have HRD := kq (hrd.below hB)
 have HIS : Hid (IsRule r [.string r.name, .int .i64 r.kind, .int .i64 r.size, .bool r.little, .slice a4 r.bytes.length c4, .slice a5 r.names.length c5, .slice a6 r.tags.length c6, .slice a7 r.kids.length c7] w0) := ⟨a4, c4, a5, c5, a6, c6, a7, c7, rfl, h4.below hB, h5.below hB, h6.below hB, h7.below hB⟩
 have HB := kq hB
 have HKI := kq hki
 have hW := kq hw0
 have HKK := kq hk
 have z0 := (HVC.out 0 _ rfl).1
 have z1 := (HVC.out 1 _ rfl).1
 have z2 := (HVC.out 2 _ rfl).1
 have y1 := (HC.out 1 _ rfl).1
 rw [hk] at y1
 clear hB hki hw0 h4 h5 h6 h7 hrd
 have hl0 := kq (kindI_4 HKI.out hk)
 have h0 : 0 < r.kids.length := by have := hl0.out; omega
 have g0 : (0 : Int) < (r.kids.length : Int) := by omega
 obtain ⟨b7, o7, ha7, hc7⟩ := HR7.out.cellAt (j := 0) h0
 subst ha7
 simp only [Nat.add_zero] at hc7
 rw [getD_at h0] at hres
 generalize r.kids[0] = kk at hc7 hres
 obtain ⟨M, hM⟩ : ∃ M, M = min 400 (limitAt rs kk) := ⟨_, rfl⟩
 obtain ⟨L, hL⟩ : ∃ L, L = limitAt rs kk := ⟨_, rfl⟩
 rw [← hM] at hres
 rw [← hL] at hM
 have HM := kq hM
 have HL := kq hL
 clear hM hL
 have y7 := (HC.out 7 _ rfl).1
 clear hk
 by_cases g1 : x = 0
 ·have e1 : (x == 0) = true := by simpa using g1
  by_cases g2 : (bl : Int) ≤ M
  ·have e2 : ((bl : Int) ≤ M) := by omega
   have f2 : decide ((bl : Int) ≤ M) = true := decide_eq_true e2
   by_cases g3 : il = 0
   ·have e3 : ((il : Int) == 0) = true := by simp; omega
    have hr : Hid (ownB rs r v = true) := by show _ = _; rw [hres.out]; simp [g1, g2, g3]
    clear hres g1 g3
    go_enter Tryz.func178, Tryz.ntmps178
    go_upto_region 1 with fail
    rw [← hW.out]
    clear hW
    go_upto_region 9 with fail
    have HBW : Hid (Below w0.heap.size w0 w0.drew) := below_drewN (Below.refl _ w0) 1
    have HSW : Hid (∀ W, Below w0.heap.size w0 W → W.cell? ⟨w.heap.size + 2, 0, none⟩ = some (.int .i64 x) ∧ W.cell? ⟨w.heap.size + 2, 1, none⟩ = some (.slice ab bl cb) ∧ W.cell? ⟨w.heap.size + 2, 2, none⟩ = some (.slice ai il ci) ∧ W.cell? ⟨w.heap.size, 0, none⟩ = some (.slice a rs.length cap) ∧ W.cell? ⟨w.heap.size + 1, 7, none⟩ = some (.slice (some ⟨b7, o7, none⟩) r.kids.length c7) ∧ W.cell? ⟨b7, o7, none⟩ = some (.int .i64 kk)) := fun W hW => ⟨cell_keep hW z0, cell_keep hW z1, cell_keep hW z2, (HD.out.below hW 0 _ rfl).1, cell_keep hW y7, cell_keep hW hc7⟩
    clear z0 z1 z2 y7 hc7
    refine wp_region_held_drew (S := (fun W => W.cell? ⟨w.heap.size + 2, 0, none⟩ = some (.int .i64 x) ∧ W.cell? ⟨w.heap.size + 2, 1, none⟩ = some (.slice ab bl cb) ∧ W.cell? ⟨w.heap.size + 2, 2, none⟩ = some (.slice ai il ci) ∧ W.cell? ⟨w.heap.size, 0, none⟩ = some (.slice a rs.length cap) ∧ W.cell? ⟨w.heap.size + 1, 7, none⟩ = some (.slice (some ⟨b7, o7, none⟩) r.kids.length c7) ∧ W.cell? ⟨b7, o7, none⟩ = some (.int .i64 kk))) (by kernel_rfl) ?_ (fun hHeld => ?_)
    ·(try dsimp only); exact HSW.out _ HBW.out
    refine tk 0 (v := ?v61) (hy := Or.inl ⟨by rfl, ?hy61⟩) (h := ?rest61)
    case hy61 => ((intro W hSw; (try dsimp only at hSw); go_simp); (try with_reducible rfl))
    simp only [Act.put, List.setIfInBounds_toArray, List.set_cons_zero, List.set_cons_succ]
    refine tk 1 (v := ?v62) (hy := Or.inl ⟨by rfl, ?hy62⟩) (h := ?rest62)
    case hy62 => ((intro W hSw; (try dsimp only at hSw); go_simp); (try with_reducible rfl))
    simp only [Act.put, List.setIfInBounds_toArray, List.set_cons_zero, List.set_cons_succ]
    refine tk 2 (v := ?v63) (hy := Or.inl ⟨by rfl, ?hy63⟩) (h := ?rest63)
    case hy63 => ((intro W hSw; (try dsimp only at hSw); go_simp); (try with_reducible rfl))
    simp only [Act.put, List.setIfInBounds_toArray, List.set_cons_zero, List.set_cons_succ]
    refine tk 3 (v := ?v64) (hy := Or.inl ⟨by rfl, ?hy64⟩) (h := ?rest64)
    case hy64 => ((intro W hSw; (try dsimp only at hSw); go_simp); (try with_reducible rfl))
    simp only [Act.put, List.setIfInBounds_toArray, List.set_cons_zero, List.set_cons_succ]
    refine tk 4 (v := ?v65) (hy := Or.inl ⟨by rfl, ?hy65⟩) (h := ?rest65)
    case hy65 => ((intro W hSw; (try dsimp only at hSw); go_simp); (try with_reducible rfl))
    simp only [Act.put, List.setIfInBounds_toArray, List.set_cons_zero, List.set_cons_succ]
    refine tk 5 (v := ?v66) (hy := Or.inl ⟨by rfl, ?hy66⟩) (h := ?rest66)
    case hy66 => ((intro W hSw; (try dsimp only at hSw); go_simp); (try with_reducible rfl))
    simp only [Act.put, List.setIfInBounds_toArray, List.set_cons_zero, List.set_cons_succ]
    refine tk 6 (v := ?v67) (hy := Or.inl ⟨by rfl, ?hy67⟩) (h := ?rest67)
    case hy67 => ((intro W hSw; (try dsimp only at hSw); go_simp); (try with_reducible rfl))
    simp only [Act.put, List.setIfInBounds_toArray, List.set_cons_zero, List.set_cons_succ]
    refine tk 7 (v := ?v68) (hy := Or.inl ⟨by rfl, ?hy68⟩) (h := ?rest68)
    case hy68 => ((intro W hSw; (try dsimp only at hSw); go_simp); (try with_reducible rfl))
    simp only [Act.put, List.setIfInBounds_toArray, List.set_cons_zero, List.set_cons_succ]
    refine tk 8 (v := ?v69) (hy := Or.inl ⟨by rfl, ?hy69⟩) (h := ?rest69)
    case hy69 => ((intro W hSw; (try dsimp only at hSw); go_simp); (try with_reducible rfl))
    simp only [Act.put, List.setIfInBounds_toArray, List.set_cons_zero, List.set_cons_succ]
    refine tk 9 (v := ?v70) (hy := Or.inl ⟨by rfl, ?hy70⟩) (h := ?rest70)
    case hy70 => ((intro W hSw; (try dsimp only at hSw); go_simp); (try with_reducible rfl))
    simp only [Act.put, List.setIfInBounds_toArray, List.set_cons_zero, List.set_cons_succ]
    refine tk 10 (v := ?v71) (hy := Or.inl ⟨by rfl, ?hy71⟩) (h := ?rest71)
    case hy71 => ((intro W hSw; (try dsimp only at hSw); go_simp); (try with_reducible rfl))
    simp only [Act.put, List.setIfInBounds_toArray, List.set_cons_zero, List.set_cons_succ]
    refine tk 11 (v := ?v72) (hy := Or.inl ⟨by rfl, ?hy72⟩) (h := ?rest72)
    case hy72 => ((intro W hSw; (try dsimp only at hSw); go_simp); (try with_reducible rfl))
    simp only [Act.put, List.setIfInBounds_toArray, List.set_cons_zero, List.set_cons_succ]
    refine wpAnyH_ready (rs := [12]) (by kernel_rfl) (by simp) ?_
    refine AllReadyH.cons (by simp only [List.getElem?_toArray, List.getElem?_cons_succ, List.getElem?_cons_zero]; rfl) (fun K hK => ?_) AllReadyH.nil
    go_simp
    (go_at_call 207; refine (limit_spec a rs cap kk _ (by omega) (HRD.out.below HBW.out)).mono ?_; rintro e wx ⟨rfl, hb⟩; rw [← HL.out]; replace HBW := kq (HBW.out.trans (hb.mono HBW.out.size)); clear hb)
    go_wp2_with fail
    refine hK.out _ _ ?_ (fun hHeld => ?_)
    ·(try dsimp only); exact HSW.out _ HBW.out
    clear hK K
    refine wpAnyH_ready (rs := [13]) (by kernel_rfl) (by simp) ?_
    refine AllReadyH.cons (by simp only [List.getElem?_toArray, List.getElem?_cons_succ, List.getElem?_cons_zero]; rfl) (fun K hK => ?_) AllReadyH.nil
    go_simp
    (go_at_call 75; refine (min_spec 400 L _).mono ?_; rintro e wx ⟨rfl, rfl⟩; rw [← HM.out])
    go_wp2_with fail
    refine hK.out _ _ ?_ (fun hHeld => ?_)
    ·(try dsimp only); exact HSW.out _ HBW.out
    clear hK K
    refine tk 14 (v := ?v73) (hy := Or.inl ⟨by rfl, ?hy73⟩) (h := ?rest73)
    case hy73 => ((intro W hSw; (try dsimp only at hSw); go_simp); (try with_reducible rfl))
    simp only [Act.put, List.setIfInBounds_toArray, List.set_cons_zero, List.set_cons_succ]
    refine tk 15 (v := ?v74) (hy := Or.inl ⟨by rfl, ?hy74⟩) (h := ?rest74)
    case hy74 => ((intro W hSw; (try dsimp only at hSw); go_simp); (try with_reducible rfl))
    simp only [Act.put, List.setIfInBounds_toArray, List.set_cons_zero, List.set_cons_succ]
    refine tk 16 (v := ?v75) (hy := Or.inl ⟨by rfl, ?hy75⟩) (h := ?rest75)
    case hy75 => ((intro W hSw; (try dsimp only at hSw); go_simp); (try with_reducible rfl))
    simp only [Act.put, List.setIfInBounds_toArray, List.set_cons_zero, List.set_cons_succ]
    refine tk 17 (v := ?v76) (hy := Or.inl ⟨by rfl, ?hy76⟩) (h := ?rest76)
    case hy76 => ((intro W hSw; (try dsimp only at hSw); go_simp); (try with_reducible rfl))
    simp only [Act.put, List.setIfInBounds_toArray, List.set_cons_zero, List.set_cons_succ]
    refine tk 18 (v := ?v77) (hy := Or.inl ⟨by rfl, ?hy77⟩) (h := ?rest77)
    case hy77 => ((intro W hSw; (try dsimp only at hSw); go_simp); (try with_reducible rfl))
    simp only [Act.put, List.setIfInBounds_toArray, List.set_cons_zero, List.set_cons_succ]
    refine tk 19 (v := ?v78) (hy := Or.inl ⟨by rfl, ?hy78⟩) (h := ?rest78)
    case hy78 => ((intro W hSw; (try dsimp only at hSw); go_simp); (try with_reducible rfl))
    simp only [Act.put, List.setIfInBounds_toArray, List.set_cons_zero, List.set_cons_succ]
    refine tk 20 (v := ?v79) (hy := Or.inl ⟨by rfl, ?hy79⟩) (h := ?rest79)
    case hy79 => ((intro W hSw; (try dsimp only at hSw); go_simp); (try with_reducible rfl))
    simp only [Act.put, List.setIfInBounds_toArray, List.set_cons_zero, List.set_cons_succ]
    refine tk 21 (v := ?v80) (hy := Or.inl ⟨by rfl, ?hy80⟩) (h := ?rest80)
    case hy80 => ((intro W hSw; (try dsimp only at hSw); go_simp); (try with_reducible rfl))
    simp only [Act.put, List.setIfInBounds_toArray, List.set_cons_zero, List.set_cons_succ]
    refine tk 22 (v := ?v81) (hy := Or.inl ⟨by rfl, ?hy81⟩) (h := ?rest81)
    case hy81 => ((intro W hSw; (try dsimp only at hSw); go_simp); (try with_reducible rfl))
    simp only [Act.put, List.setIfInBounds_toArray, List.set_cons_zero, List.set_cons_succ]
    refine wpAnyH_done (by kernel_rfl) ?_ _
    have HBF := kq (HB.out.trans (HBW.out.mono HB.out.size))
    go_wp2
    go_ret
    exact ⟨ret_bool (by first | exact hr.out.symm | (rw [hr.out]; exact decide_eq_true (by omega)) | (rw [hr.out]; exact decide_eq_false (by omega))), HBF.out⟩
   ·have e3 : ((il : Int) == 0) = false := by simp; omega
    have hr : Hid (ownB rs r v = false) := by show _ = _; rw [hres.out]; simp [g1, g2, g3]
    clear hres g1 g3
    go_enter Tryz.func178, Tryz.ntmps178
    go_upto_region 1 with fail
    rw [← hW.out]
    clear hW
    go_upto_region 9 with fail
    have HBW : Hid (Below w0.heap.size w0 w0.drew) := below_drewN (Below.refl _ w0) 1
    have HSW : Hid (∀ W, Below w0.heap.size w0 W → W.cell? ⟨w.heap.size + 2, 0, none⟩ = some (.int .i64 x) ∧ W.cell? ⟨w.heap.size + 2, 1, none⟩ = some (.slice ab bl cb) ∧ W.cell? ⟨w.heap.size + 2, 2, none⟩ = some (.slice ai il ci) ∧ W.cell? ⟨w.heap.size, 0, none⟩ = some (.slice a rs.length cap) ∧ W.cell? ⟨w.heap.size + 1, 7, none⟩ = some (.slice (some ⟨b7, o7, none⟩) r.kids.length c7) ∧ W.cell? ⟨b7, o7, none⟩ = some (.int .i64 kk)) := fun W hW => ⟨cell_keep hW z0, cell_keep hW z1, cell_keep hW z2, (HD.out.below hW 0 _ rfl).1, cell_keep hW y7, cell_keep hW hc7⟩
    clear z0 z1 z2 y7 hc7
    refine wp_region_held_drew (S := (fun W => W.cell? ⟨w.heap.size + 2, 0, none⟩ = some (.int .i64 x) ∧ W.cell? ⟨w.heap.size + 2, 1, none⟩ = some (.slice ab bl cb) ∧ W.cell? ⟨w.heap.size + 2, 2, none⟩ = some (.slice ai il ci) ∧ W.cell? ⟨w.heap.size, 0, none⟩ = some (.slice a rs.length cap) ∧ W.cell? ⟨w.heap.size + 1, 7, none⟩ = some (.slice (some ⟨b7, o7, none⟩) r.kids.length c7) ∧ W.cell? ⟨b7, o7, none⟩ = some (.int .i64 kk))) (by kernel_rfl) ?_ (fun hHeld => ?_)
    ·(try dsimp only); exact HSW.out _ HBW.out
    refine tk 0 (v := ?v82) (hy := Or.inl ⟨by rfl, ?hy82⟩) (h := ?rest82)
    case hy82 => ((intro W hSw; (try dsimp only at hSw); go_simp); (try with_reducible rfl))
    simp only [Act.put, List.setIfInBounds_toArray, List.set_cons_zero, List.set_cons_succ]
    refine tk 1 (v := ?v83) (hy := Or.inl ⟨by rfl, ?hy83⟩) (h := ?rest83)
    case hy83 => ((intro W hSw; (try dsimp only at hSw); go_simp); (try with_reducible rfl))
    simp only [Act.put, List.setIfInBounds_toArray, List.set_cons_zero, List.set_cons_succ]
    refine tk 2 (v := ?v84) (hy := Or.inl ⟨by rfl, ?hy84⟩) (h := ?rest84)
    case hy84 => ((intro W hSw; (try dsimp only at hSw); go_simp); (try with_reducible rfl))
    simp only [Act.put, List.setIfInBounds_toArray, List.set_cons_zero, List.set_cons_succ]
    refine tk 3 (v := ?v85) (hy := Or.inl ⟨by rfl, ?hy85⟩) (h := ?rest85)
    case hy85 => ((intro W hSw; (try dsimp only at hSw); go_simp); (try with_reducible rfl))
    simp only [Act.put, List.setIfInBounds_toArray, List.set_cons_zero, List.set_cons_succ]
    refine tk 4 (v := ?v86) (hy := Or.inl ⟨by rfl, ?hy86⟩) (h := ?rest86)
    case hy86 => ((intro W hSw; (try dsimp only at hSw); go_simp); (try with_reducible rfl))
    simp only [Act.put, List.setIfInBounds_toArray, List.set_cons_zero, List.set_cons_succ]
    refine tk 5 (v := ?v87) (hy := Or.inl ⟨by rfl, ?hy87⟩) (h := ?rest87)
    case hy87 => ((intro W hSw; (try dsimp only at hSw); go_simp); (try with_reducible rfl))
    simp only [Act.put, List.setIfInBounds_toArray, List.set_cons_zero, List.set_cons_succ]
    refine tk 6 (v := ?v88) (hy := Or.inl ⟨by rfl, ?hy88⟩) (h := ?rest88)
    case hy88 => ((intro W hSw; (try dsimp only at hSw); go_simp); (try with_reducible rfl))
    simp only [Act.put, List.setIfInBounds_toArray, List.set_cons_zero, List.set_cons_succ]
    refine tk 7 (v := ?v89) (hy := Or.inl ⟨by rfl, ?hy89⟩) (h := ?rest89)
    case hy89 => ((intro W hSw; (try dsimp only at hSw); go_simp); (try with_reducible rfl))
    simp only [Act.put, List.setIfInBounds_toArray, List.set_cons_zero, List.set_cons_succ]
    refine tk 8 (v := ?v90) (hy := Or.inl ⟨by rfl, ?hy90⟩) (h := ?rest90)
    case hy90 => ((intro W hSw; (try dsimp only at hSw); go_simp); (try with_reducible rfl))
    simp only [Act.put, List.setIfInBounds_toArray, List.set_cons_zero, List.set_cons_succ]
    refine tk 9 (v := ?v91) (hy := Or.inl ⟨by rfl, ?hy91⟩) (h := ?rest91)
    case hy91 => ((intro W hSw; (try dsimp only at hSw); go_simp); (try with_reducible rfl))
    simp only [Act.put, List.setIfInBounds_toArray, List.set_cons_zero, List.set_cons_succ]
    refine tk 10 (v := ?v92) (hy := Or.inl ⟨by rfl, ?hy92⟩) (h := ?rest92)
    case hy92 => ((intro W hSw; (try dsimp only at hSw); go_simp); (try with_reducible rfl))
    simp only [Act.put, List.setIfInBounds_toArray, List.set_cons_zero, List.set_cons_succ]
    refine tk 11 (v := ?v93) (hy := Or.inl ⟨by rfl, ?hy93⟩) (h := ?rest93)
    case hy93 => ((intro W hSw; (try dsimp only at hSw); go_simp); (try with_reducible rfl))
    simp only [Act.put, List.setIfInBounds_toArray, List.set_cons_zero, List.set_cons_succ]
    refine wpAnyH_ready (rs := [12]) (by kernel_rfl) (by simp) ?_
    refine AllReadyH.cons (by simp only [List.getElem?_toArray, List.getElem?_cons_succ, List.getElem?_cons_zero]; rfl) (fun K hK => ?_) AllReadyH.nil
    go_simp
    (go_at_call 207; refine (limit_spec a rs cap kk _ (by omega) (HRD.out.below HBW.out)).mono ?_; rintro e wx ⟨rfl, hb⟩; rw [← HL.out]; replace HBW := kq (HBW.out.trans (hb.mono HBW.out.size)); clear hb)
    go_wp2_with fail
    refine hK.out _ _ ?_ (fun hHeld => ?_)
    ·(try dsimp only); exact HSW.out _ HBW.out
    clear hK K
    refine wpAnyH_ready (rs := [13]) (by kernel_rfl) (by simp) ?_
    refine AllReadyH.cons (by simp only [List.getElem?_toArray, List.getElem?_cons_succ, List.getElem?_cons_zero]; rfl) (fun K hK => ?_) AllReadyH.nil
    go_simp
    (go_at_call 75; refine (min_spec 400 L _).mono ?_; rintro e wx ⟨rfl, rfl⟩; rw [← HM.out])
    go_wp2_with fail
    refine hK.out _ _ ?_ (fun hHeld => ?_)
    ·(try dsimp only); exact HSW.out _ HBW.out
    clear hK K
    refine tk 14 (v := ?v94) (hy := Or.inl ⟨by rfl, ?hy94⟩) (h := ?rest94)
    case hy94 => ((intro W hSw; (try dsimp only at hSw); go_simp); (try with_reducible rfl))
    simp only [Act.put, List.setIfInBounds_toArray, List.set_cons_zero, List.set_cons_succ]
    refine tk 15 (v := ?v95) (hy := Or.inl ⟨by rfl, ?hy95⟩) (h := ?rest95)
    case hy95 => ((intro W hSw; (try dsimp only at hSw); go_simp); (try with_reducible rfl))
    simp only [Act.put, List.setIfInBounds_toArray, List.set_cons_zero, List.set_cons_succ]
    refine tk 16 (v := ?v96) (hy := Or.inl ⟨by rfl, ?hy96⟩) (h := ?rest96)
    case hy96 => ((intro W hSw; (try dsimp only at hSw); go_simp); (try with_reducible rfl))
    simp only [Act.put, List.setIfInBounds_toArray, List.set_cons_zero, List.set_cons_succ]
    refine tk 17 (v := ?v97) (hy := Or.inl ⟨by rfl, ?hy97⟩) (h := ?rest97)
    case hy97 => ((intro W hSw; (try dsimp only at hSw); go_simp); (try with_reducible rfl))
    simp only [Act.put, List.setIfInBounds_toArray, List.set_cons_zero, List.set_cons_succ]
    refine tk 18 (v := ?v98) (hy := Or.inl ⟨by rfl, ?hy98⟩) (h := ?rest98)
    case hy98 => ((intro W hSw; (try dsimp only at hSw); go_simp); (try with_reducible rfl))
    simp only [Act.put, List.setIfInBounds_toArray, List.set_cons_zero, List.set_cons_succ]
    refine tk 19 (v := ?v99) (hy := Or.inl ⟨by rfl, ?hy99⟩) (h := ?rest99)
    case hy99 => ((intro W hSw; (try dsimp only at hSw); go_simp); (try with_reducible rfl))
    simp only [Act.put, List.setIfInBounds_toArray, List.set_cons_zero, List.set_cons_succ]
    refine tk 20 (v := ?v100) (hy := Or.inl ⟨by rfl, ?hy100⟩) (h := ?rest100)
    case hy100 => ((intro W hSw; (try dsimp only at hSw); go_simp); (try with_reducible rfl))
    simp only [Act.put, List.setIfInBounds_toArray, List.set_cons_zero, List.set_cons_succ]
    refine tk 21 (v := ?v101) (hy := Or.inl ⟨by rfl, ?hy101⟩) (h := ?rest101)
    case hy101 => ((intro W hSw; (try dsimp only at hSw); go_simp); (try with_reducible rfl))
    simp only [Act.put, List.setIfInBounds_toArray, List.set_cons_zero, List.set_cons_succ]
    refine tk 22 (v := ?v102) (hy := Or.inl ⟨by rfl, ?hy102⟩) (h := ?rest102)
    case hy102 => ((intro W hSw; (try dsimp only at hSw); go_simp); (try with_reducible rfl))
    simp only [Act.put, List.setIfInBounds_toArray, List.set_cons_zero, List.set_cons_succ]
    refine wpAnyH_done (by kernel_rfl) ?_ _
    have HBF := kq (HB.out.trans (HBW.out.mono HB.out.size))
    go_wp2
    go_ret
    exact ⟨ret_bool (by first | exact hr.out.symm | (rw [hr.out]; exact decide_eq_true (by omega)) | (rw [hr.out]; exact decide_eq_false (by omega))), HBF.out⟩
  ·have e2 : ¬ ((bl : Int) ≤ M) := by omega
   have f2 : decide ((bl : Int) ≤ M) = false := decide_eq_false e2
   have hr : Hid (ownB rs r v = false) := by show _ = _; rw [hres.out]; simp [g1, g2]
   clear hres g1
   go_enter Tryz.func178, Tryz.ntmps178
   go_upto_region 1 with fail
   rw [← hW.out]
   clear hW
   go_upto_region 9 with fail
   have HBW : Hid (Below w0.heap.size w0 w0.drew) := below_drewN (Below.refl _ w0) 1
   have HSW : Hid (∀ W, Below w0.heap.size w0 W → W.cell? ⟨w.heap.size + 2, 0, none⟩ = some (.int .i64 x) ∧ W.cell? ⟨w.heap.size + 2, 1, none⟩ = some (.slice ab bl cb) ∧ W.cell? ⟨w.heap.size + 2, 2, none⟩ = some (.slice ai il ci) ∧ W.cell? ⟨w.heap.size, 0, none⟩ = some (.slice a rs.length cap) ∧ W.cell? ⟨w.heap.size + 1, 7, none⟩ = some (.slice (some ⟨b7, o7, none⟩) r.kids.length c7) ∧ W.cell? ⟨b7, o7, none⟩ = some (.int .i64 kk)) := fun W hW => ⟨cell_keep hW z0, cell_keep hW z1, cell_keep hW z2, (HD.out.below hW 0 _ rfl).1, cell_keep hW y7, cell_keep hW hc7⟩
   clear z0 z1 z2 y7 hc7
   refine wp_region_held_drew (S := (fun W => W.cell? ⟨w.heap.size + 2, 0, none⟩ = some (.int .i64 x) ∧ W.cell? ⟨w.heap.size + 2, 1, none⟩ = some (.slice ab bl cb) ∧ W.cell? ⟨w.heap.size + 2, 2, none⟩ = some (.slice ai il ci) ∧ W.cell? ⟨w.heap.size, 0, none⟩ = some (.slice a rs.length cap) ∧ W.cell? ⟨w.heap.size + 1, 7, none⟩ = some (.slice (some ⟨b7, o7, none⟩) r.kids.length c7) ∧ W.cell? ⟨b7, o7, none⟩ = some (.int .i64 kk))) (by kernel_rfl) ?_ (fun hHeld => ?_)
   ·(try dsimp only); exact HSW.out _ HBW.out
   refine tk 0 (v := ?v103) (hy := Or.inl ⟨by rfl, ?hy103⟩) (h := ?rest103)
   case hy103 => ((intro W hSw; (try dsimp only at hSw); go_simp); (try with_reducible rfl))
   simp only [Act.put, List.setIfInBounds_toArray, List.set_cons_zero, List.set_cons_succ]
   refine tk 1 (v := ?v104) (hy := Or.inl ⟨by rfl, ?hy104⟩) (h := ?rest104)
   case hy104 => ((intro W hSw; (try dsimp only at hSw); go_simp); (try with_reducible rfl))
   simp only [Act.put, List.setIfInBounds_toArray, List.set_cons_zero, List.set_cons_succ]
   refine tk 2 (v := ?v105) (hy := Or.inl ⟨by rfl, ?hy105⟩) (h := ?rest105)
   case hy105 => ((intro W hSw; (try dsimp only at hSw); go_simp); (try with_reducible rfl))
   simp only [Act.put, List.setIfInBounds_toArray, List.set_cons_zero, List.set_cons_succ]
   refine tk 3 (v := ?v106) (hy := Or.inl ⟨by rfl, ?hy106⟩) (h := ?rest106)
   case hy106 => ((intro W hSw; (try dsimp only at hSw); go_simp); (try with_reducible rfl))
   simp only [Act.put, List.setIfInBounds_toArray, List.set_cons_zero, List.set_cons_succ]
   refine tk 4 (v := ?v107) (hy := Or.inl ⟨by rfl, ?hy107⟩) (h := ?rest107)
   case hy107 => ((intro W hSw; (try dsimp only at hSw); go_simp); (try with_reducible rfl))
   simp only [Act.put, List.setIfInBounds_toArray, List.set_cons_zero, List.set_cons_succ]
   refine tk 5 (v := ?v108) (hy := Or.inl ⟨by rfl, ?hy108⟩) (h := ?rest108)
   case hy108 => ((intro W hSw; (try dsimp only at hSw); go_simp); (try with_reducible rfl))
   simp only [Act.put, List.setIfInBounds_toArray, List.set_cons_zero, List.set_cons_succ]
   refine tk 6 (v := ?v109) (hy := Or.inl ⟨by rfl, ?hy109⟩) (h := ?rest109)
   case hy109 => ((intro W hSw; (try dsimp only at hSw); go_simp); (try with_reducible rfl))
   simp only [Act.put, List.setIfInBounds_toArray, List.set_cons_zero, List.set_cons_succ]
   refine tk 7 (v := ?v110) (hy := Or.inl ⟨by rfl, ?hy110⟩) (h := ?rest110)
   case hy110 => ((intro W hSw; (try dsimp only at hSw); go_simp); (try with_reducible rfl))
   simp only [Act.put, List.setIfInBounds_toArray, List.set_cons_zero, List.set_cons_succ]
   refine tk 8 (v := ?v111) (hy := Or.inl ⟨by rfl, ?hy111⟩) (h := ?rest111)
   case hy111 => ((intro W hSw; (try dsimp only at hSw); go_simp); (try with_reducible rfl))
   simp only [Act.put, List.setIfInBounds_toArray, List.set_cons_zero, List.set_cons_succ]
   refine tk 9 (v := ?v112) (hy := Or.inl ⟨by rfl, ?hy112⟩) (h := ?rest112)
   case hy112 => ((intro W hSw; (try dsimp only at hSw); go_simp); (try with_reducible rfl))
   simp only [Act.put, List.setIfInBounds_toArray, List.set_cons_zero, List.set_cons_succ]
   refine tk 10 (v := ?v113) (hy := Or.inl ⟨by rfl, ?hy113⟩) (h := ?rest113)
   case hy113 => ((intro W hSw; (try dsimp only at hSw); go_simp); (try with_reducible rfl))
   simp only [Act.put, List.setIfInBounds_toArray, List.set_cons_zero, List.set_cons_succ]
   refine tk 11 (v := ?v114) (hy := Or.inl ⟨by rfl, ?hy114⟩) (h := ?rest114)
   case hy114 => ((intro W hSw; (try dsimp only at hSw); go_simp); (try with_reducible rfl))
   simp only [Act.put, List.setIfInBounds_toArray, List.set_cons_zero, List.set_cons_succ]
   refine wpAnyH_ready (rs := [12]) (by kernel_rfl) (by simp) ?_
   refine AllReadyH.cons (by simp only [List.getElem?_toArray, List.getElem?_cons_succ, List.getElem?_cons_zero]; rfl) (fun K hK => ?_) AllReadyH.nil
   go_simp
   (go_at_call 207; refine (limit_spec a rs cap kk _ (by omega) (HRD.out.below HBW.out)).mono ?_; rintro e wx ⟨rfl, hb⟩; rw [← HL.out]; replace HBW := kq (HBW.out.trans (hb.mono HBW.out.size)); clear hb)
   go_wp2_with fail
   refine hK.out _ _ ?_ (fun hHeld => ?_)
   ·(try dsimp only); exact HSW.out _ HBW.out
   clear hK K
   refine wpAnyH_ready (rs := [13]) (by kernel_rfl) (by simp) ?_
   refine AllReadyH.cons (by simp only [List.getElem?_toArray, List.getElem?_cons_succ, List.getElem?_cons_zero]; rfl) (fun K hK => ?_) AllReadyH.nil
   go_simp
   (go_at_call 75; refine (min_spec 400 L _).mono ?_; rintro e wx ⟨rfl, rfl⟩; rw [← HM.out])
   go_wp2_with fail
   refine hK.out _ _ ?_ (fun hHeld => ?_)
   ·(try dsimp only); exact HSW.out _ HBW.out
   clear hK K
   refine tk 14 (v := ?v115) (hy := Or.inl ⟨by rfl, ?hy115⟩) (h := ?rest115)
   case hy115 => ((intro W hSw; (try dsimp only at hSw); go_simp); (try with_reducible rfl))
   simp only [Act.put, List.setIfInBounds_toArray, List.set_cons_zero, List.set_cons_succ]
   refine tk 15 (v := ?v116) (hy := Or.inl ⟨by rfl, ?hy116⟩) (h := ?rest116)
   case hy116 => ((intro W hSw; (try dsimp only at hSw); go_simp); (try with_reducible rfl))
   simp only [Act.put, List.setIfInBounds_toArray, List.set_cons_zero, List.set_cons_succ]
   refine tk 16 (v := ?v117) (hy := Or.inl ⟨by rfl, ?hy117⟩) (h := ?rest117)
   case hy117 => ((intro W hSw; (try dsimp only at hSw); go_simp); (try with_reducible rfl))
   simp only [Act.put, List.setIfInBounds_toArray, List.set_cons_zero, List.set_cons_succ]
   refine tk 17 (v := undef) (hy := Or.inr ⟨by rfl, rfl⟩) (h := ?_)
   simp only [Act.put, List.setIfInBounds_toArray, List.set_cons_zero, List.set_cons_succ]
   refine tk 18 (v := undef) (hy := Or.inr ⟨by rfl, rfl⟩) (h := ?_)
   simp only [Act.put, List.setIfInBounds_toArray, List.set_cons_zero, List.set_cons_succ]
   refine tk 19 (v := undef) (hy := Or.inr ⟨by rfl, rfl⟩) (h := ?_)
   simp only [Act.put, List.setIfInBounds_toArray, List.set_cons_zero, List.set_cons_succ]
   refine tk 20 (v := undef) (hy := Or.inr ⟨by rfl, rfl⟩) (h := ?_)
   simp only [Act.put, List.setIfInBounds_toArray, List.set_cons_zero, List.set_cons_succ]
   refine tk 21 (v := ?v118) (hy := Or.inl ⟨by rfl, ?hy118⟩) (h := ?rest118)
   case hy118 => ((intro W hSw; (try dsimp only at hSw); go_simp); (try with_reducible rfl))
   simp only [Act.put, List.setIfInBounds_toArray, List.set_cons_zero, List.set_cons_succ]
   refine tk 22 (v := ?v119) (hy := Or.inl ⟨by rfl, ?hy119⟩) (h := ?rest119)
   case hy119 => ((intro W hSw; (try dsimp only at hSw); go_simp); (try with_reducible rfl))
   simp only [Act.put, List.setIfInBounds_toArray, List.set_cons_zero, List.set_cons_succ]
   refine wpAnyH_done (by kernel_rfl) ?_ _
   have HBF := kq (HB.out.trans (HBW.out.mono HB.out.size))
   go_wp2
   go_ret
   exact ⟨ret_bool (by first | exact hr.out.symm | (rw [hr.out]; exact decide_eq_true (by omega)) | (rw [hr.out]; exact decide_eq_false (by omega))), HBF.out⟩
 ·have e1 : (x == 0) = false := by simpa using g1
  have hr : Hid (ownB rs r v = false) := by show _ = _; rw [hres.out]; simp [g1]
  clear hres g1
  go_enter Tryz.func178, Tryz.ntmps178
  go_upto_region 1 with fail
  rw [← hW.out]
  clear hW
  go_upto_region 9 with fail
  have HBW : Hid (Below w0.heap.size w0 w0.drew) := below_drewN (Below.refl _ w0) 1
  have HSW : Hid (∀ W, Below w0.heap.size w0 W → W.cell? ⟨w.heap.size + 2, 0, none⟩ = some (.int .i64 x) ∧ W.cell? ⟨w.heap.size + 2, 1, none⟩ = some (.slice ab bl cb) ∧ W.cell? ⟨w.heap.size + 2, 2, none⟩ = some (.slice ai il ci) ∧ W.cell? ⟨w.heap.size, 0, none⟩ = some (.slice a rs.length cap) ∧ W.cell? ⟨w.heap.size + 1, 7, none⟩ = some (.slice (some ⟨b7, o7, none⟩) r.kids.length c7) ∧ W.cell? ⟨b7, o7, none⟩ = some (.int .i64 kk)) := fun W hW => ⟨cell_keep hW z0, cell_keep hW z1, cell_keep hW z2, (HD.out.below hW 0 _ rfl).1, cell_keep hW y7, cell_keep hW hc7⟩
  clear z0 z1 z2 y7 hc7
  refine wp_region_held_drew (S := (fun W => W.cell? ⟨w.heap.size + 2, 0, none⟩ = some (.int .i64 x) ∧ W.cell? ⟨w.heap.size + 2, 1, none⟩ = some (.slice ab bl cb) ∧ W.cell? ⟨w.heap.size + 2, 2, none⟩ = some (.slice ai il ci) ∧ W.cell? ⟨w.heap.size, 0, none⟩ = some (.slice a rs.length cap) ∧ W.cell? ⟨w.heap.size + 1, 7, none⟩ = some (.slice (some ⟨b7, o7, none⟩) r.kids.length c7) ∧ W.cell? ⟨b7, o7, none⟩ = some (.int .i64 kk))) (by kernel_rfl) ?_ (fun hHeld => ?_)
  ·(try dsimp only); exact HSW.out _ HBW.out
  refine tk 0 (v := ?v120) (hy := Or.inl ⟨by rfl, ?hy120⟩) (h := ?rest120)
  case hy120 => ((intro W hSw; (try dsimp only at hSw); go_simp); (try with_reducible rfl))
  simp only [Act.put, List.setIfInBounds_toArray, List.set_cons_zero, List.set_cons_succ]
  refine tk 1 (v := ?v121) (hy := Or.inl ⟨by rfl, ?hy121⟩) (h := ?rest121)
  case hy121 => ((intro W hSw; (try dsimp only at hSw); go_simp); (try with_reducible rfl))
  simp only [Act.put, List.setIfInBounds_toArray, List.set_cons_zero, List.set_cons_succ]
  refine tk 2 (v := ?v122) (hy := Or.inl ⟨by rfl, ?hy122⟩) (h := ?rest122)
  case hy122 => ((intro W hSw; (try dsimp only at hSw); go_simp); (try with_reducible rfl))
  simp only [Act.put, List.setIfInBounds_toArray, List.set_cons_zero, List.set_cons_succ]
  refine tk 3 (v := ?v123) (hy := Or.inl ⟨by rfl, ?hy123⟩) (h := ?rest123)
  case hy123 => ((intro W hSw; (try dsimp only at hSw); go_simp); (try with_reducible rfl))
  simp only [Act.put, List.setIfInBounds_toArray, List.set_cons_zero, List.set_cons_succ]
  refine tk 4 (v := undef) (hy := Or.inr ⟨by rfl, rfl⟩) (h := ?_)
  simp only [Act.put, List.setIfInBounds_toArray, List.set_cons_zero, List.set_cons_succ]
  refine tk 5 (v := undef) (hy := Or.inr ⟨by rfl, rfl⟩) (h := ?_)
  simp only [Act.put, List.setIfInBounds_toArray, List.set_cons_zero, List.set_cons_succ]
  refine tk 6 (v := undef) (hy := Or.inr ⟨by rfl, rfl⟩) (h := ?_)
  simp only [Act.put, List.setIfInBounds_toArray, List.set_cons_zero, List.set_cons_succ]
  refine tk 7 (v := undef) (hy := Or.inr ⟨by rfl, rfl⟩) (h := ?_)
  simp only [Act.put, List.setIfInBounds_toArray, List.set_cons_zero, List.set_cons_succ]
  refine tk 8 (v := undef) (hy := Or.inr ⟨by rfl, rfl⟩) (h := ?_)
  simp only [Act.put, List.setIfInBounds_toArray, List.set_cons_zero, List.set_cons_succ]
  refine tk 9 (v := undef) (hy := Or.inr ⟨by rfl, rfl⟩) (h := ?_)
  simp only [Act.put, List.setIfInBounds_toArray, List.set_cons_zero, List.set_cons_succ]
  refine tk 10 (v := undef) (hy := Or.inr ⟨by rfl, rfl⟩) (h := ?_)
  simp only [Act.put, List.setIfInBounds_toArray, List.set_cons_zero, List.set_cons_succ]
  refine tk 11 (v := undef) (hy := Or.inr ⟨by rfl, rfl⟩) (h := ?_)
  simp only [Act.put, List.setIfInBounds_toArray, List.set_cons_zero, List.set_cons_succ]
  refine tk 12 (v := undef) (hy := Or.inr ⟨by rfl, rfl⟩) (h := ?_)
  simp only [Act.put, List.setIfInBounds_toArray, List.set_cons_zero, List.set_cons_succ]
  refine tk 13 (v := undef) (hy := Or.inr ⟨by rfl, rfl⟩) (h := ?_)
  simp only [Act.put, List.setIfInBounds_toArray, List.set_cons_zero, List.set_cons_succ]
  refine tk 14 (v := undef) (hy := Or.inr ⟨by rfl, rfl⟩) (h := ?_)
  simp only [Act.put, List.setIfInBounds_toArray, List.set_cons_zero, List.set_cons_succ]
  refine tk 15 (v := ?v124) (hy := Or.inl ⟨by rfl, ?hy124⟩) (h := ?rest124)
  case hy124 => ((intro W hSw; (try dsimp only at hSw); go_simp); (try with_reducible rfl))
  simp only [Act.put, List.setIfInBounds_toArray, List.set_cons_zero, List.set_cons_succ]
  refine tk 16 (v := ?v125) (hy := Or.inl ⟨by rfl, ?hy125⟩) (h := ?rest125)
  case hy125 => ((intro W hSw; (try dsimp only at hSw); go_simp); (try with_reducible rfl))
  simp only [Act.put, List.setIfInBounds_toArray, List.set_cons_zero, List.set_cons_succ]
  refine tk 17 (v := undef) (hy := Or.inr ⟨by rfl, rfl⟩) (h := ?_)
  simp only [Act.put, List.setIfInBounds_toArray, List.set_cons_zero, List.set_cons_succ]
  refine tk 18 (v := undef) (hy := Or.inr ⟨by rfl, rfl⟩) (h := ?_)
  simp only [Act.put, List.setIfInBounds_toArray, List.set_cons_zero, List.set_cons_succ]
  refine tk 19 (v := undef) (hy := Or.inr ⟨by rfl, rfl⟩) (h := ?_)
  simp only [Act.put, List.setIfInBounds_toArray, List.set_cons_zero, List.set_cons_succ]
  refine tk 20 (v := undef) (hy := Or.inr ⟨by rfl, rfl⟩) (h := ?_)
  simp only [Act.put, List.setIfInBounds_toArray, List.set_cons_zero, List.set_cons_succ]
  refine tk 21 (v := ?v126) (hy := Or.inl ⟨by rfl, ?hy126⟩) (h := ?rest126)
  case hy126 => ((intro W hSw; (try dsimp only at hSw); go_simp); (try with_reducible rfl))
  simp only [Act.put, List.setIfInBounds_toArray, List.set_cons_zero, List.set_cons_succ]
  refine tk 22 (v := ?v127) (hy := Or.inl ⟨by rfl, ?hy127⟩) (h := ?rest127)
  case hy127 => ((intro W hSw; (try dsimp only at hSw); go_simp); (try with_reducible rfl))
  simp only [Act.put, List.setIfInBounds_toArray, List.set_cons_zero, List.set_cons_succ]
  refine wpAnyH_done (by kernel_rfl) ?_ _
  have HBF := kq (HB.out.trans (HBW.out.mono HB.out.size))
  go_wp2
  go_ret
  exact ⟨ret_bool (by first | exact hr.out.symm | (rw [hr.out]; exact decide_eq_true (by omega)) | (rw [hr.out]; exact decide_eq_false (by omega))), HBF.out⟩
theorem own_5 (a : Option Addr) (rs : List RuleV) (cap : Nat) (r : RuleV) (cs vs : List Value) (v : ValueV) (n : Nat) (w : World) (hl : rs.length ≤ 1048576) (hrd : RdR a rs w) (hki : kindI rs r = true) (h : IsRule r cs w) (hv : IsVal (n + 1) v vs w) (hk : r.kind = 5) :
  Calls Tryz.prog 178 #[.agg #[.slice a rs.length cap], .agg cs.toArray, .agg vs.toArray] w fun e w' => e = .returned (.bool (ownB rs r v)) ∧ Below w.heap.size w w' := by
 obtain ⟨a4, c4, a5, c5, a6, c6, a7, c7, rfl, h4, h5, h6, h7⟩ := h
 obtain ⟨ab, cb, ai, ci, rfl, -, -⟩ := hv
 have hres : Hid (ownB rs r v = (decide (v.number = 0) && (decide (v.bytes.length = 0) && decide ((v.items.length : Int) ≤ min 40 (limitAt rs (r.kids.getD 0 0)))))) := by show _ = _; unfold ownB; simp [hk]
 obtain ⟨x, hx⟩ : ∃ x, x = v.number := ⟨_, rfl⟩
 obtain ⟨bl, hbl⟩ : ∃ bl, bl = v.bytes.length := ⟨_, rfl⟩
 obtain ⟨il, hil⟩ : ∃ il, il = v.items.length := ⟨_, rfl⟩
 rw [← hx, ← hbl, ← hil]
 rw [← hx, ← hbl, ← hil] at hres
 have HX := kq hx
 clear hx hbl hil
 obtain ⟨w0, hw0⟩ : ∃ w0, w0 = ((w.alloc (.cells #[.slice a rs.length cap] 26)).alloc (.cells #[.string r.name, .int .i64 r.kind, .int .i64 r.size, .bool r.little, .slice a4 r.bytes.length c4, .slice a5 r.names.length c5, .slice a6 r.tags.length c6, .slice a7 r.kids.length c7] 42)).alloc (.cells #[.int .i64 x, .slice ab bl cb, .slice ai il ci] 29) := ⟨_, rfl⟩
 have hB : Below w.heap.size w w0 := by subst hw0; exact (((Below.refl _ _).alloc (Nat.le_refl _) _).alloc (by simp) _).alloc (by simp; omega) _
 have HD : Hid (CellsAt w.heap.size [.slice a rs.length cap] w0) := by subst hw0; exact ((CellsAt.new w _ _).below ((Below.refl _ _).alloc (Nat.le_refl _) _)).below ((Below.refl _ _).alloc (Nat.le_refl _) _)
 have HC : Hid (CellsAt (w.heap.size + 1) [.string r.name, .int .i64 r.kind, .int .i64 r.size, .bool r.little, .slice a4 r.bytes.length c4, .slice a5 r.names.length c5, .slice a6 r.tags.length c6, .slice a7 r.kids.length c7] w0) := by subst hw0; have h1 := CellsAt.new (w.alloc (.cells #[.slice a rs.length cap] 26)) [.string r.name, .int .i64 r.kind, .int .i64 r.size, .bool r.little, .slice a4 r.bytes.length c4, .slice a5 r.names.length c5, .slice a6 r.tags.length c6, .slice a7 r.kids.length c7] 42; rw [World.size_alloc] at h1; exact h1.below ((Below.refl _ _).alloc (Nat.le_refl _) _)
 have HVC : Hid (CellsAt (w.heap.size + 2) [.int .i64 x, .slice ab bl cb, .slice ai il ci] w0) := by subst hw0; have h1 := CellsAt.new ((w.alloc (.cells #[.slice a rs.length cap] 26)).alloc (.cells #[.string r.name, .int .i64 r.kind, .int .i64 r.size, .bool r.little, .slice a4 r.bytes.length c4, .slice a5 r.names.length c5, .slice a6 r.tags.length c6, .slice a7 r.kids.length c7] 42)) [.int .i64 x, .slice ab bl cb, .slice ai il ci] 29; rw [World.size_alloc, World.size_alloc] at h1; exact h1
 have HR7 := kq (h7.below hB)
 have HRD := kq (hrd.below hB)
 have HIS : Hid (IsRule r [.string r.name, .int .i64 r.kind, .int .i64 r.size, .bool r.little, .slice a4 r.bytes.length c4, .slice a5 r.names.length c5, .slice a6 r.tags.length c6, .slice a7 r.kids.length c7] w0) := ⟨a4, c4, a5, c5, a6, c6, a7, c7, rfl, h4.below hB, h5.below hB, h6.below hB, h7.below hB⟩
 have HB := kq hB
 have HKI := kq hki
 have hW := kq hw0
 have HKK := kq hk
 have z0 := (HVC.out 0 _ rfl).1
 have z1 := (HVC.out 1 _ rfl).1
 have z2 := (HVC.out 2 _ rfl).1
 have y1 := (HC.out 1 _ rfl).1
 rw [hk] at y1
 clear hB hki hw0 h4 h5 h6 h7 hrd
 have hl0 := kq (kindI_5 HKI.out hk)
 have h0 : 0 < r.kids.length := by have := hl0.out; omega
 have g0 : (0 : Int) < (r.kids.length : Int) := by omega
 obtain ⟨b7, o7, ha7, hc7⟩ := HR7.out.cellAt (j := 0) h0
 subst ha7
 simp only [Nat.add_zero] at hc7
 rw [getD_at h0] at hres
 generalize r.kids[0] = kk at hc7 hres
 obtain ⟨M, hM⟩ : ∃ M, M = min 40 (limitAt rs kk) := ⟨_, rfl⟩
 obtain ⟨L, hL⟩ : ∃ L, L = limitAt rs kk := ⟨_, rfl⟩
 rw [← hM] at hres
 rw [← hL] at hM
 have HM := kq hM
 have HL := kq hL
 clear hM hL
 have y7 := (HC.out 7 _ rfl).1
 clear hk
 by_cases g1 : x = 0
 ·have e1 : (x == 0) = true := by simpa using g1
  by_cases g2 : bl = 0
  ·have e2 : ((bl : Int) == 0) = true := by simp; omega
   by_cases g3 : (il : Int) ≤ M
   ·have e3 : ((il : Int) ≤ M) := by omega
    have f3 : decide ((il : Int) ≤ M) = true := decide_eq_true e3
    have hr : Hid (ownB rs r v = true) := by show _ = _; rw [hres.out]; simp [g1, g2, g3]
    clear hres g1 g2
    go_enter Tryz.func178, Tryz.ntmps178
    go_upto_region 1 with fail
    rw [← hW.out]
    clear hW
    go_upto_region 13 with fail
    have HBW : Hid (Below w0.heap.size w0 w0.drew) := below_drewN (Below.refl _ w0) 1
    have HSW : Hid (∀ W, Below w0.heap.size w0 W → W.cell? ⟨w.heap.size + 2, 0, none⟩ = some (.int .i64 x) ∧ W.cell? ⟨w.heap.size + 2, 1, none⟩ = some (.slice ab bl cb) ∧ W.cell? ⟨w.heap.size + 2, 2, none⟩ = some (.slice ai il ci) ∧ W.cell? ⟨w.heap.size, 0, none⟩ = some (.slice a rs.length cap) ∧ W.cell? ⟨w.heap.size + 1, 7, none⟩ = some (.slice (some ⟨b7, o7, none⟩) r.kids.length c7) ∧ W.cell? ⟨b7, o7, none⟩ = some (.int .i64 kk)) := fun W hW => ⟨cell_keep hW z0, cell_keep hW z1, cell_keep hW z2, (HD.out.below hW 0 _ rfl).1, cell_keep hW y7, cell_keep hW hc7⟩
    clear z0 z1 z2 y7 hc7
    refine wp_region_held_drew (S := (fun W => W.cell? ⟨w.heap.size + 2, 0, none⟩ = some (.int .i64 x) ∧ W.cell? ⟨w.heap.size + 2, 1, none⟩ = some (.slice ab bl cb) ∧ W.cell? ⟨w.heap.size + 2, 2, none⟩ = some (.slice ai il ci) ∧ W.cell? ⟨w.heap.size, 0, none⟩ = some (.slice a rs.length cap) ∧ W.cell? ⟨w.heap.size + 1, 7, none⟩ = some (.slice (some ⟨b7, o7, none⟩) r.kids.length c7) ∧ W.cell? ⟨b7, o7, none⟩ = some (.int .i64 kk))) (by kernel_rfl) ?_ (fun hHeld => ?_)
    ·(try dsimp only); exact HSW.out _ HBW.out
    refine tk 0 (v := ?v128) (hy := Or.inl ⟨by rfl, ?hy128⟩) (h := ?rest128)
    case hy128 => ((intro W hSw; (try dsimp only at hSw); go_simp); (try with_reducible rfl))
    simp only [Act.put, List.setIfInBounds_toArray, List.set_cons_zero, List.set_cons_succ]
    refine tk 1 (v := ?v129) (hy := Or.inl ⟨by rfl, ?hy129⟩) (h := ?rest129)
    case hy129 => ((intro W hSw; (try dsimp only at hSw); go_simp); (try with_reducible rfl))
    simp only [Act.put, List.setIfInBounds_toArray, List.set_cons_zero, List.set_cons_succ]
    refine tk 2 (v := ?v130) (hy := Or.inl ⟨by rfl, ?hy130⟩) (h := ?rest130)
    case hy130 => ((intro W hSw; (try dsimp only at hSw); go_simp); (try with_reducible rfl))
    simp only [Act.put, List.setIfInBounds_toArray, List.set_cons_zero, List.set_cons_succ]
    refine tk 3 (v := ?v131) (hy := Or.inl ⟨by rfl, ?hy131⟩) (h := ?rest131)
    case hy131 => ((intro W hSw; (try dsimp only at hSw); go_simp); (try with_reducible rfl))
    simp only [Act.put, List.setIfInBounds_toArray, List.set_cons_zero, List.set_cons_succ]
    refine tk 4 (v := ?v132) (hy := Or.inl ⟨by rfl, ?hy132⟩) (h := ?rest132)
    case hy132 => ((intro W hSw; (try dsimp only at hSw); go_simp); (try with_reducible rfl))
    simp only [Act.put, List.setIfInBounds_toArray, List.set_cons_zero, List.set_cons_succ]
    refine tk 5 (v := ?v133) (hy := Or.inl ⟨by rfl, ?hy133⟩) (h := ?rest133)
    case hy133 => ((intro W hSw; (try dsimp only at hSw); go_simp); (try with_reducible rfl))
    simp only [Act.put, List.setIfInBounds_toArray, List.set_cons_zero, List.set_cons_succ]
    refine tk 6 (v := ?v134) (hy := Or.inl ⟨by rfl, ?hy134⟩) (h := ?rest134)
    case hy134 => ((intro W hSw; (try dsimp only at hSw); go_simp); (try with_reducible rfl))
    simp only [Act.put, List.setIfInBounds_toArray, List.set_cons_zero, List.set_cons_succ]
    refine tk 7 (v := ?v135) (hy := Or.inl ⟨by rfl, ?hy135⟩) (h := ?rest135)
    case hy135 => ((intro W hSw; (try dsimp only at hSw); go_simp); (try with_reducible rfl))
    simp only [Act.put, List.setIfInBounds_toArray, List.set_cons_zero, List.set_cons_succ]
    refine tk 8 (v := ?v136) (hy := Or.inl ⟨by rfl, ?hy136⟩) (h := ?rest136)
    case hy136 => ((intro W hSw; (try dsimp only at hSw); go_simp); (try with_reducible rfl))
    simp only [Act.put, List.setIfInBounds_toArray, List.set_cons_zero, List.set_cons_succ]
    refine tk 9 (v := ?v137) (hy := Or.inl ⟨by rfl, ?hy137⟩) (h := ?rest137)
    case hy137 => ((intro W hSw; (try dsimp only at hSw); go_simp); (try with_reducible rfl))
    simp only [Act.put, List.setIfInBounds_toArray, List.set_cons_zero, List.set_cons_succ]
    refine tk 10 (v := ?v138) (hy := Or.inl ⟨by rfl, ?hy138⟩) (h := ?rest138)
    case hy138 => ((intro W hSw; (try dsimp only at hSw); go_simp); (try with_reducible rfl))
    simp only [Act.put, List.setIfInBounds_toArray, List.set_cons_zero, List.set_cons_succ]
    refine tk 11 (v := ?v139) (hy := Or.inl ⟨by rfl, ?hy139⟩) (h := ?rest139)
    case hy139 => ((intro W hSw; (try dsimp only at hSw); go_simp); (try with_reducible rfl))
    simp only [Act.put, List.setIfInBounds_toArray, List.set_cons_zero, List.set_cons_succ]
    refine tk 12 (v := ?v140) (hy := Or.inl ⟨by rfl, ?hy140⟩) (h := ?rest140)
    case hy140 => ((intro W hSw; (try dsimp only at hSw); go_simp); (try with_reducible rfl))
    simp only [Act.put, List.setIfInBounds_toArray, List.set_cons_zero, List.set_cons_succ]
    refine tk 13 (v := ?v141) (hy := Or.inl ⟨by rfl, ?hy141⟩) (h := ?rest141)
    case hy141 => ((intro W hSw; (try dsimp only at hSw); go_simp); (try with_reducible rfl))
    simp only [Act.put, List.setIfInBounds_toArray, List.set_cons_zero, List.set_cons_succ]
    refine tk 14 (v := ?v142) (hy := Or.inl ⟨by rfl, ?hy142⟩) (h := ?rest142)
    case hy142 => ((intro W hSw; (try dsimp only at hSw); go_simp); (try with_reducible rfl))
    simp only [Act.put, List.setIfInBounds_toArray, List.set_cons_zero, List.set_cons_succ]
    refine tk 15 (v := ?v143) (hy := Or.inl ⟨by rfl, ?hy143⟩) (h := ?rest143)
    case hy143 => ((intro W hSw; (try dsimp only at hSw); go_simp); (try with_reducible rfl))
    simp only [Act.put, List.setIfInBounds_toArray, List.set_cons_zero, List.set_cons_succ]
    refine tk 16 (v := ?v144) (hy := Or.inl ⟨by rfl, ?hy144⟩) (h := ?rest144)
    case hy144 => ((intro W hSw; (try dsimp only at hSw); go_simp); (try with_reducible rfl))
    simp only [Act.put, List.setIfInBounds_toArray, List.set_cons_zero, List.set_cons_succ]
    refine tk 17 (v := ?v145) (hy := Or.inl ⟨by rfl, ?hy145⟩) (h := ?rest145)
    case hy145 => ((intro W hSw; (try dsimp only at hSw); go_simp); (try with_reducible rfl))
    simp only [Act.put, List.setIfInBounds_toArray, List.set_cons_zero, List.set_cons_succ]
    refine wpAnyH_ready (rs := [18]) (by kernel_rfl) (by simp) ?_
    refine AllReadyH.cons (by simp only [List.getElem?_toArray, List.getElem?_cons_succ, List.getElem?_cons_zero]; rfl) (fun K hK => ?_) AllReadyH.nil
    go_simp
    (go_at_call 207; refine (limit_spec a rs cap kk _ (by omega) (HRD.out.below HBW.out)).mono ?_; rintro e wx ⟨rfl, hb⟩; rw [← HL.out]; replace HBW := kq (HBW.out.trans (hb.mono HBW.out.size)); clear hb)
    go_wp2_with fail
    refine hK.out _ _ ?_ (fun hHeld => ?_)
    ·(try dsimp only); exact HSW.out _ HBW.out
    clear hK K
    refine wpAnyH_ready (rs := [19]) (by kernel_rfl) (by simp) ?_
    refine AllReadyH.cons (by simp only [List.getElem?_toArray, List.getElem?_cons_succ, List.getElem?_cons_zero]; rfl) (fun K hK => ?_) AllReadyH.nil
    go_simp
    (go_at_call 75; refine (min_spec 40 L _).mono ?_; rintro e wx ⟨rfl, rfl⟩; rw [← HM.out])
    go_wp2_with fail
    refine hK.out _ _ ?_ (fun hHeld => ?_)
    ·(try dsimp only); exact HSW.out _ HBW.out
    clear hK K
    refine tk 20 (v := ?v146) (hy := Or.inl ⟨by rfl, ?hy146⟩) (h := ?rest146)
    case hy146 => ((intro W hSw; (try dsimp only at hSw); go_simp); (try with_reducible rfl))
    simp only [Act.put, List.setIfInBounds_toArray, List.set_cons_zero, List.set_cons_succ]
    refine tk 21 (v := ?v147) (hy := Or.inl ⟨by rfl, ?hy147⟩) (h := ?rest147)
    case hy147 => ((intro W hSw; (try dsimp only at hSw); go_simp); (try with_reducible rfl))
    simp only [Act.put, List.setIfInBounds_toArray, List.set_cons_zero, List.set_cons_succ]
    refine tk 22 (v := ?v148) (hy := Or.inl ⟨by rfl, ?hy148⟩) (h := ?rest148)
    case hy148 => ((intro W hSw; (try dsimp only at hSw); go_simp); (try with_reducible rfl))
    simp only [Act.put, List.setIfInBounds_toArray, List.set_cons_zero, List.set_cons_succ]
    refine wpAnyH_done (by kernel_rfl) ?_ _
    have HBF := kq (HB.out.trans (HBW.out.mono HB.out.size))
    go_wp2
    go_ret
    exact ⟨ret_bool (by first | exact hr.out.symm | (rw [hr.out]; exact decide_eq_true (by omega)) | (rw [hr.out]; exact decide_eq_false (by omega))), HBF.out⟩
   ·have e3 : ¬ ((il : Int) ≤ M) := by omega
    have f3 : decide ((il : Int) ≤ M) = false := decide_eq_false e3
    have hr : Hid (ownB rs r v = false) := by show _ = _; rw [hres.out]; simp [g1, g2, g3]
    clear hres g1 g2
    go_enter Tryz.func178, Tryz.ntmps178
    go_upto_region 1 with fail
    rw [← hW.out]
    clear hW
    go_upto_region 13 with fail
    have HBW : Hid (Below w0.heap.size w0 w0.drew) := below_drewN (Below.refl _ w0) 1
    have HSW : Hid (∀ W, Below w0.heap.size w0 W → W.cell? ⟨w.heap.size + 2, 0, none⟩ = some (.int .i64 x) ∧ W.cell? ⟨w.heap.size + 2, 1, none⟩ = some (.slice ab bl cb) ∧ W.cell? ⟨w.heap.size + 2, 2, none⟩ = some (.slice ai il ci) ∧ W.cell? ⟨w.heap.size, 0, none⟩ = some (.slice a rs.length cap) ∧ W.cell? ⟨w.heap.size + 1, 7, none⟩ = some (.slice (some ⟨b7, o7, none⟩) r.kids.length c7) ∧ W.cell? ⟨b7, o7, none⟩ = some (.int .i64 kk)) := fun W hW => ⟨cell_keep hW z0, cell_keep hW z1, cell_keep hW z2, (HD.out.below hW 0 _ rfl).1, cell_keep hW y7, cell_keep hW hc7⟩
    clear z0 z1 z2 y7 hc7
    refine wp_region_held_drew (S := (fun W => W.cell? ⟨w.heap.size + 2, 0, none⟩ = some (.int .i64 x) ∧ W.cell? ⟨w.heap.size + 2, 1, none⟩ = some (.slice ab bl cb) ∧ W.cell? ⟨w.heap.size + 2, 2, none⟩ = some (.slice ai il ci) ∧ W.cell? ⟨w.heap.size, 0, none⟩ = some (.slice a rs.length cap) ∧ W.cell? ⟨w.heap.size + 1, 7, none⟩ = some (.slice (some ⟨b7, o7, none⟩) r.kids.length c7) ∧ W.cell? ⟨b7, o7, none⟩ = some (.int .i64 kk))) (by kernel_rfl) ?_ (fun hHeld => ?_)
    ·(try dsimp only); exact HSW.out _ HBW.out
    refine tk 0 (v := ?v149) (hy := Or.inl ⟨by rfl, ?hy149⟩) (h := ?rest149)
    case hy149 => ((intro W hSw; (try dsimp only at hSw); go_simp); (try with_reducible rfl))
    simp only [Act.put, List.setIfInBounds_toArray, List.set_cons_zero, List.set_cons_succ]
    refine tk 1 (v := ?v150) (hy := Or.inl ⟨by rfl, ?hy150⟩) (h := ?rest150)
    case hy150 => ((intro W hSw; (try dsimp only at hSw); go_simp); (try with_reducible rfl))
    simp only [Act.put, List.setIfInBounds_toArray, List.set_cons_zero, List.set_cons_succ]
    refine tk 2 (v := ?v151) (hy := Or.inl ⟨by rfl, ?hy151⟩) (h := ?rest151)
    case hy151 => ((intro W hSw; (try dsimp only at hSw); go_simp); (try with_reducible rfl))
    simp only [Act.put, List.setIfInBounds_toArray, List.set_cons_zero, List.set_cons_succ]
    refine tk 3 (v := ?v152) (hy := Or.inl ⟨by rfl, ?hy152⟩) (h := ?rest152)
    case hy152 => ((intro W hSw; (try dsimp only at hSw); go_simp); (try with_reducible rfl))
    simp only [Act.put, List.setIfInBounds_toArray, List.set_cons_zero, List.set_cons_succ]
    refine tk 4 (v := ?v153) (hy := Or.inl ⟨by rfl, ?hy153⟩) (h := ?rest153)
    case hy153 => ((intro W hSw; (try dsimp only at hSw); go_simp); (try with_reducible rfl))
    simp only [Act.put, List.setIfInBounds_toArray, List.set_cons_zero, List.set_cons_succ]
    refine tk 5 (v := ?v154) (hy := Or.inl ⟨by rfl, ?hy154⟩) (h := ?rest154)
    case hy154 => ((intro W hSw; (try dsimp only at hSw); go_simp); (try with_reducible rfl))
    simp only [Act.put, List.setIfInBounds_toArray, List.set_cons_zero, List.set_cons_succ]
    refine tk 6 (v := ?v155) (hy := Or.inl ⟨by rfl, ?hy155⟩) (h := ?rest155)
    case hy155 => ((intro W hSw; (try dsimp only at hSw); go_simp); (try with_reducible rfl))
    simp only [Act.put, List.setIfInBounds_toArray, List.set_cons_zero, List.set_cons_succ]
    refine tk 7 (v := ?v156) (hy := Or.inl ⟨by rfl, ?hy156⟩) (h := ?rest156)
    case hy156 => ((intro W hSw; (try dsimp only at hSw); go_simp); (try with_reducible rfl))
    simp only [Act.put, List.setIfInBounds_toArray, List.set_cons_zero, List.set_cons_succ]
    refine tk 8 (v := ?v157) (hy := Or.inl ⟨by rfl, ?hy157⟩) (h := ?rest157)
    case hy157 => ((intro W hSw; (try dsimp only at hSw); go_simp); (try with_reducible rfl))
    simp only [Act.put, List.setIfInBounds_toArray, List.set_cons_zero, List.set_cons_succ]
    refine tk 9 (v := ?v158) (hy := Or.inl ⟨by rfl, ?hy158⟩) (h := ?rest158)
    case hy158 => ((intro W hSw; (try dsimp only at hSw); go_simp); (try with_reducible rfl))
    simp only [Act.put, List.setIfInBounds_toArray, List.set_cons_zero, List.set_cons_succ]
    refine tk 10 (v := ?v159) (hy := Or.inl ⟨by rfl, ?hy159⟩) (h := ?rest159)
    case hy159 => ((intro W hSw; (try dsimp only at hSw); go_simp); (try with_reducible rfl))
    simp only [Act.put, List.setIfInBounds_toArray, List.set_cons_zero, List.set_cons_succ]
    refine tk 11 (v := ?v160) (hy := Or.inl ⟨by rfl, ?hy160⟩) (h := ?rest160)
    case hy160 => ((intro W hSw; (try dsimp only at hSw); go_simp); (try with_reducible rfl))
    simp only [Act.put, List.setIfInBounds_toArray, List.set_cons_zero, List.set_cons_succ]
    refine tk 12 (v := ?v161) (hy := Or.inl ⟨by rfl, ?hy161⟩) (h := ?rest161)
    case hy161 => ((intro W hSw; (try dsimp only at hSw); go_simp); (try with_reducible rfl))
    simp only [Act.put, List.setIfInBounds_toArray, List.set_cons_zero, List.set_cons_succ]
    refine tk 13 (v := ?v162) (hy := Or.inl ⟨by rfl, ?hy162⟩) (h := ?rest162)
    case hy162 => ((intro W hSw; (try dsimp only at hSw); go_simp); (try with_reducible rfl))
    simp only [Act.put, List.setIfInBounds_toArray, List.set_cons_zero, List.set_cons_succ]
    refine tk 14 (v := ?v163) (hy := Or.inl ⟨by rfl, ?hy163⟩) (h := ?rest163)
    case hy163 => ((intro W hSw; (try dsimp only at hSw); go_simp); (try with_reducible rfl))
    simp only [Act.put, List.setIfInBounds_toArray, List.set_cons_zero, List.set_cons_succ]
    refine tk 15 (v := ?v164) (hy := Or.inl ⟨by rfl, ?hy164⟩) (h := ?rest164)
    case hy164 => ((intro W hSw; (try dsimp only at hSw); go_simp); (try with_reducible rfl))
    simp only [Act.put, List.setIfInBounds_toArray, List.set_cons_zero, List.set_cons_succ]
    refine tk 16 (v := ?v165) (hy := Or.inl ⟨by rfl, ?hy165⟩) (h := ?rest165)
    case hy165 => ((intro W hSw; (try dsimp only at hSw); go_simp); (try with_reducible rfl))
    simp only [Act.put, List.setIfInBounds_toArray, List.set_cons_zero, List.set_cons_succ]
    refine tk 17 (v := ?v166) (hy := Or.inl ⟨by rfl, ?hy166⟩) (h := ?rest166)
    case hy166 => ((intro W hSw; (try dsimp only at hSw); go_simp); (try with_reducible rfl))
    simp only [Act.put, List.setIfInBounds_toArray, List.set_cons_zero, List.set_cons_succ]
    refine wpAnyH_ready (rs := [18]) (by kernel_rfl) (by simp) ?_
    refine AllReadyH.cons (by simp only [List.getElem?_toArray, List.getElem?_cons_succ, List.getElem?_cons_zero]; rfl) (fun K hK => ?_) AllReadyH.nil
    go_simp
    (go_at_call 207; refine (limit_spec a rs cap kk _ (by omega) (HRD.out.below HBW.out)).mono ?_; rintro e wx ⟨rfl, hb⟩; rw [← HL.out]; replace HBW := kq (HBW.out.trans (hb.mono HBW.out.size)); clear hb)
    go_wp2_with fail
    refine hK.out _ _ ?_ (fun hHeld => ?_)
    ·(try dsimp only); exact HSW.out _ HBW.out
    clear hK K
    refine wpAnyH_ready (rs := [19]) (by kernel_rfl) (by simp) ?_
    refine AllReadyH.cons (by simp only [List.getElem?_toArray, List.getElem?_cons_succ, List.getElem?_cons_zero]; rfl) (fun K hK => ?_) AllReadyH.nil
    go_simp
    (go_at_call 75; refine (min_spec 40 L _).mono ?_; rintro e wx ⟨rfl, rfl⟩; rw [← HM.out])
    go_wp2_with fail
    refine hK.out _ _ ?_ (fun hHeld => ?_)
    ·(try dsimp only); exact HSW.out _ HBW.out
    clear hK K
    refine tk 20 (v := ?v167) (hy := Or.inl ⟨by rfl, ?hy167⟩) (h := ?rest167)
    case hy167 => ((intro W hSw; (try dsimp only at hSw); go_simp); (try with_reducible rfl))
    simp only [Act.put, List.setIfInBounds_toArray, List.set_cons_zero, List.set_cons_succ]
    refine tk 21 (v := ?v168) (hy := Or.inl ⟨by rfl, ?hy168⟩) (h := ?rest168)
    case hy168 => ((intro W hSw; (try dsimp only at hSw); go_simp); (try with_reducible rfl))
    simp only [Act.put, List.setIfInBounds_toArray, List.set_cons_zero, List.set_cons_succ]
    refine tk 22 (v := ?v169) (hy := Or.inl ⟨by rfl, ?hy169⟩) (h := ?rest169)
    case hy169 => ((intro W hSw; (try dsimp only at hSw); go_simp); (try with_reducible rfl))
    simp only [Act.put, List.setIfInBounds_toArray, List.set_cons_zero, List.set_cons_succ]
    refine wpAnyH_done (by kernel_rfl) ?_ _
    have HBF := kq (HB.out.trans (HBW.out.mono HB.out.size))
    go_wp2
    go_ret
    exact ⟨ret_bool (by first | exact hr.out.symm | (rw [hr.out]; exact decide_eq_true (by omega)) | (rw [hr.out]; exact decide_eq_false (by omega))), HBF.out⟩
  ·have e2 : ((bl : Int) == 0) = false := by simp; omega
   have hr : Hid (ownB rs r v = false) := by show _ = _; rw [hres.out]; simp [g1, g2]
   clear hres g1 g2
   go_enter Tryz.func178, Tryz.ntmps178
   go_upto_region 1 with fail
   rw [← hW.out]
   clear hW
   go_upto_region 13 with fail
   have HBW : Hid (Below w0.heap.size w0 w0.drew) := below_drewN (Below.refl _ w0) 1
   have HSW : Hid (∀ W, Below w0.heap.size w0 W → W.cell? ⟨w.heap.size + 2, 0, none⟩ = some (.int .i64 x) ∧ W.cell? ⟨w.heap.size + 2, 1, none⟩ = some (.slice ab bl cb) ∧ W.cell? ⟨w.heap.size + 2, 2, none⟩ = some (.slice ai il ci) ∧ W.cell? ⟨w.heap.size, 0, none⟩ = some (.slice a rs.length cap) ∧ W.cell? ⟨w.heap.size + 1, 7, none⟩ = some (.slice (some ⟨b7, o7, none⟩) r.kids.length c7) ∧ W.cell? ⟨b7, o7, none⟩ = some (.int .i64 kk)) := fun W hW => ⟨cell_keep hW z0, cell_keep hW z1, cell_keep hW z2, (HD.out.below hW 0 _ rfl).1, cell_keep hW y7, cell_keep hW hc7⟩
   clear z0 z1 z2 y7 hc7
   refine wp_region_held_drew (S := (fun W => W.cell? ⟨w.heap.size + 2, 0, none⟩ = some (.int .i64 x) ∧ W.cell? ⟨w.heap.size + 2, 1, none⟩ = some (.slice ab bl cb) ∧ W.cell? ⟨w.heap.size + 2, 2, none⟩ = some (.slice ai il ci) ∧ W.cell? ⟨w.heap.size, 0, none⟩ = some (.slice a rs.length cap) ∧ W.cell? ⟨w.heap.size + 1, 7, none⟩ = some (.slice (some ⟨b7, o7, none⟩) r.kids.length c7) ∧ W.cell? ⟨b7, o7, none⟩ = some (.int .i64 kk))) (by kernel_rfl) ?_ (fun hHeld => ?_)
   ·(try dsimp only); exact HSW.out _ HBW.out
   refine tk 0 (v := ?v170) (hy := Or.inl ⟨by rfl, ?hy170⟩) (h := ?rest170)
   case hy170 => ((intro W hSw; (try dsimp only at hSw); go_simp); (try with_reducible rfl))
   simp only [Act.put, List.setIfInBounds_toArray, List.set_cons_zero, List.set_cons_succ]
   refine tk 1 (v := ?v171) (hy := Or.inl ⟨by rfl, ?hy171⟩) (h := ?rest171)
   case hy171 => ((intro W hSw; (try dsimp only at hSw); go_simp); (try with_reducible rfl))
   simp only [Act.put, List.setIfInBounds_toArray, List.set_cons_zero, List.set_cons_succ]
   refine tk 2 (v := ?v172) (hy := Or.inl ⟨by rfl, ?hy172⟩) (h := ?rest172)
   case hy172 => ((intro W hSw; (try dsimp only at hSw); go_simp); (try with_reducible rfl))
   simp only [Act.put, List.setIfInBounds_toArray, List.set_cons_zero, List.set_cons_succ]
   refine tk 3 (v := ?v173) (hy := Or.inl ⟨by rfl, ?hy173⟩) (h := ?rest173)
   case hy173 => ((intro W hSw; (try dsimp only at hSw); go_simp); (try with_reducible rfl))
   simp only [Act.put, List.setIfInBounds_toArray, List.set_cons_zero, List.set_cons_succ]
   refine tk 4 (v := ?v174) (hy := Or.inl ⟨by rfl, ?hy174⟩) (h := ?rest174)
   case hy174 => ((intro W hSw; (try dsimp only at hSw); go_simp); (try with_reducible rfl))
   simp only [Act.put, List.setIfInBounds_toArray, List.set_cons_zero, List.set_cons_succ]
   refine tk 5 (v := ?v175) (hy := Or.inl ⟨by rfl, ?hy175⟩) (h := ?rest175)
   case hy175 => ((intro W hSw; (try dsimp only at hSw); go_simp); (try with_reducible rfl))
   simp only [Act.put, List.setIfInBounds_toArray, List.set_cons_zero, List.set_cons_succ]
   refine tk 6 (v := ?v176) (hy := Or.inl ⟨by rfl, ?hy176⟩) (h := ?rest176)
   case hy176 => ((intro W hSw; (try dsimp only at hSw); go_simp); (try with_reducible rfl))
   simp only [Act.put, List.setIfInBounds_toArray, List.set_cons_zero, List.set_cons_succ]
   refine tk 7 (v := ?v177) (hy := Or.inl ⟨by rfl, ?hy177⟩) (h := ?rest177)
   case hy177 => ((intro W hSw; (try dsimp only at hSw); go_simp); (try with_reducible rfl))
   simp only [Act.put, List.setIfInBounds_toArray, List.set_cons_zero, List.set_cons_succ]
   refine tk 8 (v := ?v178) (hy := Or.inl ⟨by rfl, ?hy178⟩) (h := ?rest178)
   case hy178 => ((intro W hSw; (try dsimp only at hSw); go_simp); (try with_reducible rfl))
   simp only [Act.put, List.setIfInBounds_toArray, List.set_cons_zero, List.set_cons_succ]
   refine tk 9 (v := ?v179) (hy := Or.inl ⟨by rfl, ?hy179⟩) (h := ?rest179)
   case hy179 => ((intro W hSw; (try dsimp only at hSw); go_simp); (try with_reducible rfl))
   simp only [Act.put, List.setIfInBounds_toArray, List.set_cons_zero, List.set_cons_succ]
   refine tk 10 (v := undef) (hy := Or.inr ⟨by rfl, rfl⟩) (h := ?_)
   simp only [Act.put, List.setIfInBounds_toArray, List.set_cons_zero, List.set_cons_succ]
   refine tk 11 (v := undef) (hy := Or.inr ⟨by rfl, rfl⟩) (h := ?_)
   simp only [Act.put, List.setIfInBounds_toArray, List.set_cons_zero, List.set_cons_succ]
   refine tk 12 (v := undef) (hy := Or.inr ⟨by rfl, rfl⟩) (h := ?_)
   simp only [Act.put, List.setIfInBounds_toArray, List.set_cons_zero, List.set_cons_succ]
   refine tk 13 (v := undef) (hy := Or.inr ⟨by rfl, rfl⟩) (h := ?_)
   simp only [Act.put, List.setIfInBounds_toArray, List.set_cons_zero, List.set_cons_succ]
   refine tk 14 (v := undef) (hy := Or.inr ⟨by rfl, rfl⟩) (h := ?_)
   simp only [Act.put, List.setIfInBounds_toArray, List.set_cons_zero, List.set_cons_succ]
   refine tk 15 (v := undef) (hy := Or.inr ⟨by rfl, rfl⟩) (h := ?_)
   simp only [Act.put, List.setIfInBounds_toArray, List.set_cons_zero, List.set_cons_succ]
   refine tk 16 (v := undef) (hy := Or.inr ⟨by rfl, rfl⟩) (h := ?_)
   simp only [Act.put, List.setIfInBounds_toArray, List.set_cons_zero, List.set_cons_succ]
   refine tk 17 (v := undef) (hy := Or.inr ⟨by rfl, rfl⟩) (h := ?_)
   simp only [Act.put, List.setIfInBounds_toArray, List.set_cons_zero, List.set_cons_succ]
   refine tk 18 (v := undef) (hy := Or.inr ⟨by rfl, rfl⟩) (h := ?_)
   simp only [Act.put, List.setIfInBounds_toArray, List.set_cons_zero, List.set_cons_succ]
   refine tk 19 (v := undef) (hy := Or.inr ⟨by rfl, rfl⟩) (h := ?_)
   simp only [Act.put, List.setIfInBounds_toArray, List.set_cons_zero, List.set_cons_succ]
   refine tk 20 (v := undef) (hy := Or.inr ⟨by rfl, rfl⟩) (h := ?_)
   simp only [Act.put, List.setIfInBounds_toArray, List.set_cons_zero, List.set_cons_succ]
   refine tk 21 (v := ?v180) (hy := Or.inl ⟨by rfl, ?hy180⟩) (h := ?rest180)
   case hy180 => ((intro W hSw; (try dsimp only at hSw); go_simp); (try with_reducible rfl))
   simp only [Act.put, List.setIfInBounds_toArray, List.set_cons_zero, List.set_cons_succ]
   refine tk 22 (v := ?v181) (hy := Or.inl ⟨by rfl, ?hy181⟩) (h := ?rest181)
   case hy181 => ((intro W hSw; (try dsimp only at hSw); go_simp); (try with_reducible rfl))
   simp only [Act.put, List.setIfInBounds_toArray, List.set_cons_zero, List.set_cons_succ]
   refine wpAnyH_done (by kernel_rfl) ?_ _
   have HBF := kq (HB.out.trans (HBW.out.mono HB.out.size))
   go_wp2
   go_ret
   exact ⟨ret_bool (by first | exact hr.out.symm | (rw [hr.out]; exact decide_eq_true (by omega)) | (rw [hr.out]; exact decide_eq_false (by omega))), HBF.out⟩
 ·have e1 : (x == 0) = false := by simpa using g1
  have hr : Hid (ownB rs r v = false) := by show _ = _; rw [hres.out]; simp [g1]
  clear hres g1
  go_enter Tryz.func178, Tryz.ntmps178
  go_upto_region 1 with fail
  rw [← hW.out]
  clear hW
  go_upto_region 13 with fail
  have HBW : Hid (Below w0.heap.size w0 w0.drew) := below_drewN (Below.refl _ w0) 1
  have HSW : Hid (∀ W, Below w0.heap.size w0 W → W.cell? ⟨w.heap.size + 2, 0, none⟩ = some (.int .i64 x) ∧ W.cell? ⟨w.heap.size + 2, 1, none⟩ = some (.slice ab bl cb) ∧ W.cell? ⟨w.heap.size + 2, 2, none⟩ = some (.slice ai il ci) ∧ W.cell? ⟨w.heap.size, 0, none⟩ = some (.slice a rs.length cap) ∧ W.cell? ⟨w.heap.size + 1, 7, none⟩ = some (.slice (some ⟨b7, o7, none⟩) r.kids.length c7) ∧ W.cell? ⟨b7, o7, none⟩ = some (.int .i64 kk)) := fun W hW => ⟨cell_keep hW z0, cell_keep hW z1, cell_keep hW z2, (HD.out.below hW 0 _ rfl).1, cell_keep hW y7, cell_keep hW hc7⟩
  clear z0 z1 z2 y7 hc7
  refine wp_region_held_drew (S := (fun W => W.cell? ⟨w.heap.size + 2, 0, none⟩ = some (.int .i64 x) ∧ W.cell? ⟨w.heap.size + 2, 1, none⟩ = some (.slice ab bl cb) ∧ W.cell? ⟨w.heap.size + 2, 2, none⟩ = some (.slice ai il ci) ∧ W.cell? ⟨w.heap.size, 0, none⟩ = some (.slice a rs.length cap) ∧ W.cell? ⟨w.heap.size + 1, 7, none⟩ = some (.slice (some ⟨b7, o7, none⟩) r.kids.length c7) ∧ W.cell? ⟨b7, o7, none⟩ = some (.int .i64 kk))) (by kernel_rfl) ?_ (fun hHeld => ?_)
  ·(try dsimp only); exact HSW.out _ HBW.out
  refine tk 0 (v := ?v182) (hy := Or.inl ⟨by rfl, ?hy182⟩) (h := ?rest182)
  case hy182 => ((intro W hSw; (try dsimp only at hSw); go_simp); (try with_reducible rfl))
  simp only [Act.put, List.setIfInBounds_toArray, List.set_cons_zero, List.set_cons_succ]
  refine tk 1 (v := ?v183) (hy := Or.inl ⟨by rfl, ?hy183⟩) (h := ?rest183)
  case hy183 => ((intro W hSw; (try dsimp only at hSw); go_simp); (try with_reducible rfl))
  simp only [Act.put, List.setIfInBounds_toArray, List.set_cons_zero, List.set_cons_succ]
  refine tk 2 (v := ?v184) (hy := Or.inl ⟨by rfl, ?hy184⟩) (h := ?rest184)
  case hy184 => ((intro W hSw; (try dsimp only at hSw); go_simp); (try with_reducible rfl))
  simp only [Act.put, List.setIfInBounds_toArray, List.set_cons_zero, List.set_cons_succ]
  refine tk 3 (v := ?v185) (hy := Or.inl ⟨by rfl, ?hy185⟩) (h := ?rest185)
  case hy185 => ((intro W hSw; (try dsimp only at hSw); go_simp); (try with_reducible rfl))
  simp only [Act.put, List.setIfInBounds_toArray, List.set_cons_zero, List.set_cons_succ]
  refine tk 4 (v := undef) (hy := Or.inr ⟨by rfl, rfl⟩) (h := ?_)
  simp only [Act.put, List.setIfInBounds_toArray, List.set_cons_zero, List.set_cons_succ]
  refine tk 5 (v := undef) (hy := Or.inr ⟨by rfl, rfl⟩) (h := ?_)
  simp only [Act.put, List.setIfInBounds_toArray, List.set_cons_zero, List.set_cons_succ]
  refine tk 6 (v := undef) (hy := Or.inr ⟨by rfl, rfl⟩) (h := ?_)
  simp only [Act.put, List.setIfInBounds_toArray, List.set_cons_zero, List.set_cons_succ]
  refine tk 7 (v := undef) (hy := Or.inr ⟨by rfl, rfl⟩) (h := ?_)
  simp only [Act.put, List.setIfInBounds_toArray, List.set_cons_zero, List.set_cons_succ]
  refine tk 8 (v := ?v186) (hy := Or.inl ⟨by rfl, ?hy186⟩) (h := ?rest186)
  case hy186 => ((intro W hSw; (try dsimp only at hSw); go_simp); (try with_reducible rfl))
  simp only [Act.put, List.setIfInBounds_toArray, List.set_cons_zero, List.set_cons_succ]
  refine tk 9 (v := ?v187) (hy := Or.inl ⟨by rfl, ?hy187⟩) (h := ?rest187)
  case hy187 => ((intro W hSw; (try dsimp only at hSw); go_simp); (try with_reducible rfl))
  simp only [Act.put, List.setIfInBounds_toArray, List.set_cons_zero, List.set_cons_succ]
  refine tk 10 (v := undef) (hy := Or.inr ⟨by rfl, rfl⟩) (h := ?_)
  simp only [Act.put, List.setIfInBounds_toArray, List.set_cons_zero, List.set_cons_succ]
  refine tk 11 (v := undef) (hy := Or.inr ⟨by rfl, rfl⟩) (h := ?_)
  simp only [Act.put, List.setIfInBounds_toArray, List.set_cons_zero, List.set_cons_succ]
  refine tk 12 (v := undef) (hy := Or.inr ⟨by rfl, rfl⟩) (h := ?_)
  simp only [Act.put, List.setIfInBounds_toArray, List.set_cons_zero, List.set_cons_succ]
  refine tk 13 (v := undef) (hy := Or.inr ⟨by rfl, rfl⟩) (h := ?_)
  simp only [Act.put, List.setIfInBounds_toArray, List.set_cons_zero, List.set_cons_succ]
  refine tk 14 (v := undef) (hy := Or.inr ⟨by rfl, rfl⟩) (h := ?_)
  simp only [Act.put, List.setIfInBounds_toArray, List.set_cons_zero, List.set_cons_succ]
  refine tk 15 (v := undef) (hy := Or.inr ⟨by rfl, rfl⟩) (h := ?_)
  simp only [Act.put, List.setIfInBounds_toArray, List.set_cons_zero, List.set_cons_succ]
  refine tk 16 (v := undef) (hy := Or.inr ⟨by rfl, rfl⟩) (h := ?_)
  simp only [Act.put, List.setIfInBounds_toArray, List.set_cons_zero, List.set_cons_succ]
  refine tk 17 (v := undef) (hy := Or.inr ⟨by rfl, rfl⟩) (h := ?_)
  simp only [Act.put, List.setIfInBounds_toArray, List.set_cons_zero, List.set_cons_succ]
  refine tk 18 (v := undef) (hy := Or.inr ⟨by rfl, rfl⟩) (h := ?_)
  simp only [Act.put, List.setIfInBounds_toArray, List.set_cons_zero, List.set_cons_succ]
  refine tk 19 (v := undef) (hy := Or.inr ⟨by rfl, rfl⟩) (h := ?_)
  simp only [Act.put, List.setIfInBounds_toArray, List.set_cons_zero, List.set_cons_succ]
  refine tk 20 (v := undef) (hy := Or.inr ⟨by rfl, rfl⟩) (h := ?_)
  simp only [Act.put, List.setIfInBounds_toArray, List.set_cons_zero, List.set_cons_succ]
  refine tk 21 (v := ?v188) (hy := Or.inl ⟨by rfl, ?hy188⟩) (h := ?rest188)
  case hy188 => ((intro W hSw; (try dsimp only at hSw); go_simp); (try with_reducible rfl))
  simp only [Act.put, List.setIfInBounds_toArray, List.set_cons_zero, List.set_cons_succ]
  refine tk 22 (v := ?v189) (hy := Or.inl ⟨by rfl, ?hy189⟩) (h := ?rest189)
  case hy189 => ((intro W hSw; (try dsimp only at hSw); go_simp); (try with_reducible rfl))
  simp only [Act.put, List.setIfInBounds_toArray, List.set_cons_zero, List.set_cons_succ]
  refine wpAnyH_done (by kernel_rfl) ?_ _
  have HBF := kq (HB.out.trans (HBW.out.mono HB.out.size))
  go_wp2
  go_ret
  exact ⟨ret_bool (by first | exact hr.out.symm | (rw [hr.out]; exact decide_eq_true (by omega)) | (rw [hr.out]; exact decide_eq_false (by omega))), HBF.out⟩
theorem own_6 (a : Option Addr) (rs : List RuleV) (cap : Nat) (r : RuleV) (cs vs : List Value) (v : ValueV) (n : Nat) (w : World) (_hl : rs.length ≤ 1048576) (hrd : RdR a rs w) (hki : kindI rs r = true) (h : IsRule r cs w) (hv : IsVal (n + 1) v vs w) (hk : r.kind = 6) :
  Calls Tryz.prog 178 #[.agg #[.slice a rs.length cap], .agg cs.toArray, .agg vs.toArray] w fun e w' => e = .returned (.bool (ownB rs r v)) ∧ Below w.heap.size w w' := by
 obtain ⟨a4, c4, a5, c5, a6, c6, a7, c7, rfl, h4, h5, h6, h7⟩ := h
 obtain ⟨ab, cb, ai, ci, rfl, -, -⟩ := hv
 have hres : Hid (ownB rs r v = (decide (v.number = 0) && (decide (v.bytes.length = 0) && decide (v.items.length = r.kids.length)))) := by show _ = _; unfold ownB; simp [hk]
 obtain ⟨x, hx⟩ : ∃ x, x = v.number := ⟨_, rfl⟩
 obtain ⟨bl, hbl⟩ : ∃ bl, bl = v.bytes.length := ⟨_, rfl⟩
 obtain ⟨il, hil⟩ : ∃ il, il = v.items.length := ⟨_, rfl⟩
 rw [← hx, ← hbl, ← hil]
 rw [← hx, ← hbl, ← hil] at hres
 have HX := kq hx
 clear hx hbl hil
 obtain ⟨w0, hw0⟩ : ∃ w0, w0 = ((w.alloc (.cells #[.slice a rs.length cap] 26)).alloc (.cells #[.string r.name, .int .i64 r.kind, .int .i64 r.size, .bool r.little, .slice a4 r.bytes.length c4, .slice a5 r.names.length c5, .slice a6 r.tags.length c6, .slice a7 r.kids.length c7] 42)).alloc (.cells #[.int .i64 x, .slice ab bl cb, .slice ai il ci] 29) := ⟨_, rfl⟩
 have hB : Below w.heap.size w w0 := by subst hw0; exact (((Below.refl _ _).alloc (Nat.le_refl _) _).alloc (by simp) _).alloc (by simp; omega) _
 have HD : Hid (CellsAt w.heap.size [.slice a rs.length cap] w0) := by subst hw0; exact ((CellsAt.new w _ _).below ((Below.refl _ _).alloc (Nat.le_refl _) _)).below ((Below.refl _ _).alloc (Nat.le_refl _) _)
 have HC : Hid (CellsAt (w.heap.size + 1) [.string r.name, .int .i64 r.kind, .int .i64 r.size, .bool r.little, .slice a4 r.bytes.length c4, .slice a5 r.names.length c5, .slice a6 r.tags.length c6, .slice a7 r.kids.length c7] w0) := by subst hw0; have h1 := CellsAt.new (w.alloc (.cells #[.slice a rs.length cap] 26)) [.string r.name, .int .i64 r.kind, .int .i64 r.size, .bool r.little, .slice a4 r.bytes.length c4, .slice a5 r.names.length c5, .slice a6 r.tags.length c6, .slice a7 r.kids.length c7] 42; rw [World.size_alloc] at h1; exact h1.below ((Below.refl _ _).alloc (Nat.le_refl _) _)
 have HVC : Hid (CellsAt (w.heap.size + 2) [.int .i64 x, .slice ab bl cb, .slice ai il ci] w0) := by subst hw0; have h1 := CellsAt.new ((w.alloc (.cells #[.slice a rs.length cap] 26)).alloc (.cells #[.string r.name, .int .i64 r.kind, .int .i64 r.size, .bool r.little, .slice a4 r.bytes.length c4, .slice a5 r.names.length c5, .slice a6 r.tags.length c6, .slice a7 r.kids.length c7] 42)) [.int .i64 x, .slice ab bl cb, .slice ai il ci] 29; rw [World.size_alloc, World.size_alloc] at h1; exact h1
 have HR7 := kq (h7.below hB)
 have HRD := kq (hrd.below hB)
 have HIS : Hid (IsRule r [.string r.name, .int .i64 r.kind, .int .i64 r.size, .bool r.little, .slice a4 r.bytes.length c4, .slice a5 r.names.length c5, .slice a6 r.tags.length c6, .slice a7 r.kids.length c7] w0) := ⟨a4, c4, a5, c5, a6, c6, a7, c7, rfl, h4.below hB, h5.below hB, h6.below hB, h7.below hB⟩
 have HB := kq hB
 have HKI := kq hki
 have hW := kq hw0
 have HKK := kq hk
 have z0 := (HVC.out 0 _ rfl).1
 have z1 := (HVC.out 1 _ rfl).1
 have z2 := (HVC.out 2 _ rfl).1
 have y1 := (HC.out 1 _ rfl).1
 rw [hk] at y1
 clear hB hki hw0 h4 h5 h6 h7 hrd
 have y7 := (HC.out 7 _ rfl).1
 obtain ⟨kl, hkl⟩ : ∃ kl, kl = r.kids.length := ⟨_, rfl⟩
 rw [← hkl] at y7 hres
 clear hkl
 clear hk
 by_cases g1 : x = 0
 ·have e1 : (x == 0) = true := by simpa using g1
  by_cases g2 : bl = 0
  ·have e2 : ((bl : Int) == 0) = true := by simp; omega
   by_cases g3 : il = kl
   ·have e3 : ((il : Int) == (kl : Int)) = true := by simp; omega
    have hr : Hid (ownB rs r v = true) := by show _ = _; rw [hres.out]; simp [g1, g2, g3]
    clear hres g1 g2 g3
    go_enter Tryz.func178, Tryz.ntmps178
    go_upto_region 1 with fail
    rw [← hW.out]
    clear hW
    have HBF := HB
    go_wp2
    go_ret
    exact ⟨ret_bool (by first | exact hr.out.symm | (rw [hr.out]; exact decide_eq_true (by omega)) | (rw [hr.out]; exact decide_eq_false (by omega))), HBF.out⟩
   ·have e3 : ((il : Int) == (kl : Int)) = false := by simp; omega
    have hr : Hid (ownB rs r v = false) := by show _ = _; rw [hres.out]; simp [g1, g2, g3]
    clear hres g1 g2 g3
    go_enter Tryz.func178, Tryz.ntmps178
    go_upto_region 1 with fail
    rw [← hW.out]
    clear hW
    have HBF := HB
    go_wp2
    go_ret
    exact ⟨ret_bool (by first | exact hr.out.symm | (rw [hr.out]; exact decide_eq_true (by omega)) | (rw [hr.out]; exact decide_eq_false (by omega))), HBF.out⟩
  ·have e2 : ((bl : Int) == 0) = false := by simp; omega
   have hr : Hid (ownB rs r v = false) := by show _ = _; rw [hres.out]; simp [g1, g2]
   clear hres g1 g2
   go_enter Tryz.func178, Tryz.ntmps178
   go_upto_region 1 with fail
   rw [← hW.out]
   clear hW
   have HBF := HB
   go_wp2
   go_ret
   exact ⟨ret_bool (by first | exact hr.out.symm | (rw [hr.out]; exact decide_eq_true (by omega)) | (rw [hr.out]; exact decide_eq_false (by omega))), HBF.out⟩
 ·have e1 : (x == 0) = false := by simpa using g1
  have hr : Hid (ownB rs r v = false) := by show _ = _; rw [hres.out]; simp [g1]
  clear hres g1
  go_enter Tryz.func178, Tryz.ntmps178
  go_upto_region 1 with fail
  rw [← hW.out]
  clear hW
  have HBF := HB
  go_wp2
  go_ret
  exact ⟨ret_bool (by first | exact hr.out.symm | (rw [hr.out]; exact decide_eq_true (by omega)) | (rw [hr.out]; exact decide_eq_false (by omega))), HBF.out⟩
theorem own_7 (a : Option Addr) (rs : List RuleV) (cap : Nat) (r : RuleV) (cs vs : List Value) (v : ValueV) (n : Nat) (w : World) (_hl : rs.length ≤ 1048576) (hrd : RdR a rs w) (hki : kindI rs r = true) (h : IsRule r cs w) (hv : IsVal (n + 1) v vs w) (hk : r.kind = 7) :
  Calls Tryz.prog 178 #[.agg #[.slice a rs.length cap], .agg cs.toArray, .agg vs.toArray] w fun e w' => e = .returned (.bool (ownB rs r v)) ∧ Below w.heap.size w w' := by
 obtain ⟨a4, c4, a5, c5, a6, c6, a7, c7, rfl, h4, h5, h6, h7⟩ := h
 obtain ⟨ab, cb, ai, ci, rfl, -, -⟩ := hv
 have hres : Hid (ownB rs r v = (decide (v.bytes.length = 0) && (decide (v.items.length = 1) && decide (0 ≤ itemR r v.number 0)))) := by show _ = _; unfold ownB; simp [hk]
 obtain ⟨x, hx⟩ : ∃ x, x = v.number := ⟨_, rfl⟩
 obtain ⟨bl, hbl⟩ : ∃ bl, bl = v.bytes.length := ⟨_, rfl⟩
 obtain ⟨il, hil⟩ : ∃ il, il = v.items.length := ⟨_, rfl⟩
 rw [← hx, ← hbl, ← hil]
 rw [← hbl, ← hil] at hres
 have HX := kq hx
 clear hx hbl hil
 obtain ⟨w0, hw0⟩ : ∃ w0, w0 = ((w.alloc (.cells #[.slice a rs.length cap] 26)).alloc (.cells #[.string r.name, .int .i64 r.kind, .int .i64 r.size, .bool r.little, .slice a4 r.bytes.length c4, .slice a5 r.names.length c5, .slice a6 r.tags.length c6, .slice a7 r.kids.length c7] 42)).alloc (.cells #[.int .i64 x, .slice ab bl cb, .slice ai il ci] 29) := ⟨_, rfl⟩
 have hB : Below w.heap.size w w0 := by subst hw0; exact (((Below.refl _ _).alloc (Nat.le_refl _) _).alloc (by simp) _).alloc (by simp; omega) _
 have HD : Hid (CellsAt w.heap.size [.slice a rs.length cap] w0) := by subst hw0; exact ((CellsAt.new w _ _).below ((Below.refl _ _).alloc (Nat.le_refl _) _)).below ((Below.refl _ _).alloc (Nat.le_refl _) _)
 have HC : Hid (CellsAt (w.heap.size + 1) [.string r.name, .int .i64 r.kind, .int .i64 r.size, .bool r.little, .slice a4 r.bytes.length c4, .slice a5 r.names.length c5, .slice a6 r.tags.length c6, .slice a7 r.kids.length c7] w0) := by subst hw0; have h1 := CellsAt.new (w.alloc (.cells #[.slice a rs.length cap] 26)) [.string r.name, .int .i64 r.kind, .int .i64 r.size, .bool r.little, .slice a4 r.bytes.length c4, .slice a5 r.names.length c5, .slice a6 r.tags.length c6, .slice a7 r.kids.length c7] 42; rw [World.size_alloc] at h1; exact h1.below ((Below.refl _ _).alloc (Nat.le_refl _) _)
 have HVC : Hid (CellsAt (w.heap.size + 2) [.int .i64 x, .slice ab bl cb, .slice ai il ci] w0) := by subst hw0; have h1 := CellsAt.new ((w.alloc (.cells #[.slice a rs.length cap] 26)).alloc (.cells #[.string r.name, .int .i64 r.kind, .int .i64 r.size, .bool r.little, .slice a4 r.bytes.length c4, .slice a5 r.names.length c5, .slice a6 r.tags.length c6, .slice a7 r.kids.length c7] 42)) [.int .i64 x, .slice ab bl cb, .slice ai il ci] 29; rw [World.size_alloc, World.size_alloc] at h1; exact h1
 have HR7 := kq (h7.below hB)
 have HRD := kq (hrd.below hB)
 have HIS : Hid (IsRule r [.string r.name, .int .i64 r.kind, .int .i64 r.size, .bool r.little, .slice a4 r.bytes.length c4, .slice a5 r.names.length c5, .slice a6 r.tags.length c6, .slice a7 r.kids.length c7] w0) := ⟨a4, c4, a5, c5, a6, c6, a7, c7, rfl, h4.below hB, h5.below hB, h6.below hB, h7.below hB⟩
 have HB := kq hB
 have HKI := kq hki
 have hW := kq hw0
 have HKK := kq hk
 have z0 := (HVC.out 0 _ rfl).1
 have z1 := (HVC.out 1 _ rfl).1
 have z2 := (HVC.out 2 _ rfl).1
 have y1 := (HC.out 1 _ rfl).1
 rw [hk] at y1
 clear hB hki hw0 h4 h5 h6 h7 hrd
 have HIS1 : Hid (IsRule r [.string r.name, .int .i64 7, .int .i64 r.size, .bool r.little, .slice a4 r.bytes.length c4, .slice a5 r.names.length c5, .slice a6 r.tags.length c6, .slice a7 r.kids.length c7] w0) := by have h := HIS.out; rw [hk] at h; exact h
 obtain ⟨y, hy⟩ : ∃ y, y = itemR r v.number 0 := ⟨_, rfl⟩
 rw [← hy] at hres
 have HY := kq hy
 clear hy
 have y0 := (HC.out 0 _ rfl).1
 have y2 := (HC.out 2 _ rfl).1
 have y3 := (HC.out 3 _ rfl).1
 have y4 := (HC.out 4 _ rfl).1
 have y5 := (HC.out 5 _ rfl).1
 have y6 := (HC.out 6 _ rfl).1
 have y7 := (HC.out 7 _ rfl).1
 clear hk
 by_cases g1 : bl = 0
 ·have e1 : ((bl : Int) == 0) = true := by simp; omega
  by_cases g2 : il = 1
  ·have e2 : ((il : Int) == 1) = true := by simp; omega
   by_cases g3 : 0 ≤ y
   ·have e3 : (0 ≤ y) := by omega
    have hr : Hid (ownB rs r v = true) := by show _ = _; rw [hres.out]; simp [g1, g2, g3]
    clear hres g1 g2
    go_enter Tryz.func178, Tryz.ntmps178
    go_upto_region 1 with fail
    rw [← hW.out]
    clear hW
    go_wp2_with (go_at_call 142; refine (item_spec rs r _ x 0 _ (by omega) HKI.out HIS1.out).mono ?_; rintro e wx ⟨rfl, hb⟩; rw [show itemR r x 0 = y from by rw [HX.out, HY.out]]; have HBF := kq (HB.out.trans (hb.mono HB.out.size)); clear hb)
    go_wp2
    go_ret
    exact ⟨ret_bool (by first | exact hr.out.symm | (rw [hr.out]; exact decide_eq_true (by omega)) | (rw [hr.out]; exact decide_eq_false (by omega))), HBF.out⟩
   ·have e3 : ¬ (0 ≤ y) := by omega
    have hr : Hid (ownB rs r v = false) := by show _ = _; rw [hres.out]; simp [g1, g2, g3]
    clear hres g1 g2
    go_enter Tryz.func178, Tryz.ntmps178
    go_upto_region 1 with fail
    rw [← hW.out]
    clear hW
    go_wp2_with (go_at_call 142; refine (item_spec rs r _ x 0 _ (by omega) HKI.out HIS1.out).mono ?_; rintro e wx ⟨rfl, hb⟩; rw [show itemR r x 0 = y from by rw [HX.out, HY.out]]; have HBF := kq (HB.out.trans (hb.mono HB.out.size)); clear hb)
    go_wp2
    go_ret
    exact ⟨ret_bool (by first | exact hr.out.symm | (rw [hr.out]; exact decide_eq_true (by omega)) | (rw [hr.out]; exact decide_eq_false (by omega))), HBF.out⟩
  ·have e2 : ((il : Int) == 1) = false := by simp; omega
   have hr : Hid (ownB rs r v = false) := by show _ = _; rw [hres.out]; simp [g1, g2]
   clear hres g1 g2
   go_enter Tryz.func178, Tryz.ntmps178
   go_upto_region 1 with fail
   rw [← hW.out]
   clear hW
   have HBF := HB
   go_wp2
   go_ret
   exact ⟨ret_bool (by first | exact hr.out.symm | (rw [hr.out]; exact decide_eq_true (by omega)) | (rw [hr.out]; exact decide_eq_false (by omega))), HBF.out⟩
 ·have e1 : ((bl : Int) == 0) = false := by simp; omega
  have hr : Hid (ownB rs r v = false) := by show _ = _; rw [hres.out]; simp [g1]
  clear hres g1
  go_enter Tryz.func178, Tryz.ntmps178
  go_upto_region 1 with fail
  rw [← hW.out]
  clear hW
  have HBF := HB
  go_wp2
  go_ret
  exact ⟨ret_bool (by first | exact hr.out.symm | (rw [hr.out]; exact decide_eq_true (by omega)) | (rw [hr.out]; exact decide_eq_false (by omega))), HBF.out⟩
theorem own_8 (a : Option Addr) (rs : List RuleV) (cap : Nat) (r : RuleV) (cs vs : List Value) (v : ValueV) (n : Nat) (w : World) (_hl : rs.length ≤ 1048576) (hrd : RdR a rs w) (hki : kindI rs r = true) (h : IsRule r cs w) (hv : IsVal (n + 1) v vs w) (hk : r.kind = 8) :
  Calls Tryz.prog 178 #[.agg #[.slice a rs.length cap], .agg cs.toArray, .agg vs.toArray] w fun e w' => e = .returned (.bool (ownB rs r v)) ∧ Below w.heap.size w w' := by
 obtain ⟨a4, c4, a5, c5, a6, c6, a7, c7, rfl, h4, h5, h6, h7⟩ := h
 obtain ⟨ab, cb, ai, ci, rfl, -, -⟩ := hv
 have hres : Hid (ownB rs r v = (decide (v.number = 0) && (decide (v.bytes.length = 0) && decide (v.items.length ≤ 1)))) := by show _ = _; unfold ownB; simp [hk]
 obtain ⟨x, hx⟩ : ∃ x, x = v.number := ⟨_, rfl⟩
 obtain ⟨bl, hbl⟩ : ∃ bl, bl = v.bytes.length := ⟨_, rfl⟩
 obtain ⟨il, hil⟩ : ∃ il, il = v.items.length := ⟨_, rfl⟩
 rw [← hx, ← hbl, ← hil]
 rw [← hx, ← hbl, ← hil] at hres
 have HX := kq hx
 clear hx hbl hil
 obtain ⟨w0, hw0⟩ : ∃ w0, w0 = ((w.alloc (.cells #[.slice a rs.length cap] 26)).alloc (.cells #[.string r.name, .int .i64 r.kind, .int .i64 r.size, .bool r.little, .slice a4 r.bytes.length c4, .slice a5 r.names.length c5, .slice a6 r.tags.length c6, .slice a7 r.kids.length c7] 42)).alloc (.cells #[.int .i64 x, .slice ab bl cb, .slice ai il ci] 29) := ⟨_, rfl⟩
 have hB : Below w.heap.size w w0 := by subst hw0; exact (((Below.refl _ _).alloc (Nat.le_refl _) _).alloc (by simp) _).alloc (by simp; omega) _
 have HD : Hid (CellsAt w.heap.size [.slice a rs.length cap] w0) := by subst hw0; exact ((CellsAt.new w _ _).below ((Below.refl _ _).alloc (Nat.le_refl _) _)).below ((Below.refl _ _).alloc (Nat.le_refl _) _)
 have HC : Hid (CellsAt (w.heap.size + 1) [.string r.name, .int .i64 r.kind, .int .i64 r.size, .bool r.little, .slice a4 r.bytes.length c4, .slice a5 r.names.length c5, .slice a6 r.tags.length c6, .slice a7 r.kids.length c7] w0) := by subst hw0; have h1 := CellsAt.new (w.alloc (.cells #[.slice a rs.length cap] 26)) [.string r.name, .int .i64 r.kind, .int .i64 r.size, .bool r.little, .slice a4 r.bytes.length c4, .slice a5 r.names.length c5, .slice a6 r.tags.length c6, .slice a7 r.kids.length c7] 42; rw [World.size_alloc] at h1; exact h1.below ((Below.refl _ _).alloc (Nat.le_refl _) _)
 have HVC : Hid (CellsAt (w.heap.size + 2) [.int .i64 x, .slice ab bl cb, .slice ai il ci] w0) := by subst hw0; have h1 := CellsAt.new ((w.alloc (.cells #[.slice a rs.length cap] 26)).alloc (.cells #[.string r.name, .int .i64 r.kind, .int .i64 r.size, .bool r.little, .slice a4 r.bytes.length c4, .slice a5 r.names.length c5, .slice a6 r.tags.length c6, .slice a7 r.kids.length c7] 42)) [.int .i64 x, .slice ab bl cb, .slice ai il ci] 29; rw [World.size_alloc, World.size_alloc] at h1; exact h1
 have HR7 := kq (h7.below hB)
 have HRD := kq (hrd.below hB)
 have HIS : Hid (IsRule r [.string r.name, .int .i64 r.kind, .int .i64 r.size, .bool r.little, .slice a4 r.bytes.length c4, .slice a5 r.names.length c5, .slice a6 r.tags.length c6, .slice a7 r.kids.length c7] w0) := ⟨a4, c4, a5, c5, a6, c6, a7, c7, rfl, h4.below hB, h5.below hB, h6.below hB, h7.below hB⟩
 have HB := kq hB
 have HKI := kq hki
 have hW := kq hw0
 have HKK := kq hk
 have z0 := (HVC.out 0 _ rfl).1
 have z1 := (HVC.out 1 _ rfl).1
 have z2 := (HVC.out 2 _ rfl).1
 have y1 := (HC.out 1 _ rfl).1
 rw [hk] at y1
 clear hB hki hw0 h4 h5 h6 h7 hrd
 clear hk
 by_cases g1 : x = 0
 ·have e1 : (x == 0) = true := by simpa using g1
  by_cases g2 : bl = 0
  ·have e2 : ((bl : Int) == 0) = true := by simp; omega
   by_cases g3 : il ≤ 1
   ·have e3 : ((il : Int) ≤ 1) := by omega
    have hr : Hid (ownB rs r v = true) := by show _ = _; rw [hres.out]; simp [g1, g2, g3]
    clear hres g1 g2
    go_enter Tryz.func178, Tryz.ntmps178
    go_upto_region 1 with fail
    rw [← hW.out]
    clear hW
    have HBF := HB
    go_wp2
    go_ret
    exact ⟨ret_bool (by first | exact hr.out.symm | (rw [hr.out]; exact decide_eq_true (by omega)) | (rw [hr.out]; exact decide_eq_false (by omega))), HBF.out⟩
   ·have e3 : ¬ ((il : Int) ≤ 1) := by omega
    have hr : Hid (ownB rs r v = false) := by show _ = _; rw [hres.out]; simp [g1, g2, g3]
    clear hres g1 g2
    go_enter Tryz.func178, Tryz.ntmps178
    go_upto_region 1 with fail
    rw [← hW.out]
    clear hW
    have HBF := HB
    go_wp2
    go_ret
    exact ⟨ret_bool (by first | exact hr.out.symm | (rw [hr.out]; exact decide_eq_true (by omega)) | (rw [hr.out]; exact decide_eq_false (by omega))), HBF.out⟩
  ·have e2 : ((bl : Int) == 0) = false := by simp; omega
   have hr : Hid (ownB rs r v = false) := by show _ = _; rw [hres.out]; simp [g1, g2]
   clear hres g1 g2
   go_enter Tryz.func178, Tryz.ntmps178
   go_upto_region 1 with fail
   rw [← hW.out]
   clear hW
   have HBF := HB
   go_wp2
   go_ret
   exact ⟨ret_bool (by first | exact hr.out.symm | (rw [hr.out]; exact decide_eq_true (by omega)) | (rw [hr.out]; exact decide_eq_false (by omega))), HBF.out⟩
 ·have e1 : (x == 0) = false := by simpa using g1
  have hr : Hid (ownB rs r v = false) := by show _ = _; rw [hres.out]; simp [g1]
  clear hres g1
  go_enter Tryz.func178, Tryz.ntmps178
  go_upto_region 1 with fail
  rw [← hW.out]
  clear hW
  have HBF := HB
  go_wp2
  go_ret
  exact ⟨ret_bool (by first | exact hr.out.symm | (rw [hr.out]; exact decide_eq_true (by omega)) | (rw [hr.out]; exact decide_eq_false (by omega))), HBF.out⟩
theorem own_9 (a : Option Addr) (rs : List RuleV) (cap : Nat) (r : RuleV) (cs vs : List Value) (v : ValueV) (n : Nat) (w : World) (_hl : rs.length ≤ 1048576) (hrd : RdR a rs w) (hki : kindI rs r = true) (h : IsRule r cs w) (hv : IsVal (n + 1) v vs w) (hk : r.kind = 9) :
  Calls Tryz.prog 178 #[.agg #[.slice a rs.length cap], .agg cs.toArray, .agg vs.toArray] w fun e w' => e = .returned (.bool (ownB rs r v)) ∧ Below w.heap.size w w' := by
 obtain ⟨a4, c4, a5, c5, a6, c6, a7, c7, rfl, h4, h5, h6, h7⟩ := h
 obtain ⟨ab, cb, ai, ci, rfl, -, -⟩ := hv
 have hres : Hid (ownB rs r v = (decide (v.number = 0) && (decide (v.bytes.length = 0) && decide (v.items.length = 1)))) := by show _ = _; unfold ownB; simp [hk]
 obtain ⟨x, hx⟩ : ∃ x, x = v.number := ⟨_, rfl⟩
 obtain ⟨bl, hbl⟩ : ∃ bl, bl = v.bytes.length := ⟨_, rfl⟩
 obtain ⟨il, hil⟩ : ∃ il, il = v.items.length := ⟨_, rfl⟩
 rw [← hx, ← hbl, ← hil]
 rw [← hx, ← hbl, ← hil] at hres
 have HX := kq hx
 clear hx hbl hil
 obtain ⟨w0, hw0⟩ : ∃ w0, w0 = ((w.alloc (.cells #[.slice a rs.length cap] 26)).alloc (.cells #[.string r.name, .int .i64 r.kind, .int .i64 r.size, .bool r.little, .slice a4 r.bytes.length c4, .slice a5 r.names.length c5, .slice a6 r.tags.length c6, .slice a7 r.kids.length c7] 42)).alloc (.cells #[.int .i64 x, .slice ab bl cb, .slice ai il ci] 29) := ⟨_, rfl⟩
 have hB : Below w.heap.size w w0 := by subst hw0; exact (((Below.refl _ _).alloc (Nat.le_refl _) _).alloc (by simp) _).alloc (by simp; omega) _
 have HD : Hid (CellsAt w.heap.size [.slice a rs.length cap] w0) := by subst hw0; exact ((CellsAt.new w _ _).below ((Below.refl _ _).alloc (Nat.le_refl _) _)).below ((Below.refl _ _).alloc (Nat.le_refl _) _)
 have HC : Hid (CellsAt (w.heap.size + 1) [.string r.name, .int .i64 r.kind, .int .i64 r.size, .bool r.little, .slice a4 r.bytes.length c4, .slice a5 r.names.length c5, .slice a6 r.tags.length c6, .slice a7 r.kids.length c7] w0) := by subst hw0; have h1 := CellsAt.new (w.alloc (.cells #[.slice a rs.length cap] 26)) [.string r.name, .int .i64 r.kind, .int .i64 r.size, .bool r.little, .slice a4 r.bytes.length c4, .slice a5 r.names.length c5, .slice a6 r.tags.length c6, .slice a7 r.kids.length c7] 42; rw [World.size_alloc] at h1; exact h1.below ((Below.refl _ _).alloc (Nat.le_refl _) _)
 have HVC : Hid (CellsAt (w.heap.size + 2) [.int .i64 x, .slice ab bl cb, .slice ai il ci] w0) := by subst hw0; have h1 := CellsAt.new ((w.alloc (.cells #[.slice a rs.length cap] 26)).alloc (.cells #[.string r.name, .int .i64 r.kind, .int .i64 r.size, .bool r.little, .slice a4 r.bytes.length c4, .slice a5 r.names.length c5, .slice a6 r.tags.length c6, .slice a7 r.kids.length c7] 42)) [.int .i64 x, .slice ab bl cb, .slice ai il ci] 29; rw [World.size_alloc, World.size_alloc] at h1; exact h1
 have HR7 := kq (h7.below hB)
 have HRD := kq (hrd.below hB)
 have HIS : Hid (IsRule r [.string r.name, .int .i64 r.kind, .int .i64 r.size, .bool r.little, .slice a4 r.bytes.length c4, .slice a5 r.names.length c5, .slice a6 r.tags.length c6, .slice a7 r.kids.length c7] w0) := ⟨a4, c4, a5, c5, a6, c6, a7, c7, rfl, h4.below hB, h5.below hB, h6.below hB, h7.below hB⟩
 have HB := kq hB
 have HKI := kq hki
 have hW := kq hw0
 have HKK := kq hk
 have z0 := (HVC.out 0 _ rfl).1
 have z1 := (HVC.out 1 _ rfl).1
 have z2 := (HVC.out 2 _ rfl).1
 have y1 := (HC.out 1 _ rfl).1
 rw [hk] at y1
 clear hB hki hw0 h4 h5 h6 h7 hrd
 clear hk
 by_cases g1 : x = 0
 ·have e1 : (x == 0) = true := by simpa using g1
  by_cases g2 : bl = 0
  ·have e2 : ((bl : Int) == 0) = true := by simp; omega
   by_cases g3 : il = 1
   ·have e3 : ((il : Int) == 1) = true := by simp; omega
    have hr : Hid (ownB rs r v = true) := by show _ = _; rw [hres.out]; simp [g1, g2, g3]
    clear hres g1 g2 g3
    go_enter Tryz.func178, Tryz.ntmps178
    go_upto_region 1 with fail
    rw [← hW.out]
    clear hW
    have HBF := HB
    go_wp2
    go_ret
    exact ⟨ret_bool (by first | exact hr.out.symm | (rw [hr.out]; exact decide_eq_true (by omega)) | (rw [hr.out]; exact decide_eq_false (by omega))), HBF.out⟩
   ·have e3 : ((il : Int) == 1) = false := by simp; omega
    have hr : Hid (ownB rs r v = false) := by show _ = _; rw [hres.out]; simp [g1, g2, g3]
    clear hres g1 g2 g3
    go_enter Tryz.func178, Tryz.ntmps178
    go_upto_region 1 with fail
    rw [← hW.out]
    clear hW
    have HBF := HB
    go_wp2
    go_ret
    exact ⟨ret_bool (by first | exact hr.out.symm | (rw [hr.out]; exact decide_eq_true (by omega)) | (rw [hr.out]; exact decide_eq_false (by omega))), HBF.out⟩
  ·have e2 : ((bl : Int) == 0) = false := by simp; omega
   have hr : Hid (ownB rs r v = false) := by show _ = _; rw [hres.out]; simp [g1, g2]
   clear hres g1 g2
   go_enter Tryz.func178, Tryz.ntmps178
   go_upto_region 1 with fail
   rw [← hW.out]
   clear hW
   have HBF := HB
   go_wp2
   go_ret
   exact ⟨ret_bool (by first | exact hr.out.symm | (rw [hr.out]; exact decide_eq_true (by omega)) | (rw [hr.out]; exact decide_eq_false (by omega))), HBF.out⟩
 ·have e1 : (x == 0) = false := by simpa using g1
  have hr : Hid (ownB rs r v = false) := by show _ = _; rw [hres.out]; simp [g1]
  clear hres g1
  go_enter Tryz.func178, Tryz.ntmps178
  go_upto_region 1 with fail
  rw [← hW.out]
  clear hW
  have HBF := HB
  go_wp2
  go_ret
  exact ⟨ret_bool (by first | exact hr.out.symm | (rw [hr.out]; exact decide_eq_true (by omega)) | (rw [hr.out]; exact decide_eq_false (by omega))), HBF.out⟩
theorem own_10 (a : Option Addr) (rs : List RuleV) (cap : Nat) (r : RuleV) (cs vs : List Value) (v : ValueV) (n : Nat) (w : World) (_hl : rs.length ≤ 1048576) (hrd : RdR a rs w) (hki : kindI rs r = true) (h : IsRule r cs w) (hv : IsVal (n + 1) v vs w) (hk : r.kind = 10) :
  Calls Tryz.prog 178 #[.agg #[.slice a rs.length cap], .agg cs.toArray, .agg vs.toArray] w fun e w' => e = .returned (.bool (ownB rs r v)) ∧ Below w.heap.size w w' := by
 obtain ⟨a4, c4, a5, c5, a6, c6, a7, c7, rfl, h4, h5, h6, h7⟩ := h
 obtain ⟨ab, cb, ai, ci, rfl, -, -⟩ := hv
 have hres : Hid (ownB rs r v = (decide (v.number = 0) && (decide (v.bytes.length ≤ 400) && decide (v.items.length = 0)))) := by show _ = _; unfold ownB; simp [hk]
 obtain ⟨x, hx⟩ : ∃ x, x = v.number := ⟨_, rfl⟩
 obtain ⟨bl, hbl⟩ : ∃ bl, bl = v.bytes.length := ⟨_, rfl⟩
 obtain ⟨il, hil⟩ : ∃ il, il = v.items.length := ⟨_, rfl⟩
 rw [← hx, ← hbl, ← hil]
 rw [← hx, ← hbl, ← hil] at hres
 have HX := kq hx
 clear hx hbl hil
 obtain ⟨w0, hw0⟩ : ∃ w0, w0 = ((w.alloc (.cells #[.slice a rs.length cap] 26)).alloc (.cells #[.string r.name, .int .i64 r.kind, .int .i64 r.size, .bool r.little, .slice a4 r.bytes.length c4, .slice a5 r.names.length c5, .slice a6 r.tags.length c6, .slice a7 r.kids.length c7] 42)).alloc (.cells #[.int .i64 x, .slice ab bl cb, .slice ai il ci] 29) := ⟨_, rfl⟩
 have hB : Below w.heap.size w w0 := by subst hw0; exact (((Below.refl _ _).alloc (Nat.le_refl _) _).alloc (by simp) _).alloc (by simp; omega) _
 have HD : Hid (CellsAt w.heap.size [.slice a rs.length cap] w0) := by subst hw0; exact ((CellsAt.new w _ _).below ((Below.refl _ _).alloc (Nat.le_refl _) _)).below ((Below.refl _ _).alloc (Nat.le_refl _) _)
 have HC : Hid (CellsAt (w.heap.size + 1) [.string r.name, .int .i64 r.kind, .int .i64 r.size, .bool r.little, .slice a4 r.bytes.length c4, .slice a5 r.names.length c5, .slice a6 r.tags.length c6, .slice a7 r.kids.length c7] w0) := by subst hw0; have h1 := CellsAt.new (w.alloc (.cells #[.slice a rs.length cap] 26)) [.string r.name, .int .i64 r.kind, .int .i64 r.size, .bool r.little, .slice a4 r.bytes.length c4, .slice a5 r.names.length c5, .slice a6 r.tags.length c6, .slice a7 r.kids.length c7] 42; rw [World.size_alloc] at h1; exact h1.below ((Below.refl _ _).alloc (Nat.le_refl _) _)
 have HVC : Hid (CellsAt (w.heap.size + 2) [.int .i64 x, .slice ab bl cb, .slice ai il ci] w0) := by subst hw0; have h1 := CellsAt.new ((w.alloc (.cells #[.slice a rs.length cap] 26)).alloc (.cells #[.string r.name, .int .i64 r.kind, .int .i64 r.size, .bool r.little, .slice a4 r.bytes.length c4, .slice a5 r.names.length c5, .slice a6 r.tags.length c6, .slice a7 r.kids.length c7] 42)) [.int .i64 x, .slice ab bl cb, .slice ai il ci] 29; rw [World.size_alloc, World.size_alloc] at h1; exact h1
 have HR7 := kq (h7.below hB)
 have HRD := kq (hrd.below hB)
 have HIS : Hid (IsRule r [.string r.name, .int .i64 r.kind, .int .i64 r.size, .bool r.little, .slice a4 r.bytes.length c4, .slice a5 r.names.length c5, .slice a6 r.tags.length c6, .slice a7 r.kids.length c7] w0) := ⟨a4, c4, a5, c5, a6, c6, a7, c7, rfl, h4.below hB, h5.below hB, h6.below hB, h7.below hB⟩
 have HB := kq hB
 have HKI := kq hki
 have hW := kq hw0
 have HKK := kq hk
 have z0 := (HVC.out 0 _ rfl).1
 have z1 := (HVC.out 1 _ rfl).1
 have z2 := (HVC.out 2 _ rfl).1
 have y1 := (HC.out 1 _ rfl).1
 rw [hk] at y1
 clear hB hki hw0 h4 h5 h6 h7 hrd
 clear hk
 by_cases g1 : x = 0
 ·have e1 : (x == 0) = true := by simpa using g1
  by_cases g2 : bl ≤ 400
  ·have e2 : ((bl : Int) ≤ 400) := by omega
   by_cases g3 : il = 0
   ·have e3 : ((il : Int) == 0) = true := by simp; omega
    have hr : Hid (ownB rs r v = true) := by show _ = _; rw [hres.out]; simp [g1, g2, g3]
    clear hres g1 g3
    go_enter Tryz.func178, Tryz.ntmps178
    go_upto_region 1 with fail
    rw [← hW.out]
    clear hW
    have HBF := HB
    go_wp2
    go_ret
    exact ⟨ret_bool (by first | exact hr.out.symm | (rw [hr.out]; exact decide_eq_true (by omega)) | (rw [hr.out]; exact decide_eq_false (by omega))), HBF.out⟩
   ·have e3 : ((il : Int) == 0) = false := by simp; omega
    have hr : Hid (ownB rs r v = false) := by show _ = _; rw [hres.out]; simp [g1, g2, g3]
    clear hres g1 g3
    go_enter Tryz.func178, Tryz.ntmps178
    go_upto_region 1 with fail
    rw [← hW.out]
    clear hW
    have HBF := HB
    go_wp2
    go_ret
    exact ⟨ret_bool (by first | exact hr.out.symm | (rw [hr.out]; exact decide_eq_true (by omega)) | (rw [hr.out]; exact decide_eq_false (by omega))), HBF.out⟩
  ·have e2 : ¬ ((bl : Int) ≤ 400) := by omega
   have hr : Hid (ownB rs r v = false) := by show _ = _; rw [hres.out]; simp [g1, g2]
   clear hres g1
   go_enter Tryz.func178, Tryz.ntmps178
   go_upto_region 1 with fail
   rw [← hW.out]
   clear hW
   have HBF := HB
   go_wp2
   go_ret
   exact ⟨ret_bool (by first | exact hr.out.symm | (rw [hr.out]; exact decide_eq_true (by omega)) | (rw [hr.out]; exact decide_eq_false (by omega))), HBF.out⟩
 ·have e1 : (x == 0) = false := by simpa using g1
  have hr : Hid (ownB rs r v = false) := by show _ = _; rw [hres.out]; simp [g1]
  clear hres g1
  go_enter Tryz.func178, Tryz.ntmps178
  go_upto_region 1 with fail
  rw [← hW.out]
  clear hW
  have HBF := HB
  go_wp2
  go_ret
  exact ⟨ret_bool (by first | exact hr.out.symm | (rw [hr.out]; exact decide_eq_true (by omega)) | (rw [hr.out]; exact decide_eq_false (by omega))), HBF.out⟩
theorem own_spec (a : Option Addr) (rs : List RuleV) (cap : Nat) (r : RuleV) (cs vs : List Value) (v : ValueV) (n : Nat) (w : World) (hl : rs.length ≤ 1048576) (hrd : RdR a rs w) (hki : kindI rs r = true) (h : IsRule r cs w) (hv : IsVal n v vs w) :
  Calls Tryz.prog 178 #[.agg #[.slice a rs.length cap], .agg cs.toArray, .agg vs.toArray] w fun e w' => e = .returned (.bool (ownB rs r v)) ∧ Below w.heap.size w w' := by
 have hkn := kindI_known hki
 cases n with
 | zero => exact hv.elim
 | succ n =>
  rcases (by omega : r.kind = 1 ∨ r.kind = 2 ∨ r.kind = 3 ∨ r.kind = 4 ∨ r.kind = 5 ∨ r.kind = 6 ∨ r.kind = 7 ∨ r.kind = 8 ∨ r.kind = 9 ∨ r.kind = 10) with hk | hk | hk | hk | hk | hk | hk | hk | hk | hk
  ·exact own_1 a rs cap r cs vs v n w hl hrd hki h hv hk
  ·exact own_2 a rs cap r cs vs v n w hl hrd hki h hv hk
  ·exact own_3 a rs cap r cs vs v n w hl hrd hki h hv hk
  ·exact own_4 a rs cap r cs vs v n w hl hrd hki h hv hk
  ·exact own_5 a rs cap r cs vs v n w hl hrd hki h hv hk
  ·exact own_6 a rs cap r cs vs v n w hl hrd hki h hv hk
  ·exact own_7 a rs cap r cs vs v n w hl hrd hki h hv hk
  ·exact own_8 a rs cap r cs vs v n w hl hrd hki h hv hk
  ·exact own_9 a rs cap r cs vs v n w hl hrd hki h hv hk
  ·exact own_10 a rs cap r cs vs v n w hl hrd hki h hv hk
end Go.Proofs.YtdccjobgfjoflaaGreatDoor
