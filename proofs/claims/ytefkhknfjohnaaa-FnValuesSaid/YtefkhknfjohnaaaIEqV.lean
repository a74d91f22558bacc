/- The contract of the program's EqualValues. -/
import Derived.Test.YtefkhknfjohnaaaPairP
import Derived.Test.YtefkhknfjohnaaaSEqV
import Derived.BigQuiet
import Derived.Deep.RegionHeld3
import Derived.Deep.RegionLaw
import Derived.IntWalk
namespace Go.Proofs.Ytefkhknfjohnaaa
open Go Go.RowKit
theorem PairRow.to {base : Nat} {q : Value} {ps ps' : List PNode} {w : World} (h : PairRow base q ps w) (e : ps = ps') : PairRow base q ps' w := e ▸ h
set_option maxRecDepth 100000 in
set_option maxHeartbeats 8000000 in
theorem ieq_value (n m : Nat) (v u : ValueV) (cs cu : List Value) (w : World) (h : IsVal n v cs w) (h' : IsVal m u cu w) (hs : sizV v ≤ 16777216) (hs' : sizV u ≤ 16777216) :
    Calls Try.prog 31 #[.agg cs.toArray, .agg cu.toArray] w fun e w' => SameOut v u e ∧ Below w.heap.size w w' := by
  obtain ⟨ab, cb, ai, ci, rfl⟩ := h.three
  obtain ⟨ab2, cb2, ai2, ci2, rfl⟩ := h'.three
  obtain ⟨w1, hw1⟩ : ∃ w1, w1 = (w.alloc (.cells #[.int .i64 v.number, .slice ab v.bytes.length cb, .slice ai v.items.length ci] 47)).alloc (.cells #[.int .i64 u.number, .slice ab2 u.bytes.length cb2, .slice ai2 u.items.length ci2] 47) := ⟨_, rfl⟩
  have hB : Below w.heap.size w w1 := by subst hw1; exact ((Below.refl _ w).alloc (Nat.le_refl _) _).alloc (by simp) _
  have hX : CellsAt w.heap.size [.int .i64 v.number, .slice ab v.bytes.length cb, .slice ai v.items.length ci] w1 := by subst hw1; exact (CellsAt.new w _ _).below ((Below.refl _ _).alloc (Nat.le_refl _) _)
  have hY : CellsAt (w.heap.size + 1) [.int .i64 u.number, .slice ab2 u.bytes.length cb2, .slice ai2 u.items.length ci2] w1 := by subst hw1; have h1 := CellsAt.new (w.alloc (.cells #[.int .i64 v.number, .slice ab v.bytes.length cb, .slice ai v.items.length ci] 47)) [.int .i64 u.number, .slice ab2 u.bytes.length cb2, .slice ai2 u.items.length ci2] 47; rw [World.size_alloc] at h1; exact h1
  have hR : Reads2 ((w.heap.size, 0, v), (w.heap.size + 1, 0, u)) w1 := ⟨⟨n, _, h.below hB, fun i x hx => by simpa using (hX i x hx).1⟩, ⟨m, _, h'.below hB, fun i x hx => by simpa using (hY i x hx).1⟩, hs, hs'⟩
  obtain ⟨w0, hw0⟩ : ∃ w0, w0 = w1.alloc (.cells #[.pointer (some ⟨w.heap.size, 0, none⟩), .pointer (some ⟨w.heap.size + 1, 0, none⟩)] 78) := ⟨_, rfl⟩
  have hst : PairRow w1.heap.size (.slice (some ⟨w1.heap.size, 0, none⟩) 1 1) [((w.heap.size, 0, v), (w.heap.size + 1, 0, u))] w0 := by subst hw0; exact PairRow.start _ _ w1 (Nat.le_refl _)
  have hB0 : Below w1.heap.size w1 w0 := by subst hw0; exact (Below.refl _ _).alloc (Nat.le_refl _) _
  have hcv := cnt_siz v
  have hcl : cntV v ≤ 16777217 := by omega
  have HST := Lib.hid hst
  have HB0 := Lib.hid hB0
  have HB := Lib.hid hB
  have HR0 : Hid (∀ p ∈ [((w.heap.size, 0, v), (w.heap.size + 1, 0, u))], Reads2 p w1) := fun p hp => by simp at hp; subst hp; exact hR
  have HIF0 : Hid (v = u ↔ ∀ p ∈ [(((w.heap.size, 0, v), (w.heap.size + 1, 0, u)) : PNode)], p.1.2.2 = p.2.2.2) := by show _ ↔ _; simp
  have hW1 := Lib.hid hw1
  have hW0 := Lib.hid hw0
  clear h h' hs hs' hcv hst hB0 hB hR hX hY hw1 hw0
  go_enter Try.func31, Try.ntmps31
  go_upto_region 1 with fail
  rw [← hW1.out]
  clear hW1
  go_upto_region 2 with fail
  rw [← hW0.out]
  clear hW0
  go_loopg [5] (cntV v) (fun g q W => ∃ ps : List PNode, Hid (g = cntPP ps) ∧ g ≤ 16777217 ∧ Hid (PairRow w1.heap.size q ps W) ∧ Hid (∀ p ∈ ps, Reads2 p w1) ∧ Hid (Below w1.heap.size w1 W) ∧ Hid (v = u ↔ ∀ p ∈ ps, p.1.2.2 = p.2.2.2))
  case atStart => exact ⟨[((w.heap.size, 0, v), (w.heap.size + 1, 0, u))], (by show _ = _; simp [cntPP, cntP]), hcl, HST, HR0, HB0, HIF0⟩
  case round =>
    clear HST HR0 HB0 HIF0 hcl
    obtain ⟨ps, hg, hgl, hrow, hrd, hbw, hif⟩ := hrel
    rcases List.eq_nil_or_concat ps with rfl | ⟨P, p, rfl⟩
    · obtain ⟨a, cap, rfl, -⟩ := hrow.out.form
      have HV : Hid (v = u) := hif.out.2 (fun p hp => by cases hp)
      have HFI := Lib.hid (HB.out.trans (hbw.out.mono HB.out.size))
      clear hrow hif
      go_wp2
      go_ret
      exact ⟨SameOut.yes HV.out, HFI.out⟩
    · obtain ⟨⟨b, o, x⟩, ⟨b1, o1, y⟩⟩ := p
      rw [List.concat_eq_append] at hg hrow hrd hif
      obtain ⟨a, cap, rfl, ha⟩ := hrow.out.form
      obtain ⟨g, rfl⟩ := ha (by simp)
      obtain ⟨np, hnp⟩ : ∃ np, np = P.length := ⟨_, rfl⟩
      rw [show (P ++ [((b, o, x), (b1, o1, y))]).length = np + 1 from by simp [hnp]] at hrow ⊢
      obtain ⟨hpop, hc0, hc1, hcap, hgb, hgw⟩ := PairRow.pop hnp hrow.out
      have hnpl : np + 1 ≤ 16777217 := by have h1 := cntPP_len (P ++ [((b, o, x), (b1, o1, y))]); have h2 := hg.out; simp at h1; omega
      have l0 : (0 : Int) < ((np + 1 : Nat) : Int) := by omega
      have l1 : ((np + 1 : Nat) : Int) - 1 = (np : Int) := by omega
      unfold ptrN at hc0 hc1
      simp only at hc0 hc1
      obtain ⟨⟨k1, hr1⟩, ⟨k2, hr2⟩, hsx, hsy⟩ := hrd.out ((b, o, x), (b1, o1, y)) (by simp)
      simp only at hr1 hr2 hsx hsy
      have hsx2 := sizV_eq x
      have hsy2 := sizV_eq y
      obtain ⟨axb, cxb, axi, cxi, b', o', ⟨x0, x1, x2⟩, hbx, hax, hkx⟩ := ReadsAt.open hr1
      obtain ⟨ayb, cyb, ayi, cyi, b2, o2, ⟨y0, y1, y2⟩, hby, hay, hky⟩ := ReadsAt.open hr2
      have HC : Hid (∀ W, Below w1.heap.size w1 W → W.cell? ⟨b, o, none⟩ = some (.int .i64 x.number) ∧ W.cell? ⟨b, o + 1, none⟩ = some (.slice axb x.bytes.length cxb) ∧ W.cell? ⟨b, o + 2, none⟩ = some (.slice axi x.items.length cxi) ∧ W.cell? ⟨b1, o1, none⟩ = some (.int .i64 y.number) ∧ W.cell? ⟨b1, o1 + 1, none⟩ = some (.slice ayb y.bytes.length cyb) ∧ W.cell? ⟨b1, o1 + 2, none⟩ = some (.slice ayi y.items.length cyi)) :=
        fun W hW => ⟨cell_keepV hW x0, cell_keepV hW x1, cell_keepV hW x2, cell_keepV hW y0, cell_keepV hW y1, cell_keepV hW y2⟩
      have HPOP := Lib.hid hpop
      have HNP := Lib.hid hnp
      have HRB : Hid (Rd axb x.bytes w1 ∧ Rd ayb y.bytes w1) := ⟨hbx.1, hby.1⟩
      have HKX := Lib.hid hkx
      have HKY := Lib.hid hky
      have HAX := Lib.hid hax
      have HAY := Lib.hid hay
      have hxl : x.bytes.length ≤ 16777216 ∧ y.bytes.length ≤ 16777216 := by omega
      have hil : x.items.length ≤ 16777216 ∧ y.items.length ≤ 16777216 := by omega
      have HXL := Lib.hid hxl
      have HSX : Hid (sizL x.items ≤ 16777216 ∧ sizL y.items ≤ 16777216) := by show _ ∧ _; omega
      clear hrow hpop ha hr1 hr2 hsx hsy hsx2 hsy2 x0 x1 x2 y0 y1 y2 hbx hby hkx hky hax hay hnp hxl
      go_upto_region 4 with fail
      go_quiet (fail)
      replace hbw := Lib.hid (below_drewN hbw.out nq)
      replace HPOP : Hid (PairRow w1.heap.size (.slice (some ⟨g, 0, none⟩) np cap) P (wr.drewN nq)) := HPOP.out.below (below_drewN (Below.refl _ _) nq)
      generalize wr.drewN nq = w2 at hbw HPOP ⊢
      clear hc0 hc1
      go_upto_region 6 with fail
      by_cases q0 : x.number = y.number
      case neg =>
        have e0 : (x.number != y.number) = true := by simpa using q0
        have HQ := Lib.hid q0
        clear q0
        obtain ⟨x0, x1, x2, y0, y1, y2⟩ := HC.out _ hbw.out
        go_quiet (fail)
        replace hbw := Lib.hid (below_drewN hbw.out nq)
        have HNO : Hid (v ≠ u) := fun e => by
          have h1 := hif.out.1 e ((b, o, x), (b1, o1, y)) (by simp)
          simp only at h1
          exact HQ.out (by rw [h1])
        have HFI := Lib.hid (HB.out.trans (hbw.out.mono HB.out.size))
        go_wp2
        go_ret
        exact ⟨SameOut.no HNO.out, HFI.out⟩
      have e0 : (x.number != y.number) = false := by simpa using q0
      have HQ0 := Lib.hid q0
      clear q0
      have HBW2 := Lib.hid hbw.out
      replace hbw := Lib.hid (below_drewN hbw.out 1)
      replace HPOP : Hid (PairRow w1.heap.size (.slice (some ⟨g, 0, none⟩) np cap) P w2.drew) := HPOP.out.below (below_drewN (Below.refl _ _) 1)
      by_cases q1 : x.bytes = y.bytes
      case neg =>
        have HQ := Lib.hid q1
        clear q1
        refine wp_region_held_drew (S := (fun W => W.cell? ⟨b, o, none⟩ = some (.int .i64 x.number) ∧ W.cell? ⟨b, o + 1, none⟩ = some (.slice axb x.bytes.length cxb) ∧ W.cell? ⟨b, o + 2, none⟩ = some (.slice axi x.items.length cxi) ∧ W.cell? ⟨b1, o1, none⟩ = some (.int .i64 y.number) ∧ W.cell? ⟨b1, o1 + 1, none⟩ = some (.slice ayb y.bytes.length cyb) ∧ W.cell? ⟨b1, o1 + 2, none⟩ = some (.slice ayi y.items.length cyi))) (by kernel_rfl) ?_ (fun hHeld => ?_)
        · (try dsimp only); exact HC.out _ hbw.out
        refine wpAnyH_take (i := 0) (v := ?v1) (by simp only [List.getElem?_toArray, List.getElem?_cons_zero]; rfl) (by kernel_rfl) (by kernel_rfl) (by kernel_rfl) (by exact fun _ _ _ h => h) (Or.inl ⟨by rfl, ?hy1⟩) (by assumption) ?rest1
        case hy1 => ((intro W hSw; (try dsimp only at hSw); go_simp); (try with_reducible rfl))
        simp only [Act.put, List.setIfInBounds_toArray, List.set_cons_zero, List.set_cons_succ]
        refine wpAnyH_take (i := 1) (v := ?v2) (by simp only [List.getElem?_toArray, List.getElem?_cons_succ, List.getElem?_cons_zero]; rfl) (by kernel_rfl) (by kernel_rfl) (by kernel_rfl) (by exact fun _ _ _ h => h) (Or.inl ⟨by rfl, ?hy2⟩) (by assumption) ?rest2
        case hy2 => ((intro W hSw; (try dsimp only at hSw); go_simp); (try with_reducible rfl))
        simp only [Act.put, List.setIfInBounds_toArray, List.set_cons_zero, List.set_cons_succ]
        refine wpAnyH_take (i := 2) (v := ?v3) (by simp only [List.getElem?_toArray, List.getElem?_cons_succ, List.getElem?_cons_zero]; rfl) (by kernel_rfl) (by kernel_rfl) (by kernel_rfl) (by exact fun _ _ _ h => h) (Or.inl ⟨by rfl, ?hy3⟩) (by assumption) ?rest3
        case hy3 => ((intro W hSw; (try dsimp only at hSw); go_simp); (try with_reducible rfl))
        simp only [Act.put, List.setIfInBounds_toArray, List.set_cons_zero, List.set_cons_succ]
        refine wpAnyH_take (i := 3) (v := ?v4) (by simp only [List.getElem?_toArray, List.getElem?_cons_succ, List.getElem?_cons_zero]; rfl) (by kernel_rfl) (by kernel_rfl) (by kernel_rfl) (by exact fun _ _ _ h => h) (Or.inl ⟨by rfl, ?hy4⟩) (by assumption) ?rest4
        case hy4 => ((intro W hSw; (try dsimp only at hSw); go_simp); (try with_reducible rfl))
        simp only [Act.put, List.setIfInBounds_toArray, List.set_cons_zero, List.set_cons_succ]
        refine wpAnyH_take (i := 4) (v := ?v5) (by simp only [List.getElem?_toArray, List.getElem?_cons_succ, List.getElem?_cons_zero]; rfl) (by kernel_rfl) (by kernel_rfl) (by kernel_rfl) (by exact fun _ _ _ h => h) (Or.inl ⟨by rfl, ?hy5⟩) (by assumption) ?rest5
        case hy5 => ((intro W hSw; (try dsimp only at hSw); go_simp); (try with_reducible rfl))
        simp only [Act.put, List.setIfInBounds_toArray, List.set_cons_zero, List.set_cons_succ]
        refine wpAnyH_take (i := 5) (v := ?v6) (by simp only [List.getElem?_toArray, List.getElem?_cons_succ, List.getElem?_cons_zero]; rfl) (by kernel_rfl) (by kernel_rfl) (by kernel_rfl) (by exact fun _ _ _ h => h) (Or.inl ⟨by rfl, ?hy6⟩) (by assumption) ?rest6
        case hy6 => ((intro W hSw; (try dsimp only at hSw); go_simp); (try with_reducible rfl))
        simp only [Act.put, List.setIfInBounds_toArray, List.set_cons_zero, List.set_cons_succ]
        refine wpAnyH_take (i := 6) (v := ?v7) (by simp only [List.getElem?_toArray, List.getElem?_cons_succ, List.getElem?_cons_zero]; rfl) (by kernel_rfl) (by kernel_rfl) (by kernel_rfl) (by exact fun _ _ _ h => h) (Or.inl ⟨by rfl, ?hy7⟩) (by assumption) ?rest7
        case hy7 => ((intro W hSw; (try dsimp only at hSw); go_simp); (try with_reducible rfl))
        simp only [Act.put, List.setIfInBounds_toArray, List.set_cons_zero, List.set_cons_succ]
        refine wpAnyH_take (i := 7) (v := ?v8) (by simp only [List.getElem?_toArray, List.getElem?_cons_succ, List.getElem?_cons_zero]; rfl) (by kernel_rfl) (by kernel_rfl) (by kernel_rfl) (by exact fun _ _ _ h => h) (Or.inl ⟨by rfl, ?hy8⟩) (by assumption) ?rest8
        case hy8 => ((intro W hSw; (try dsimp only at hSw); go_simp); (try with_reducible rfl))
        simp only [Act.put, List.setIfInBounds_toArray, List.set_cons_zero, List.set_cons_succ]
        refine wpAnyH_take (i := 8) (v := ?v9) (by simp only [List.getElem?_toArray, List.getElem?_cons_succ, List.getElem?_cons_zero]; rfl) (by kernel_rfl) (by kernel_rfl) (by kernel_rfl) (by exact fun _ _ _ h => h) (Or.inl ⟨by rfl, ?hy9⟩) (by assumption) ?rest9
        case hy9 => ((intro W hSw; (try dsimp only at hSw); go_simp); (try with_reducible rfl))
        simp only [Act.put, List.setIfInBounds_toArray, List.set_cons_zero, List.set_cons_succ]
        refine wpAnyH_take (i := 9) (v := ?v10) (by simp only [List.getElem?_toArray, List.getElem?_cons_succ, List.getElem?_cons_zero]; rfl) (by kernel_rfl) (by kernel_rfl) (by kernel_rfl) (by exact fun _ _ _ h => h) (Or.inl ⟨by rfl, ?hy10⟩) (by assumption) ?rest10
        case hy10 => ((intro W hSw; (try dsimp only at hSw); go_simp); (try with_reducible rfl))
        simp only [Act.put, List.setIfInBounds_toArray, List.set_cons_zero, List.set_cons_succ]
        refine wpAnyH_take (i := 10) (v := ?v11) (by simp only [List.getElem?_toArray, List.getElem?_cons_succ, List.getElem?_cons_zero]; rfl) (by kernel_rfl) (by kernel_rfl) (by kernel_rfl) (by exact fun _ _ _ h => h) (Or.inl ⟨by rfl, ?hy11⟩) (by assumption) ?rest11
        case hy11 => ((intro W hSw; (try dsimp only at hSw); go_simp); (try with_reducible rfl))
        simp only [Act.put, List.setIfInBounds_toArray, List.set_cons_zero, List.set_cons_succ]
        refine wpAnyH_take (i := 11) (v := ?v12) (by simp only [List.getElem?_toArray, List.getElem?_cons_succ, List.getElem?_cons_zero]; rfl) (by kernel_rfl) (by kernel_rfl) (by kernel_rfl) (by exact fun _ _ _ h => h) (Or.inl ⟨by rfl, ?hy12⟩) (by assumption) ?rest12
        case hy12 => ((intro W hSw; (try dsimp only at hSw); go_simp); (try with_reducible rfl))
        simp only [Act.put, List.setIfInBounds_toArray, List.set_cons_zero, List.set_cons_succ]
        refine wpAnyH_take (i := 12) (v := ?v13) (by simp only [List.getElem?_toArray, List.getElem?_cons_succ, List.getElem?_cons_zero]; rfl) (by kernel_rfl) (by kernel_rfl) (by kernel_rfl) (by exact fun _ _ _ h => h) (Or.inl ⟨by rfl, ?hy13⟩) (by assumption) ?rest13
        case hy13 => ((intro W hSw; (try dsimp only at hSw); go_simp); (try with_reducible rfl))
        simp only [Act.put, List.setIfInBounds_toArray, List.set_cons_zero, List.set_cons_succ]
        refine wpAnyH_take (i := 13) (v := ?v14) (by simp only [List.getElem?_toArray, List.getElem?_cons_succ, List.getElem?_cons_zero]; rfl) (by kernel_rfl) (by kernel_rfl) (by kernel_rfl) (by exact fun _ _ _ h => h) (Or.inl ⟨by rfl, ?hy14⟩) (by assumption) ?rest14
        case hy14 => ((intro W hSw; (try dsimp only at hSw); go_simp); (try with_reducible rfl))
        simp only [Act.put, List.setIfInBounds_toArray, List.set_cons_zero, List.set_cons_succ]
        refine wpAnyH_take (i := 14) (v := ?v15) (by simp only [List.getElem?_toArray, List.getElem?_cons_succ, List.getElem?_cons_zero]; rfl) (by kernel_rfl) (by kernel_rfl) (by kernel_rfl) (by exact fun _ _ _ h => h) (Or.inl ⟨by rfl, ?hy15⟩) (by assumption) ?rest15
        case hy15 => ((intro W hSw; (try dsimp only at hSw); go_simp); (try with_reducible rfl))
        simp only [Act.put, List.setIfInBounds_toArray, List.set_cons_zero, List.set_cons_succ]
        refine wpAnyH_take (i := 15) (v := ?v16) (by simp only [List.getElem?_toArray, List.getElem?_cons_succ, List.getElem?_cons_zero]; rfl) (by kernel_rfl) (by kernel_rfl) (by kernel_rfl) (by exact fun _ _ _ h => h) (Or.inl ⟨by rfl, ?hy16⟩) (by assumption) ?rest16
        case hy16 => ((intro W hSw; (try dsimp only at hSw); go_simp); (try with_reducible rfl))
        simp only [Act.put, List.setIfInBounds_toArray, List.set_cons_zero, List.set_cons_succ]
        refine wpAnyH_take (i := 16) (v := ?v17) (by simp only [List.getElem?_toArray, List.getElem?_cons_succ, List.getElem?_cons_zero]; rfl) (by kernel_rfl) (by kernel_rfl) (by kernel_rfl) (by exact fun _ _ _ h => h) (Or.inl ⟨by rfl, ?hy17⟩) (by assumption) ?rest17
        case hy17 => ((intro W hSw; (try dsimp only at hSw); go_simp); (try with_reducible rfl))
        simp only [Act.put, List.setIfInBounds_toArray, List.set_cons_zero, List.set_cons_succ]
        refine wpAnyH_take (i := 17) (v := ?v18) (by simp only [List.getElem?_toArray, List.getElem?_cons_succ, List.getElem?_cons_zero]; rfl) (by kernel_rfl) (by kernel_rfl) (by kernel_rfl) (by exact fun _ _ _ h => h) (Or.inl ⟨by rfl, ?hy18⟩) (by assumption) ?rest18
        case hy18 => ((intro W hSw; (try dsimp only at hSw); go_simp); (try with_reducible rfl))
        simp only [Act.put, List.setIfInBounds_toArray, List.set_cons_zero, List.set_cons_succ]
        refine wpAnyH_ready (rs := [18]) (by kernel_rfl) (by simp) ?_
        refine AllReadyH.cons (by simp only [List.getElem?_toArray, List.getElem?_cons_succ, List.getElem?_cons_zero]; rfl) (fun K hK => ?_) AllReadyH.nil
        go_simp
        (go_at_call 53; refine (eqb_impl axb x.bytes cxb ayb y.bytes cyb _ (by have := HXL.out; omega) (HRB.out.1.below hbw.out) (by have := HXL.out; omega) (HRB.out.2.below hbw.out)).mono ?_; rintro e w5 ⟨rfl, hb⟩; rw [decide_eq_false HQ.out]; replace hbw := Lib.hid (hbw.out.trans (hb.mono hbw.out.size)); clear hb)
        go_wp2_with fail
        refine hK.out _ _ ?_ (fun hHeld => ?_)
        · (try dsimp only); exact HC.out _ hbw.out
        clear hK K
        refine wpAnyH_take (i := 19) (v := ?v19) (by simp only [List.getElem?_toArray, List.getElem?_cons_succ, List.getElem?_cons_zero]; rfl) (by kernel_rfl) (by kernel_rfl) (by kernel_rfl) (by exact fun _ _ _ h => h) (Or.inl ⟨by rfl, ?hy19⟩) (by assumption) ?rest19
        case hy19 => ((intro W hSw; (try dsimp only at hSw); go_simp); (try with_reducible rfl))
        simp only [Act.put, List.setIfInBounds_toArray, List.set_cons_zero, List.set_cons_succ]
        refine wpAnyH_take (i := 20) (v := ?v20) (by simp only [List.getElem?_toArray, List.getElem?_cons_succ, List.getElem?_cons_zero]; rfl) (by kernel_rfl) (by kernel_rfl) (by kernel_rfl) (by exact fun _ _ _ h => h) (Or.inl ⟨by rfl, ?hy20⟩) (by assumption) ?rest20
        case hy20 => ((intro W hSw; (try dsimp only at hSw); go_simp); (try with_reducible rfl))
        simp only [Act.put, List.setIfInBounds_toArray, List.set_cons_zero, List.set_cons_succ]
        refine wpAnyH_take (i := 21) (v := ?v21) (by simp only [List.getElem?_toArray, List.getElem?_cons_succ, List.getElem?_cons_zero]; rfl) (by kernel_rfl) (by kernel_rfl) (by kernel_rfl) (by exact fun _ _ _ h => h) (Or.inl ⟨by rfl, ?hy21⟩) (by assumption) ?rest21
        case hy21 => ((intro W hSw; (try dsimp only at hSw); go_simp); (try with_reducible rfl))
        simp only [Act.put, List.setIfInBounds_toArray, List.set_cons_zero, List.set_cons_succ]
        refine wpAnyH_take (i := 22) (v := undef) (by simp only [List.getElem?_toArray, List.getElem?_cons_succ, List.getElem?_cons_zero]; rfl) (by kernel_rfl) (by kernel_rfl) (by kernel_rfl) (by exact fun _ _ _ h => h) (Or.inr ⟨by rfl, rfl⟩) (by assumption) ?_
        simp only [Act.put, List.setIfInBounds_toArray, List.set_cons_zero, List.set_cons_succ]
        refine wpAnyH_take (i := 23) (v := undef) (by simp only [List.getElem?_toArray, List.getElem?_cons_succ, List.getElem?_cons_zero]; rfl) (by kernel_rfl) (by kernel_rfl) (by kernel_rfl) (by exact fun _ _ _ h => h) (Or.inr ⟨by rfl, rfl⟩) (by assumption) ?_
        simp only [Act.put, List.setIfInBounds_toArray, List.set_cons_zero, List.set_cons_succ]
        refine wpAnyH_take (i := 24) (v := undef) (by simp only [List.getElem?_toArray, List.getElem?_cons_succ, List.getElem?_cons_zero]; rfl) (by kernel_rfl) (by kernel_rfl) (by kernel_rfl) (by exact fun _ _ _ h => h) (Or.inr ⟨by rfl, rfl⟩) (by assumption) ?_
        simp only [Act.put, List.setIfInBounds_toArray, List.set_cons_zero, List.set_cons_succ]
        refine wpAnyH_take (i := 25) (v := undef) (by simp only [List.getElem?_toArray, List.getElem?_cons_succ, List.getElem?_cons_zero]; rfl) (by kernel_rfl) (by kernel_rfl) (by kernel_rfl) (by exact fun _ _ _ h => h) (Or.inr ⟨by rfl, rfl⟩) (by assumption) ?_
        simp only [Act.put, List.setIfInBounds_toArray, List.set_cons_zero, List.set_cons_succ]
        refine wpAnyH_take (i := 26) (v := undef) (by simp only [List.getElem?_toArray, List.getElem?_cons_succ, List.getElem?_cons_zero]; rfl) (by kernel_rfl) (by kernel_rfl) (by kernel_rfl) (by exact fun _ _ _ h => h) (Or.inr ⟨by rfl, rfl⟩) (by assumption) ?_
        simp only [Act.put, List.setIfInBounds_toArray, List.set_cons_zero, List.set_cons_succ]
        refine wpAnyH_take (i := 27) (v := undef) (by simp only [List.getElem?_toArray, List.getElem?_cons_succ, List.getElem?_cons_zero]; rfl) (by kernel_rfl) (by kernel_rfl) (by kernel_rfl) (by exact fun _ _ _ h => h) (Or.inr ⟨by rfl, rfl⟩) (by assumption) ?_
        simp only [Act.put, List.setIfInBounds_toArray, List.set_cons_zero, List.set_cons_succ]
        refine wpAnyH_take (i := 28) (v := undef) (by simp only [List.getElem?_toArray, List.getElem?_cons_succ, List.getElem?_cons_zero]; rfl) (by kernel_rfl) (by kernel_rfl) (by kernel_rfl) (by exact fun _ _ _ h => h) (Or.inr ⟨by rfl, rfl⟩) (by assumption) ?_
        simp only [Act.put, List.setIfInBounds_toArray, List.set_cons_zero, List.set_cons_succ]
        refine wpAnyH_take (i := 29) (v := undef) (by simp only [List.getElem?_toArray, List.getElem?_cons_succ, List.getElem?_cons_zero]; rfl) (by kernel_rfl) (by kernel_rfl) (by kernel_rfl) (by exact fun _ _ _ h => h) (Or.inr ⟨by rfl, rfl⟩) (by assumption) ?_
        simp only [Act.put, List.setIfInBounds_toArray, List.set_cons_zero, List.set_cons_succ]
        refine wpAnyH_take (i := 30) (v := undef) (by simp only [List.getElem?_toArray, List.getElem?_cons_succ, List.getElem?_cons_zero]; rfl) (by kernel_rfl) (by kernel_rfl) (by kernel_rfl) (by exact fun _ _ _ h => h) (Or.inr ⟨by rfl, rfl⟩) (by assumption) ?_
        simp only [Act.put, List.setIfInBounds_toArray, List.set_cons_zero, List.set_cons_succ]
        refine wpAnyH_take (i := 31) (v := undef) (by simp only [List.getElem?_toArray, List.getElem?_cons_succ, List.getElem?_cons_zero]; rfl) (by kernel_rfl) (by kernel_rfl) (by kernel_rfl) (by exact fun _ _ _ h => h) (Or.inr ⟨by rfl, rfl⟩) (by assumption) ?_
        simp only [Act.put, List.setIfInBounds_toArray, List.set_cons_zero, List.set_cons_succ]
        refine wpAnyH_take (i := 32) (v := undef) (by simp only [List.getElem?_toArray, List.getElem?_cons_succ, List.getElem?_cons_zero]; rfl) (by kernel_rfl) (by kernel_rfl) (by kernel_rfl) (by exact fun _ _ _ h => h) (Or.inr ⟨by rfl, rfl⟩) (by assumption) ?_
        simp only [Act.put, List.setIfInBounds_toArray, List.set_cons_zero, List.set_cons_succ]
        refine wpAnyH_take (i := 33) (v := ?v22) (by simp only [List.getElem?_toArray, List.getElem?_cons_succ, List.getElem?_cons_zero]; rfl) (by kernel_rfl) (by kernel_rfl) (by kernel_rfl) (by exact fun _ _ _ h => h) (Or.inl ⟨by rfl, ?hy22⟩) (by assumption) ?rest22
        case hy22 => ((intro W hSw; (try dsimp only at hSw); go_simp); (try with_reducible rfl))
        simp only [Act.put, List.setIfInBounds_toArray, List.set_cons_zero, List.set_cons_succ]
        refine wpAnyH_done (by kernel_rfl) ?_ _
        have HNO : Hid (v ≠ u) := fun e => by
          have h1 := hif.out.1 e ((b, o, x), (b1, o1, y)) (by simp)
          simp only at h1
          exact HQ.out (by rw [h1])
        have HFI := Lib.hid (HB.out.trans (hbw.out.mono HB.out.size))
        go_wp2
        go_ret
        exact ⟨SameOut.no HNO.out, HFI.out⟩
      have HQ1 := Lib.hid q1
      clear q1
      by_cases q2 : x.items.length = y.items.length
      case neg =>
        have e2 : ((x.items.length : Int) != (y.items.length : Int)) = true := by simp; omega
        have HQ := Lib.hid q2
        clear q2
        go_region_held3 (fun W => W.cell? ⟨b, o, none⟩ = some (.int .i64 x.number) ∧ W.cell? ⟨b, o + 1, none⟩ = some (.slice axb x.bytes.length cxb) ∧ W.cell? ⟨b, o + 2, none⟩ = some (.slice axi x.items.length cxi) ∧ W.cell? ⟨b1, o1, none⟩ = some (.int .i64 y.number) ∧ W.cell? ⟨b1, o1 + 1, none⟩ = some (.slice ayb y.bytes.length cyb) ∧ W.cell? ⟨b1, o1 + 2, none⟩ = some (.slice ayi y.items.length cyi)) (exact HC.out _ hbw.out) (first | (go_at_call 53; refine (eqb_impl axb x.bytes cxb ayb y.bytes cyb _ (by have := HXL.out; omega) (HRB.out.1.below hbw.out) (by have := HXL.out; omega) (HRB.out.2.below hbw.out)).mono ?_; rintro e w5 ⟨rfl, hb⟩; rw [decide_eq_true HQ1.out]; replace hbw := Lib.hid (hbw.out.trans (hb.mono hbw.out.size)); replace HPOP := Lib.hid (HPOP.out.below hb); clear hb))
        have HNO : Hid (v ≠ u) := fun e => by
          have h1 := hif.out.1 e ((b, o, x), (b1, o1, y)) (by simp)
          simp only at h1
          exact HQ.out (by rw [h1])
        have HFI := Lib.hid (HB.out.trans (hbw.out.mono HB.out.size))
        go_wp2
        go_ret
        exact ⟨SameOut.no HNO.out, HFI.out⟩
      have e2 : ((x.items.length : Int) != (y.items.length : Int)) = false := by simp; omega
      have HQ2 := Lib.hid q2
      clear q2
      go_region_held3 (fun W => W.cell? ⟨b, o, none⟩ = some (.int .i64 x.number) ∧ W.cell? ⟨b, o + 1, none⟩ = some (.slice axb x.bytes.length cxb) ∧ W.cell? ⟨b, o + 2, none⟩ = some (.slice axi x.items.length cxi) ∧ W.cell? ⟨b1, o1, none⟩ = some (.int .i64 y.number) ∧ W.cell? ⟨b1, o1 + 1, none⟩ = some (.slice ayb y.bytes.length cyb) ∧ W.cell? ⟨b1, o1 + 2, none⟩ = some (.slice ayi y.items.length cyi)) (exact HC.out _ hbw.out) (first | (go_at_call 53; refine (eqb_impl axb x.bytes cxb ayb y.bytes cyb _ (by have := HXL.out; omega) (HRB.out.1.below hbw.out) (by have := HXL.out; omega) (HRB.out.2.below hbw.out)).mono ?_; rintro e w5 ⟨rfl, hb⟩; rw [decide_eq_true HQ1.out]; replace hbw := Lib.hid (hbw.out.trans (hb.mono hbw.out.size)); replace HPOP := Lib.hid (HPOP.out.below hb); clear hb))
      have HST : Hid (cntPP (P ++ zipAt b' o' b2 o2 x.items y.items) + 1 = gk) := by show _ = _; rw [hg.out]; exact cntPP_step P b o b1 o1 b' o' b2 o2 x y HQ2.out
      have HIF : Hid (v = u ↔ ∀ p ∈ P ++ zipAt b' o' b2 o2 x.items y.items, p.1.2.2 = p.2.2.2) := by
        have hz := zipAt_same b' o' b2 o2 x.items y.items HQ2.out
        refine hif.out.trans ⟨fun hall p hp => ?_, fun hall p hp => ?_⟩
        · rcases List.mem_append.1 hp with hp | hp
          · exact hall p (List.mem_append_left _ hp)
          · refine hz.2 ?_ p hp
            have h1 := hall ((b, o, x), (b1, o1, y)) (by simp)
            simp only at h1
            rw [h1]
        · rcases List.mem_append.1 hp with hp | hp
          · exact hall p (List.mem_append_left _ hp)
          · simp at hp
            subst hp
            exact valueV_ext HQ0.out HQ1.out (hz.1 fun p hp => hall p (List.mem_append_right _ hp))
      have HRD : Hid (∀ p ∈ P ++ zipAt b' o' b2 o2 x.items y.items, Reads2 p w1) := fun p hp => by
        rcases List.mem_append.1 hp with hp | hp
        · exact hrd.out p (List.mem_append_left _ hp)
        · have hm := List.of_mem_zip (show (p.1, p.2) ∈ List.zip _ _ from hp)
          obtain ⟨j, hj, hj', rfl⟩ := zipAt_mem HQ2.out hp
          have s1 := sizL_at hj
          have s2 := sizL_at hj'
          have s3 := HSX.out
          exact ⟨⟨_, HKX.out _ hm.1⟩, ⟨_, HKY.out _ hm.2⟩, by simp only; omega, by simp only; omega⟩
      obtain ⟨ni, hni⟩ : ∃ ni, ni = x.items.length := ⟨_, rfl⟩
      have hni2 : y.items.length = ni := by rw [hni, HQ2.out]
      have hnl : np + ni ≤ 16777217 := by
        have h1 := cntPP_len (P ++ zipAt b' o' b2 o2 x.items y.items)
        rw [List.length_append, zipAt_length _ _ _ _ _ _ HQ2.out, ← hni, ← HNP.out] at h1
        have h2 := HST.out
        omega
      have HNI := Lib.hid hni
      have HNI2 := Lib.hid hni2
      have HC2 : Hid (∀ W, Below w1.heap.size w1 W → W.cell? ⟨b, o + 2, none⟩ = some (.slice axi ni cxi) ∧ W.cell? ⟨b1, o1 + 2, none⟩ = some (.slice ayi ni cyi)) := fun W hW => by
        obtain ⟨-, -, h2, -, -, h5⟩ := HC.out W hW
        rw [← hni] at h2
        rw [hni2] at h5
        exact ⟨h2, h5⟩
      have HR1 := Lib.hid (HPOP.out.to (ps' := P ++ (zipAt b' o' b2 o2 x.items y.items).take 0) (by rw [List.take_zero, List.append_nil]))
      have x2 := (HC2.out _ hbw.out).1
      clear HBW2 HQ0 HQ1 HQ2 e0 e2 HKX HKY HSX HRB HXL hif hrd HPOP HC hg hni hni2 hgb hgw l0 l1
      go_wp2
      clear x2
      go_loopw [5, 70] (fun q i W => ∃ j : Nat, j ≤ ni ∧ i = .int .i64 j ∧ Hid (PairRow w1.heap.size q (P ++ (zipAt b' o' b2 o2 x.items y.items).take j) W) ∧ Hid (Below w1.heap.size w1 W)) (fun _ i _ => ni - (intOf i).toNat)
      case atStart => exact ⟨0, Nat.zero_le _, rfl, HR1, hbw⟩
      case round =>
        clear HR1 hbw
        obtain ⟨j, hjl, rfl, hrow, hbw⟩ := hrel
        have j0 : (0 : Int) ≤ (j : Int) := by omega
        by_cases hlt : j < ni
        · have j1 : (j : Int) < (ni : Int) := by omega
          have j1b : (j : Int) < (x.items.length : Int) := by have := HNI.out; omega
          have hjx : j < x.items.length := by have := HNI.out; omega
          have hjy : j < y.items.length := by have := HNI2.out; omega
          obtain rfl := HAX.out (by intro e; rw [e] at hjx; simp at hjx)
          obtain rfl := HAY.out (by intro e; rw [e] at hjy; simp at hjy)
          obtain ⟨x2, y2⟩ := HC2.out _ hbw.out
          have hal : Hid ((P ++ (zipAt b' o' b2 o2 x.items y.items).take j).length ≤ 33554432) := by
            show _ ≤ _
            have h1 := zipAt_length b' o' b2 o2 x.items y.items (by rw [HNI2.out, ← HNI.out])
            have h2 := HNI.out
            have h3 := HNP.out
            simp [h1]
            omega
          have HD : Hid (Below wr.heap.size wr wr.drew) := below_drewN (Below.refl _ _) 1
          have HR3 := Lib.hid (hrow.out.below HD.out)
          have HL3 : Hid (w1.heap.size ≤ wr.drew.heap.size) := (hbw.out.trans (HD.out.mono hbw.out.size)).size
          have HB3 := Lib.hid (hbw.out.trans (HD.out.mono hbw.out.size))
          clear hrow hbw HD
          go_upto_region 11 with fail
          go_region_law (refine step_pushP rfl (.tmp 73) (.tmp 87) rfl w1.heap.size u5 (P ++ (zipAt b' o' b2 o2 x.items y.items).take j) ((b', o' + j * 3, x.items[j]), (b2, o2 + j * 3, y.items[j])) wr.drew (by simp [Act.eval]) (by simp [Act.eval]) HR3.out hal.out HL3.out ?_; intro q' w6 hrow hgr; have HR6 := Lib.hid hrow; have HG6 := Lib.hid hgr; clear hrow hgr)
          all_goals (
            have HR7 := Lib.hid (HR6.out.to (ps' := P ++ (zipAt b' o' b2 o2 x.items y.items).take (j + 1)) (by rw [zipAt_next b' o' b2 o2 x.items y.items j hjx hjy, List.append_assoc]))
            have HB7 := Lib.hid (HB3.out.grown HG6.out HB3.out.size fun k e => HR3.out.own k e)
            clear HR6 HG6 HR3 HB3 HL3 hal x2 y2
            go_wp2
            go_roundw
            case rel => exact ⟨j + 1, by omega, by go_num, HR7, HB7⟩
            case measure => simp [intOf]; omega)
        · have j1 : ¬ (j : Int) < (ni : Int) := by omega
          have j1b : ¬ (j : Int) < (x.items.length : Int) := by have := HNI.out; omega
          have hR2 := Lib.hid (hrow.out.to (ps' := P ++ zipAt b' o' b2 o2 x.items y.items) (by
            have hjn : j = ni := by omega
            rw [List.take_of_length_le (by rw [zipAt_length _ _ _ _ _ _ (by rw [HNI2.out, ← HNI.out]), hjn, HNI.out]; exact Nat.le_refl _)]))
          clear hrow
          go_wp2
          go_roundg (cntPP (P ++ zipAt b' o' b2 o2 x.items y.items))
          case measure => have := HST.out; omega
          case rel => exact ⟨P ++ zipAt b' o' b2 o2 x.items y.items, rfl, by have := HST.out; omega, hR2, HRD, hbw, HIF⟩
end Go.Proofs.Ytefkhknfjohnaaa
