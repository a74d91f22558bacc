/- The contract of the model's l4Tags. -/
import Derived.Test.YtdhfcopfoknokaaValidI2
import Derived.Deep.RegionHeld3
import Derived.IntWalk
namespace Go.Proofs.Ytdhfcopfoknokaa
open Go Go.RowKit
/-- The least tag that may come next. -/
def leastAt (ts : List Int) (k : Nat) : Int := if h : 0 < k ∧ k ≤ ts.length then (ts[k - 1]'(by omega)) + 1 else 0
theorem leastAt_zero (ts : List Int) : leastAt ts 0 = 0 := by unfold leastAt; rw [dif_neg (by omega)]
theorem leastAt_next {ts : List Int} {k : Nat} (h : k < ts.length) : leastAt ts (k + 1) = ts[k] + 1 := by
  unfold leastAt
  rw [dif_pos (by omega)]
  simp
theorem leastAt_at {ts : List Int} {k : Nat} (h0 : 0 < k) (h : k < ts.length) : leastAt ts k = (ts[k - 1]'(by omega)) + 1 := by
  unfold leastAt
  rw [dif_pos (by omega)]
set_option maxRecDepth 100000 in
set_option maxHeartbeats 4000000 in
theorem tags_spec (a : Option Addr) (rs : List RuleV) (cap : Nat) (r : RuleV) (cs : List Value) (w : World) (hl : rs.length ≤ 1048576) (hs : Short r) (hrd : RdR a rs w) (h : IsRule r cs w) :
    Calls Try.prog 76 #[.agg #[.slice a rs.length cap], .agg cs.toArray] w fun e w' => e = .returned (.bool (tagsB rs r)) ∧ Below w.heap.size w w' := by
  obtain ⟨a4, c4, a5, c5, a6, c6, a7, c7, rfl, h4, h5, h6, h7⟩ := h
  obtain ⟨s4, s5, s6, s7⟩ := hs
  obtain ⟨w0, hw0⟩ : ∃ w0, w0 = (w.alloc (.cells #[.slice a rs.length cap] 29)).alloc (.cells #[.string r.name, .int .i64 r.kind, .int .i64 r.size, .bool r.little, .slice a4 r.bytes.length c4, .slice a5 r.names.length c5, .slice a6 r.tags.length c6, .slice a7 r.kids.length c7] 38) := ⟨_, rfl⟩
  have hB0 : Below w.heap.size w w0 := by subst hw0; exact ((Below.refl _ _).alloc (Nat.le_refl _) _).alloc (by simp) _
  have hX0 : CellsAt w.heap.size [.slice a rs.length cap] w0 := by subst hw0; exact (CellsAt.new w _ _).below ((Below.refl _ _).alloc (Nat.le_refl _) _)
  have hY0 : CellsAt (w.heap.size + 1) [.string r.name, .int .i64 r.kind, .int .i64 r.size, .bool r.little, .slice a4 r.bytes.length c4, .slice a5 r.names.length c5, .slice a6 r.tags.length c6, .slice a7 r.kids.length c7] w0 := by
    subst hw0
    have h1 := CellsAt.new (w.alloc (.cells #[.slice a rs.length cap] 29)) [.string r.name, .int .i64 r.kind, .int .i64 r.size, .bool r.little, .slice a4 r.bytes.length c4, .slice a5 r.names.length c5, .slice a6 r.tags.length c6, .slice a7 r.kids.length c7] 38
    simpa using h1
  have HR := Lib.hid (hrd.below hB0)
  have H6 := Lib.hid (h6.below hB0)
  have H7 := Lib.hid (h7.below hB0)
  have HB0 := Lib.hid hB0
  have HX0 := Lib.hid hX0
  have HY0 := Lib.hid hY0
  have hW := Lib.hid hw0
  clear h4 h5 h6 h7 hB0 hX0 hY0 hw0 hrd s4 s5
  by_cases g2 : r.kids.length = r.tags.length + 1
  case neg =>
    have hr : Hid (tagsB rs r = false) := by
      show _ = _
      unfold tagsB
      rw [decide_eq_false (by omega), Bool.false_and]
    have e1 : ((r.kids.length : Int) != (r.tags.length : Int) + 1) = true := by simp; omega
    go_enter Try.func76, Try.ntmps76
    go_wp2
    rw [← hW.out]
    go_ret
    exact ⟨ret_bool hr.out.symm, HB0.out⟩
  have e1 : ((r.kids.length : Int) != (r.tags.length : Int) + 1) = false := by simp; omega
  have G2 := Lib.hid g2
  clear g2
  by_cases g1 : 1 ≤ (r.tags.length : Int) ∧ (r.tags.length : Int) ≤ 8
  case neg =>
    have hr : Hid (tagsB rs r = false) := by
      show _ = _
      unfold tagsB
      rw [decide_eq_false (by have := G2.out; omega), Bool.false_and]
    have hd := decide_eq_false g1
    go_enter Try.func76, Try.ntmps76
    go_wp2_with fail
    refine (in_any _ _ _ false _ hd).mono ?_
    rintro e w1 ⟨rfl, rfl⟩
    go_wp2
    rw [← hW.out]
    go_ret
    exact ⟨ret_bool hr.out.symm, HB0.out⟩
  have hd := decide_eq_true g1
  have hk : 0 < r.kids.length := by have := G2.out; omega
  have hr : Hid (tagsB rs r = tagsOk (limitAt rs r.kids[0]) 0 r.tags) := by
    show _ = _
    unfold tagsB
    rw [decide_eq_true (by have := G2.out; omega), Bool.true_and, headD_at hk]
  obtain ⟨b7, o7, rfl, hc7⟩ := H7.out 0 hk
  have HK7 := Lib.hid hc7
  have k7 : (0 : Int) < (r.kids.length : Int) := by omega
  have hlim := limitAt_le rs r.kids[0]
  clear G2 hc7 H7
  generalize r.kids[0] = kid at HK7 hr hlim
  go_enter Try.func76, Try.ntmps76
  go_wp2_with fail
  refine (in_any _ _ _ true _ hd).mono ?_
  rintro e w1 ⟨rfl, rfl⟩
  clear hd
  go_wp2
  clear e1
  generalize hlm : limitAt rs kid = lim at hr hlim
  have HLM := Lib.hid hlm
  clear hlm
  have hlen : r.tags.length ≤ 8 := by omega
  clear g1
  go_loopw [5] (fun i W => ∃ k : Nat, k ≤ r.tags.length ∧ i = .int .i64 k ∧ Hid (Below w0.heap.size w0 W) ∧ Hid (tagsOk lim 0 r.tags = tagsOk lim (leastAt r.tags k) (r.tags.drop k)) ∧ Hid (0 ≤ leastAt r.tags k)) (fun i _ => r.tags.length - (intOf i).toNat)
  case atStart => exact ⟨0, Nat.zero_le _, rfl, by rw [← hW.out]; exact Below.refl _ _, by rw [leastAt_zero]; rfl, by rw [leastAt_zero]; exact Int.le_refl 0⟩
  case round =>
    obtain ⟨k, hkl, rfl, hbw, hf, hge⟩ := hrel
    have k0 : (0 : Int) ≤ (k : Int) := by omega
    have HBW := Lib.hid (HB0.out.trans (hbw.out.mono HB0.out.size))
    have HX := Lib.hid (HX0.out.below hbw.out)
    have HY := Lib.hid (HY0.out.below hbw.out)
    have y6 := (HY.out 6 _ rfl).1
    by_cases hlt : k < r.tags.length
    · have k1 : (k : Int) < (r.tags.length : Int) := by omega
      have hyes := fun h => Lib.hid (tagsOk_yes (lim := lim) (lo := leastAt r.tags k) hlt h)
      have hno := fun h => Lib.hid (tagsOk_no (lim := lim) (lo := leastAt r.tags k) hlt h)
      have hnext := Lib.hid (leastAt_next hlt)
      obtain ⟨b6, o6, ha6, hc6⟩ := (H6.out.below hbw.out) k hlt
      subst ha6
      have HC6 := Lib.hid hc6
      have HC7 : Hid (wr.cell? ⟨b7, o7, none⟩ = some (.int .i64 kid)) := (hbw.out.cell (cell_lt HK7.out)).trans HK7.out
      have HRR := Lib.hid (HR.out.below hbw.out)
      clear hc6
      have hl2 : rs.length ≤ 1073741824 := by omega
      generalize ht : r.tags[k] = t at HC6 hyes hno hnext
      have HT := Lib.hid ht
      clear ht
      replace hbw : Hid (Below w0.heap.size w0 wr.drew) := below_drewN hbw.out 1
      replace HBW : Hid (Below w.heap.size w wr.drew) := below_drewN HBW.out 1
      by_cases hin : 0 ≤ t ∧ t ≤ lim
      case neg =>
        have hrr : Hid (tagsOk lim 0 r.tags = false) := hf.out.trans (hno (fun h => hin ⟨by have := hge.out; omega, h.2⟩)).out
        have hd := decide_eq_false hin
        clear hin hyes hno
        go_wp2
        replace HX : Hid (CellsAt w.heap.size [.slice a rs.length cap] wr.drew) := HX.out
        replace HY : Hid (CellsAt (w.heap.size + 1) [.string r.name, .int .i64 r.kind, .int .i64 r.size, .bool r.little, .slice a4 r.bytes.length c4, .slice a5 r.names.length c5, .slice (some ⟨b6, o6, none⟩) r.tags.length c6, .slice (some ⟨b7, o7, none⟩) r.kids.length c7] wr.drew) := HY.out
        replace HRR : Hid (RdR a rs wr.drew) := HRR.out
        replace HC6 : Hid (wr.drew.cell? ⟨b6, o6 + k, none⟩ = some (.int .i64 t)) := HC6.out
        replace HC7 : Hid (wr.drew.cell? ⟨b7, o7, none⟩ = some (.int .i64 kid)) := HC7.out
        clear y6
        refine wp_region_held_drew (S := (fun W => W.cell? ⟨w.heap.size, 0, none⟩ = some (.slice a rs.length cap) ∧ W.cell? ⟨w.heap.size + 1, 6, none⟩ = some (.slice (some ⟨b6, o6, none⟩) r.tags.length c6) ∧ W.cell? ⟨w.heap.size + 1, 7, none⟩ = some (.slice (some ⟨b7, o7, none⟩) r.kids.length c7) ∧ W.cell? ⟨b7, o7, none⟩ = some (.int .i64 kid) ∧ W.cell? ⟨b6, o6 + k, none⟩ = some (.int .i64 t))) (by kernel_rfl) ?_ (fun hHeld => ?_)
        · (try dsimp only); exact ⟨(HX.out 0 _ rfl).1, (HY.out 6 _ rfl).1, (HY.out 7 _ rfl).1, HC7.out, HC6.out⟩
        refine wpAnyH_take (i := 0) (v := ?v1) (by simp only [List.getElem?_toArray, List.getElem?_cons_zero]; rfl) (by kernel_rfl) (by kernel_rfl) (by kernel_rfl) (by exact fun _ _ _ h => h) (Or.inl ⟨by rfl, ?hy1⟩) (by assumption) ?rest1
        case hy1 => ((intro W hSw; (try dsimp only at hSw); go_simp); (try with_reducible rfl))
        simp only [Act.put, List.setIfInBounds_toArray, List.set_cons_zero, List.set_cons_succ]
        refine wpAnyH_take (i := 1) (v := ?v2) (by simp only [List.getElem?_toArray, List.getElem?_cons_succ, List.getElem?_cons_zero]; rfl) (by kernel_rfl) (by kernel_rfl) (by kernel_rfl) (by exact fun _ _ _ h => h) (Or.inl ⟨by rfl, ?hy2⟩) (by assumption) ?rest2
        case hy2 => ((intro W hSw; (try dsimp only at hSw); go_simp); (try with_reducible rfl))
        simp only [Act.put, List.setIfInBounds_toArray, List.set_cons_zero, List.set_cons_succ]
        refine wpAnyH_take (i := 2) (v := ?v3) (by simp only [List.getElem?_toArray, List.getElem?_cons_succ, List.getElem?_cons_zero]; rfl) (by kernel_rfl) (by kernel_rfl) (by kernel_rfl) (by exact fun _ _ _ h => h) (Or.inl ⟨by rfl, ?hy3⟩) (by assumption) ?rest3
        case hy3 => ((intro W hSw; (try dsimp only at hSw); go_simp); (try with_reducible rfl))
        simp only [Act.put, List.setIfInBounds_toArray, List.set_cons_zero, List.set_cons_succ]
        refine wpAnyH_take (i := 3) (v := ?v4) (by simp only [List.getElem?_toArray, List.getElem?_cons_succ, List.getElem?_cons_zero]; rfl) (by kernel_rfl) (by kernel_rfl) (by kernel_rfl) (by exact fun _ _ _ h => h) (Or.inl ⟨by rfl, ?hy4⟩) (by assumption) ?rest4
        case hy4 => ((intro W hSw; (try dsimp only at hSw); go_simp); (try with_reducible rfl))
        simp only [Act.put, List.setIfInBounds_toArray, List.set_cons_zero, List.set_cons_succ]
        refine wpAnyH_take (i := 4) (v := ?v5) (by simp only [List.getElem?_toArray, List.getElem?_cons_succ, List.getElem?_cons_zero]; rfl) (by kernel_rfl) (by kernel_rfl) (by kernel_rfl) (by exact fun _ _ _ h => h) (Or.inl ⟨by rfl, ?hy5⟩) (by assumption) ?rest5
        case hy5 => ((intro W hSw; (try dsimp only at hSw); go_simp); (try with_reducible rfl))
        simp only [Act.put, List.setIfInBounds_toArray, List.set_cons_zero, List.set_cons_succ]
        refine wpAnyH_take (i := 5) (v := ?v6) (by simp only [List.getElem?_toArray, List.getElem?_cons_succ, List.getElem?_cons_zero]; rfl) (by kernel_rfl) (by kernel_rfl) (by kernel_rfl) (by exact fun _ _ _ h => h) (Or.inl ⟨by rfl, ?hy6⟩) (by assumption) ?rest6
        case hy6 => ((intro W hSw; (try dsimp only at hSw); go_simp); (try with_reducible rfl))
        simp only [Act.put, List.setIfInBounds_toArray, List.set_cons_zero, List.set_cons_succ]
        refine wpAnyH_take (i := 6) (v := ?v7) (by simp only [List.getElem?_toArray, List.getElem?_cons_succ, List.getElem?_cons_zero]; rfl) (by kernel_rfl) (by kernel_rfl) (by kernel_rfl) (by exact fun _ _ _ h => h) (Or.inl ⟨by rfl, ?hy7⟩) (by assumption) ?rest7
        case hy7 => ((intro W hSw; (try dsimp only at hSw); go_simp); (try with_reducible rfl))
        simp only [Act.put, List.setIfInBounds_toArray, List.set_cons_zero, List.set_cons_succ]
        refine wpAnyH_take (i := 7) (v := ?v8) (by simp only [List.getElem?_toArray, List.getElem?_cons_succ, List.getElem?_cons_zero]; rfl) (by kernel_rfl) (by kernel_rfl) (by kernel_rfl) (by exact fun _ _ _ h => h) (Or.inl ⟨by rfl, ?hy8⟩) (by assumption) ?rest8
        case hy8 => ((intro W hSw; (try dsimp only at hSw); go_simp); (try with_reducible rfl))
        simp only [Act.put, List.setIfInBounds_toArray, List.set_cons_zero, List.set_cons_succ]
        refine wpAnyH_take (i := 8) (v := ?v9) (by simp only [List.getElem?_toArray, List.getElem?_cons_succ, List.getElem?_cons_zero]; rfl) (by kernel_rfl) (by kernel_rfl) (by kernel_rfl) (by exact fun _ _ _ h => h) (Or.inl ⟨by rfl, ?hy9⟩) (by assumption) ?rest9
        case hy9 => ((intro W hSw; (try dsimp only at hSw); go_simp); (try with_reducible rfl))
        simp only [Act.put, List.setIfInBounds_toArray, List.set_cons_zero, List.set_cons_succ]
        refine wpAnyH_take (i := 9) (v := ?v10) (by simp only [List.getElem?_toArray, List.getElem?_cons_succ, List.getElem?_cons_zero]; rfl) (by kernel_rfl) (by kernel_rfl) (by kernel_rfl) (by exact fun _ _ _ h => h) (Or.inl ⟨by rfl, ?hy10⟩) (by assumption) ?rest10
        case hy10 => ((intro W hSw; (try dsimp only at hSw); go_simp); (try with_reducible rfl))
        simp only [Act.put, List.setIfInBounds_toArray, List.set_cons_zero, List.set_cons_succ]
        refine wpAnyH_ready (rs := [10]) (by kernel_rfl) (by simp) ?_
        refine AllReadyH.cons (by simp only [List.getElem?_toArray, List.getElem?_cons_succ, List.getElem?_cons_zero]; rfl) (fun K hK => ?_) AllReadyH.nil
        go_simp
        (go_at_call 34; refine (limit_spec a rs cap kid _ hl2 HRR.out).mono ?_; rintro e v ⟨rfl, hb⟩; rw [HLM.out]; replace HC6 := Lib.hid ((hb.cell (cell_lt HC6.out)).trans HC6.out); replace HC7 := Lib.hid ((hb.cell (cell_lt HC7.out)).trans HC7.out); replace HX := Lib.hid (HX.out.below hb); replace HY := Lib.hid (HY.out.below hb); replace HBW := Lib.hid (HBW.out.trans (hb.mono HBW.out.size)); replace hbw := Lib.hid (hbw.out.trans (hb.mono hbw.out.size)); clear hb)
        go_wp2_with fail
        refine hK.out _ _ ?_ (fun hHeld => ?_)
        · (try dsimp only); exact ⟨(HX.out 0 _ rfl).1, (HY.out 6 _ rfl).1, (HY.out 7 _ rfl).1, HC7.out, HC6.out⟩
        clear hK K
        refine wpAnyH_ready (rs := [11]) (by kernel_rfl) (by simp) ?_
        refine AllReadyH.cons (by simp only [List.getElem?_toArray, List.getElem?_cons_succ, List.getElem?_cons_zero]; rfl) (fun K hK => ?_) AllReadyH.nil
        go_simp
        (go_at_call 44; refine (in_any _ _ _ false _ hd).mono ?_; rintro e v ⟨rfl, rfl⟩)
        go_wp2_with fail
        refine hK.out _ _ ?_ (fun hHeld => ?_)
        · (try dsimp only); exact ⟨(HX.out 0 _ rfl).1, (HY.out 6 _ rfl).1, (HY.out 7 _ rfl).1, HC7.out, HC6.out⟩
        clear hK K
        refine wpAnyH_take (i := 12) (v := ?v11) (by simp only [List.getElem?_toArray, List.getElem?_cons_succ, List.getElem?_cons_zero]; rfl) (by kernel_rfl) (by kernel_rfl) (by kernel_rfl) (by exact fun _ _ _ h => h) (Or.inl ⟨by rfl, ?hy11⟩) (by assumption) ?rest11
        case hy11 => ((intro W hSw; (try dsimp only at hSw); go_simp); (try with_reducible rfl))
        simp only [Act.put, List.setIfInBounds_toArray, List.set_cons_zero, List.set_cons_succ]
        refine wpAnyH_take (i := 13) (v := ?v12) (by simp only [List.getElem?_toArray, List.getElem?_cons_succ, List.getElem?_cons_zero]; rfl) (by kernel_rfl) (by kernel_rfl) (by kernel_rfl) (by exact fun _ _ _ h => h) (Or.inl ⟨by rfl, ?hy12⟩) (by assumption) ?rest12
        case hy12 => ((intro W hSw; (try dsimp only at hSw); go_simp); (try with_reducible rfl))
        simp only [Act.put, List.setIfInBounds_toArray, List.set_cons_zero, List.set_cons_succ]
        refine wpAnyH_take (i := 14) (v := undef) (by simp only [List.getElem?_toArray, List.getElem?_cons_succ, List.getElem?_cons_zero]; rfl) (by kernel_rfl) (by kernel_rfl) (by kernel_rfl) (by exact fun _ _ _ h => h) (Or.inr ⟨by rfl, rfl⟩) (by assumption) ?_
        simp only [Act.put, List.setIfInBounds_toArray, List.set_cons_zero, List.set_cons_succ]
        refine wpAnyH_take (i := 15) (v := undef) (by simp only [List.getElem?_toArray, List.getElem?_cons_succ, List.getElem?_cons_zero]; rfl) (by kernel_rfl) (by kernel_rfl) (by kernel_rfl) (by exact fun _ _ _ h => h) (Or.inr ⟨by rfl, rfl⟩) (by assumption) ?_
        simp only [Act.put, List.setIfInBounds_toArray, List.set_cons_zero, List.set_cons_succ]
        refine wpAnyH_take (i := 16) (v := undef) (by simp only [List.getElem?_toArray, List.getElem?_cons_succ, List.getElem?_cons_zero]; rfl) (by kernel_rfl) (by kernel_rfl) (by kernel_rfl) (by exact fun _ _ _ h => h) (Or.inr ⟨by rfl, rfl⟩) (by assumption) ?_
        simp only [Act.put, List.setIfInBounds_toArray, List.set_cons_zero, List.set_cons_succ]
        refine wpAnyH_take (i := 17) (v := undef) (by simp only [List.getElem?_toArray, List.getElem?_cons_succ, List.getElem?_cons_zero]; rfl) (by kernel_rfl) (by kernel_rfl) (by kernel_rfl) (by exact fun _ _ _ h => h) (Or.inr ⟨by rfl, rfl⟩) (by assumption) ?_
        simp only [Act.put, List.setIfInBounds_toArray, List.set_cons_zero, List.set_cons_succ]
        refine wpAnyH_take (i := 18) (v := undef) (by simp only [List.getElem?_toArray, List.getElem?_cons_succ, List.getElem?_cons_zero]; rfl) (by kernel_rfl) (by kernel_rfl) (by kernel_rfl) (by exact fun _ _ _ h => h) (Or.inr ⟨by rfl, rfl⟩) (by assumption) ?_
        simp only [Act.put, List.setIfInBounds_toArray, List.set_cons_zero, List.set_cons_succ]
        refine wpAnyH_take (i := 19) (v := undef) (by simp only [List.getElem?_toArray, List.getElem?_cons_succ, List.getElem?_cons_zero]; rfl) (by kernel_rfl) (by kernel_rfl) (by kernel_rfl) (by exact fun _ _ _ h => h) (Or.inr ⟨by rfl, rfl⟩) (by assumption) ?_
        simp only [Act.put, List.setIfInBounds_toArray, List.set_cons_zero, List.set_cons_succ]
        refine wpAnyH_take (i := 20) (v := undef) (by simp only [List.getElem?_toArray, List.getElem?_cons_succ, List.getElem?_cons_zero]; rfl) (by kernel_rfl) (by kernel_rfl) (by kernel_rfl) (by exact fun _ _ _ h => h) (Or.inr ⟨by rfl, rfl⟩) (by assumption) ?_
        simp only [Act.put, List.setIfInBounds_toArray, List.set_cons_zero, List.set_cons_succ]
        refine wpAnyH_take (i := 21) (v := undef) (by simp only [List.getElem?_toArray, List.getElem?_cons_succ, List.getElem?_cons_zero]; rfl) (by kernel_rfl) (by kernel_rfl) (by kernel_rfl) (by exact fun _ _ _ h => h) (Or.inr ⟨by rfl, rfl⟩) (by assumption) ?_
        simp only [Act.put, List.setIfInBounds_toArray, List.set_cons_zero, List.set_cons_succ]
        refine wpAnyH_take (i := 22) (v := undef) (by simp only [List.getElem?_toArray, List.getElem?_cons_succ, List.getElem?_cons_zero]; rfl) (by kernel_rfl) (by kernel_rfl) (by kernel_rfl) (by exact fun _ _ _ h => h) (Or.inr ⟨by rfl, rfl⟩) (by assumption) ?_
        simp only [Act.put, List.setIfInBounds_toArray, List.set_cons_zero, List.set_cons_succ]
        refine wpAnyH_take (i := 23) (v := undef) (by simp only [List.getElem?_toArray, List.getElem?_cons_succ, List.getElem?_cons_zero]; rfl) (by kernel_rfl) (by kernel_rfl) (by kernel_rfl) (by exact fun _ _ _ h => h) (Or.inr ⟨by rfl, rfl⟩) (by assumption) ?_
        simp only [Act.put, List.setIfInBounds_toArray, List.set_cons_zero, List.set_cons_succ]
        refine wpAnyH_take (i := 24) (v := undef) (by simp only [List.getElem?_toArray, List.getElem?_cons_succ, List.getElem?_cons_zero]; rfl) (by kernel_rfl) (by kernel_rfl) (by kernel_rfl) (by exact fun _ _ _ h => h) (Or.inr ⟨by rfl, rfl⟩) (by assumption) ?_
        simp only [Act.put, List.setIfInBounds_toArray, List.set_cons_zero, List.set_cons_succ]
        refine wpAnyH_take (i := 25) (v := undef) (by simp only [List.getElem?_toArray, List.getElem?_cons_succ, List.getElem?_cons_zero]; rfl) (by kernel_rfl) (by kernel_rfl) (by kernel_rfl) (by exact fun _ _ _ h => h) (Or.inr ⟨by rfl, rfl⟩) (by assumption) ?_
        simp only [Act.put, List.setIfInBounds_toArray, List.set_cons_zero, List.set_cons_succ]
        refine wpAnyH_take (i := 26) (v := undef) (by simp only [List.getElem?_toArray, List.getElem?_cons_succ, List.getElem?_cons_zero]; rfl) (by kernel_rfl) (by kernel_rfl) (by kernel_rfl) (by exact fun _ _ _ h => h) (Or.inr ⟨by rfl, rfl⟩) (by assumption) ?_
        simp only [Act.put, List.setIfInBounds_toArray, List.set_cons_zero, List.set_cons_succ]
        refine wpAnyH_take (i := 27) (v := undef) (by simp only [List.getElem?_toArray, List.getElem?_cons_succ, List.getElem?_cons_zero]; rfl) (by kernel_rfl) (by kernel_rfl) (by kernel_rfl) (by exact fun _ _ _ h => h) (Or.inr ⟨by rfl, rfl⟩) (by assumption) ?_
        simp only [Act.put, List.setIfInBounds_toArray, List.set_cons_zero, List.set_cons_succ]
        refine wpAnyH_take (i := 28) (v := undef) (by simp only [List.getElem?_toArray, List.getElem?_cons_succ, List.getElem?_cons_zero]; rfl) (by kernel_rfl) (by kernel_rfl) (by kernel_rfl) (by exact fun _ _ _ h => h) (Or.inr ⟨by rfl, rfl⟩) (by assumption) ?_
        simp only [Act.put, List.setIfInBounds_toArray, List.set_cons_zero, List.set_cons_succ]
        refine wpAnyH_take (i := 29) (v := undef) (by simp only [List.getElem?_toArray, List.getElem?_cons_succ, List.getElem?_cons_zero]; rfl) (by kernel_rfl) (by kernel_rfl) (by kernel_rfl) (by exact fun _ _ _ h => h) (Or.inr ⟨by rfl, rfl⟩) (by assumption) ?_
        simp only [Act.put, List.setIfInBounds_toArray, List.set_cons_zero, List.set_cons_succ]
        refine wpAnyH_take (i := 30) (v := ?v13) (by simp only [List.getElem?_toArray, List.getElem?_cons_succ, List.getElem?_cons_zero]; rfl) (by kernel_rfl) (by kernel_rfl) (by kernel_rfl) (by exact fun _ _ _ h => h) (Or.inl ⟨by rfl, ?hy13⟩) (by assumption) ?rest13
        case hy13 => ((intro W hSw; (try dsimp only at hSw); go_simp); (try with_reducible rfl))
        simp only [Act.put, List.setIfInBounds_toArray, List.set_cons_zero, List.set_cons_succ]
        refine wpAnyH_done (by kernel_rfl) ?_ _
        go_wp2
        go_ret
        exact ⟨ret_bool (by rw [hr.out, hrr.out]), HBW.out⟩
      have hd := decide_eq_true hin
      by_cases hk0 : k = 0
      case pos =>
        have hle : leastAt r.tags k ≤ t ∧ t ≤ lim := by rw [hk0, leastAt_zero]; exact hin
        have hrr : Hid (tagsOk lim 0 r.tags = tagsOk lim (leastAt r.tags (k + 1)) (r.tags.drop (k + 1))) := by
          show _ = _
          rw [hnext.out]
          exact hf.out.trans (hyes hle).out
        have hge2 : Hid (0 ≤ leastAt r.tags (k + 1)) := by
          show _ ≤ _
          rw [hnext.out]
          omega
        clear hyes hno hle hin
        have e0 : decide ((0 : Int) < (k : Int)) = false := by simp [hk0]
        have e8 : decide (0 < k) = false := by simp [hk0]
        have e9 : ¬ 0 < k := by omega
        clear hk0
        go_wp2
        replace HX : Hid (CellsAt w.heap.size [.slice a rs.length cap] wr.drew) := HX.out
        replace HY : Hid (CellsAt (w.heap.size + 1) [.string r.name, .int .i64 r.kind, .int .i64 r.size, .bool r.little, .slice a4 r.bytes.length c4, .slice a5 r.names.length c5, .slice (some ⟨b6, o6, none⟩) r.tags.length c6, .slice (some ⟨b7, o7, none⟩) r.kids.length c7] wr.drew) := HY.out
        replace HRR : Hid (RdR a rs wr.drew) := HRR.out
        replace HC6 : Hid (wr.drew.cell? ⟨b6, o6 + k, none⟩ = some (.int .i64 t)) := HC6.out
        replace HC7 : Hid (wr.drew.cell? ⟨b7, o7, none⟩ = some (.int .i64 kid)) := HC7.out
        clear y6
        refine wp_region_held_drew (S := (fun W => W.cell? ⟨w.heap.size, 0, none⟩ = some (.slice a rs.length cap) ∧ W.cell? ⟨w.heap.size + 1, 6, none⟩ = some (.slice (some ⟨b6, o6, none⟩) r.tags.length c6) ∧ W.cell? ⟨w.heap.size + 1, 7, none⟩ = some (.slice (some ⟨b7, o7, none⟩) r.kids.length c7) ∧ W.cell? ⟨b7, o7, none⟩ = some (.int .i64 kid) ∧ W.cell? ⟨b6, o6 + k, none⟩ = some (.int .i64 t))) (by kernel_rfl) ?_ (fun hHeld => ?_)
        · (try dsimp only); exact ⟨(HX.out 0 _ rfl).1, (HY.out 6 _ rfl).1, (HY.out 7 _ rfl).1, HC7.out, HC6.out⟩
        refine wpAnyH_take (i := 0) (v := ?v14) (by simp only [List.getElem?_toArray, List.getElem?_cons_zero]; rfl) (by kernel_rfl) (by kernel_rfl) (by kernel_rfl) (by exact fun _ _ _ h => h) (Or.inl ⟨by rfl, ?hy14⟩) (by assumption) ?rest14
        case hy14 => ((intro W hSw; (try dsimp only at hSw); go_simp); (try with_reducible rfl))
        simp only [Act.put, List.setIfInBounds_toArray, List.set_cons_zero, List.set_cons_succ]
        refine wpAnyH_take (i := 1) (v := ?v15) (by simp only [List.getElem?_toArray, List.getElem?_cons_succ, List.getElem?_cons_zero]; rfl) (by kernel_rfl) (by kernel_rfl) (by kernel_rfl) (by exact fun _ _ _ h => h) (Or.inl ⟨by rfl, ?hy15⟩) (by assumption) ?rest15
        case hy15 => ((intro W hSw; (try dsimp only at hSw); go_simp); (try with_reducible rfl))
        simp only [Act.put, List.setIfInBounds_toArray, List.set_cons_zero, List.set_cons_succ]
        refine wpAnyH_take (i := 2) (v := ?v16) (by simp only [List.getElem?_toArray, List.getElem?_cons_succ, List.getElem?_cons_zero]; rfl) (by kernel_rfl) (by kernel_rfl) (by kernel_rfl) (by exact fun _ _ _ h => h) (Or.inl ⟨by rfl, ?hy16⟩) (by assumption) ?rest16
        case hy16 => ((intro W hSw; (try dsimp only at hSw); go_simp); (try with_reducible rfl))
        simp only [Act.put, List.setIfInBounds_toArray, List.set_cons_zero, List.set_cons_succ]
        refine wpAnyH_take (i := 3) (v := ?v17) (by simp only [List.getElem?_toArray, List.getElem?_cons_succ, List.getElem?_cons_zero]; rfl) (by kernel_rfl) (by kernel_rfl) (by kernel_rfl) (by exact fun _ _ _ h => h) (Or.inl ⟨by rfl, ?hy17⟩) (by assumption) ?rest17
        case hy17 => ((intro W hSw; (try dsimp only at hSw); go_simp); (try with_reducible rfl))
        simp only [Act.put, List.setIfInBounds_toArray, List.set_cons_zero, List.set_cons_succ]
        refine wpAnyH_take (i := 4) (v := ?v18) (by simp only [List.getElem?_toArray, List.getElem?_cons_succ, List.getElem?_cons_zero]; rfl) (by kernel_rfl) (by kernel_rfl) (by kernel_rfl) (by exact fun _ _ _ h => h) (Or.inl ⟨by rfl, ?hy18⟩) (by assumption) ?rest18
        case hy18 => ((intro W hSw; (try dsimp only at hSw); go_simp); (try with_reducible rfl))
        simp only [Act.put, List.setIfInBounds_toArray, List.set_cons_zero, List.set_cons_succ]
        refine wpAnyH_take (i := 5) (v := ?v19) (by simp only [List.getElem?_toArray, List.getElem?_cons_succ, List.getElem?_cons_zero]; rfl) (by kernel_rfl) (by kernel_rfl) (by kernel_rfl) (by exact fun _ _ _ h => h) (Or.inl ⟨by rfl, ?hy19⟩) (by assumption) ?rest19
        case hy19 => ((intro W hSw; (try dsimp only at hSw); go_simp); (try with_reducible rfl))
        simp only [Act.put, List.setIfInBounds_toArray, List.set_cons_zero, List.set_cons_succ]
        refine wpAnyH_take (i := 6) (v := ?v20) (by simp only [List.getElem?_toArray, List.getElem?_cons_succ, List.getElem?_cons_zero]; rfl) (by kernel_rfl) (by kernel_rfl) (by kernel_rfl) (by exact fun _ _ _ h => h) (Or.inl ⟨by rfl, ?hy20⟩) (by assumption) ?rest20
        case hy20 => ((intro W hSw; (try dsimp only at hSw); go_simp); (try with_reducible rfl))
        simp only [Act.put, List.setIfInBounds_toArray, List.set_cons_zero, List.set_cons_succ]
        refine wpAnyH_take (i := 7) (v := ?v21) (by simp only [List.getElem?_toArray, List.getElem?_cons_succ, List.getElem?_cons_zero]; rfl) (by kernel_rfl) (by kernel_rfl) (by kernel_rfl) (by exact fun _ _ _ h => h) (Or.inl ⟨by rfl, ?hy21⟩) (by assumption) ?rest21
        case hy21 => ((intro W hSw; (try dsimp only at hSw); go_simp); (try with_reducible rfl))
        simp only [Act.put, List.setIfInBounds_toArray, List.set_cons_zero, List.set_cons_succ]
        refine wpAnyH_take (i := 8) (v := ?v22) (by simp only [List.getElem?_toArray, List.getElem?_cons_succ, List.getElem?_cons_zero]; rfl) (by kernel_rfl) (by kernel_rfl) (by kernel_rfl) (by exact fun _ _ _ h => h) (Or.inl ⟨by rfl, ?hy22⟩) (by assumption) ?rest22
        case hy22 => ((intro W hSw; (try dsimp only at hSw); go_simp); (try with_reducible rfl))
        simp only [Act.put, List.setIfInBounds_toArray, List.set_cons_zero, List.set_cons_succ]
        refine wpAnyH_take (i := 9) (v := ?v23) (by simp only [List.getElem?_toArray, List.getElem?_cons_succ, List.getElem?_cons_zero]; rfl) (by kernel_rfl) (by kernel_rfl) (by kernel_rfl) (by exact fun _ _ _ h => h) (Or.inl ⟨by rfl, ?hy23⟩) (by assumption) ?rest23
        case hy23 => ((intro W hSw; (try dsimp only at hSw); go_simp); (try with_reducible rfl))
        simp only [Act.put, List.setIfInBounds_toArray, List.set_cons_zero, List.set_cons_succ]
        refine wpAnyH_ready (rs := [10]) (by kernel_rfl) (by simp) ?_
        refine AllReadyH.cons (by simp only [List.getElem?_toArray, List.getElem?_cons_succ, List.getElem?_cons_zero]; rfl) (fun K hK => ?_) AllReadyH.nil
        go_simp
        (go_at_call 34; refine (limit_spec a rs cap kid _ hl2 HRR.out).mono ?_; rintro e v ⟨rfl, hb⟩; rw [HLM.out]; replace HC6 := Lib.hid ((hb.cell (cell_lt HC6.out)).trans HC6.out); replace HC7 := Lib.hid ((hb.cell (cell_lt HC7.out)).trans HC7.out); replace HX := Lib.hid (HX.out.below hb); replace HY := Lib.hid (HY.out.below hb); replace HBW := Lib.hid (HBW.out.trans (hb.mono HBW.out.size)); replace hbw := Lib.hid (hbw.out.trans (hb.mono hbw.out.size)); clear hb)
        go_wp2_with fail
        refine hK.out _ _ ?_ (fun hHeld => ?_)
        · (try dsimp only); exact ⟨(HX.out 0 _ rfl).1, (HY.out 6 _ rfl).1, (HY.out 7 _ rfl).1, HC7.out, HC6.out⟩
        clear hK K
        refine wpAnyH_ready (rs := [11]) (by kernel_rfl) (by simp) ?_
        refine AllReadyH.cons (by simp only [List.getElem?_toArray, List.getElem?_cons_succ, List.getElem?_cons_zero]; rfl) (fun K hK => ?_) AllReadyH.nil
        go_simp
        (go_at_call 44; refine (in_any _ _ _ true _ hd).mono ?_; rintro e v ⟨rfl, rfl⟩)
        go_wp2_with fail
        refine hK.out _ _ ?_ (fun hHeld => ?_)
        · (try dsimp only); exact ⟨(HX.out 0 _ rfl).1, (HY.out 6 _ rfl).1, (HY.out 7 _ rfl).1, HC7.out, HC6.out⟩
        clear hK K
        refine wpAnyH_take (i := 12) (v := ?v24) (by simp only [List.getElem?_toArray, List.getElem?_cons_succ, List.getElem?_cons_zero]; rfl) (by kernel_rfl) (by kernel_rfl) (by kernel_rfl) (by exact fun _ _ _ h => h) (Or.inl ⟨by rfl, ?hy24⟩) (by assumption) ?rest24
        case hy24 => ((intro W hSw; (try dsimp only at hSw); go_simp); (try with_reducible rfl))
        simp only [Act.put, List.setIfInBounds_toArray, List.set_cons_zero, List.set_cons_succ]
        refine wpAnyH_take (i := 13) (v := ?v25) (by simp only [List.getElem?_toArray, List.getElem?_cons_succ, List.getElem?_cons_zero]; rfl) (by kernel_rfl) (by kernel_rfl) (by kernel_rfl) (by exact fun _ _ _ h => h) (Or.inl ⟨by rfl, ?hy25⟩) (by assumption) ?rest25
        case hy25 => ((intro W hSw; (try dsimp only at hSw); go_simp); (try with_reducible rfl))
        simp only [Act.put, List.setIfInBounds_toArray, List.set_cons_zero, List.set_cons_succ]
        refine wpAnyH_take (i := 14) (v := ?v26) (by simp only [List.getElem?_toArray, List.getElem?_cons_succ, List.getElem?_cons_zero]; rfl) (by kernel_rfl) (by kernel_rfl) (by kernel_rfl) (by exact fun _ _ _ h => h) (Or.inl ⟨by rfl, ?hy26⟩) (by assumption) ?rest26
        case hy26 => ((intro W hSw; (try dsimp only at hSw); go_simp); (try with_reducible rfl))
        simp only [Act.put, List.setIfInBounds_toArray, List.set_cons_zero, List.set_cons_succ]
        refine wpAnyH_take (i := 15) (v := ?v27) (by simp only [List.getElem?_toArray, List.getElem?_cons_succ, List.getElem?_cons_zero]; rfl) (by kernel_rfl) (by kernel_rfl) (by kernel_rfl) (by exact fun _ _ _ h => h) (Or.inl ⟨by rfl, ?hy27⟩) (by assumption) ?rest27
        case hy27 => ((intro W hSw; (try dsimp only at hSw); go_simp); (try with_reducible rfl))
        simp only [Act.put, List.setIfInBounds_toArray, List.set_cons_zero, List.set_cons_succ]
        refine wpAnyH_take (i := 16) (v := ?v28) (by simp only [List.getElem?_toArray, List.getElem?_cons_succ, List.getElem?_cons_zero]; rfl) (by kernel_rfl) (by kernel_rfl) (by kernel_rfl) (by exact fun _ _ _ h => h) (Or.inl ⟨by rfl, ?hy28⟩) (by assumption) ?rest28
        case hy28 => ((intro W hSw; (try dsimp only at hSw); go_simp); (try with_reducible rfl))
        simp only [Act.put, List.setIfInBounds_toArray, List.set_cons_zero, List.set_cons_succ]
        refine wpAnyH_take (i := 17) (v := undef) (by simp only [List.getElem?_toArray, List.getElem?_cons_succ, List.getElem?_cons_zero]; rfl) (by kernel_rfl) (by kernel_rfl) (by kernel_rfl) (by exact fun _ _ _ h => h) (Or.inr ⟨by rfl, rfl⟩) (by assumption) ?_
        simp only [Act.put, List.setIfInBounds_toArray, List.set_cons_zero, List.set_cons_succ]
        refine wpAnyH_take (i := 18) (v := undef) (by simp only [List.getElem?_toArray, List.getElem?_cons_succ, List.getElem?_cons_zero]; rfl) (by kernel_rfl) (by kernel_rfl) (by kernel_rfl) (by exact fun _ _ _ h => h) (Or.inr ⟨by rfl, rfl⟩) (by assumption) ?_
        simp only [Act.put, List.setIfInBounds_toArray, List.set_cons_zero, List.set_cons_succ]
        refine wpAnyH_take (i := 19) (v := undef) (by simp only [List.getElem?_toArray, List.getElem?_cons_succ, List.getElem?_cons_zero]; rfl) (by kernel_rfl) (by kernel_rfl) (by kernel_rfl) (by exact fun _ _ _ h => h) (Or.inr ⟨by rfl, rfl⟩) (by assumption) ?_
        simp only [Act.put, List.setIfInBounds_toArray, List.set_cons_zero, List.set_cons_succ]
        refine wpAnyH_take (i := 20) (v := undef) (by simp only [List.getElem?_toArray, List.getElem?_cons_succ, List.getElem?_cons_zero]; rfl) (by kernel_rfl) (by kernel_rfl) (by kernel_rfl) (by exact fun _ _ _ h => h) (Or.inr ⟨by rfl, rfl⟩) (by assumption) ?_
        simp only [Act.put, List.setIfInBounds_toArray, List.set_cons_zero, List.set_cons_succ]
        refine wpAnyH_take (i := 21) (v := undef) (by simp only [List.getElem?_toArray, List.getElem?_cons_succ, List.getElem?_cons_zero]; rfl) (by kernel_rfl) (by kernel_rfl) (by kernel_rfl) (by exact fun _ _ _ h => h) (Or.inr ⟨by rfl, rfl⟩) (by assumption) ?_
        simp only [Act.put, List.setIfInBounds_toArray, List.set_cons_zero, List.set_cons_succ]
        refine wpAnyH_take (i := 22) (v := undef) (by simp only [List.getElem?_toArray, List.getElem?_cons_succ, List.getElem?_cons_zero]; rfl) (by kernel_rfl) (by kernel_rfl) (by kernel_rfl) (by exact fun _ _ _ h => h) (Or.inr ⟨by rfl, rfl⟩) (by assumption) ?_
        simp only [Act.put, List.setIfInBounds_toArray, List.set_cons_zero, List.set_cons_succ]
        refine wpAnyH_take (i := 23) (v := undef) (by simp only [List.getElem?_toArray, List.getElem?_cons_succ, List.getElem?_cons_zero]; rfl) (by kernel_rfl) (by kernel_rfl) (by kernel_rfl) (by exact fun _ _ _ h => h) (Or.inr ⟨by rfl, rfl⟩) (by assumption) ?_
        simp only [Act.put, List.setIfInBounds_toArray, List.set_cons_zero, List.set_cons_succ]
        refine wpAnyH_take (i := 24) (v := undef) (by simp only [List.getElem?_toArray, List.getElem?_cons_succ, List.getElem?_cons_zero]; rfl) (by kernel_rfl) (by kernel_rfl) (by kernel_rfl) (by exact fun _ _ _ h => h) (Or.inr ⟨by rfl, rfl⟩) (by assumption) ?_
        simp only [Act.put, List.setIfInBounds_toArray, List.set_cons_zero, List.set_cons_succ]
        refine wpAnyH_take (i := 25) (v := undef) (by simp only [List.getElem?_toArray, List.getElem?_cons_succ, List.getElem?_cons_zero]; rfl) (by kernel_rfl) (by kernel_rfl) (by kernel_rfl) (by exact fun _ _ _ h => h) (Or.inr ⟨by rfl, rfl⟩) (by assumption) ?_
        simp only [Act.put, List.setIfInBounds_toArray, List.set_cons_zero, List.set_cons_succ]
        refine wpAnyH_take (i := 26) (v := undef) (by simp only [List.getElem?_toArray, List.getElem?_cons_succ, List.getElem?_cons_zero]; rfl) (by kernel_rfl) (by kernel_rfl) (by kernel_rfl) (by exact fun _ _ _ h => h) (Or.inr ⟨by rfl, rfl⟩) (by assumption) ?_
        simp only [Act.put, List.setIfInBounds_toArray, List.set_cons_zero, List.set_cons_succ]
        refine wpAnyH_take (i := 27) (v := undef) (by simp only [List.getElem?_toArray, List.getElem?_cons_succ, List.getElem?_cons_zero]; rfl) (by kernel_rfl) (by kernel_rfl) (by kernel_rfl) (by exact fun _ _ _ h => h) (Or.inr ⟨by rfl, rfl⟩) (by assumption) ?_
        simp only [Act.put, List.setIfInBounds_toArray, List.set_cons_zero, List.set_cons_succ]
        refine wpAnyH_take (i := 28) (v := undef) (by simp only [List.getElem?_toArray, List.getElem?_cons_succ, List.getElem?_cons_zero]; rfl) (by kernel_rfl) (by kernel_rfl) (by kernel_rfl) (by exact fun _ _ _ h => h) (Or.inr ⟨by rfl, rfl⟩) (by assumption) ?_
        simp only [Act.put, List.setIfInBounds_toArray, List.set_cons_zero, List.set_cons_succ]
        refine wpAnyH_take (i := 29) (v := ?v29) (by simp only [List.getElem?_toArray, List.getElem?_cons_succ, List.getElem?_cons_zero]; rfl) (by kernel_rfl) (by kernel_rfl) (by kernel_rfl) (by exact fun _ _ _ h => h) (Or.inl ⟨by rfl, ?hy29⟩) (by assumption) ?rest29
        case hy29 => ((intro W hSw; (try dsimp only at hSw); go_simp); (try with_reducible rfl))
        simp only [Act.put, List.setIfInBounds_toArray, List.set_cons_zero, List.set_cons_succ]
        refine wpAnyH_take (i := 30) (v := ?v30) (by simp only [List.getElem?_toArray, List.getElem?_cons_succ, List.getElem?_cons_zero]; rfl) (by kernel_rfl) (by kernel_rfl) (by kernel_rfl) (by exact fun _ _ _ h => h) (Or.inl ⟨by rfl, ?hy30⟩) (by assumption) ?rest30
        case hy30 => ((intro W hSw; (try dsimp only at hSw); go_simp); (try with_reducible rfl))
        simp only [Act.put, List.setIfInBounds_toArray, List.set_cons_zero, List.set_cons_succ]
        refine wpAnyH_done (by kernel_rfl) ?_ _
        go_wp2
        go_roundw
        case rel => exact ⟨k + 1, by omega, by go_num, hbw, hrr, hge2⟩
        case measure => simp [intOf]; omega
      obtain ⟨m, hkm⟩ : ∃ m, k = m + 1 := ⟨k - 1, by omega⟩
      have hm : m < r.tags.length := by omega
      obtain ⟨b5, o5, ha5, hc5⟩ := (H6.out.below hbw.out) m hm
      injection ha5 with ha5
      injection ha5 with ea eb
      subst ea eb
      have HC5 := Lib.hid hc5
      clear hc5
      have hla2 : Hid (leastAt r.tags k = r.tags[m] + 1) := by
        subst hkm
        exact leastAt_next hm
      generalize r.tags[m] = t0 at HC5 hla2
      have m1 : (m : Int) < (r.tags.length : Int) := by omega
      have m0 : (0 : Int) ≤ (m : Int) := by omega
      have e0 : decide ((0 : Int) < (k : Int)) = true := decide_eq_true (by omega)
      have e8 : decide (0 < k) = true := decide_eq_true (by omega)
      have e9 : 0 < k := by omega
      have ew : IntKind.i64.wrap ((k : Int) - 1) = (m : Int) := by rw [IntWalk.i64_in _ (by omega)]; omega
      have HKM := Lib.hid hkm
      clear hkm
      by_cases hpt : t ≤ t0
      case pos =>
        have hrr : Hid (tagsOk lim 0 r.tags = false) := hf.out.trans (hno (fun h => by have := hla2.out; omega)).out
        have gp : decide (t ≤ t0) = true := decide_eq_true hpt
        clear hyes hno
        go_wp2
        replace HX : Hid (CellsAt w.heap.size [.slice a rs.length cap] wr.drew) := HX.out
        replace HY : Hid (CellsAt (w.heap.size + 1) [.string r.name, .int .i64 r.kind, .int .i64 r.size, .bool r.little, .slice a4 r.bytes.length c4, .slice a5 r.names.length c5, .slice (some ⟨b6, o6, none⟩) r.tags.length c6, .slice (some ⟨b7, o7, none⟩) r.kids.length c7] wr.drew) := HY.out
        replace HRR : Hid (RdR a rs wr.drew) := HRR.out
        replace HC6 : Hid (wr.drew.cell? ⟨b6, o6 + k, none⟩ = some (.int .i64 t)) := HC6.out
        replace HC7 : Hid (wr.drew.cell? ⟨b7, o7, none⟩ = some (.int .i64 kid)) := HC7.out
        clear y6
        replace HC5 : Hid (wr.drew.cell? ⟨b6, o6 + m, none⟩ = some (.int .i64 t0)) := HC5.out
        go_region_held3 (fun W => W.cell? ⟨w.heap.size, 0, none⟩ = some (.slice a rs.length cap) ∧ W.cell? ⟨w.heap.size + 1, 6, none⟩ = some (.slice (some ⟨b6, o6, none⟩) r.tags.length c6) ∧ W.cell? ⟨w.heap.size + 1, 7, none⟩ = some (.slice (some ⟨b7, o7, none⟩) r.kids.length c7) ∧ W.cell? ⟨b7, o7, none⟩ = some (.int .i64 kid) ∧ W.cell? ⟨b6, o6 + k, none⟩ = some (.int .i64 t) ∧ W.cell? ⟨b6, o6 + m, none⟩ = some (.int .i64 t0)) (exact ⟨(HX.out 0 _ rfl).1, (HY.out 6 _ rfl).1, (HY.out 7 _ rfl).1, HC7.out, HC6.out, HC5.out⟩) (first | (go_at_call 34; refine (limit_spec a rs cap kid _ hl2 HRR.out).mono ?_; rintro e v ⟨rfl, hb⟩; rw [HLM.out]; replace HC6 := Lib.hid ((hb.cell (cell_lt HC6.out)).trans HC6.out); replace HC7 := Lib.hid ((hb.cell (cell_lt HC7.out)).trans HC7.out); replace HX := Lib.hid (HX.out.below hb); replace HY := Lib.hid (HY.out.below hb); replace HBW := Lib.hid (HBW.out.trans (hb.mono HBW.out.size)); replace hbw := Lib.hid (hbw.out.trans (hb.mono hbw.out.size)); replace HC5 := Lib.hid ((hb.cell (cell_lt HC5.out)).trans HC5.out); clear hb) | (go_at_call 44; refine (in_any _ _ _ true _ hd).mono ?_; rintro e v ⟨rfl, rfl⟩))
        all_goals (go_wp2; go_ret; exact ⟨ret_bool (by rw [hr.out, hrr.out]), HBW.out⟩)
      have hle : leastAt r.tags k ≤ t ∧ t ≤ lim := by
        have := hla2.out
        omega
      have hrr : Hid (tagsOk lim 0 r.tags = tagsOk lim (leastAt r.tags (k + 1)) (r.tags.drop (k + 1))) := by
        show _ = _
        rw [hnext.out]
        exact hf.out.trans (hyes hle).out
      have hge2 : Hid (0 ≤ leastAt r.tags (k + 1)) := by
        show _ ≤ _
        rw [hnext.out]
        omega
      have gp : decide (t ≤ t0) = false := decide_eq_false hpt
      clear hyes hno
      go_wp2
      replace HX : Hid (CellsAt w.heap.size [.slice a rs.length cap] wr.drew) := HX.out
      replace HY : Hid (CellsAt (w.heap.size + 1) [.string r.name, .int .i64 r.kind, .int .i64 r.size, .bool r.little, .slice a4 r.bytes.length c4, .slice a5 r.names.length c5, .slice (some ⟨b6, o6, none⟩) r.tags.length c6, .slice (some ⟨b7, o7, none⟩) r.kids.length c7] wr.drew) := HY.out
      replace HRR : Hid (RdR a rs wr.drew) := HRR.out
      replace HC6 : Hid (wr.drew.cell? ⟨b6, o6 + k, none⟩ = some (.int .i64 t)) := HC6.out
      replace HC7 : Hid (wr.drew.cell? ⟨b7, o7, none⟩ = some (.int .i64 kid)) := HC7.out
      clear y6
      replace HC5 : Hid (wr.drew.cell? ⟨b6, o6 + m, none⟩ = some (.int .i64 t0)) := HC5.out
      go_region_held3 (fun W => W.cell? ⟨w.heap.size, 0, none⟩ = some (.slice a rs.length cap) ∧ W.cell? ⟨w.heap.size + 1, 6, none⟩ = some (.slice (some ⟨b6, o6, none⟩) r.tags.length c6) ∧ W.cell? ⟨w.heap.size + 1, 7, none⟩ = some (.slice (some ⟨b7, o7, none⟩) r.kids.length c7) ∧ W.cell? ⟨b7, o7, none⟩ = some (.int .i64 kid) ∧ W.cell? ⟨b6, o6 + k, none⟩ = some (.int .i64 t) ∧ W.cell? ⟨b6, o6 + m, none⟩ = some (.int .i64 t0)) (exact ⟨(HX.out 0 _ rfl).1, (HY.out 6 _ rfl).1, (HY.out 7 _ rfl).1, HC7.out, HC6.out, HC5.out⟩) (first | (go_at_call 34; refine (limit_spec a rs cap kid _ hl2 HRR.out).mono ?_; rintro e v ⟨rfl, hb⟩; rw [HLM.out]; replace HC6 := Lib.hid ((hb.cell (cell_lt HC6.out)).trans HC6.out); replace HC7 := Lib.hid ((hb.cell (cell_lt HC7.out)).trans HC7.out); replace HX := Lib.hid (HX.out.below hb); replace HY := Lib.hid (HY.out.below hb); replace HBW := Lib.hid (HBW.out.trans (hb.mono HBW.out.size)); replace hbw := Lib.hid (hbw.out.trans (hb.mono hbw.out.size)); replace HC5 := Lib.hid ((hb.cell (cell_lt HC5.out)).trans HC5.out); clear hb) | (go_at_call 44; refine (in_any _ _ _ true _ hd).mono ?_; rintro e v ⟨rfl, rfl⟩))
      go_wp2
      go_roundw
      case rel => exact ⟨k + 1, by omega, by go_num, hbw, hrr, hge2⟩
      case measure => simp [intOf]; omega
    · have k1 : ¬ (k : Int) < (r.tags.length : Int) := by omega
      have hrr : Hid (tagsOk lim 0 r.tags = true) := by
        have := hf.out
        rw [List.drop_of_length_le (by omega)] at this
        exact this
      go_wp2
      go_ret
      exact ⟨ret_bool (by rw [hr.out, hrr.out]), HBW.out⟩
end Go.Proofs.Ytdhfcopfoknokaa
