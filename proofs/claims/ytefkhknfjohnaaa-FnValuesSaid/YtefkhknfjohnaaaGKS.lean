/- The contract of the model's l4Tags. The contract of the model's l4Kind. The contracts of the model's IsValidRule and IsValidDescription. -/
import Derived.Test.YtefkhknfjohnaaaGVI
import Derived.Deep.RegionHeld3
import Derived.IntWalk
import Derived.Test.YtefkhknfjohnaaaGRul
namespace Go.Proofs.Ytefkhknfjohnaaa
open Go Go.RowKit
/-- The least tag that may come next. -/
def leastAt (ts : List Int) (k : Nat) : Int := if h : 0 < k ∧ k ≤ ts.length then (ts[k - 1]'(by omega)) + 1 else 0
theorem leastAt_zero (ts : List Int) : leastAt ts 0 = 0 := by unfold leastAt; rw [dif_neg (by omega)]
theorem leastAt_next {ts : List Int} {k : Nat} (h : k < ts.length) : leastAt ts (k + 1) = ts[k] + 1 := by
  unfold leastAt
  rw [dif_pos (by omega)]
  simp
theorem leastAt_at {ts : List Int} {k : Nat} (h0 : 0 < k) (h : k < ts.length) : leastAt ts k = (ts[k - 1]'(by omega)) + 1 := by
  unfold leastAt
  rw [dif_pos (by omega)]
set_option maxRecDepth 100000 in
set_option maxHeartbeats 4000000 in
theorem tags_spec (a : Option Addr) (rs : List RuleV) (cap : Nat) (r : RuleV) (cs : List Value) (w : World) (hl : rs.length ≤ 1048576) (hs : Short r) (hrd : RdR a rs w) (h : IsRule r cs w) :
    Calls Try.prog 110 #[.agg #[.slice a rs.length cap], .agg cs.toArray] w fun e w' => e = .returned (.bool (tagsB rs r)) ∧ Below w.heap.size w w' := by
  obtain ⟨a4, c4, a5, c5, a6, c6, a7, c7, rfl, h4, h5, h6, h7⟩ := h
  obtain ⟨s4, s5, s6, s7⟩ := hs
  obtain ⟨w0, hw0⟩ : ∃ w0, w0 = (w.alloc (.cells #[.slice a rs.length cap] 38)).alloc (.cells #[.string r.name, .int .i64 r.kind, .int .i64 r.size, .bool r.little, .slice a4 r.bytes.length c4, .slice a5 r.names.length c5, .slice a6 r.tags.length c6, .slice a7 r.kids.length c7] 76) := ⟨_, rfl⟩
  have hB0 : Below w.heap.size w w0 := by subst hw0; exact ((Below.refl _ _).alloc (Nat.le_refl _) _).alloc (by simp) _
  have hX0 : CellsAt w.heap.size [.slice a rs.length cap] w0 := by subst hw0; exact (CellsAt.new w _ _).below ((Below.refl _ _).alloc (Nat.le_refl _) _)
  have hY0 : CellsAt (w.heap.size + 1) [.string r.name, .int .i64 r.kind, .int .i64 r.size, .bool r.little, .slice a4 r.bytes.length c4, .slice a5 r.names.length c5, .slice a6 r.tags.length c6, .slice a7 r.kids.length c7] w0 := by
    subst hw0
    have h1 := CellsAt.new (w.alloc (.cells #[.slice a rs.length cap] 38)) [.string r.name, .int .i64 r.kind, .int .i64 r.size, .bool r.little, .slice a4 r.bytes.length c4, .slice a5 r.names.length c5, .slice a6 r.tags.length c6, .slice a7 r.kids.length c7] 76
    simpa using h1
  have HR := Lib.hid (hrd.below hB0)
  have H6 := Lib.hid (h6.below hB0)
  have H7 := Lib.hid (h7.below hB0)
  have HB0 := Lib.hid hB0
  have HX0 := Lib.hid hX0
  have HY0 := Lib.hid hY0
  have hW := Lib.hid hw0
  clear h4 h5 h6 h7 hB0 hX0 hY0 hw0 hrd s4 s5
  by_cases g2 : r.kids.length = r.tags.length + 1
  case neg =>
    have hr : Hid (tagsB rs r = false) := by
      show _ = _
      unfold tagsB
      rw [decide_eq_false (by omega), Bool.false_and]
    have e1 : ((r.kids.length : Int) != (r.tags.length : Int) + 1) = true := by simp; omega
    go_enter Try.func110, Try.ntmps110
    go_wp2
    rw [← hW.out]
    go_ret
    exact ⟨ret_bool hr.out.symm, HB0.out⟩
  have e1 : ((r.kids.length : Int) != (r.tags.length : Int) + 1) = false := by simp; omega
  have G2 := Lib.hid g2
  clear g2
  by_cases g1 : 1 ≤ (r.tags.length : Int) ∧ (r.tags.length : Int) ≤ 8
  case neg =>
    have hr : Hid (tagsB rs r = false) := by
      show _ = _
      unfold tagsB
      rw [decide_eq_false (by have := G2.out; omega), Bool.false_and]
    have hd := decide_eq_false g1
    go_enter Try.func110, Try.ntmps110
    go_wp2_with fail
    refine (in_any _ _ _ false _ hd).mono ?_
    rintro e w1 ⟨rfl, rfl⟩
    go_wp2
    rw [← hW.out]
    go_ret
    exact ⟨ret_bool hr.out.symm, HB0.out⟩
  have hd := decide_eq_true g1
  have hk : 0 < r.kids.length := by have := G2.out; omega
  have hr : Hid (tagsB rs r = tagsOk (limitAt rs r.kids[0]) 0 r.tags) := by
    show _ = _
    unfold tagsB
    rw [decide_eq_true (by have := G2.out; omega), Bool.true_and, headD_at hk]
  obtain ⟨b7, o7, rfl, hc7⟩ := H7.out 0 hk
  have HK7 := Lib.hid hc7
  have k7 : (0 : Int) < (r.kids.length : Int) := by omega
  have hlim := limitAt_le rs r.kids[0]
  clear G2 hc7 H7
  generalize r.kids[0] = kid at HK7 hr hlim
  go_enter Try.func110, Try.ntmps110
  go_wp2_with fail
  refine (in_any _ _ _ true _ hd).mono ?_
  rintro e w1 ⟨rfl, rfl⟩
  clear hd
  go_wp2
  clear e1
  generalize hlm : limitAt rs kid = lim at hr hlim
  have HLM := Lib.hid hlm
  clear hlm
  have hlen : r.tags.length ≤ 8 := by omega
  clear g1
  go_loopw [5] (fun i W => ∃ k : Nat, k ≤ r.tags.length ∧ i = .int .i64 k ∧ Hid (Below w0.heap.size w0 W) ∧ Hid (tagsOk lim 0 r.tags = tagsOk lim (leastAt r.tags k) (r.tags.drop k)) ∧ Hid (0 ≤ leastAt r.tags k)) (fun i _ => r.tags.length - (intOf i).toNat)
  case atStart => exact ⟨0, Nat.zero_le _, rfl, by rw [← hW.out]; exact Below.refl _ _, by rw [leastAt_zero]; rfl, by rw [leastAt_zero]; exact Int.le_refl 0⟩
  case round =>
    obtain ⟨k, hkl, rfl, hbw, hf, hge⟩ := hrel
    have k0 : (0 : Int) ≤ (k : Int) := by omega
    have HBW := Lib.hid (HB0.out.trans (hbw.out.mono HB0.out.size))
    have HX := Lib.hid (HX0.out.below hbw.out)
    have HY := Lib.hid (HY0.out.below hbw.out)
    have y6 := (HY.out 6 _ rfl).1
    by_cases hlt : k < r.tags.length
    · have k1 : (k : Int) < (r.tags.length : Int) := by omega
      have hyes := fun h => Lib.hid (tagsOk_yes (lim := lim) (lo := leastAt r.tags k) hlt h)
      have hno := fun h => Lib.hid (tagsOk_no (lim := lim) (lo := leastAt r.tags k) hlt h)
      have hnext := Lib.hid (leastAt_next hlt)
      obtain ⟨b6, o6, ha6, hc6⟩ := (H6.out.below hbw.out) k hlt
      subst ha6
      have HC6 := Lib.hid hc6
      have HC7 : Hid (wr.cell? ⟨b7, o7, none⟩ = some (.int .i64 kid)) := (hbw.out.cell (cell_lt HK7.out)).trans HK7.out
      have HRR := Lib.hid (HR.out.below hbw.out)
      clear hc6
      have hl2 : rs.length ≤ 1073741824 := by omega
      generalize ht : r.tags[k] = t at HC6 hyes hno hnext
      have HT := Lib.hid ht
      clear ht
      replace hbw : Hid (Below w0.heap.size w0 wr.drew) := below_drewN hbw.out 1
      replace HBW : Hid (Below w.heap.size w wr.drew) := below_drewN HBW.out 1
      by_cases hin : 0 ≤ t ∧ t ≤ lim
      case neg =>
        have hrr : Hid (tagsOk lim 0 r.tags = false) := hf.out.trans (hno (fun h => hin ⟨by have := hge.out; omega, h.2⟩)).out
        have hd := decide_eq_false hin
        clear hin hyes hno
        go_wp2
        replace HX : Hid (CellsAt w.heap.size [.slice a rs.length cap] wr.drew) := HX.out
        replace HY : Hid (CellsAt (w.heap.size + 1) [.string r.name, .int .i64 r.kind, .int .i64 r.size, .bool r.little, .slice a4 r.bytes.length c4, .slice a5 r.names.length c5, .slice (some ⟨b6, o6, none⟩) r.tags.length c6, .slice (some ⟨b7, o7, none⟩) r.kids.length c7] wr.drew) := HY.out
        replace HRR : Hid (RdR a rs wr.drew) := HRR.out
        replace HC6 : Hid (wr.drew.cell? ⟨b6, o6 + k, none⟩ = some (.int .i64 t)) := HC6.out
        replace HC7 : Hid (wr.drew.cell? ⟨b7, o7, none⟩ = some (.int .i64 kid)) := HC7.out
        clear y6
        refine wp_region_held_drew (S := (fun W => W.cell? ⟨w.heap.size, 0, none⟩ = some (.slice a rs.length cap) ∧ W.cell? ⟨w.heap.size + 1, 6, none⟩ = some (.slice (some ⟨b6, o6, none⟩) r.tags.length c6) ∧ W.cell? ⟨w.heap.size + 1, 7, none⟩ = some (.slice (some ⟨b7, o7, none⟩) r.kids.length c7) ∧ W.cell? ⟨b7, o7, none⟩ = some (.int .i64 kid) ∧ W.cell? ⟨b6, o6 + k, none⟩ = some (.int .i64 t))) (by kernel_rfl) ?_ (fun hHeld => ?_)
        · (try dsimp only); exact ⟨(HX.out 0 _ rfl).1, (HY.out 6 _ rfl).1, (HY.out 7 _ rfl).1, HC7.out, HC6.out⟩
        refine wpAnyH_take (i := 0) (v := ?v1) (by simp only [List.getElem?_toArray, List.getElem?_cons_zero]; rfl) (by kernel_rfl) (by kernel_rfl) (by kernel_rfl) (by exact fun _ _ _ h => h) (Or.inl ⟨by rfl, ?hy1⟩) (by assumption) ?rest1
        case hy1 => ((intro W hSw; (try dsimp only at hSw); go_simp); (try with_reducible rfl))
        simp only [Act.put, List.setIfInBounds_toArray, List.set_cons_zero, List.set_cons_succ]
        refine wpAnyH_take (i := 1) (v := ?v2) (by simp only [List.getElem?_toArray, List.getElem?_cons_succ, List.getElem?_cons_zero]; rfl) (by kernel_rfl) (by kernel_rfl) (by kernel_rfl) (by exact fun _ _ _ h => h) (Or.inl ⟨by rfl, ?hy2⟩) (by assumption) ?rest2
        case hy2 => ((intro W hSw; (try dsimp only at hSw); go_simp); (try with_reducible rfl))
        simp only [Act.put, List.setIfInBounds_toArray, List.set_cons_zero, List.set_cons_succ]
        refine wpAnyH_take (i := 2) (v := ?v3) (by simp only [List.getElem?_toArray, List.getElem?_cons_succ, List.getElem?_cons_zero]; rfl) (by kernel_rfl) (by kernel_rfl) (by kernel_rfl) (by exact fun _ _ _ h => h) (Or.inl ⟨by rfl, ?hy3⟩) (by assumption) ?rest3
        case hy3 => ((intro W hSw; (try dsimp only at hSw); go_simp); (try with_reducible rfl))
        simp only [Act.put, List.setIfInBounds_toArray, List.set_cons_zero, List.set_cons_succ]
        refine wpAnyH_take (i := 3) (v := ?v4) (by simp only [List.getElem?_toArray, List.getElem?_cons_succ, List.getElem?_cons_zero]; rfl) (by kernel_rfl) (by kernel_rfl) (by kernel_rfl) (by exact fun _ _ _ h => h) (Or.inl ⟨by rfl, ?hy4⟩) (by assumption) ?rest4
        case hy4 => ((intro W hSw; (try dsimp only at hSw); go_simp); (try with_reducible rfl))
        simp only [Act.put, List.setIfInBounds_toArray, List.set_cons_zero, List.set_cons_succ]
        refine wpAnyH_take (i := 4) (v := ?v5) (by simp only [List.getElem?_toArray, List.getElem?_cons_succ, List.getElem?_cons_zero]; rfl) (by kernel_rfl) (by kernel_rfl) (by kernel_rfl) (by exact fun _ _ _ h => h) (Or.inl ⟨by rfl, ?hy5⟩) (by assumption) ?rest5
        case hy5 => ((intro W hSw; (try dsimp only at hSw); go_simp); (try with_reducible rfl))
        simp only [Act.put, List.setIfInBounds_toArray, List.set_cons_zero, List.set_cons_succ]
        refine wpAnyH_take (i := 5) (v := ?v6) (by simp only [List.getElem?_toArray, List.getElem?_cons_succ, List.getElem?_cons_zero]; rfl) (by kernel_rfl) (by kernel_rfl) (by kernel_rfl) (by exact fun _ _ _ h => h) (Or.inl ⟨by rfl, ?hy6⟩) (by assumption) ?rest6
        case hy6 => ((intro W hSw; (try dsimp only at hSw); go_simp); (try with_reducible rfl))
        simp only [Act.put, List.setIfInBounds_toArray, List.set_cons_zero, List.set_cons_succ]
        refine wpAnyH_take (i := 6) (v := ?v7) (by simp only [List.getElem?_toArray, List.getElem?_cons_succ, List.getElem?_cons_zero]; rfl) (by kernel_rfl) (by kernel_rfl) (by kernel_rfl) (by exact fun _ _ _ h => h) (Or.inl ⟨by rfl, ?hy7⟩) (by assumption) ?rest7
        case hy7 => ((intro W hSw; (try dsimp only at hSw); go_simp); (try with_reducible rfl))
        simp only [Act.put, List.setIfInBounds_toArray, List.set_cons_zero, List.set_cons_succ]
        refine wpAnyH_take (i := 7) (v := ?v8) (by simp only [List.getElem?_toArray, List.getElem?_cons_succ, List.getElem?_cons_zero]; rfl) (by kernel_rfl) (by kernel_rfl) (by kernel_rfl) (by exact fun _ _ _ h => h) (Or.inl ⟨by rfl, ?hy8⟩) (by assumption) ?rest8
        case hy8 => ((intro W hSw; (try dsimp only at hSw); go_simp); (try with_reducible rfl))
        simp only [Act.put, List.setIfInBounds_toArray, List.set_cons_zero, List.set_cons_succ]
        refine wpAnyH_take (i := 8) (v := ?v9) (by simp only [List.getElem?_toArray, List.getElem?_cons_succ, List.getElem?_cons_zero]; rfl) (by kernel_rfl) (by kernel_rfl) (by kernel_rfl) (by exact fun _ _ _ h => h) (Or.inl ⟨by rfl, ?hy9⟩) (by assumption) ?rest9
        case hy9 => ((intro W hSw; (try dsimp only at hSw); go_simp); (try with_reducible rfl))
        simp only [Act.put, List.setIfInBounds_toArray, List.set_cons_zero, List.set_cons_succ]
        refine wpAnyH_take (i := 9) (v := ?v10) (by simp only [List.getElem?_toArray, List.getElem?_cons_succ, List.getElem?_cons_zero]; rfl) (by kernel_rfl) (by kernel_rfl) (by kernel_rfl) (by exact fun _ _ _ h => h) (Or.inl ⟨by rfl, ?hy10⟩) (by assumption) ?rest10
        case hy10 => ((intro W hSw; (try dsimp only at hSw); go_simp); (try with_reducible rfl))
        simp only [Act.put, List.setIfInBounds_toArray, List.set_cons_zero, List.set_cons_succ]
        refine wpAnyH_ready (rs := [10]) (by kernel_rfl) (by simp) ?_
        refine AllReadyH.cons (by simp only [List.getElem?_toArray, List.getElem?_cons_succ, List.getElem?_cons_zero]; rfl) (fun K hK => ?_) AllReadyH.nil
        go_simp
        (go_at_call 108; refine (limit_spec a rs cap kid _ hl2 HRR.out).mono ?_; rintro e v ⟨rfl, hb⟩; rw [HLM.out]; replace HC6 := Lib.hid ((hb.cell (cell_lt HC6.out)).trans HC6.out); replace HC7 := Lib.hid ((hb.cell (cell_lt HC7.out)).trans HC7.out); replace HX := Lib.hid (HX.out.below hb); replace HY := Lib.hid (HY.out.below hb); replace HBW := Lib.hid (HBW.out.trans (hb.mono HBW.out.size)); replace hbw := Lib.hid (hbw.out.trans (hb.mono hbw.out.size)); clear hb)
        go_wp2_with fail
        refine hK.out _ _ ?_ (fun hHeld => ?_)
        · (try dsimp only); exact ⟨(HX.out 0 _ rfl).1, (HY.out 6 _ rfl).1, (HY.out 7 _ rfl).1, HC7.out, HC6.out⟩
        clear hK K
        refine wpAnyH_ready (rs := [11]) (by kernel_rfl) (by simp) ?_
        refine AllReadyH.cons (by simp only [List.getElem?_toArray, List.getElem?_cons_succ, List.getElem?_cons_zero]; rfl) (fun K hK => ?_) AllReadyH.nil
        go_simp
        (go_at_call 85; refine (in_any _ _ _ false _ hd).mono ?_; rintro e v ⟨rfl, rfl⟩)
        go_wp2_with fail
        refine hK.out _ _ ?_ (fun hHeld => ?_)
        · (try dsimp only); exact ⟨(HX.out 0 _ rfl).1, (HY.out 6 _ rfl).1, (HY.out 7 _ rfl).1, HC7.out, HC6.out⟩
        clear hK K
        refine wpAnyH_take (i := 12) (v := ?v11) (by simp only [List.getElem?_toArray, List.getElem?_cons_succ, List.getElem?_cons_zero]; rfl) (by kernel_rfl) (by kernel_rfl) (by kernel_rfl) (by exact fun _ _ _ h => h) (Or.inl ⟨by rfl, ?hy11⟩) (by assumption) ?rest11
        case hy11 => ((intro W hSw; (try dsimp only at hSw); go_simp); (try with_reducible rfl))
        simp only [Act.put, List.setIfInBounds_toArray, List.set_cons_zero, List.set_cons_succ]
        refine wpAnyH_take (i := 13) (v := ?v12) (by simp only [List.getElem?_toArray, List.getElem?_cons_succ, List.getElem?_cons_zero]; rfl) (by kernel_rfl) (by kernel_rfl) (by kernel_rfl) (by exact fun _ _ _ h => h) (Or.inl ⟨by rfl, ?hy12⟩) (by assumption) ?rest12
        case hy12 => ((intro W hSw; (try dsimp only at hSw); go_simp); (try with_reducible rfl))
        simp only [Act.put, List.setIfInBounds_toArray, List.set_cons_zero, List.set_cons_succ]
        refine wpAnyH_take (i := 14) (v := undef) (by simp only [List.getElem?_toArray, List.getElem?_cons_succ, List.getElem?_cons_zero]; rfl) (by kernel_rfl) (by kernel_rfl) (by kernel_rfl) (by exact fun _ _ _ h => h) (Or.inr ⟨by rfl, rfl⟩) (by assumption) ?_
        simp only [Act.put, List.setIfInBounds_toArray, List.set_cons_zero, List.set_cons_succ]
        refine wpAnyH_take (i := 15) (v := undef) (by simp only [List.getElem?_toArray, List.getElem?_cons_succ, List.getElem?_cons_zero]; rfl) (by kernel_rfl) (by kernel_rfl) (by kernel_rfl) (by exact fun _ _ _ h => h) (Or.inr ⟨by rfl, rfl⟩) (by assumption) ?_
        simp only [Act.put, List.setIfInBounds_toArray, List.set_cons_zero, List.set_cons_succ]
        refine wpAnyH_take (i := 16) (v := undef) (by simp only [List.getElem?_toArray, List.getElem?_cons_succ, List.getElem?_cons_zero]; rfl) (by kernel_rfl) (by kernel_rfl) (by kernel_rfl) (by exact fun _ _ _ h => h) (Or.inr ⟨by rfl, rfl⟩) (by assumption) ?_
        simp only [Act.put, List.setIfInBounds_toArray, List.set_cons_zero, List.set_cons_succ]
        refine wpAnyH_take (i := 17) (v := undef) (by simp only [List.getElem?_toArray, List.getElem?_cons_succ, List.getElem?_cons_zero]; rfl) (by kernel_rfl) (by kernel_rfl) (by kernel_rfl) (by exact fun _ _ _ h => h) (Or.inr ⟨by rfl, rfl⟩) (by assumption) ?_
        simp only [Act.put, List.setIfInBounds_toArray, List.set_cons_zero, List.set_cons_succ]
        refine wpAnyH_take (i := 18) (v := undef) (by simp only [List.getElem?_toArray, List.getElem?_cons_succ, List.getElem?_cons_zero]; rfl) (by kernel_rfl) (by kernel_rfl) (by kernel_rfl) (by exact fun _ _ _ h => h) (Or.inr ⟨by rfl, rfl⟩) (by assumption) ?_
        simp only [Act.put, List.setIfInBounds_toArray, List.set_cons_zero, List.set_cons_succ]
        refine wpAnyH_take (i := 19) (v := undef) (by simp only [List.getElem?_toArray, List.getElem?_cons_succ, List.getElem?_cons_zero]; rfl) (by kernel_rfl) (by kernel_rfl) (by kernel_rfl) (by exact fun _ _ _ h => h) (Or.inr ⟨by rfl, rfl⟩) (by assumption) ?_
        simp only [Act.put, List.setIfInBounds_toArray, List.set_cons_zero, List.set_cons_succ]
        refine wpAnyH_take (i := 20) (v := undef) (by simp only [List.getElem?_toArray, List.getElem?_cons_succ, List.getElem?_cons_zero]; rfl) (by kernel_rfl) (by kernel_rfl) (by kernel_rfl) (by exact fun _ _ _ h => h) (Or.inr ⟨by rfl, rfl⟩) (by assumption) ?_
        simp only [Act.put, List.setIfInBounds_toArray, List.set_cons_zero, List.set_cons_succ]
        refine wpAnyH_take (i := 21) (v := undef) (by simp only [List.getElem?_toArray, List.getElem?_cons_succ, List.getElem?_cons_zero]; rfl) (by kernel_rfl) (by kernel_rfl) (by kernel_rfl) (by exact fun _ _ _ h => h) (Or.inr ⟨by rfl, rfl⟩) (by assumption) ?_
        simp only [Act.put, List.setIfInBounds_toArray, List.set_cons_zero, List.set_cons_succ]
        refine wpAnyH_take (i := 22) (v := undef) (by simp only [List.getElem?_toArray, List.getElem?_cons_succ, List.getElem?_cons_zero]; rfl) (by kernel_rfl) (by kernel_rfl) (by kernel_rfl) (by exact fun _ _ _ h => h) (Or.inr ⟨by rfl, rfl⟩) (by assumption) ?_
        simp only [Act.put, List.setIfInBounds_toArray, List.set_cons_zero, List.set_cons_succ]
        refine wpAnyH_take (i := 23) (v := undef) (by simp only [List.getElem?_toArray, List.getElem?_cons_succ, List.getElem?_cons_zero]; rfl) (by kernel_rfl) (by kernel_rfl) (by kernel_rfl) (by exact fun _ _ _ h => h) (Or.inr ⟨by rfl, rfl⟩) (by assumption) ?_
        simp only [Act.put, List.setIfInBounds_toArray, List.set_cons_zero, List.set_cons_succ]
        refine wpAnyH_take (i := 24) (v := undef) (by simp only [List.getElem?_toArray, List.getElem?_cons_succ, List.getElem?_cons_zero]; rfl) (by kernel_rfl) (by kernel_rfl) (by kernel_rfl) (by exact fun _ _ _ h => h) (Or.inr ⟨by rfl, rfl⟩) (by assumption) ?_
        simp only [Act.put, List.setIfInBounds_toArray, List.set_cons_zero, List.set_cons_succ]
        refine wpAnyH_take (i := 25) (v := undef) (by simp only [List.getElem?_toArray, List.getElem?_cons_succ, List.getElem?_cons_zero]; rfl) (by kernel_rfl) (by kernel_rfl) (by kernel_rfl) (by exact fun _ _ _ h => h) (Or.inr ⟨by rfl, rfl⟩) (by assumption) ?_
        simp only [Act.put, List.setIfInBounds_toArray, List.set_cons_zero, List.set_cons_succ]
        refine wpAnyH_take (i := 26) (v := undef) (by simp only [List.getElem?_toArray, List.getElem?_cons_succ, List.getElem?_cons_zero]; rfl) (by kernel_rfl) (by kernel_rfl) (by kernel_rfl) (by exact fun _ _ _ h => h) (Or.inr ⟨by rfl, rfl⟩) (by assumption) ?_
        simp only [Act.put, List.setIfInBounds_toArray, List.set_cons_zero, List.set_cons_succ]
        refine wpAnyH_take (i := 27) (v := undef) (by simp only [List.getElem?_toArray, List.getElem?_cons_succ, List.getElem?_cons_zero]; rfl) (by kernel_rfl) (by kernel_rfl) (by kernel_rfl) (by exact fun _ _ _ h => h) (Or.inr ⟨by rfl, rfl⟩) (by assumption) ?_
        simp only [Act.put, List.setIfInBounds_toArray, List.set_cons_zero, List.set_cons_succ]
        refine wpAnyH_take (i := 28) (v := undef) (by simp only [List.getElem?_toArray, List.getElem?_cons_succ, List.getElem?_cons_zero]; rfl) (by kernel_rfl) (by kernel_rfl) (by kernel_rfl) (by exact fun _ _ _ h => h) (Or.inr ⟨by rfl, rfl⟩) (by assumption) ?_
        simp only [Act.put, List.setIfInBounds_toArray, List.set_cons_zero, List.set_cons_succ]
        refine wpAnyH_take (i := 29) (v := undef) (by simp only [List.getElem?_toArray, List.getElem?_cons_succ, List.getElem?_cons_zero]; rfl) (by kernel_rfl) (by kernel_rfl) (by kernel_rfl) (by exact fun _ _ _ h => h) (Or.inr ⟨by rfl, rfl⟩) (by assumption) ?_
        simp only [Act.put, List.setIfInBounds_toArray, List.set_cons_zero, List.set_cons_succ]
        refine wpAnyH_take (i := 30) (v := ?v13) (by simp only [List.getElem?_toArray, List.getElem?_cons_succ, List.getElem?_cons_zero]; rfl) (by kernel_rfl) (by kernel_rfl) (by kernel_rfl) (by exact fun _ _ _ h => h) (Or.inl ⟨by rfl, ?hy13⟩) (by assumption) ?rest13
        case hy13 => ((intro W hSw; (try dsimp only at hSw); go_simp); (try with_reducible rfl))
        simp only [Act.put, List.setIfInBounds_toArray, List.set_cons_zero, List.set_cons_succ]
        refine wpAnyH_done (by kernel_rfl) ?_ _
        go_wp2
        go_ret
        exact ⟨ret_bool (by rw [hr.out, hrr.out]), HBW.out⟩
      have hd := decide_eq_true hin
      by_cases hk0 : k = 0
      case pos =>
        have hle : leastAt r.tags k ≤ t ∧ t ≤ lim := by rw [hk0, leastAt_zero]; exact hin
        have hrr : Hid (tagsOk lim 0 r.tags = tagsOk lim (leastAt r.tags (k + 1)) (r.tags.drop (k + 1))) := by
          show _ = _
          rw [hnext.out]
          exact hf.out.trans (hyes hle).out
        have hge2 : Hid (0 ≤ leastAt r.tags (k + 1)) := by
          show _ ≤ _
          rw [hnext.out]
          omega
        clear hyes hno hle hin
        have e0 : decide ((0 : Int) < (k : Int)) = false := by simp [hk0]
        have e8 : decide (0 < k) = false := by simp [hk0]
        have e9 : ¬ 0 < k := by omega
        clear hk0
        go_wp2
        replace HX : Hid (CellsAt w.heap.size [.slice a rs.length cap] wr.drew) := HX.out
        replace HY : Hid (CellsAt (w.heap.size + 1) [.string r.name, .int .i64 r.kind, .int .i64 r.size, .bool r.little, .slice a4 r.bytes.length c4, .slice a5 r.names.length c5, .slice (some ⟨b6, o6, none⟩) r.tags.length c6, .slice (some ⟨b7, o7, none⟩) r.kids.length c7] wr.drew) := HY.out
        replace HRR : Hid (RdR a rs wr.drew) := HRR.out
        replace HC6 : Hid (wr.drew.cell? ⟨b6, o6 + k, none⟩ = some (.int .i64 t)) := HC6.out
        replace HC7 : Hid (wr.drew.cell? ⟨b7, o7, none⟩ = some (.int .i64 kid)) := HC7.out
        clear y6
        refine wp_region_held_drew (S := (fun W => W.cell? ⟨w.heap.size, 0, none⟩ = some (.slice a rs.length cap) ∧ W.cell? ⟨w.heap.size + 1, 6, none⟩ = some (.slice (some ⟨b6, o6, none⟩) r.tags.length c6) ∧ W.cell? ⟨w.heap.size + 1, 7, none⟩ = some (.slice (some ⟨b7, o7, none⟩) r.kids.length c7) ∧ W.cell? ⟨b7, o7, none⟩ = some (.int .i64 kid) ∧ W.cell? ⟨b6, o6 + k, none⟩ = some (.int .i64 t))) (by kernel_rfl) ?_ (fun hHeld => ?_)
        · (try dsimp only); exact ⟨(HX.out 0 _ rfl).1, (HY.out 6 _ rfl).1, (HY.out 7 _ rfl).1, HC7.out, HC6.out⟩
        refine wpAnyH_take (i := 0) (v := ?v14) (by simp only [List.getElem?_toArray, List.getElem?_cons_zero]; rfl) (by kernel_rfl) (by kernel_rfl) (by kernel_rfl) (by exact fun _ _ _ h => h) (Or.inl ⟨by rfl, ?hy14⟩) (by assumption) ?rest14
        case hy14 => ((intro W hSw; (try dsimp only at hSw); go_simp); (try with_reducible rfl))
        simp only [Act.put, List.setIfInBounds_toArray, List.set_cons_zero, List.set_cons_succ]
        refine wpAnyH_take (i := 1) (v := ?v15) (by simp only [List.getElem?_toArray, List.getElem?_cons_succ, List.getElem?_cons_zero]; rfl) (by kernel_rfl) (by kernel_rfl) (by kernel_rfl) (by exact fun _ _ _ h => h) (Or.inl ⟨by rfl, ?hy15⟩) (by assumption) ?rest15
        case hy15 => ((intro W hSw; (try dsimp only at hSw); go_simp); (try with_reducible rfl))
        simp only [Act.put, List.setIfInBounds_toArray, List.set_cons_zero, List.set_cons_succ]
        refine wpAnyH_take (i := 2) (v := ?v16) (by simp only [List.getElem?_toArray, List.getElem?_cons_succ, List.getElem?_cons_zero]; rfl) (by kernel_rfl) (by kernel_rfl) (by kernel_rfl) (by exact fun _ _ _ h => h) (Or.inl ⟨by rfl, ?hy16⟩) (by assumption) ?rest16
        case hy16 => ((intro W hSw; (try dsimp only at hSw); go_simp); (try with_reducible rfl))
        simp only [Act.put, List.setIfInBounds_toArray, List.set_cons_zero, List.set_cons_succ]
        refine wpAnyH_take (i := 3) (v := ?v17) (by simp only [List.getElem?_toArray, List.getElem?_cons_succ, List.getElem?_cons_zero]; rfl) (by kernel_rfl) (by kernel_rfl) (by kernel_rfl) (by exact fun _ _ _ h => h) (Or.inl ⟨by rfl, ?hy17⟩) (by assumption) ?rest17
        case hy17 => ((intro W hSw; (try dsimp only at hSw); go_simp); (try with_reducible rfl))
        simp only [Act.put, List.setIfInBounds_toArray, List.set_cons_zero, List.set_cons_succ]
        refine wpAnyH_take (i := 4) (v := ?v18) (by simp only [List.getElem?_toArray, List.getElem?_cons_succ, List.getElem?_cons_zero]; rfl) (by kernel_rfl) (by kernel_rfl) (by kernel_rfl) (by exact fun _ _ _ h => h) (Or.inl ⟨by rfl, ?hy18⟩) (by assumption) ?rest18
        case hy18 => ((intro W hSw; (try dsimp only at hSw); go_simp); (try with_reducible rfl))
        simp only [Act.put, List.setIfInBounds_toArray, List.set_cons_zero, List.set_cons_succ]
        refine wpAnyH_take (i := 5) (v := ?v19) (by simp only [List.getElem?_toArray, List.getElem?_cons_succ, List.getElem?_cons_zero]; rfl) (by kernel_rfl) (by kernel_rfl) (by kernel_rfl) (by exact fun _ _ _ h => h) (Or.inl ⟨by rfl, ?hy19⟩) (by assumption) ?rest19
        case hy19 => ((intro W hSw; (try dsimp only at hSw); go_simp); (try with_reducible rfl))
        simp only [Act.put, List.setIfInBounds_toArray, List.set_cons_zero, List.set_cons_succ]
        refine wpAnyH_take (i := 6) (v := ?v20) (by simp only [List.getElem?_toArray, List.getElem?_cons_succ, List.getElem?_cons_zero]; rfl) (by kernel_rfl) (by kernel_rfl) (by kernel_rfl) (by exact fun _ _ _ h => h) (Or.inl ⟨by rfl, ?hy20⟩) (by assumption) ?rest20
        case hy20 => ((intro W hSw; (try dsimp only at hSw); go_simp); (try with_reducible rfl))
        simp only [Act.put, List.setIfInBounds_toArray, List.set_cons_zero, List.set_cons_succ]
        refine wpAnyH_take (i := 7) (v := ?v21) (by simp only [List.getElem?_toArray, List.getElem?_cons_succ, List.getElem?_cons_zero]; rfl) (by kernel_rfl) (by kernel_rfl) (by kernel_rfl) (by exact fun _ _ _ h => h) (Or.inl ⟨by rfl, ?hy21⟩) (by assumption) ?rest21
        case hy21 => ((intro W hSw; (try dsimp only at hSw); go_simp); (try with_reducible rfl))
        simp only [Act.put, List.setIfInBounds_toArray, List.set_cons_zero, List.set_cons_succ]
        refine wpAnyH_take (i := 8) (v := ?v22) (by simp only [List.getElem?_toArray, List.getElem?_cons_succ, List.getElem?_cons_zero]; rfl) (by kernel_rfl) (by kernel_rfl) (by kernel_rfl) (by exact fun _ _ _ h => h) (Or.inl ⟨by rfl, ?hy22⟩) (by assumption) ?rest22
        case hy22 => ((intro W hSw; (try dsimp only at hSw); go_simp); (try with_reducible rfl))
        simp only [Act.put, List.setIfInBounds_toArray, List.set_cons_zero, List.set_cons_succ]
        refine wpAnyH_take (i := 9) (v := ?v23) (by simp only [List.getElem?_toArray, List.getElem?_cons_succ, List.getElem?_cons_zero]; rfl) (by kernel_rfl) (by kernel_rfl) (by kernel_rfl) (by exact fun _ _ _ h => h) (Or.inl ⟨by rfl, ?hy23⟩) (by assumption) ?rest23
        case hy23 => ((intro W hSw; (try dsimp only at hSw); go_simp); (try with_reducible rfl))
        simp only [Act.put, List.setIfInBounds_toArray, List.set_cons_zero, List.set_cons_succ]
        refine wpAnyH_ready (rs := [10]) (by kernel_rfl) (by simp) ?_
        refine AllReadyH.cons (by simp only [List.getElem?_toArray, List.getElem?_cons_succ, List.getElem?_cons_zero]; rfl) (fun K hK => ?_) AllReadyH.nil
        go_simp
        (go_at_call 108; refine (limit_spec a rs cap kid _ hl2 HRR.out).mono ?_; rintro e v ⟨rfl, hb⟩; rw [HLM.out]; replace HC6 := Lib.hid ((hb.cell (cell_lt HC6.out)).trans HC6.out); replace HC7 := Lib.hid ((hb.cell (cell_lt HC7.out)).trans HC7.out); replace HX := Lib.hid (HX.out.below hb); replace HY := Lib.hid (HY.out.below hb); replace HBW := Lib.hid (HBW.out.trans (hb.mono HBW.out.size)); replace hbw := Lib.hid (hbw.out.trans (hb.mono hbw.out.size)); clear hb)
        go_wp2_with fail
        refine hK.out _ _ ?_ (fun hHeld => ?_)
        · (try dsimp only); exact ⟨(HX.out 0 _ rfl).1, (HY.out 6 _ rfl).1, (HY.out 7 _ rfl).1, HC7.out, HC6.out⟩
        clear hK K
        refine wpAnyH_ready (rs := [11]) (by kernel_rfl) (by simp) ?_
        refine AllReadyH.cons (by simp only [List.getElem?_toArray, List.getElem?_cons_succ, List.getElem?_cons_zero]; rfl) (fun K hK => ?_) AllReadyH.nil
        go_simp
        (go_at_call 85; refine (in_any _ _ _ true _ hd).mono ?_; rintro e v ⟨rfl, rfl⟩)
        go_wp2_with fail
        refine hK.out _ _ ?_ (fun hHeld => ?_)
        · (try dsimp only); exact ⟨(HX.out 0 _ rfl).1, (HY.out 6 _ rfl).1, (HY.out 7 _ rfl).1, HC7.out, HC6.out⟩
        clear hK K
        refine wpAnyH_take (i := 12) (v := ?v24) (by simp only [List.getElem?_toArray, List.getElem?_cons_succ, List.getElem?_cons_zero]; rfl) (by kernel_rfl) (by kernel_rfl) (by kernel_rfl) (by exact fun _ _ _ h => h) (Or.inl ⟨by rfl, ?hy24⟩) (by assumption) ?rest24
        case hy24 => ((intro W hSw; (try dsimp only at hSw); go_simp); (try with_reducible rfl))
        simp only [Act.put, List.setIfInBounds_toArray, List.set_cons_zero, List.set_cons_succ]
        refine wpAnyH_take (i := 13) (v := ?v25) (by simp only [List.getElem?_toArray, List.getElem?_cons_succ, List.getElem?_cons_zero]; rfl) (by kernel_rfl) (by kernel_rfl) (by kernel_rfl) (by exact fun _ _ _ h => h) (Or.inl ⟨by rfl, ?hy25⟩) (by assumption) ?rest25
        case hy25 => ((intro W hSw; (try dsimp only at hSw); go_simp); (try with_reducible rfl))
        simp only [Act.put, List.setIfInBounds_toArray, List.set_cons_zero, List.set_cons_succ]
        refine wpAnyH_take (i := 14) (v := ?v26) (by simp only [List.getElem?_toArray, List.getElem?_cons_succ, List.getElem?_cons_zero]; rfl) (by kernel_rfl) (by kernel_rfl) (by kernel_rfl) (by exact fun _ _ _ h => h) (Or.inl ⟨by rfl, ?hy26⟩) (by assumption) ?rest26
        case hy26 => ((intro W hSw; (try dsimp only at hSw); go_simp); (try with_reducible rfl))
        simp only [Act.put, List.setIfInBounds_toArray, List.set_cons_zero, List.set_cons_succ]
        refine wpAnyH_take (i := 15) (v := ?v27) (by simp only [List.getElem?_toArray, List.getElem?_cons_succ, List.getElem?_cons_zero]; rfl) (by kernel_rfl) (by kernel_rfl) (by kernel_rfl) (by exact fun _ _ _ h => h) (Or.inl ⟨by rfl, ?hy27⟩) (by assumption) ?rest27
        case hy27 => ((intro W hSw; (try dsimp only at hSw); go_simp); (try with_reducible rfl))
        simp only [Act.put, List.setIfInBounds_toArray, List.set_cons_zero, List.set_cons_succ]
        refine wpAnyH_take (i := 16) (v := ?v28) (by simp only [List.getElem?_toArray, List.getElem?_cons_succ, List.getElem?_cons_zero]; rfl) (by kernel_rfl) (by kernel_rfl) (by kernel_rfl) (by exact fun _ _ _ h => h) (Or.inl ⟨by rfl, ?hy28⟩) (by assumption) ?rest28
        case hy28 => ((intro W hSw; (try dsimp only at hSw); go_simp); (try with_reducible rfl))
        simp only [Act.put, List.setIfInBounds_toArray, List.set_cons_zero, List.set_cons_succ]
        refine wpAnyH_take (i := 17) (v := undef) (by simp only [List.getElem?_toArray, List.getElem?_cons_succ, List.getElem?_cons_zero]; rfl) (by kernel_rfl) (by kernel_rfl) (by kernel_rfl) (by exact fun _ _ _ h => h) (Or.inr ⟨by rfl, rfl⟩) (by assumption) ?_
        simp only [Act.put, List.setIfInBounds_toArray, List.set_cons_zero, List.set_cons_succ]
        refine wpAnyH_take (i := 18) (v := undef) (by simp only [List.getElem?_toArray, List.getElem?_cons_succ, List.getElem?_cons_zero]; rfl) (by kernel_rfl) (by kernel_rfl) (by kernel_rfl) (by exact fun _ _ _ h => h) (Or.inr ⟨by rfl, rfl⟩) (by assumption) ?_
        simp only [Act.put, List.setIfInBounds_toArray, List.set_cons_zero, List.set_cons_succ]
        refine wpAnyH_take (i := 19) (v := undef) (by simp only [List.getElem?_toArray, List.getElem?_cons_succ, List.getElem?_cons_zero]; rfl) (by kernel_rfl) (by kernel_rfl) (by kernel_rfl) (by exact fun _ _ _ h => h) (Or.inr ⟨by rfl, rfl⟩) (by assumption) ?_
        simp only [Act.put, List.setIfInBounds_toArray, List.set_cons_zero, List.set_cons_succ]
        refine wpAnyH_take (i := 20) (v := undef) (by simp only [List.getElem?_toArray, List.getElem?_cons_succ, List.getElem?_cons_zero]; rfl) (by kernel_rfl) (by kernel_rfl) (by kernel_rfl) (by exact fun _ _ _ h => h) (Or.inr ⟨by rfl, rfl⟩) (by assumption) ?_
        simp only [Act.put, List.setIfInBounds_toArray, List.set_cons_zero, List.set_cons_succ]
        refine wpAnyH_take (i := 21) (v := undef) (by simp only [List.getElem?_toArray, List.getElem?_cons_succ, List.getElem?_cons_zero]; rfl) (by kernel_rfl) (by kernel_rfl) (by kernel_rfl) (by exact fun _ _ _ h => h) (Or.inr ⟨by rfl, rfl⟩) (by assumption) ?_
        simp only [Act.put, List.setIfInBounds_toArray, List.set_cons_zero, List.set_cons_succ]
        refine wpAnyH_take (i := 22) (v := undef) (by simp only [List.getElem?_toArray, List.getElem?_cons_succ, List.getElem?_cons_zero]; rfl) (by kernel_rfl) (by kernel_rfl) (by kernel_rfl) (by exact fun _ _ _ h => h) (Or.inr ⟨by rfl, rfl⟩) (by assumption) ?_
        simp only [Act.put, List.setIfInBounds_toArray, List.set_cons_zero, List.set_cons_succ]
        refine wpAnyH_take (i := 23) (v := undef) (by simp only [List.getElem?_toArray, List.getElem?_cons_succ, List.getElem?_cons_zero]; rfl) (by kernel_rfl) (by kernel_rfl) (by kernel_rfl) (by exact fun _ _ _ h => h) (Or.inr ⟨by rfl, rfl⟩) (by assumption) ?_
        simp only [Act.put, List.setIfInBounds_toArray, List.set_cons_zero, List.set_cons_succ]
        refine wpAnyH_take (i := 24) (v := undef) (by simp only [List.getElem?_toArray, List.getElem?_cons_succ, List.getElem?_cons_zero]; rfl) (by kernel_rfl) (by kernel_rfl) (by kernel_rfl) (by exact fun _ _ _ h => h) (Or.inr ⟨by rfl, rfl⟩) (by assumption) ?_
        simp only [Act.put, List.setIfInBounds_toArray, List.set_cons_zero, List.set_cons_succ]
        refine wpAnyH_take (i := 25) (v := undef) (by simp only [List.getElem?_toArray, List.getElem?_cons_succ, List.getElem?_cons_zero]; rfl) (by kernel_rfl) (by kernel_rfl) (by kernel_rfl) (by exact fun _ _ _ h => h) (Or.inr ⟨by rfl, rfl⟩) (by assumption) ?_
        simp only [Act.put, List.setIfInBounds_toArray, List.set_cons_zero, List.set_cons_succ]
        refine wpAnyH_take (i := 26) (v := undef) (by simp only [List.getElem?_toArray, List.getElem?_cons_succ, List.getElem?_cons_zero]; rfl) (by kernel_rfl) (by kernel_rfl) (by kernel_rfl) (by exact fun _ _ _ h => h) (Or.inr ⟨by rfl, rfl⟩) (by assumption) ?_
        simp only [Act.put, List.setIfInBounds_toArray, List.set_cons_zero, List.set_cons_succ]
        refine wpAnyH_take (i := 27) (v := undef) (by simp only [List.getElem?_toArray, List.getElem?_cons_succ, List.getElem?_cons_zero]; rfl) (by kernel_rfl) (by kernel_rfl) (by kernel_rfl) (by exact fun _ _ _ h => h) (Or.inr ⟨by rfl, rfl⟩) (by assumption) ?_
        simp only [Act.put, List.setIfInBounds_toArray, List.set_cons_zero, List.set_cons_succ]
        refine wpAnyH_take (i := 28) (v := undef) (by simp only [List.getElem?_toArray, List.getElem?_cons_succ, List.getElem?_cons_zero]; rfl) (by kernel_rfl) (by kernel_rfl) (by kernel_rfl) (by exact fun _ _ _ h => h) (Or.inr ⟨by rfl, rfl⟩) (by assumption) ?_
        simp only [Act.put, List.setIfInBounds_toArray, List.set_cons_zero, List.set_cons_succ]
        refine wpAnyH_take (i := 29) (v := ?v29) (by simp only [List.getElem?_toArray, List.getElem?_cons_succ, List.getElem?_cons_zero]; rfl) (by kernel_rfl) (by kernel_rfl) (by kernel_rfl) (by exact fun _ _ _ h => h) (Or.inl ⟨by rfl, ?hy29⟩) (by assumption) ?rest29
        case hy29 => ((intro W hSw; (try dsimp only at hSw); go_simp); (try with_reducible rfl))
        simp only [Act.put, List.setIfInBounds_toArray, List.set_cons_zero, List.set_cons_succ]
        refine wpAnyH_take (i := 30) (v := ?v30) (by simp only [List.getElem?_toArray, List.getElem?_cons_succ, List.getElem?_cons_zero]; rfl) (by kernel_rfl) (by kernel_rfl) (by kernel_rfl) (by exact fun _ _ _ h => h) (Or.inl ⟨by rfl, ?hy30⟩) (by assumption) ?rest30
        case hy30 => ((intro W hSw; (try dsimp only at hSw); go_simp); (try with_reducible rfl))
        simp only [Act.put, List.setIfInBounds_toArray, List.set_cons_zero, List.set_cons_succ]
        refine wpAnyH_done (by kernel_rfl) ?_ _
        go_wp2
        go_roundw
        case rel => exact ⟨k + 1, by omega, by go_num, hbw, hrr, hge2⟩
        case measure => simp [intOf]; omega
      obtain ⟨m, hkm⟩ : ∃ m, k = m + 1 := ⟨k - 1, by omega⟩
      have hm : m < r.tags.length := by omega
      obtain ⟨b5, o5, ha5, hc5⟩ := (H6.out.below hbw.out) m hm
      injection ha5 with ha5
      injection ha5 with ea eb
      subst ea eb
      have HC5 := Lib.hid hc5
      clear hc5
      have hla2 : Hid (leastAt r.tags k = r.tags[m] + 1) := by
        subst hkm
        exact leastAt_next hm
      generalize r.tags[m] = t0 at HC5 hla2
      have m1 : (m : Int) < (r.tags.length : Int) := by omega
      have m0 : (0 : Int) ≤ (m : Int) := by omega
      have e0 : decide ((0 : Int) < (k : Int)) = true := decide_eq_true (by omega)
      have e8 : decide (0 < k) = true := decide_eq_true (by omega)
      have e9 : 0 < k := by omega
      have ew : IntKind.i64.wrap ((k : Int) - 1) = (m : Int) := by rw [IntWalk.i64_in _ (by omega)]; omega
      have HKM := Lib.hid hkm
      clear hkm
      by_cases hpt : t ≤ t0
      case pos =>
        have hrr : Hid (tagsOk lim 0 r.tags = false) := hf.out.trans (hno (fun h => by have := hla2.out; omega)).out
        have gp : decide (t ≤ t0) = true := decide_eq_true hpt
        clear hyes hno
        go_wp2
        replace HX : Hid (CellsAt w.heap.size [.slice a rs.length cap] wr.drew) := HX.out
        replace HY : Hid (CellsAt (w.heap.size + 1) [.string r.name, .int .i64 r.kind, .int .i64 r.size, .bool r.little, .slice a4 r.bytes.length c4, .slice a5 r.names.length c5, .slice (some ⟨b6, o6, none⟩) r.tags.length c6, .slice (some ⟨b7, o7, none⟩) r.kids.length c7] wr.drew) := HY.out
        replace HRR : Hid (RdR a rs wr.drew) := HRR.out
        replace HC6 : Hid (wr.drew.cell? ⟨b6, o6 + k, none⟩ = some (.int .i64 t)) := HC6.out
        replace HC7 : Hid (wr.drew.cell? ⟨b7, o7, none⟩ = some (.int .i64 kid)) := HC7.out
        clear y6
        replace HC5 : Hid (wr.drew.cell? ⟨b6, o6 + m, none⟩ = some (.int .i64 t0)) := HC5.out
        go_region_held3 (fun W => W.cell? ⟨w.heap.size, 0, none⟩ = some (.slice a rs.length cap) ∧ W.cell? ⟨w.heap.size + 1, 6, none⟩ = some (.slice (some ⟨b6, o6, none⟩) r.tags.length c6) ∧ W.cell? ⟨w.heap.size + 1, 7, none⟩ = some (.slice (some ⟨b7, o7, none⟩) r.kids.length c7) ∧ W.cell? ⟨b7, o7, none⟩ = some (.int .i64 kid) ∧ W.cell? ⟨b6, o6 + k, none⟩ = some (.int .i64 t) ∧ W.cell? ⟨b6, o6 + m, none⟩ = some (.int .i64 t0)) (exact ⟨(HX.out 0 _ rfl).1, (HY.out 6 _ rfl).1, (HY.out 7 _ rfl).1, HC7.out, HC6.out, HC5.out⟩) (first | (go_at_call 108; refine (limit_spec a rs cap kid _ hl2 HRR.out).mono ?_; rintro e v ⟨rfl, hb⟩; rw [HLM.out]; replace HC6 := Lib.hid ((hb.cell (cell_lt HC6.out)).trans HC6.out); replace HC7 := Lib.hid ((hb.cell (cell_lt HC7.out)).trans HC7.out); replace HX := Lib.hid (HX.out.below hb); replace HY := Lib.hid (HY.out.below hb); replace HBW := Lib.hid (HBW.out.trans (hb.mono HBW.out.size)); replace hbw := Lib.hid (hbw.out.trans (hb.mono hbw.out.size)); replace HC5 := Lib.hid ((hb.cell (cell_lt HC5.out)).trans HC5.out); clear hb) | (go_at_call 85; refine (in_any _ _ _ true _ hd).mono ?_; rintro e v ⟨rfl, rfl⟩))
        all_goals (go_wp2; go_ret; exact ⟨ret_bool (by rw [hr.out, hrr.out]), HBW.out⟩)
      have hle : leastAt r.tags k ≤ t ∧ t ≤ lim := by
        have := hla2.out
        omega
      have hrr : Hid (tagsOk lim 0 r.tags = tagsOk lim (leastAt r.tags (k + 1)) (r.tags.drop (k + 1))) := by
        show _ = _
        rw [hnext.out]
        exact hf.out.trans (hyes hle).out
      have hge2 : Hid (0 ≤ leastAt r.tags (k + 1)) := by
        show _ ≤ _
        rw [hnext.out]
        omega
      have gp : decide (t ≤ t0) = false := decide_eq_false hpt
      clear hyes hno
      go_wp2
      replace HX : Hid (CellsAt w.heap.size [.slice a rs.length cap] wr.drew) := HX.out
      replace HY : Hid (CellsAt (w.heap.size + 1) [.string r.name, .int .i64 r.kind, .int .i64 r.size, .bool r.little, .slice a4 r.bytes.length c4, .slice a5 r.names.length c5, .slice (some ⟨b6, o6, none⟩) r.tags.length c6, .slice (some ⟨b7, o7, none⟩) r.kids.length c7] wr.drew) := HY.out
      replace HRR : Hid (RdR a rs wr.drew) := HRR.out
      replace HC6 : Hid (wr.drew.cell? ⟨b6, o6 + k, none⟩ = some (.int .i64 t)) := HC6.out
      replace HC7 : Hid (wr.drew.cell? ⟨b7, o7, none⟩ = some (.int .i64 kid)) := HC7.out
      clear y6
      replace HC5 : Hid (wr.drew.cell? ⟨b6, o6 + m, none⟩ = some (.int .i64 t0)) := HC5.out
      go_region_held3 (fun W => W.cell? ⟨w.heap.size, 0, none⟩ = some (.slice a rs.length cap) ∧ W.cell? ⟨w.heap.size + 1, 6, none⟩ = some (.slice (some ⟨b6, o6, none⟩) r.tags.length c6) ∧ W.cell? ⟨w.heap.size + 1, 7, none⟩ = some (.slice (some ⟨b7, o7, none⟩) r.kids.length c7) ∧ W.cell? ⟨b7, o7, none⟩ = some (.int .i64 kid) ∧ W.cell? ⟨b6, o6 + k, none⟩ = some (.int .i64 t) ∧ W.cell? ⟨b6, o6 + m, none⟩ = some (.int .i64 t0)) (exact ⟨(HX.out 0 _ rfl).1, (HY.out 6 _ rfl).1, (HY.out 7 _ rfl).1, HC7.out, HC6.out, HC5.out⟩) (first | (go_at_call 108; refine (limit_spec a rs cap kid _ hl2 HRR.out).mono ?_; rintro e v ⟨rfl, hb⟩; rw [HLM.out]; replace HC6 := Lib.hid ((hb.cell (cell_lt HC6.out)).trans HC6.out); replace HC7 := Lib.hid ((hb.cell (cell_lt HC7.out)).trans HC7.out); replace HX := Lib.hid (HX.out.below hb); replace HY := Lib.hid (HY.out.below hb); replace HBW := Lib.hid (HBW.out.trans (hb.mono HBW.out.size)); replace hbw := Lib.hid (hbw.out.trans (hb.mono hbw.out.size)); replace HC5 := Lib.hid ((hb.cell (cell_lt HC5.out)).trans HC5.out); clear hb) | (go_at_call 85; refine (in_any _ _ _ true _ hd).mono ?_; rintro e v ⟨rfl, rfl⟩))
      go_wp2
      go_roundw
      case rel => exact ⟨k + 1, by omega, by go_num, hbw, hrr, hge2⟩
      case measure => simp [intOf]; omega
    · have k1 : ¬ (k : Int) < (r.tags.length : Int) := by omega
      have hrr : Hid (tagsOk lim 0 r.tags = true) := by
        have := hf.out
        rw [List.drop_of_length_le (by omega)] at this
        exact this
      go_wp2
      go_ret
      exact ⟨ret_bool (by rw [hr.out, hrr.out]), HBW.out⟩
end Go.Proofs.Ytefkhknfjohnaaa
namespace Go.Proofs.Ytefkhknfjohnaaa
open Go Go.RowKit
section
variable (a : Option Addr) (rs : List RuleV) (cap : Nat) (r : RuleV) (cs : List Value) (w : World)
set_option maxRecDepth 100000 in
set_option maxHeartbeats 4000000 in
theorem kinds_1 (h : IsRule r cs w) (hk : r.kind = 1) :
    Calls Try.prog 99 #[.agg #[.slice a rs.length cap], .agg cs.toArray] w fun e w' => e = .returned (.bool (kindS rs r)) ∧ Below w.heap.size w w' := by
  have hm : Hid (kindS rs r = (shapeB r true false false false 0 && (decide (1 ≤ r.size ∧ r.size ≤ 4) && (!r.little || decide (1 < r.size))))) := by
    show _ = _
    simp [kindS, hk]
  obtain ⟨a4, c4, a5, c5, a6, c6, a7, c7, rfl, h4, h5, h6, h7⟩ := h
  obtain ⟨w0, hw0⟩ : ∃ w0, w0 = (w.alloc (.cells #[.slice a rs.length cap] 38)).alloc (.cells #[.string r.name, .int .i64 1, .int .i64 r.size, .bool r.little, .slice a4 r.bytes.length c4, .slice a5 r.names.length c5, .slice a6 r.tags.length c6, .slice a7 r.kids.length c7] 76) := ⟨_, rfl⟩
  have hB0 : Below w.heap.size w w0 := by subst hw0; exact ((Below.refl _ _).alloc (Nat.le_refl _) _).alloc (by simp) _
  have hX0 : CellsAt w.heap.size [.slice a rs.length cap] w0 := by subst hw0; exact (CellsAt.new w _ _).below ((Below.refl _ _).alloc (Nat.le_refl _) _)
  have hY0 : CellsAt (w.heap.size + 1) [.string r.name, .int .i64 1, .int .i64 r.size, .bool r.little, .slice a4 r.bytes.length c4, .slice a5 r.names.length c5, .slice a6 r.tags.length c6, .slice a7 r.kids.length c7] w0 := by
    subst hw0
    have h1 := CellsAt.new (w.alloc (.cells #[.slice a rs.length cap] 38)) [.string r.name, .int .i64 1, .int .i64 r.size, .bool r.little, .slice a4 r.bytes.length c4, .slice a5 r.names.length c5, .slice a6 r.tags.length c6, .slice a7 r.kids.length c7] 76
    simpa using h1
  have HI : Hid (IsRule r [.string r.name, .int .i64 1, .int .i64 r.size, .bool r.little, .slice a4 r.bytes.length c4, .slice a5 r.names.length c5, .slice a6 r.tags.length c6, .slice a7 r.kids.length c7] w0) := by
    rw [← hk]
    exact ⟨a4, c4, a5, c5, a6, c6, a7, c7, rfl, h4.below hB0, h5.below hB0, h6.below hB0, h7.below hB0⟩
  have HSH := Lib.hid (shape_size r [.string r.name, .int .i64 1, .int .i64 r.size, .bool r.little, .slice a4 r.bytes.length c4, .slice a5 r.names.length c5, .slice a6 r.tags.length c6, .slice a7 r.kids.length c7] 0 w0 HI.out (by omega))
  have HB := Lib.hid hB0
  have HX := Lib.hid hX0
  have HY := Lib.hid hY0
  rw [hk]
  clear h4 h5 h6 h7 hB0 hX0 hY0 hk
  cases hsb : shapeB r true false false false 0 with
  | false =>
    rw [hsb] at HSH hm
    go_enter Try.func99, Try.ntmps99
    go_wp2_with fail
    rw [← hw0]
    clear hw0
    refine HSH.out.mono ?_
    rintro e w1 ⟨rfl, hb⟩
    replace HX := Lib.hid (HX.out.below hb)
    replace HY := Lib.hid (HY.out.below hb)
    replace HB := Lib.hid (HB.out.trans (hb.mono HB.out.size))
    clear hb
    go_wp2
    go_ret
    exact ⟨ret_bool (by rw [hm.out]; rfl), HB.out⟩
  | true =>
    rw [hsb] at HSH
    rw [hsb, Bool.true_and] at hm
    generalize r.size = sz at *
    generalize r.little = lt at *
    by_cases h1 : 1 ≤ sz ∧ sz ≤ 4
    case neg =>
      have hd := decide_eq_false h1
      rw [hd] at hm
      go_enter Try.func99, Try.ntmps99
      go_wp2_with fail
      rw [← hw0]
      clear hw0
      refine HSH.out.mono ?_
      rintro e w1 ⟨rfl, hb⟩
      replace HX := Lib.hid (HX.out.below hb)
      replace HY := Lib.hid (HY.out.below hb)
      replace HB := Lib.hid (HB.out.trans (hb.mono HB.out.size))
      have y2 := (HY.out 2 _ rfl).1
      have y3 := (HY.out 3 _ rfl).1
      clear hb
      go_wp2_with fail
      refine (in_any _ _ _ false _ hd).mono ?_
      rintro e w2 ⟨rfl, rfl⟩
      go_wp2
      go_ret
      exact ⟨ret_bool (by rw [hm.out]; rfl), HB.out⟩
    have hd := decide_eq_true h1
    rw [hd, Bool.true_and] at hm
    cases lt with
    | false =>
      go_enter Try.func99, Try.ntmps99
      go_wp2_with fail
      rw [← hw0]
      clear hw0
      refine HSH.out.mono ?_
      rintro e w1 ⟨rfl, hb⟩
      replace HX := Lib.hid (HX.out.below hb)
      replace HY := Lib.hid (HY.out.below hb)
      replace HB := Lib.hid (HB.out.trans (hb.mono HB.out.size))
      have y2 := (HY.out 2 _ rfl).1
      have y3 := (HY.out 3 _ rfl).1
      clear hb
      go_wp2_with fail
      refine (in_any _ _ _ true _ hd).mono ?_
      rintro e w2 ⟨rfl, rfl⟩
      go_wp2
      go_ret
      exact ⟨ret_bool (by rw [hm.out]; rfl), HB.out⟩
    | true =>
      by_cases h2 : 1 < sz
      · have hd2 := decide_eq_true h2
        rw [hd2] at hm
        go_enter Try.func99, Try.ntmps99
        go_wp2_with fail
        rw [← hw0]
        clear hw0
        refine HSH.out.mono ?_
        rintro e w1 ⟨rfl, hb⟩
        replace HX := Lib.hid (HX.out.below hb)
        replace HY := Lib.hid (HY.out.below hb)
        replace HB := Lib.hid (HB.out.trans (hb.mono HB.out.size))
        have y2 := (HY.out 2 _ rfl).1
        have y3 := (HY.out 3 _ rfl).1
        clear hb
        go_wp2_with fail
        refine (in_any _ _ _ true _ hd).mono ?_
        rintro e w2 ⟨rfl, rfl⟩
        go_wp2
        go_ret
        exact ⟨ret_bool (by rw [hm.out]; rfl), HB.out⟩
      · have hd2 := decide_eq_false h2
        rw [hd2] at hm
        go_enter Try.func99, Try.ntmps99
        go_wp2_with fail
        rw [← hw0]
        clear hw0
        refine HSH.out.mono ?_
        rintro e w1 ⟨rfl, hb⟩
        replace HX := Lib.hid (HX.out.below hb)
        replace HY := Lib.hid (HY.out.below hb)
        replace HB := Lib.hid (HB.out.trans (hb.mono HB.out.size))
        have y2 := (HY.out 2 _ rfl).1
        have y3 := (HY.out 3 _ rfl).1
        clear hb
        go_wp2_with fail
        refine (in_any _ _ _ true _ hd).mono ?_
        rintro e w2 ⟨rfl, rfl⟩
        go_wp2
        go_ret
        exact ⟨ret_bool (by rw [hm.out]; rfl), HB.out⟩
set_option maxRecDepth 100000 in
set_option maxHeartbeats 4000000 in
theorem kinds_2 (hs : Short r) (h : IsRule r cs w) (hk : r.kind = 2) :
    Calls Try.prog 99 #[.agg #[.slice a rs.length cap], .agg cs.toArray] w fun e w' => e = .returned (.bool (kindS rs r)) ∧ Below w.heap.size w w' := by
  have hm : Hid (kindS rs r = (shapeB r false true false false 0 && decide (1 ≤ (r.bytes.length : Int) ∧ (r.bytes.length : Int) ≤ 16))) := by
    show _ = _
    simp [kindS, hk]
  obtain ⟨a4, c4, a5, c5, a6, c6, a7, c7, rfl, h4, h5, h6, h7⟩ := h
  obtain ⟨w0, hw0⟩ : ∃ w0, w0 = (w.alloc (.cells #[.slice a rs.length cap] 38)).alloc (.cells #[.string r.name, .int .i64 2, .int .i64 r.size, .bool r.little, .slice a4 r.bytes.length c4, .slice a5 r.names.length c5, .slice a6 r.tags.length c6, .slice a7 r.kids.length c7] 76) := ⟨_, rfl⟩
  have hB0 : Below w.heap.size w w0 := by subst hw0; exact ((Below.refl _ _).alloc (Nat.le_refl _) _).alloc (by simp) _
  have hX0 : CellsAt w.heap.size [.slice a rs.length cap] w0 := by subst hw0; exact (CellsAt.new w _ _).below ((Below.refl _ _).alloc (Nat.le_refl _) _)
  have hY0 : CellsAt (w.heap.size + 1) [.string r.name, .int .i64 2, .int .i64 r.size, .bool r.little, .slice a4 r.bytes.length c4, .slice a5 r.names.length c5, .slice a6 r.tags.length c6, .slice a7 r.kids.length c7] w0 := by
    subst hw0
    have h1 := CellsAt.new (w.alloc (.cells #[.slice a rs.length cap] 38)) [.string r.name, .int .i64 2, .int .i64 r.size, .bool r.little, .slice a4 r.bytes.length c4, .slice a5 r.names.length c5, .slice a6 r.tags.length c6, .slice a7 r.kids.length c7] 76
    simpa using h1
  have HI : Hid (IsRule r [.string r.name, .int .i64 2, .int .i64 r.size, .bool r.little, .slice a4 r.bytes.length c4, .slice a5 r.names.length c5, .slice a6 r.tags.length c6, .slice a7 r.kids.length c7] w0) := by
    rw [← hk]
    exact ⟨a4, c4, a5, c5, a6, c6, a7, c7, rfl, h4.below hB0, h5.below hB0, h6.below hB0, h7.below hB0⟩
  have HSH := Lib.hid (shape_bytes r [.string r.name, .int .i64 2, .int .i64 r.size, .bool r.little, .slice a4 r.bytes.length c4, .slice a5 r.names.length c5, .slice a6 r.tags.length c6, .slice a7 r.kids.length c7] 0 w0 HI.out (by omega))
  have HB := Lib.hid hB0
  have HX := Lib.hid hX0
  have HY := Lib.hid hY0
  have s4 := hs.1
  rw [hk]
  clear h4 h5 h6 h7 hB0 hX0 hY0 hk
  cases hsb : shapeB r false true false false 0 with
  | false =>
    rw [hsb] at HSH hm
    go_enter Try.func99, Try.ntmps99
    go_wp2_with fail
    rw [← hw0]
    clear hw0
    refine HSH.out.mono ?_
    rintro e w1 ⟨rfl, hb⟩
    replace HX := Lib.hid (HX.out.below hb)
    replace HY := Lib.hid (HY.out.below hb)
    replace HB := Lib.hid (HB.out.trans (hb.mono HB.out.size))
    clear hb
    go_wp2
    go_ret
    exact ⟨ret_bool (by rw [hm.out]; rfl), HB.out⟩
  | true =>
    rw [hsb] at HSH
    rw [hsb, Bool.true_and] at hm
    go_enter Try.func99, Try.ntmps99
    go_wp2_with fail
    rw [← hw0]
    clear hw0
    refine HSH.out.mono ?_
    rintro e w1 ⟨rfl, hb⟩
    replace HX := Lib.hid (HX.out.below hb)
    replace HY := Lib.hid (HY.out.below hb)
    replace HB := Lib.hid (HB.out.trans (hb.mono HB.out.size))
    have y4 := (HY.out 4 _ rfl).1
    clear hb
    go_wp2_with fail
    refine (in_any _ _ _ _ _ hm.out.symm).mono ?_
    rintro e w2 ⟨rfl, rfl⟩
    go_wp2
    go_ret
    exact ⟨rfl, HB.out⟩
set_option maxRecDepth 100000 in
set_option maxHeartbeats 4000000 in
theorem kinds_3 (h : IsRule r cs w) (hk : r.kind = 3) :
    Calls Try.prog 99 #[.agg #[.slice a rs.length cap], .agg cs.toArray] w fun e w' => e = .returned (.bool (kindS rs r)) ∧ Below w.heap.size w w' := by
  have hm : Hid (kindS rs r = (shapeB r true false false false 0 && decide (1 ≤ r.size ∧ r.size ≤ 64))) := by
    show _ = _
    simp [kindS, hk]
  obtain ⟨a4, c4, a5, c5, a6, c6, a7, c7, rfl, h4, h5, h6, h7⟩ := h
  obtain ⟨w0, hw0⟩ : ∃ w0, w0 = (w.alloc (.cells #[.slice a rs.length cap] 38)).alloc (.cells #[.string r.name, .int .i64 3, .int .i64 r.size, .bool r.little, .slice a4 r.bytes.length c4, .slice a5 r.names.length c5, .slice a6 r.tags.length c6, .slice a7 r.kids.length c7] 76) := ⟨_, rfl⟩
  have hB0 : Below w.heap.size w w0 := by subst hw0; exact ((Below.refl _ _).alloc (Nat.le_refl _) _).alloc (by simp) _
  have hX0 : CellsAt w.heap.size [.slice a rs.length cap] w0 := by subst hw0; exact (CellsAt.new w _ _).below ((Below.refl _ _).alloc (Nat.le_refl _) _)
  have hY0 : CellsAt (w.heap.size + 1) [.string r.name, .int .i64 3, .int .i64 r.size, .bool r.little, .slice a4 r.bytes.length c4, .slice a5 r.names.length c5, .slice a6 r.tags.length c6, .slice a7 r.kids.length c7] w0 := by
    subst hw0
    have h1 := CellsAt.new (w.alloc (.cells #[.slice a rs.length cap] 38)) [.string r.name, .int .i64 3, .int .i64 r.size, .bool r.little, .slice a4 r.bytes.length c4, .slice a5 r.names.length c5, .slice a6 r.tags.length c6, .slice a7 r.kids.length c7] 76
    simpa using h1
  have HI : Hid (IsRule r [.string r.name, .int .i64 3, .int .i64 r.size, .bool r.little, .slice a4 r.bytes.length c4, .slice a5 r.names.length c5, .slice a6 r.tags.length c6, .slice a7 r.kids.length c7] w0) := by
    rw [← hk]
    exact ⟨a4, c4, a5, c5, a6, c6, a7, c7, rfl, h4.below hB0, h5.below hB0, h6.below hB0, h7.below hB0⟩
  have HSH := Lib.hid (shape_size r [.string r.name, .int .i64 3, .int .i64 r.size, .bool r.little, .slice a4 r.bytes.length c4, .slice a5 r.names.length c5, .slice a6 r.tags.length c6, .slice a7 r.kids.length c7] 0 w0 HI.out (by omega))
  have HB := Lib.hid hB0
  have HX := Lib.hid hX0
  have HY := Lib.hid hY0
  rw [hk]
  clear h4 h5 h6 h7 hB0 hX0 hY0 hk
  cases hsb : shapeB r true false false false 0 with
  | false =>
    rw [hsb] at HSH hm
    go_enter Try.func99, Try.ntmps99
    go_wp2_with fail
    rw [← hw0]
    clear hw0
    refine HSH.out.mono ?_
    rintro e w1 ⟨rfl, hb⟩
    replace HX := Lib.hid (HX.out.below hb)
    replace HY := Lib.hid (HY.out.below hb)
    replace HB := Lib.hid (HB.out.trans (hb.mono HB.out.size))
    clear hb
    go_wp2
    go_ret
    exact ⟨ret_bool (by rw [hm.out]; rfl), HB.out⟩
  | true =>
    rw [hsb] at HSH
    rw [hsb, Bool.true_and] at hm
    go_enter Try.func99, Try.ntmps99
    go_wp2_with fail
    rw [← hw0]
    clear hw0
    refine HSH.out.mono ?_
    rintro e w1 ⟨rfl, hb⟩
    replace HX := Lib.hid (HX.out.below hb)
    replace HY := Lib.hid (HY.out.below hb)
    replace HB := Lib.hid (HB.out.trans (hb.mono HB.out.size))
    have y2 := (HY.out 2 _ rfl).1
    clear hb
    go_wp2_with fail
    refine (in_any _ _ _ _ _ hm.out.symm).mono ?_
    rintro e w2 ⟨rfl, rfl⟩
    go_wp2
    go_ret
    exact ⟨rfl, HB.out⟩
set_option maxRecDepth 100000 in
set_option maxHeartbeats 4000000 in
theorem kinds_4 (hl : rs.length ≤ 1048576) (hs : Short r) (hrd : RdR a rs w) (h : IsRule r cs w) (hk : r.kind = 4) :
    Calls Try.prog 99 #[.agg #[.slice a rs.length cap], .agg cs.toArray] w fun e w' => e = .returned (.bool (kindS rs r)) ∧ Below w.heap.size w w' := by
  have hm : Hid (kindS rs r = (shapeB r false false false false 1 && decide (0 < limitAt rs (r.kids.headD 0)))) := by
    show _ = _
    simp [kindS, hk]
  obtain ⟨a4, c4, a5, c5, a6, c6, a7, c7, rfl, h4, h5, h6, h7⟩ := h
  obtain ⟨w0, hw0⟩ : ∃ w0, w0 = (w.alloc (.cells #[.slice a rs.length cap] 38)).alloc (.cells #[.string r.name, .int .i64 4, .int .i64 r.size, .bool r.little, .slice a4 r.bytes.length c4, .slice a5 r.names.length c5, .slice a6 r.tags.length c6, .slice a7 r.kids.length c7] 76) := ⟨_, rfl⟩
  have hB0 : Below w.heap.size w w0 := by subst hw0; exact ((Below.refl _ _).alloc (Nat.le_refl _) _).alloc (by simp) _
  have hX0 : CellsAt w.heap.size [.slice a rs.length cap] w0 := by subst hw0; exact (CellsAt.new w _ _).below ((Below.refl _ _).alloc (Nat.le_refl _) _)
  have hY0 : CellsAt (w.heap.size + 1) [.string r.name, .int .i64 4, .int .i64 r.size, .bool r.little, .slice a4 r.bytes.length c4, .slice a5 r.names.length c5, .slice a6 r.tags.length c6, .slice a7 r.kids.length c7] w0 := by
    subst hw0
    have h1 := CellsAt.new (w.alloc (.cells #[.slice a rs.length cap] 38)) [.string r.name, .int .i64 4, .int .i64 r.size, .bool r.little, .slice a4 r.bytes.length c4, .slice a5 r.names.length c5, .slice a6 r.tags.length c6, .slice a7 r.kids.length c7] 76
    simpa using h1
  have HI : Hid (IsRule r [.string r.name, .int .i64 4, .int .i64 r.size, .bool r.little, .slice a4 r.bytes.length c4, .slice a5 r.names.length c5, .slice a6 r.tags.length c6, .slice a7 r.kids.length c7] w0) := by
    rw [← hk]
    exact ⟨a4, c4, a5, c5, a6, c6, a7, c7, rfl, h4.below hB0, h5.below hB0, h6.below hB0, h7.below hB0⟩
  have HSH := Lib.hid (shape_none r [.string r.name, .int .i64 4, .int .i64 r.size, .bool r.little, .slice a4 r.bytes.length c4, .slice a5 r.names.length c5, .slice a6 r.tags.length c6, .slice a7 r.kids.length c7] 1 w0.drew (show IsRule r _ w0.drew from HI.out) (by omega))
  have HB := Lib.hid hB0
  have HX := Lib.hid hX0
  have HY := Lib.hid hY0
  have HR := Lib.hid (hrd.below hB0)
  have H7 := Lib.hid (h7.below hB0)
  have s7 := hs.2.2.2
  have hl2 : rs.length ≤ 1073741824 := by omega
  rw [hk]
  clear h4 h5 h6 h7 hB0 hX0 hY0 hk
  have hls : Hid (shapeB r false false false false 1 = true → r.kids.length = 1) := fun e => by
    simp [shapeB] at e
    omega
  go_enter Try.func99, Try.ntmps99
  go_wp2
  rw [← hw0]
  clear hw0
  cases hsb : shapeB r false false false false 1 with
  | false =>
    rw [hsb] at HSH hm
    replace HX : Hid (CellsAt w.heap.size [.slice a rs.length cap] w0.drew) := HX.out
    replace HY : Hid (CellsAt (w.heap.size + 1) [.string r.name, .int .i64 4, .int .i64 r.size, .bool r.little, .slice a4 r.bytes.length c4, .slice a5 r.names.length c5, .slice a6 r.tags.length c6, .slice a7 r.kids.length c7] w0.drew) := HY.out
    replace HB : Hid (Below w.heap.size w w0.drew) := below_drewN HB.out 1
    replace HR : Hid (RdR a rs w0.drew) := HR.out
    refine wp_region_held_drew (S := (fun W => W.cell? ⟨w.heap.size, 0, none⟩ = some (.slice a rs.length cap) ∧ W.cell? ⟨w.heap.size + 1, 0, none⟩ = some (.string r.name) ∧ W.cell? ⟨w.heap.size + 1, 1, none⟩ = some (.int .i64 4) ∧ W.cell? ⟨w.heap.size + 1, 2, none⟩ = some (.int .i64 r.size) ∧ W.cell? ⟨w.heap.size + 1, 3, none⟩ = some (.bool r.little) ∧ W.cell? ⟨w.heap.size + 1, 4, none⟩ = some (.slice a4 r.bytes.length c4) ∧ W.cell? ⟨w.heap.size + 1, 5, none⟩ = some (.slice a5 r.names.length c5) ∧ W.cell? ⟨w.heap.size + 1, 6, none⟩ = some (.slice a6 r.tags.length c6) ∧ W.cell? ⟨w.heap.size + 1, 7, none⟩ = some (.slice a7 r.kids.length c7))) (by kernel_rfl) ?_ (fun hHeld => ?_)
    · (try dsimp only); exact ⟨(HX.out 0 _ rfl).1, (HY.out 0 _ rfl).1, (HY.out 1 _ rfl).1, (HY.out 2 _ rfl).1, (HY.out 3 _ rfl).1, (HY.out 4 _ rfl).1, (HY.out 5 _ rfl).1, (HY.out 6 _ rfl).1, (HY.out 7 _ rfl).1⟩
    refine wpAnyH_take (i := 0) (v := ?v1) (by simp only [List.getElem?_toArray, List.getElem?_cons_zero]; rfl) (by kernel_rfl) (by kernel_rfl) (by kernel_rfl) (by exact fun _ _ _ h => h) (Or.inl ⟨by rfl, ?hy1⟩) (by assumption) ?rest1
    case hy1 => ((intro W hSw; (try dsimp only at hSw); go_simp); (try with_reducible rfl))
    simp only [Act.put, List.setIfInBounds_toArray, List.set_cons_zero, List.set_cons_succ]
    refine wpAnyH_ready (rs := [1]) (by kernel_rfl) (by simp) ?_
    refine AllReadyH.cons (by simp only [List.getElem?_toArray, List.getElem?_cons_succ, List.getElem?_cons_zero]; rfl) (fun K hK => ?_) AllReadyH.nil
    go_simp
    (go_at_call 107; refine HSH.out.mono ?_; rintro e v ⟨rfl, hb⟩; replace HX := Lib.hid (HX.out.below hb); replace HY := Lib.hid (HY.out.below hb); replace HB := Lib.hid (HB.out.trans (hb.mono HB.out.size)); replace HR := Lib.hid (HR.out.below hb); clear hb)
    go_wp2_with fail
    refine hK.out _ _ ?_ (fun hHeld => ?_)
    · (try dsimp only); exact ⟨(HX.out 0 _ rfl).1, (HY.out 0 _ rfl).1, (HY.out 1 _ rfl).1, (HY.out 2 _ rfl).1, (HY.out 3 _ rfl).1, (HY.out 4 _ rfl).1, (HY.out 5 _ rfl).1, (HY.out 6 _ rfl).1, (HY.out 7 _ rfl).1⟩
    clear hK K
    refine wpAnyH_take (i := 2) (v := ?v2) (by simp only [List.getElem?_toArray, List.getElem?_cons_succ, List.getElem?_cons_zero]; rfl) (by kernel_rfl) (by kernel_rfl) (by kernel_rfl) (by exact fun _ _ _ h => h) (Or.inl ⟨by rfl, ?hy2⟩) (by assumption) ?rest2
    case hy2 => ((intro W hSw; (try dsimp only at hSw); go_simp); (try with_reducible rfl))
    simp only [Act.put, List.setIfInBounds_toArray, List.set_cons_zero, List.set_cons_succ]
    refine wpAnyH_take (i := 3) (v := undef) (by simp only [List.getElem?_toArray, List.getElem?_cons_succ, List.getElem?_cons_zero]; rfl) (by kernel_rfl) (by kernel_rfl) (by kernel_rfl) (by exact fun _ _ _ h => h) (Or.inr ⟨by rfl, rfl⟩) (by assumption) ?_
    simp only [Act.put, List.setIfInBounds_toArray, List.set_cons_zero, List.set_cons_succ]
    refine wpAnyH_take (i := 4) (v := undef) (by simp only [List.getElem?_toArray, List.getElem?_cons_succ, List.getElem?_cons_zero]; rfl) (by kernel_rfl) (by kernel_rfl) (by kernel_rfl) (by exact fun _ _ _ h => h) (Or.inr ⟨by rfl, rfl⟩) (by assumption) ?_
    simp only [Act.put, List.setIfInBounds_toArray, List.set_cons_zero, List.set_cons_succ]
    refine wpAnyH_take (i := 5) (v := undef) (by simp only [List.getElem?_toArray, List.getElem?_cons_succ, List.getElem?_cons_zero]; rfl) (by kernel_rfl) (by kernel_rfl) (by kernel_rfl) (by exact fun _ _ _ h => h) (Or.inr ⟨by rfl, rfl⟩) (by assumption) ?_
    simp only [Act.put, List.setIfInBounds_toArray, List.set_cons_zero, List.set_cons_succ]
    refine wpAnyH_take (i := 6) (v := undef) (by simp only [List.getElem?_toArray, List.getElem?_cons_succ, List.getElem?_cons_zero]; rfl) (by kernel_rfl) (by kernel_rfl) (by kernel_rfl) (by exact fun _ _ _ h => h) (Or.inr ⟨by rfl, rfl⟩) (by assumption) ?_
    simp only [Act.put, List.setIfInBounds_toArray, List.set_cons_zero, List.set_cons_succ]
    refine wpAnyH_take (i := 7) (v := undef) (by simp only [List.getElem?_toArray, List.getElem?_cons_succ, List.getElem?_cons_zero]; rfl) (by kernel_rfl) (by kernel_rfl) (by kernel_rfl) (by exact fun _ _ _ h => h) (Or.inr ⟨by rfl, rfl⟩) (by assumption) ?_
    simp only [Act.put, List.setIfInBounds_toArray, List.set_cons_zero, List.set_cons_succ]
    refine wpAnyH_take (i := 8) (v := undef) (by simp only [List.getElem?_toArray, List.getElem?_cons_succ, List.getElem?_cons_zero]; rfl) (by kernel_rfl) (by kernel_rfl) (by kernel_rfl) (by exact fun _ _ _ h => h) (Or.inr ⟨by rfl, rfl⟩) (by assumption) ?_
    simp only [Act.put, List.setIfInBounds_toArray, List.set_cons_zero, List.set_cons_succ]
    refine wpAnyH_take (i := 9) (v := undef) (by simp only [List.getElem?_toArray, List.getElem?_cons_succ, List.getElem?_cons_zero]; rfl) (by kernel_rfl) (by kernel_rfl) (by kernel_rfl) (by exact fun _ _ _ h => h) (Or.inr ⟨by rfl, rfl⟩) (by assumption) ?_
    simp only [Act.put, List.setIfInBounds_toArray, List.set_cons_zero, List.set_cons_succ]
    refine wpAnyH_take (i := 10) (v := ?v3) (by simp only [List.getElem?_toArray, List.getElem?_cons_succ, List.getElem?_cons_zero]; rfl) (by kernel_rfl) (by kernel_rfl) (by kernel_rfl) (by exact fun _ _ _ h => h) (Or.inl ⟨by rfl, ?hy3⟩) (by assumption) ?rest3
    case hy3 => ((intro W hSw; (try dsimp only at hSw); go_simp); (try with_reducible rfl))
    simp only [Act.put, List.setIfInBounds_toArray, List.set_cons_zero, List.set_cons_succ]
    refine wpAnyH_ready (rs := [11]) (by kernel_rfl) (by simp) ?_
    refine AllReadyH.cons (by simp only [List.getElem?_toArray, List.getElem?_cons_succ, List.getElem?_cons_zero]; rfl) (fun K hK => ?_) AllReadyH.nil
    go_simp
    refine hK.out _ _ ?_ (fun hHeld => ?_)
    · (try dsimp only); exact ⟨(HX.out 0 _ rfl).1, (HY.out 0 _ rfl).1, (HY.out 1 _ rfl).1, (HY.out 2 _ rfl).1, (HY.out 3 _ rfl).1, (HY.out 4 _ rfl).1, (HY.out 5 _ rfl).1, (HY.out 6 _ rfl).1, (HY.out 7 _ rfl).1⟩
    clear hK K
    refine wpAnyH_done (by kernel_rfl) ?_ _
    go_wp2
    go_ret
    exact ⟨ret_bool (by rw [hm.out]; rfl), HB.out⟩
  | true =>
    rw [hsb] at HSH
    rw [hsb, Bool.true_and] at hm
    have hkl := hls.out hsb
    have hk0 : 0 < r.kids.length := by omega
    rw [headD_at hk0] at hm
    obtain ⟨b7, o7, ha7, hc7⟩ := H7.out 0 hk0
    subst ha7
    have HC7 : Hid (w0.drew.cell? ⟨b7, o7, none⟩ = some (.int .i64 r.kids[0])) := hc7
    clear hc7 hsb
    generalize r.kids[0] = kid at HC7 hm
    have k7 : (0 : Int) < (r.kids.length : Int) := by omega
    clear hkl
    replace HX : Hid (CellsAt w.heap.size [.slice a rs.length cap] w0.drew) := HX.out
    replace HY : Hid (CellsAt (w.heap.size + 1) [.string r.name, .int .i64 4, .int .i64 r.size, .bool r.little, .slice a4 r.bytes.length c4, .slice a5 r.names.length c5, .slice a6 r.tags.length c6, .slice (some ⟨b7, o7, none⟩) r.kids.length c7] w0.drew) := HY.out
    replace HB : Hid (Below w.heap.size w w0.drew) := below_drewN HB.out 1
    replace HR : Hid (RdR a rs w0.drew) := HR.out
    generalize hlm : limitAt rs kid = lim at hm
    by_cases hpos : 0 < lim
    · have hd := decide_eq_true hpos
      rw [hd] at hm
      go_region_held3 (fun W => W.cell? ⟨w.heap.size, 0, none⟩ = some (.slice a rs.length cap) ∧ W.cell? ⟨w.heap.size + 1, 0, none⟩ = some (.string r.name) ∧ W.cell? ⟨w.heap.size + 1, 1, none⟩ = some (.int .i64 4) ∧ W.cell? ⟨w.heap.size + 1, 2, none⟩ = some (.int .i64 r.size) ∧ W.cell? ⟨w.heap.size + 1, 3, none⟩ = some (.bool r.little) ∧ W.cell? ⟨w.heap.size + 1, 4, none⟩ = some (.slice a4 r.bytes.length c4) ∧ W.cell? ⟨w.heap.size + 1, 5, none⟩ = some (.slice a5 r.names.length c5) ∧ W.cell? ⟨w.heap.size + 1, 6, none⟩ = some (.slice a6 r.tags.length c6) ∧ W.cell? ⟨w.heap.size + 1, 7, none⟩ = some (.slice (some ⟨b7, o7, none⟩) r.kids.length c7) ∧ W.cell? ⟨b7, o7, none⟩ = some (.int .i64 kid)) (exact ⟨(HX.out 0 _ rfl).1, (HY.out 0 _ rfl).1, (HY.out 1 _ rfl).1, (HY.out 2 _ rfl).1, (HY.out 3 _ rfl).1, (HY.out 4 _ rfl).1, (HY.out 5 _ rfl).1, (HY.out 6 _ rfl).1, (HY.out 7 _ rfl).1, HC7.out⟩) (first | (go_at_call 107; refine HSH.out.mono ?_; rintro e v ⟨rfl, hb⟩; replace HX := Lib.hid (HX.out.below hb); replace HY := Lib.hid (HY.out.below hb); replace HB := Lib.hid (HB.out.trans (hb.mono HB.out.size)); replace HR := Lib.hid (HR.out.below hb); replace HC7 := Lib.hid ((hb.cell (cell_lt HC7.out)).trans HC7.out); clear hb) | (go_at_call 108; refine (limit_spec a rs cap kid _ hl2 HR.out).mono ?_; rintro e v ⟨rfl, hb⟩; rw [hlm]; replace HX := Lib.hid (HX.out.below hb); replace HY := Lib.hid (HY.out.below hb); replace HB := Lib.hid (HB.out.trans (hb.mono HB.out.size)); replace HC7 := Lib.hid ((hb.cell (cell_lt HC7.out)).trans HC7.out); clear hb))
      all_goals (go_wp2; go_ret; exact ⟨ret_bool (by rw [hm.out]), HB.out⟩)
    · have hd := decide_eq_false hpos
      rw [hd] at hm
      go_region_held3 (fun W => W.cell? ⟨w.heap.size, 0, none⟩ = some (.slice a rs.length cap) ∧ W.cell? ⟨w.heap.size + 1, 0, none⟩ = some (.string r.name) ∧ W.cell? ⟨w.heap.size + 1, 1, none⟩ = some (.int .i64 4) ∧ W.cell? ⟨w.heap.size + 1, 2, none⟩ = some (.int .i64 r.size) ∧ W.cell? ⟨w.heap.size + 1, 3, none⟩ = some (.bool r.little) ∧ W.cell? ⟨w.heap.size + 1, 4, none⟩ = some (.slice a4 r.bytes.length c4) ∧ W.cell? ⟨w.heap.size + 1, 5, none⟩ = some (.slice a5 r.names.length c5) ∧ W.cell? ⟨w.heap.size + 1, 6, none⟩ = some (.slice a6 r.tags.length c6) ∧ W.cell? ⟨w.heap.size + 1, 7, none⟩ = some (.slice (some ⟨b7, o7, none⟩) r.kids.length c7) ∧ W.cell? ⟨b7, o7, none⟩ = some (.int .i64 kid)) (exact ⟨(HX.out 0 _ rfl).1, (HY.out 0 _ rfl).1, (HY.out 1 _ rfl).1, (HY.out 2 _ rfl).1, (HY.out 3 _ rfl).1, (HY.out 4 _ rfl).1, (HY.out 5 _ rfl).1, (HY.out 6 _ rfl).1, (HY.out 7 _ rfl).1, HC7.out⟩) (first | (go_at_call 107; refine HSH.out.mono ?_; rintro e v ⟨rfl, hb⟩; replace HX := Lib.hid (HX.out.below hb); replace HY := Lib.hid (HY.out.below hb); replace HB := Lib.hid (HB.out.trans (hb.mono HB.out.size)); replace HR := Lib.hid (HR.out.below hb); replace HC7 := Lib.hid ((hb.cell (cell_lt HC7.out)).trans HC7.out); clear hb) | (go_at_call 108; refine (limit_spec a rs cap kid _ hl2 HR.out).mono ?_; rintro e v ⟨rfl, hb⟩; rw [hlm]; replace HX := Lib.hid (HX.out.below hb); replace HY := Lib.hid (HY.out.below hb); replace HB := Lib.hid (HB.out.trans (hb.mono HB.out.size)); replace HC7 := Lib.hid ((hb.cell (cell_lt HC7.out)).trans HC7.out); clear hb))
      all_goals (go_wp2; go_ret; exact ⟨ret_bool (by rw [hm.out]), HB.out⟩)
set_option maxRecDepth 100000 in
set_option maxHeartbeats 4000000 in
theorem kinds_5 (hl : rs.length ≤ 1048576) (hs : Short r) (hrd : RdR a rs w) (h : IsRule r cs w) (hk : r.kind = 5) :
    Calls Try.prog 99 #[.agg #[.slice a rs.length cap], .agg cs.toArray] w fun e w' => e = .returned (.bool (kindS rs r)) ∧ Below w.heap.size w w' := by
  have hm : Hid (kindS rs r = (shapeB r false false false false 2 && decide (0 < limitAt rs (r.kids.headD 0)))) := by
    show _ = _
    simp [kindS, hk]
  obtain ⟨a4, c4, a5, c5, a6, c6, a7, c7, rfl, h4, h5, h6, h7⟩ := h
  obtain ⟨w0, hw0⟩ : ∃ w0, w0 = (w.alloc (.cells #[.slice a rs.length cap] 38)).alloc (.cells #[.string r.name, .int .i64 5, .int .i64 r.size, .bool r.little, .slice a4 r.bytes.length c4, .slice a5 r.names.length c5, .slice a6 r.tags.length c6, .slice a7 r.kids.length c7] 76) := ⟨_, rfl⟩
  have hB0 : Below w.heap.size w w0 := by subst hw0; exact ((Below.refl _ _).alloc (Nat.le_refl _) _).alloc (by simp) _
  have hX0 : CellsAt w.heap.size [.slice a rs.length cap] w0 := by subst hw0; exact (CellsAt.new w _ _).below ((Below.refl _ _).alloc (Nat.le_refl _) _)
  have hY0 : CellsAt (w.heap.size + 1) [.string r.name, .int .i64 5, .int .i64 r.size, .bool r.little, .slice a4 r.bytes.length c4, .slice a5 r.names.length c5, .slice a6 r.tags.length c6, .slice a7 r.kids.length c7] w0 := by
    subst hw0
    have h1 := CellsAt.new (w.alloc (.cells #[.slice a rs.length cap] 38)) [.string r.name, .int .i64 5, .int .i64 r.size, .bool r.little, .slice a4 r.bytes.length c4, .slice a5 r.names.length c5, .slice a6 r.tags.length c6, .slice a7 r.kids.length c7] 76
    simpa using h1
  have HI : Hid (IsRule r [.string r.name, .int .i64 5, .int .i64 r.size, .bool r.little, .slice a4 r.bytes.length c4, .slice a5 r.names.length c5, .slice a6 r.tags.length c6, .slice a7 r.kids.length c7] w0) := by
    rw [← hk]
    exact ⟨a4, c4, a5, c5, a6, c6, a7, c7, rfl, h4.below hB0, h5.below hB0, h6.below hB0, h7.below hB0⟩
  have HSH := Lib.hid (shape_none r [.string r.name, .int .i64 5, .int .i64 r.size, .bool r.little, .slice a4 r.bytes.length c4, .slice a5 r.names.length c5, .slice a6 r.tags.length c6, .slice a7 r.kids.length c7] 2 w0.drew (show IsRule r _ w0.drew from HI.out) (by omega))
  have HB := Lib.hid hB0
  have HX := Lib.hid hX0
  have HY := Lib.hid hY0
  have HR := Lib.hid (hrd.below hB0)
  have H7 := Lib.hid (h7.below hB0)
  have s7 := hs.2.2.2
  have hl2 : rs.length ≤ 1073741824 := by omega
  rw [hk]
  clear h4 h5 h6 h7 hB0 hX0 hY0 hk
  have hls : Hid (shapeB r false false false false 2 = true → r.kids.length = 2) := fun e => by
    simp [shapeB] at e
    omega
  go_enter Try.func99, Try.ntmps99
  go_wp2
  rw [← hw0]
  clear hw0
  cases hsb : shapeB r false false false false 2 with
  | false =>
    rw [hsb] at HSH hm
    replace HX : Hid (CellsAt w.heap.size [.slice a rs.length cap] w0.drew) := HX.out
    replace HY : Hid (CellsAt (w.heap.size + 1) [.string r.name, .int .i64 5, .int .i64 r.size, .bool r.little, .slice a4 r.bytes.length c4, .slice a5 r.names.length c5, .slice a6 r.tags.length c6, .slice a7 r.kids.length c7] w0.drew) := HY.out
    replace HB : Hid (Below w.heap.size w w0.drew) := below_drewN HB.out 1
    replace HR : Hid (RdR a rs w0.drew) := HR.out
    refine wp_region_held_drew (S := (fun W => W.cell? ⟨w.heap.size, 0, none⟩ = some (.slice a rs.length cap) ∧ W.cell? ⟨w.heap.size + 1, 0, none⟩ = some (.string r.name) ∧ W.cell? ⟨w.heap.size + 1, 1, none⟩ = some (.int .i64 5) ∧ W.cell? ⟨w.heap.size + 1, 2, none⟩ = some (.int .i64 r.size) ∧ W.cell? ⟨w.heap.size + 1, 3, none⟩ = some (.bool r.little) ∧ W.cell? ⟨w.heap.size + 1, 4, none⟩ = some (.slice a4 r.bytes.length c4) ∧ W.cell? ⟨w.heap.size + 1, 5, none⟩ = some (.slice a5 r.names.length c5) ∧ W.cell? ⟨w.heap.size + 1, 6, none⟩ = some (.slice a6 r.tags.length c6) ∧ W.cell? ⟨w.heap.size + 1, 7, none⟩ = some (.slice a7 r.kids.length c7))) (by kernel_rfl) ?_ (fun hHeld => ?_)
    · (try dsimp only); exact ⟨(HX.out 0 _ rfl).1, (HY.out 0 _ rfl).1, (HY.out 1 _ rfl).1, (HY.out 2 _ rfl).1, (HY.out 3 _ rfl).1, (HY.out 4 _ rfl).1, (HY.out 5 _ rfl).1, (HY.out 6 _ rfl).1, (HY.out 7 _ rfl).1⟩
    refine wpAnyH_take (i := 0) (v := ?v4) (by simp only [List.getElem?_toArray, List.getElem?_cons_zero]; rfl) (by kernel_rfl) (by kernel_rfl) (by kernel_rfl) (by exact fun _ _ _ h => h) (Or.inl ⟨by rfl, ?hy4⟩) (by assumption) ?rest4
    case hy4 => ((intro W hSw; (try dsimp only at hSw); go_simp); (try with_reducible rfl))
    simp only [Act.put, List.setIfInBounds_toArray, List.set_cons_zero, List.set_cons_succ]
    refine wpAnyH_ready (rs := [1]) (by kernel_rfl) (by simp) ?_
    refine AllReadyH.cons (by simp only [List.getElem?_toArray, List.getElem?_cons_succ, List.getElem?_cons_zero]; rfl) (fun K hK => ?_) AllReadyH.nil
    go_simp
    (go_at_call 107; refine HSH.out.mono ?_; rintro e v ⟨rfl, hb⟩; replace HX := Lib.hid (HX.out.below hb); replace HY := Lib.hid (HY.out.below hb); replace HB := Lib.hid (HB.out.trans (hb.mono HB.out.size)); replace HR := Lib.hid (HR.out.below hb); clear hb)
    go_wp2_with fail
    refine hK.out _ _ ?_ (fun hHeld => ?_)
    · (try dsimp only); exact ⟨(HX.out 0 _ rfl).1, (HY.out 0 _ rfl).1, (HY.out 1 _ rfl).1, (HY.out 2 _ rfl).1, (HY.out 3 _ rfl).1, (HY.out 4 _ rfl).1, (HY.out 5 _ rfl).1, (HY.out 6 _ rfl).1, (HY.out 7 _ rfl).1⟩
    clear hK K
    refine wpAnyH_take (i := 2) (v := ?v5) (by simp only [List.getElem?_toArray, List.getElem?_cons_succ, List.getElem?_cons_zero]; rfl) (by kernel_rfl) (by kernel_rfl) (by kernel_rfl) (by exact fun _ _ _ h => h) (Or.inl ⟨by rfl, ?hy5⟩) (by assumption) ?rest5
    case hy5 => ((intro W hSw; (try dsimp only at hSw); go_simp); (try with_reducible rfl))
    simp only [Act.put, List.setIfInBounds_toArray, List.set_cons_zero, List.set_cons_succ]
    refine wpAnyH_take (i := 3) (v := undef) (by simp only [List.getElem?_toArray, List.getElem?_cons_succ, List.getElem?_cons_zero]; rfl) (by kernel_rfl) (by kernel_rfl) (by kernel_rfl) (by exact fun _ _ _ h => h) (Or.inr ⟨by rfl, rfl⟩) (by assumption) ?_
    simp only [Act.put, List.setIfInBounds_toArray, List.set_cons_zero, List.set_cons_succ]
    refine wpAnyH_take (i := 4) (v := undef) (by simp only [List.getElem?_toArray, List.getElem?_cons_succ, List.getElem?_cons_zero]; rfl) (by kernel_rfl) (by kernel_rfl) (by kernel_rfl) (by exact fun _ _ _ h => h) (Or.inr ⟨by rfl, rfl⟩) (by assumption) ?_
    simp only [Act.put, List.setIfInBounds_toArray, List.set_cons_zero, List.set_cons_succ]
    refine wpAnyH_take (i := 5) (v := undef) (by simp only [List.getElem?_toArray, List.getElem?_cons_succ, List.getElem?_cons_zero]; rfl) (by kernel_rfl) (by kernel_rfl) (by kernel_rfl) (by exact fun _ _ _ h => h) (Or.inr ⟨by rfl, rfl⟩) (by assumption) ?_
    simp only [Act.put, List.setIfInBounds_toArray, List.set_cons_zero, List.set_cons_succ]
    refine wpAnyH_take (i := 6) (v := undef) (by simp only [List.getElem?_toArray, List.getElem?_cons_succ, List.getElem?_cons_zero]; rfl) (by kernel_rfl) (by kernel_rfl) (by kernel_rfl) (by exact fun _ _ _ h => h) (Or.inr ⟨by rfl, rfl⟩) (by assumption) ?_
    simp only [Act.put, List.setIfInBounds_toArray, List.set_cons_zero, List.set_cons_succ]
    refine wpAnyH_take (i := 7) (v := undef) (by simp only [List.getElem?_toArray, List.getElem?_cons_succ, List.getElem?_cons_zero]; rfl) (by kernel_rfl) (by kernel_rfl) (by kernel_rfl) (by exact fun _ _ _ h => h) (Or.inr ⟨by rfl, rfl⟩) (by assumption) ?_
    simp only [Act.put, List.setIfInBounds_toArray, List.set_cons_zero, List.set_cons_succ]
    refine wpAnyH_take (i := 8) (v := undef) (by simp only [List.getElem?_toArray, List.getElem?_cons_succ, List.getElem?_cons_zero]; rfl) (by kernel_rfl) (by kernel_rfl) (by kernel_rfl) (by exact fun _ _ _ h => h) (Or.inr ⟨by rfl, rfl⟩) (by assumption) ?_
    simp only [Act.put, List.setIfInBounds_toArray, List.set_cons_zero, List.set_cons_succ]
    refine wpAnyH_take (i := 9) (v := undef) (by simp only [List.getElem?_toArray, List.getElem?_cons_succ, List.getElem?_cons_zero]; rfl) (by kernel_rfl) (by kernel_rfl) (by kernel_rfl) (by exact fun _ _ _ h => h) (Or.inr ⟨by rfl, rfl⟩) (by assumption) ?_
    simp only [Act.put, List.setIfInBounds_toArray, List.set_cons_zero, List.set_cons_succ]
    refine wpAnyH_take (i := 10) (v := ?v6) (by simp only [List.getElem?_toArray, List.getElem?_cons_succ, List.getElem?_cons_zero]; rfl) (by kernel_rfl) (by kernel_rfl) (by kernel_rfl) (by exact fun _ _ _ h => h) (Or.inl ⟨by rfl, ?hy6⟩) (by assumption) ?rest6
    case hy6 => ((intro W hSw; (try dsimp only at hSw); go_simp); (try with_reducible rfl))
    simp only [Act.put, List.setIfInBounds_toArray, List.set_cons_zero, List.set_cons_succ]
    refine wpAnyH_ready (rs := [11]) (by kernel_rfl) (by simp) ?_
    refine AllReadyH.cons (by simp only [List.getElem?_toArray, List.getElem?_cons_succ, List.getElem?_cons_zero]; rfl) (fun K hK => ?_) AllReadyH.nil
    go_simp
    refine hK.out _ _ ?_ (fun hHeld => ?_)
    · (try dsimp only); exact ⟨(HX.out 0 _ rfl).1, (HY.out 0 _ rfl).1, (HY.out 1 _ rfl).1, (HY.out 2 _ rfl).1, (HY.out 3 _ rfl).1, (HY.out 4 _ rfl).1, (HY.out 5 _ rfl).1, (HY.out 6 _ rfl).1, (HY.out 7 _ rfl).1⟩
    clear hK K
    refine wpAnyH_done (by kernel_rfl) ?_ _
    go_wp2
    go_ret
    exact ⟨ret_bool (by rw [hm.out]; rfl), HB.out⟩
  | true =>
    rw [hsb] at HSH
    rw [hsb, Bool.true_and] at hm
    have hkl := hls.out hsb
    have hk0 : 0 < r.kids.length := by omega
    rw [headD_at hk0] at hm
    obtain ⟨b7, o7, ha7, hc7⟩ := H7.out 0 hk0
    subst ha7
    have HC7 : Hid (w0.drew.cell? ⟨b7, o7, none⟩ = some (.int .i64 r.kids[0])) := hc7
    clear hc7 hsb
    generalize r.kids[0] = kid at HC7 hm
    have k7 : (0 : Int) < (r.kids.length : Int) := by omega
    clear hkl
    replace HX : Hid (CellsAt w.heap.size [.slice a rs.length cap] w0.drew) := HX.out
    replace HY : Hid (CellsAt (w.heap.size + 1) [.string r.name, .int .i64 5, .int .i64 r.size, .bool r.little, .slice a4 r.bytes.length c4, .slice a5 r.names.length c5, .slice a6 r.tags.length c6, .slice (some ⟨b7, o7, none⟩) r.kids.length c7] w0.drew) := HY.out
    replace HB : Hid (Below w.heap.size w w0.drew) := below_drewN HB.out 1
    replace HR : Hid (RdR a rs w0.drew) := HR.out
    generalize hlm : limitAt rs kid = lim at hm
    by_cases hpos : 0 < lim
    · have hd := decide_eq_true hpos
      rw [hd] at hm
      go_region_held3 (fun W => W.cell? ⟨w.heap.size, 0, none⟩ = some (.slice a rs.length cap) ∧ W.cell? ⟨w.heap.size + 1, 0, none⟩ = some (.string r.name) ∧ W.cell? ⟨w.heap.size + 1, 1, none⟩ = some (.int .i64 5) ∧ W.cell? ⟨w.heap.size + 1, 2, none⟩ = some (.int .i64 r.size) ∧ W.cell? ⟨w.heap.size + 1, 3, none⟩ = some (.bool r.little) ∧ W.cell? ⟨w.heap.size + 1, 4, none⟩ = some (.slice a4 r.bytes.length c4) ∧ W.cell? ⟨w.heap.size + 1, 5, none⟩ = some (.slice a5 r.names.length c5) ∧ W.cell? ⟨w.heap.size + 1, 6, none⟩ = some (.slice a6 r.tags.length c6) ∧ W.cell? ⟨w.heap.size + 1, 7, none⟩ = some (.slice (some ⟨b7, o7, none⟩) r.kids.length c7) ∧ W.cell? ⟨b7, o7, none⟩ = some (.int .i64 kid)) (exact ⟨(HX.out 0 _ rfl).1, (HY.out 0 _ rfl).1, (HY.out 1 _ rfl).1, (HY.out 2 _ rfl).1, (HY.out 3 _ rfl).1, (HY.out 4 _ rfl).1, (HY.out 5 _ rfl).1, (HY.out 6 _ rfl).1, (HY.out 7 _ rfl).1, HC7.out⟩) (first | (go_at_call 107; refine HSH.out.mono ?_; rintro e v ⟨rfl, hb⟩; replace HX := Lib.hid (HX.out.below hb); replace HY := Lib.hid (HY.out.below hb); replace HB := Lib.hid (HB.out.trans (hb.mono HB.out.size)); replace HR := Lib.hid (HR.out.below hb); replace HC7 := Lib.hid ((hb.cell (cell_lt HC7.out)).trans HC7.out); clear hb) | (go_at_call 108; refine (limit_spec a rs cap kid _ hl2 HR.out).mono ?_; rintro e v ⟨rfl, hb⟩; rw [hlm]; replace HX := Lib.hid (HX.out.below hb); replace HY := Lib.hid (HY.out.below hb); replace HB := Lib.hid (HB.out.trans (hb.mono HB.out.size)); replace HC7 := Lib.hid ((hb.cell (cell_lt HC7.out)).trans HC7.out); clear hb))
      all_goals (go_wp2; go_ret; exact ⟨ret_bool (by rw [hm.out]), HB.out⟩)
    · have hd := decide_eq_false hpos
      rw [hd] at hm
      go_region_held3 (fun W => W.cell? ⟨w.heap.size, 0, none⟩ = some (.slice a rs.length cap) ∧ W.cell? ⟨w.heap.size + 1, 0, none⟩ = some (.string r.name) ∧ W.cell? ⟨w.heap.size + 1, 1, none⟩ = some (.int .i64 5) ∧ W.cell? ⟨w.heap.size + 1, 2, none⟩ = some (.int .i64 r.size) ∧ W.cell? ⟨w.heap.size + 1, 3, none⟩ = some (.bool r.little) ∧ W.cell? ⟨w.heap.size + 1, 4, none⟩ = some (.slice a4 r.bytes.length c4) ∧ W.cell? ⟨w.heap.size + 1, 5, none⟩ = some (.slice a5 r.names.length c5) ∧ W.cell? ⟨w.heap.size + 1, 6, none⟩ = some (.slice a6 r.tags.length c6) ∧ W.cell? ⟨w.heap.size + 1, 7, none⟩ = some (.slice (some ⟨b7, o7, none⟩) r.kids.length c7) ∧ W.cell? ⟨b7, o7, none⟩ = some (.int .i64 kid)) (exact ⟨(HX.out 0 _ rfl).1, (HY.out 0 _ rfl).1, (HY.out 1 _ rfl).1, (HY.out 2 _ rfl).1, (HY.out 3 _ rfl).1, (HY.out 4 _ rfl).1, (HY.out 5 _ rfl).1, (HY.out 6 _ rfl).1, (HY.out 7 _ rfl).1, HC7.out⟩) (first | (go_at_call 107; refine HSH.out.mono ?_; rintro e v ⟨rfl, hb⟩; replace HX := Lib.hid (HX.out.below hb); replace HY := Lib.hid (HY.out.below hb); replace HB := Lib.hid (HB.out.trans (hb.mono HB.out.size)); replace HR := Lib.hid (HR.out.below hb); replace HC7 := Lib.hid ((hb.cell (cell_lt HC7.out)).trans HC7.out); clear hb) | (go_at_call 108; refine (limit_spec a rs cap kid _ hl2 HR.out).mono ?_; rintro e v ⟨rfl, hb⟩; rw [hlm]; replace HX := Lib.hid (HX.out.below hb); replace HY := Lib.hid (HY.out.below hb); replace HB := Lib.hid (HB.out.trans (hb.mono HB.out.size)); replace HC7 := Lib.hid ((hb.cell (cell_lt HC7.out)).trans HC7.out); clear hb))
      all_goals (go_wp2; go_ret; exact ⟨ret_bool (by rw [hm.out]), HB.out⟩)
set_option maxRecDepth 100000 in
set_option maxHeartbeats 4000000 in
theorem kinds_6 (hs : Short r) (hp : Spelt r) (hcap : Cap5 cs) (h : IsRule r cs w) (hk : r.kind = 6) :
    Calls Try.prog 99 #[.agg #[.slice a rs.length cap], .agg cs.toArray] w fun e w' => e = .returned (.bool (kindS rs r)) ∧ Below w.heap.size w w' := by
  have hm : Hid (kindS rs r = (shapeB r false false true false (r.names.length : Int) && namesB r.names)) := by
    show _ = _
    simp [kindS, hk]
  obtain ⟨a4, c4, a5, c5, a6, c6, a7, c7, rfl, h4, h5, h6, h7⟩ := h
  obtain ⟨w0, hw0⟩ : ∃ w0, w0 = (w.alloc (.cells #[.slice a rs.length cap] 38)).alloc (.cells #[.string r.name, .int .i64 6, .int .i64 r.size, .bool r.little, .slice a4 r.bytes.length c4, .slice a5 r.names.length c5, .slice a6 r.tags.length c6, .slice a7 r.kids.length c7] 76) := ⟨_, rfl⟩
  have hB0 : Below w.heap.size w w0 := by subst hw0; exact ((Below.refl _ _).alloc (Nat.le_refl _) _).alloc (by simp) _
  have hX0 : CellsAt w.heap.size [.slice a rs.length cap] w0 := by subst hw0; exact (CellsAt.new w _ _).below ((Below.refl _ _).alloc (Nat.le_refl _) _)
  have hY0 : CellsAt (w.heap.size + 1) [.string r.name, .int .i64 6, .int .i64 r.size, .bool r.little, .slice a4 r.bytes.length c4, .slice a5 r.names.length c5, .slice a6 r.tags.length c6, .slice a7 r.kids.length c7] w0 := by
    subst hw0
    have h1 := CellsAt.new (w.alloc (.cells #[.slice a rs.length cap] 38)) [.string r.name, .int .i64 6, .int .i64 r.size, .bool r.little, .slice a4 r.bytes.length c4, .slice a5 r.names.length c5, .slice a6 r.tags.length c6, .slice a7 r.kids.length c7] 76
    simpa using h1
  have HI : Hid (IsRule r [.string r.name, .int .i64 6, .int .i64 r.size, .bool r.little, .slice a4 r.bytes.length c4, .slice a5 r.names.length c5, .slice a6 r.tags.length c6, .slice a7 r.kids.length c7] w0) := by
    rw [← hk]
    exact ⟨a4, c4, a5, c5, a6, c6, a7, c7, rfl, h4.below hB0, h5.below hB0, h6.below hB0, h7.below hB0⟩
  have HSH := Lib.hid (shape_names r [.string r.name, .int .i64 6, .int .i64 r.size, .bool r.little, .slice a4 r.bytes.length c4, .slice a5 r.names.length c5, .slice a6 r.tags.length c6, .slice a7 r.kids.length c7] (r.names.length : Int) w0 HI.out (by omega))
  have HB := Lib.hid hB0
  have HX := Lib.hid hX0
  have HY := Lib.hid hY0
  have s5 := hs.2.1
  have HP := Lib.hid hp.2
  have hc5 : r.names.length ≤ c5 := hcap a5 _ c5 rfl
  have H5 := Lib.hid (h5.below hB0)
  rw [hk]
  clear h4 h5 h6 h7 hB0 hX0 hY0 hk
  clear hs hp hcap HI
  cases hsb : shapeB r false false true false (r.names.length : Int) with
  | false =>
    rw [hsb] at HSH hm
    go_enter Try.func99, Try.ntmps99
    go_wp2_with fail
    rw [← hw0]
    clear hw0
    refine HSH.out.mono ?_
    rintro e w1 ⟨rfl, hb⟩
    replace HX := Lib.hid (HX.out.below hb)
    replace HY := Lib.hid (HY.out.below hb)
    replace HB := Lib.hid (HB.out.trans (hb.mono HB.out.size))
    clear hb
    go_wp2
    go_ret
    exact ⟨ret_bool (by rw [hm.out]; rfl), HB.out⟩
  | true =>
    rw [hsb] at HSH
    rw [hsb, Bool.true_and] at hm
    go_enter Try.func99, Try.ntmps99
    go_wp2_with fail
    rw [← hw0]
    clear hw0
    refine HSH.out.mono ?_
    rintro e w1 ⟨rfl, hb⟩
    replace HX := Lib.hid (HX.out.below hb)
    replace HY := Lib.hid (HY.out.below hb)
    replace HB := Lib.hid (HB.out.trans (hb.mono HB.out.size))
    have y5 := (HY.out 5 _ rfl).1
    replace H5 := Lib.hid (H5.out.below hb)
    clear hb
    go_wp2_with fail
    refine (names_spec a5 r.names c5 _ s5 hc5 HP.out H5.out).mono ?_
    rintro e w2 ⟨rfl, hb⟩
    replace HB := Lib.hid (HB.out.trans ((below_drew hb).mono HB.out.size))
    clear hb
    go_wp2
    go_ret
    exact ⟨ret_bool hm.out.symm, HB.out⟩
set_option maxRecDepth 100000 in
set_option maxHeartbeats 4000000 in
theorem kinds_7 (hl : rs.length ≤ 1048576) (hs : Short r) (hrd : RdR a rs w) (h : IsRule r cs w) (hk : r.kind = 7) :
    Calls Try.prog 99 #[.agg #[.slice a rs.length cap], .agg cs.toArray] w fun e w' => e = .returned (.bool (kindS rs r)) ∧ Below w.heap.size w w' := by
  have hm : Hid (kindS rs r = (shapeB r false false false true (-1) && tagsB rs r)) := by
    show _ = _
    simp [kindS, hk]
  obtain ⟨a4, c4, a5, c5, a6, c6, a7, c7, rfl, h4, h5, h6, h7⟩ := h
  obtain ⟨w0, hw0⟩ : ∃ w0, w0 = (w.alloc (.cells #[.slice a rs.length cap] 38)).alloc (.cells #[.string r.name, .int .i64 7, .int .i64 r.size, .bool r.little, .slice a4 r.bytes.length c4, .slice a5 r.names.length c5, .slice a6 r.tags.length c6, .slice a7 r.kids.length c7] 76) := ⟨_, rfl⟩
  have hB0 : Below w.heap.size w w0 := by subst hw0; exact ((Below.refl _ _).alloc (Nat.le_refl _) _).alloc (by simp) _
  have hX0 : CellsAt w.heap.size [.slice a rs.length cap] w0 := by subst hw0; exact (CellsAt.new w _ _).below ((Below.refl _ _).alloc (Nat.le_refl _) _)
  have hY0 : CellsAt (w.heap.size + 1) [.string r.name, .int .i64 7, .int .i64 r.size, .bool r.little, .slice a4 r.bytes.length c4, .slice a5 r.names.length c5, .slice a6 r.tags.length c6, .slice a7 r.kids.length c7] w0 := by
    subst hw0
    have h1 := CellsAt.new (w.alloc (.cells #[.slice a rs.length cap] 38)) [.string r.name, .int .i64 7, .int .i64 r.size, .bool r.little, .slice a4 r.bytes.length c4, .slice a5 r.names.length c5, .slice a6 r.tags.length c6, .slice a7 r.kids.length c7] 76
    simpa using h1
  have HI : Hid (IsRule r [.string r.name, .int .i64 7, .int .i64 r.size, .bool r.little, .slice a4 r.bytes.length c4, .slice a5 r.names.length c5, .slice a6 r.tags.length c6, .slice a7 r.kids.length c7] w0) := by
    rw [← hk]
    exact ⟨a4, c4, a5, c5, a6, c6, a7, c7, rfl, h4.below hB0, h5.below hB0, h6.below hB0, h7.below hB0⟩
  have HSH := Lib.hid (shape_tags r [.string r.name, .int .i64 7, .int .i64 r.size, .bool r.little, .slice a4 r.bytes.length c4, .slice a5 r.names.length c5, .slice a6 r.tags.length c6, .slice a7 r.kids.length c7] w0 HI.out)
  have HB := Lib.hid hB0
  have HX := Lib.hid hX0
  have HY := Lib.hid hY0
  have HR := Lib.hid (hrd.below hB0)
  have HS := Lib.hid hs
  rw [hk]
  clear h4 h5 h6 h7 hB0 hX0 hY0 hk
  cases hsb : shapeB r false false false true (-1) with
  | false =>
    rw [hsb] at HSH hm
    go_enter Try.func99, Try.ntmps99
    go_wp2_with fail
    rw [← hw0]
    clear hw0
    refine HSH.out.mono ?_
    rintro e w1 ⟨rfl, hb⟩
    replace HX := Lib.hid (HX.out.below hb)
    replace HY := Lib.hid (HY.out.below hb)
    replace HB := Lib.hid (HB.out.trans (hb.mono HB.out.size))
    clear hb
    go_wp2
    go_ret
    exact ⟨ret_bool (by rw [hm.out]; rfl), HB.out⟩
  | true =>
    rw [hsb] at HSH
    rw [hsb, Bool.true_and] at hm
    go_enter Try.func99, Try.ntmps99
    go_wp2_with fail
    rw [← hw0]
    clear hw0
    refine HSH.out.mono ?_
    rintro e w1 ⟨rfl, hb⟩
    replace HX := Lib.hid (HX.out.below hb)
    replace HY := Lib.hid (HY.out.below hb)
    replace HB := Lib.hid (HB.out.trans (hb.mono HB.out.size))
    have bx := (HX.out 0 _ rfl).1
    have y0 := (HY.out 0 _ rfl).1
    have y1 := (HY.out 1 _ rfl).1
    have y2 := (HY.out 2 _ rfl).1
    have y3 := (HY.out 3 _ rfl).1
    have y4 := (HY.out 4 _ rfl).1
    have y5 := (HY.out 5 _ rfl).1
    have y6 := (HY.out 6 _ rfl).1
    have y7 := (HY.out 7 _ rfl).1
    replace HR := Lib.hid (HR.out.below hb)
    replace HI := Lib.hid (HI.out.below hb)
    clear hb
    go_wp2_with fail
    refine (tags_spec a rs cap r _ _ hl HS.out HR.out HI.out).mono ?_
    rintro e w2 ⟨rfl, hb⟩
    replace HB := Lib.hid (HB.out.trans (hb.mono HB.out.size))
    clear hb
    go_wp2
    go_ret
    exact ⟨ret_bool hm.out.symm, HB.out⟩
set_option maxRecDepth 100000 in
set_option maxHeartbeats 4000000 in
theorem kinds_8 (h : IsRule r cs w) (hk : r.kind = 8) :
    Calls Try.prog 99 #[.agg #[.slice a rs.length cap], .agg cs.toArray] w fun e w' => e = .returned (.bool (kindS rs r)) ∧ Below w.heap.size w w' := by
  have hm : Hid (kindS rs r = shapeB r false false false false 1) := by
    show _ = _
    simp [kindS, hk]
  obtain ⟨a4, c4, a5, c5, a6, c6, a7, c7, rfl, h4, h5, h6, h7⟩ := h
  obtain ⟨w0, hw0⟩ : ∃ w0, w0 = (w.alloc (.cells #[.slice a rs.length cap] 38)).alloc (.cells #[.string r.name, .int .i64 8, .int .i64 r.size, .bool r.little, .slice a4 r.bytes.length c4, .slice a5 r.names.length c5, .slice a6 r.tags.length c6, .slice a7 r.kids.length c7] 76) := ⟨_, rfl⟩
  have hB0 : Below w.heap.size w w0 := by subst hw0; exact ((Below.refl _ _).alloc (Nat.le_refl _) _).alloc (by simp) _
  have hX0 : CellsAt w.heap.size [.slice a rs.length cap] w0 := by subst hw0; exact (CellsAt.new w _ _).below ((Below.refl _ _).alloc (Nat.le_refl _) _)
  have hY0 : CellsAt (w.heap.size + 1) [.string r.name, .int .i64 8, .int .i64 r.size, .bool r.little, .slice a4 r.bytes.length c4, .slice a5 r.names.length c5, .slice a6 r.tags.length c6, .slice a7 r.kids.length c7] w0 := by
    subst hw0
    have h1 := CellsAt.new (w.alloc (.cells #[.slice a rs.length cap] 38)) [.string r.name, .int .i64 8, .int .i64 r.size, .bool r.little, .slice a4 r.bytes.length c4, .slice a5 r.names.length c5, .slice a6 r.tags.length c6, .slice a7 r.kids.length c7] 76
    simpa using h1
  have HI : Hid (IsRule r [.string r.name, .int .i64 8, .int .i64 r.size, .bool r.little, .slice a4 r.bytes.length c4, .slice a5 r.names.length c5, .slice a6 r.tags.length c6, .slice a7 r.kids.length c7] w0) := by
    rw [← hk]
    exact ⟨a4, c4, a5, c5, a6, c6, a7, c7, rfl, h4.below hB0, h5.below hB0, h6.below hB0, h7.below hB0⟩
  have HSH := Lib.hid (shape_none r [.string r.name, .int .i64 8, .int .i64 r.size, .bool r.little, .slice a4 r.bytes.length c4, .slice a5 r.names.length c5, .slice a6 r.tags.length c6, .slice a7 r.kids.length c7] 1 w0 HI.out (by omega))
  have HB := Lib.hid hB0
  have HX := Lib.hid hX0
  have HY := Lib.hid hY0
  rw [hk]
  clear h4 h5 h6 h7 hB0 hX0 hY0 hk
  go_enter Try.func99, Try.ntmps99
  go_wp2_with fail
  rw [← hw0]
  clear hw0
  refine HSH.out.mono ?_
  rintro e w1 ⟨rfl, hb⟩
  replace HX := Lib.hid (HX.out.below hb)
  replace HY := Lib.hid (HY.out.below hb)
  replace HB := Lib.hid (HB.out.trans (hb.mono HB.out.size))
  clear hb
  go_wp2
  go_ret
  exact ⟨ret_bool hm.out.symm, HB.out⟩
set_option maxRecDepth 100000 in
set_option maxHeartbeats 4000000 in
theorem kinds_9 (h : IsRule r cs w) (hk : r.kind = 9) :
    Calls Try.prog 99 #[.agg #[.slice a rs.length cap], .agg cs.toArray] w fun e w' => e = .returned (.bool (kindS rs r)) ∧ Below w.heap.size w w' := by
  have hm : Hid (kindS rs r = shapeB r false false false false 1) := by
    show _ = _
    simp [kindS, hk]
  obtain ⟨a4, c4, a5, c5, a6, c6, a7, c7, rfl, h4, h5, h6, h7⟩ := h
  obtain ⟨w0, hw0⟩ : ∃ w0, w0 = (w.alloc (.cells #[.slice a rs.length cap] 38)).alloc (.cells #[.string r.name, .int .i64 9, .int .i64 r.size, .bool r.little, .slice a4 r.bytes.length c4, .slice a5 r.names.length c5, .slice a6 r.tags.length c6, .slice a7 r.kids.length c7] 76) := ⟨_, rfl⟩
  have hB0 : Below w.heap.size w w0 := by subst hw0; exact ((Below.refl _ _).alloc (Nat.le_refl _) _).alloc (by simp) _
  have hX0 : CellsAt w.heap.size [.slice a rs.length cap] w0 := by subst hw0; exact (CellsAt.new w _ _).below ((Below.refl _ _).alloc (Nat.le_refl _) _)
  have hY0 : CellsAt (w.heap.size + 1) [.string r.name, .int .i64 9, .int .i64 r.size, .bool r.little, .slice a4 r.bytes.length c4, .slice a5 r.names.length c5, .slice a6 r.tags.length c6, .slice a7 r.kids.length c7] w0 := by
    subst hw0
    have h1 := CellsAt.new (w.alloc (.cells #[.slice a rs.length cap] 38)) [.string r.name, .int .i64 9, .int .i64 r.size, .bool r.little, .slice a4 r.bytes.length c4, .slice a5 r.names.length c5, .slice a6 r.tags.length c6, .slice a7 r.kids.length c7] 76
    simpa using h1
  have HI : Hid (IsRule r [.string r.name, .int .i64 9, .int .i64 r.size, .bool r.little, .slice a4 r.bytes.length c4, .slice a5 r.names.length c5, .slice a6 r.tags.length c6, .slice a7 r.kids.length c7] w0) := by
    rw [← hk]
    exact ⟨a4, c4, a5, c5, a6, c6, a7, c7, rfl, h4.below hB0, h5.below hB0, h6.below hB0, h7.below hB0⟩
  have HSH := Lib.hid (shape_none r [.string r.name, .int .i64 9, .int .i64 r.size, .bool r.little, .slice a4 r.bytes.length c4, .slice a5 r.names.length c5, .slice a6 r.tags.length c6, .slice a7 r.kids.length c7] 1 w0 HI.out (by omega))
  have HB := Lib.hid hB0
  have HX := Lib.hid hX0
  have HY := Lib.hid hY0
  rw [hk]
  clear h4 h5 h6 h7 hB0 hX0 hY0 hk
  go_enter Try.func99, Try.ntmps99
  go_wp2_with fail
  rw [← hw0]
  clear hw0
  refine HSH.out.mono ?_
  rintro e w1 ⟨rfl, hb⟩
  replace HX := Lib.hid (HX.out.below hb)
  replace HY := Lib.hid (HY.out.below hb)
  replace HB := Lib.hid (HB.out.trans (hb.mono HB.out.size))
  clear hb
  go_wp2
  go_ret
  exact ⟨ret_bool hm.out.symm, HB.out⟩
set_option maxRecDepth 100000 in
set_option maxHeartbeats 4000000 in
theorem kinds_10 (hs : Short r) (h : IsRule r cs w) (hk : r.kind = 10) :
    Calls Try.prog 99 #[.agg #[.slice a rs.length cap], .agg cs.toArray] w fun e w' => e = .returned (.bool (kindS rs r)) ∧ Below w.heap.size w w' := by
  have hm : Hid (kindS rs r = (shapeB r false true false false 0 && (decide (r.bytes.length = 1) && decide (r.bytes.headD 0 ≠ 92)))) := by
    show _ = _
    simp [kindS, hk, termB]
  obtain ⟨a4, c4, a5, c5, a6, c6, a7, c7, rfl, h4, h5, h6, h7⟩ := h
  obtain ⟨w0, hw0⟩ : ∃ w0, w0 = (w.alloc (.cells #[.slice a rs.length cap] 38)).alloc (.cells #[.string r.name, .int .i64 10, .int .i64 r.size, .bool r.little, .slice a4 r.bytes.length c4, .slice a5 r.names.length c5, .slice a6 r.tags.length c6, .slice a7 r.kids.length c7] 76) := ⟨_, rfl⟩
  have hB0 : Below w.heap.size w w0 := by subst hw0; exact ((Below.refl _ _).alloc (Nat.le_refl _) _).alloc (by simp) _
  have hX0 : CellsAt w.heap.size [.slice a rs.length cap] w0 := by subst hw0; exact (CellsAt.new w _ _).below ((Below.refl _ _).alloc (Nat.le_refl _) _)
  have hY0 : CellsAt (w.heap.size + 1) [.string r.name, .int .i64 10, .int .i64 r.size, .bool r.little, .slice a4 r.bytes.length c4, .slice a5 r.names.length c5, .slice a6 r.tags.length c6, .slice a7 r.kids.length c7] w0 := by
    subst hw0
    have h1 := CellsAt.new (w.alloc (.cells #[.slice a rs.length cap] 38)) [.string r.name, .int .i64 10, .int .i64 r.size, .bool r.little, .slice a4 r.bytes.length c4, .slice a5 r.names.length c5, .slice a6 r.tags.length c6, .slice a7 r.kids.length c7] 76
    simpa using h1
  have HI : Hid (IsRule r [.string r.name, .int .i64 10, .int .i64 r.size, .bool r.little, .slice a4 r.bytes.length c4, .slice a5 r.names.length c5, .slice a6 r.tags.length c6, .slice a7 r.kids.length c7] w0) := by
    rw [← hk]
    exact ⟨a4, c4, a5, c5, a6, c6, a7, c7, rfl, h4.below hB0, h5.below hB0, h6.below hB0, h7.below hB0⟩
  have HSH := Lib.hid (shape_bytes r [.string r.name, .int .i64 10, .int .i64 r.size, .bool r.little, .slice a4 r.bytes.length c4, .slice a5 r.names.length c5, .slice a6 r.tags.length c6, .slice a7 r.kids.length c7] 0 w0 HI.out (by omega))
  have HB := Lib.hid hB0
  have HX := Lib.hid hX0
  have HY := Lib.hid hY0
  have s4 := hs.1
  have H4 := Lib.hid (h4.below hB0)
  rw [hk]
  clear h4 h5 h6 h7 hB0 hX0 hY0 hk
  cases hsb : shapeB r false true false false 0 with
  | false =>
    rw [hsb] at HSH hm
    go_enter Try.func99, Try.ntmps99
    go_wp2_with fail
    rw [← hw0]
    clear hw0
    refine HSH.out.mono ?_
    rintro e w1 ⟨rfl, hb⟩
    replace HX := Lib.hid (HX.out.below hb)
    replace HY := Lib.hid (HY.out.below hb)
    replace HB := Lib.hid (HB.out.trans (hb.mono HB.out.size))
    clear hb
    go_wp2
    go_ret
    exact ⟨ret_bool (by rw [hm.out]; rfl), HB.out⟩
  | true =>
    rw [hsb] at HSH
    rw [hsb, Bool.true_and] at hm
    by_cases h1 : r.bytes.length = 1
    case neg =>
      have e1 : ((r.bytes.length : Int) == 1) = false := by simp; omega
      rw [decide_eq_false h1] at hm
      clear h1
      go_enter Try.func99, Try.ntmps99
      go_wp2_with fail
      rw [← hw0]
      clear hw0
      refine HSH.out.mono ?_
      rintro e w1 ⟨rfl, hb⟩
      replace HX := Lib.hid (HX.out.below hb)
      replace HY := Lib.hid (HY.out.below hb)
      replace HB := Lib.hid (HB.out.trans (hb.mono HB.out.size))
      have y4 := (HY.out 4 _ rfl).1
      clear hb
      go_wp2
      go_ret
      exact ⟨ret_bool (by rw [hm.out]; rfl), HB.out⟩
    have e1 : ((r.bytes.length : Int) == 1) = true := by simp; omega
    rw [decide_eq_true h1, Bool.true_and] at hm
    have hb0 : 0 < r.bytes.length := by omega
    have hb1 : (0 : Int) < (r.bytes.length : Int) := by omega
    have hhd : r.bytes.headD 0 = r.bytes[0] := by
      match r.bytes, hb0 with
      | x :: _, _ => rfl
    rw [hhd] at hm
    clear hhd h1
    obtain ⟨b4, o4, ha4, hc4⟩ := H4.out 0 hb0
    subst ha4
    have HC4 : Hid (w0.cell? ⟨b4, o4, none⟩ = some (.int .u8 (r.bytes[0].toNat : Int))) := hc4
    clear hc4
    generalize r.bytes[0] = c at HC4 hm
    by_cases h2 : c = 92
    · subst h2
      have e2 : (((92 : UInt8).toNat : Int) != 92) = false := by decide
      go_enter Try.func99, Try.ntmps99
      go_wp2_with fail
      rw [← hw0]
      clear hw0
      refine HSH.out.mono ?_
      rintro e w1 ⟨rfl, hb⟩
      replace HX := Lib.hid (HX.out.below hb)
      replace HY := Lib.hid (HY.out.below hb)
      replace HB := Lib.hid (HB.out.trans (hb.mono HB.out.size))
      have y4 := (HY.out 4 _ rfl).1
      have y40 := (hb.cell (cell_lt HC4.out)).trans HC4.out
      clear hb
      go_wp2
      go_ret
      exact ⟨ret_bool (by rw [hm.out]; rfl), HB.out⟩
    · have e2 : ((c.toNat : Int) != 92) = true := by
        have : c.toNat ≠ 92 := fun e => h2 (UInt8.toNat_inj.1 (by rw [e]; rfl))
        simp; omega
      rw [decide_eq_true (show c ≠ 92 from h2)] at hm
      clear h2
      go_enter Try.func99, Try.ntmps99
      go_wp2_with fail
      rw [← hw0]
      clear hw0
      refine HSH.out.mono ?_
      rintro e w1 ⟨rfl, hb⟩
      replace HX := Lib.hid (HX.out.below hb)
      replace HY := Lib.hid (HY.out.below hb)
      replace HB := Lib.hid (HB.out.trans (hb.mono HB.out.size))
      have y4 := (HY.out 4 _ rfl).1
      have y40 := (hb.cell (cell_lt HC4.out)).trans HC4.out
      clear hb
      go_wp2
      go_ret
      exact ⟨ret_bool hm.out.symm, HB.out⟩
set_option maxRecDepth 100000 in
set_option maxHeartbeats 2000000 in
theorem kinds_0 (h : IsRule r cs w) (k1 : r.kind ≠ 1) (k2 : r.kind ≠ 2) (k3 : r.kind ≠ 3) (k4 : r.kind ≠ 4) (k5 : r.kind ≠ 5) (k6 : r.kind ≠ 6) (k7 : r.kind ≠ 7) (k8 : r.kind ≠ 8) (k9 : r.kind ≠ 9) (k10 : r.kind ≠ 10) :
    Calls Try.prog 99 #[.agg #[.slice a rs.length cap], .agg cs.toArray] w fun e w' => e = .returned (.bool (kindS rs r)) ∧ Below w.heap.size w w' := by
  obtain ⟨a4, c4, a5, c5, a6, c6, a7, c7, rfl, -⟩ := h
  have hm : Hid (kindS rs r = false) := by
    show _ = _
    simp [kindS, k1, k2, k3, k4, k5, k6, k7, k8, k9, k10]
  generalize r.kind = kd at *
  have g1 : (kd == 1) = false := by simpa using k1
  have g2 : (kd == 2) = false := by simpa using k2
  have g3 : (kd == 3) = false := by simpa using k3
  have g4 : (kd == 4) = false := by simpa using k4
  have g5 : (kd == 5) = false := by simpa using k5
  have g6 : (kd == 6) = false := by simpa using k6
  have g7 : (kd == 7) = false := by simpa using k7
  have g8 : (kd == 8) = false := by simpa using k8
  have g9 : (kd == 9) = false := by simpa using k9
  have g10 : (kd == 10) = false := by simpa using k10
  have HB : ∀ o p, Hid (Below w.heap.size w ((w.alloc o).alloc p)) := fun o p => ((Below.refl _ _).alloc (Nat.le_refl _) _).alloc (by simp) _
  go_enter Try.func99, Try.ntmps99
  go_wp2
  go_ret
  exact ⟨ret_bool hm.out.symm, (HB _ _).out⟩
theorem kinds_spec (hl : rs.length ≤ 1048576) (hs : Short r) (hp : Spelt r) (hcap : Cap5 cs) (hrd : RdR a rs w) (h : IsRule r cs w) :
    Calls Try.prog 99 #[.agg #[.slice a rs.length cap], .agg cs.toArray] w fun e w' => e = .returned (.bool (kindS rs r)) ∧ Below w.heap.size w w' := by
  rcases kind_cases r.kind with hk | hk | hk | hk | hk | hk | hk | hk | hk | hk | ⟨k1, k2, k3, k4, k5, k6, k7, k8, k9, k10⟩
  · exact kinds_1 a rs cap r cs w h hk
  · exact kinds_2 a rs cap r cs w hs h hk
  · exact kinds_3 a rs cap r cs w h hk
  · exact kinds_4 a rs cap r cs w hl hs hrd h hk
  · exact kinds_5 a rs cap r cs w hl hs hrd h hk
  · exact kinds_6 a rs cap r cs w hs hp hcap h hk
  · exact kinds_7 a rs cap r cs w hl hs hrd h hk
  · exact kinds_8 a rs cap r cs w h hk
  · exact kinds_9 a rs cap r cs w h hk
  · exact kinds_10 a rs cap r cs w hs h hk
  · exact kinds_0 a rs cap r cs w h k1 k2 k3 k4 k5 k6 k7 k8 k9 k10
end
end Go.Proofs.Ytefkhknfjohnaaa
namespace Go.Proofs.Ytefkhknfjohnaaa
open Go Go.RowKit
/-- The first k rules have other names. -/
theorem findFrom_at {x : ByteArray} {rs : List RuleV} {k : Nat} (h : k < rs.length) (hx : rs[k].name = x) : findFrom x (rs.drop k) k = (k : Int) := findFrom_yes h hx
set_option maxRecDepth 100000 in
set_option maxHeartbeats 4000000 in
theorem validr_spec (a : Option Addr) (rs : List RuleV) (cap : Nat) (k : Int) (w : World) (hl : rs.length ≤ 1048576) (hs : ∀ r ∈ rs, Short r) (hp : ∀ r ∈ rs, Spelt r) (h : RdC a rs w) :
    Calls Try.prog 84 #[.agg #[.slice a rs.length cap], .int .i64 k] w fun e w' => e = .returned (.bool (validAt (kindS rs) rs k)) ∧ Below w.heap.size w w' := by
  obtain ⟨w0, hw0⟩ : ∃ w0, w0 = w.alloc (.cells #[.slice a rs.length cap] 38) := ⟨_, rfl⟩
  have hB : Below w.heap.size w w0 := by subst hw0; exact (Below.refl _ _).alloc (Nat.le_refl _) _
  have hX : CellsAt w.heap.size [.slice a rs.length cap] w0 := by subst hw0; exact CellsAt.new w _ _
  have HC := Lib.hid (h.below hB)
  have HB := Lib.hid hB
  have HX := Lib.hid hX
  have HS := Lib.hid hs
  have HP := Lib.hid hp
  clear h hB hX hs hp
  by_cases hk : 0 ≤ k ∧ k < rs.length
  case neg =>
    have hr := Lib.hid (validAt_out (f := kindS rs) hk)
    go_enter Try.func84, Try.ntmps84
    go_wp2_with fail
    rw [← hw0]
    clear hw0
    refine (in_any k 0 ((rs.length : Int) - 1) false _ (decide_eq_false (by omega))).mono ?_
    rintro e w1 ⟨rfl, rfl⟩
    go_wp2
    go_ret
    exact ⟨ret_bool hr.out.symm, HB.out⟩
  obtain ⟨n, rfl⟩ : ∃ n : Nat, k = (n : Int) := ⟨k.toNat, by omega⟩
  have hlt : n < rs.length := by omega
  have k0 : (0 : Int) ≤ (n : Int) := by omega
  have k1 : (n : Int) < (rs.length : Int) := by omega
  have hx0 := (HX.out 0 _ rfl).1
  have hr := Lib.hid (validAt_in (f := kindS rs) hlt)
  have hsr := Lib.hid (HS.out _ (List.getElem_mem hlt))
  have hpr := Lib.hid (HP.out _ (List.getElem_mem hlt))
  obtain ⟨b, off, a4, c4, a5, c5, a6, c6, a7, c7, rfl, ⟨d0, d1, d2, d3, d4, d5, d6, d7⟩, ⟨h4, h5, h6, h7⟩, hc5⟩ := HC.out.at n hlt
  have HQ : Hid (IsRule rs[n] [.string rs[n].name, .int .i64 rs[n].kind, .int .i64 rs[n].size, .bool rs[n].little, .slice a4 rs[n].bytes.length c4, .slice a5 rs[n].names.length c5, .slice a6 rs[n].tags.length c6, .slice a7 rs[n].kids.length c7] w0) := ⟨a4, c4, a5, c5, a6, c6, a7, c7, rfl, h4, h5, h6, h7⟩
  have HK := Lib.hid h7
  have HP5 : Hid (Cap5 [.string rs[n].name, .int .i64 rs[n].kind, .int .i64 rs[n].size, .bool rs[n].little, .slice a4 rs[n].bytes.length c4, .slice a5 rs[n].names.length c5, .slice a6 rs[n].tags.length c6, .slice a7 rs[n].kids.length c7]) := fun a n c hc => by
    simp at hc
    obtain ⟨_, rfl, rfl⟩ := hc
    exact hc5
  have hself := Lib.hid (findFrom_at hlt (x := rs[n].name) rfl)
  clear h4 h5 h6 h7 hc5 HS HP
  generalize rs[n] = r at *
  have hd1 : decide (0 ≤ (n : Int) ∧ (n : Int) ≤ (rs.length : Int) - 1) = true := decide_eq_true (by omega)
  clear hk
  obtain ⟨w2, hw2⟩ : ∃ w2, w2 = w0.alloc (.cells #[.string r.name, .int .i64 r.kind, .int .i64 r.size, .bool r.little, .slice a4 r.bytes.length c4, .slice a5 r.names.length c5, .slice a6 r.tags.length c6, .slice a7 r.kids.length c7] 76) := ⟨_, rfl⟩
  have hb2 : Below w0.heap.size w0 w2 := by subst hw2; exact (Below.refl _ _).alloc (Nat.le_refl _) _
  have hY2 : CellsAt w0.heap.size [.string r.name, .int .i64 r.kind, .int .i64 r.size, .bool r.little, .slice a4 r.bytes.length c4, .slice a5 r.names.length c5, .slice a6 r.tags.length c6, .slice a7 r.kids.length c7] w2 := by subst hw2; exact CellsAt.new w0 _ _
  replace HX := Lib.hid (HX.out.below hb2)
  have HY := Lib.hid hY2
  replace HB := Lib.hid (HB.out.trans (hb2.mono HB.out.size))
  replace HC := Lib.hid (HC.out.below hb2)
  replace HQ := Lib.hid (HQ.out.below hb2)
  replace HK := Lib.hid (HK.out.below hb2)
  have hW2 := Lib.hid hw2
  clear hb2 hY2 hw2
  have hsz := hpr.out.1
  go_enter Try.func84, Try.ntmps84
  go_wp2_with fail
  rw [← hw0]
  clear hw0
  refine (in_any _ _ _ true _ hd1).mono ?_
  rintro e w1 ⟨rfl, rfl⟩
  clear hd1
  go_wp2
  go_loopw [6] (fun i W => ∃ j m : Nat, j ≤ n ∧ i = .int .i64 j ∧ Hid (W = w2.drewN m) ∧ Hid (findFrom r.name rs 0 = findFrom r.name (rs.drop j) j)) (fun i _ => n - (intOf i).toNat)
  case atStart => exact ⟨0, 0, Nat.zero_le _, rfl, hW2.out.symm, rfl⟩
  case round =>
    obtain ⟨j, m, hj, rfl, hw, hf⟩ := hrel
    have j0 : (0 : Int) ≤ (j : Int) := by omega
    have HE : ∀ q, Hid (wr.drewN q = w2.drewN (m + q)) := fun q => by
      show _ = _
      rw [hw.out, World.drewN_drewN]
    have hbm : Below w2.heap.size w2 wr := by rw [hw.out]; exact below_drewN (Below.refl _ _) m
    have bx := (HX.out.below hbm 0 _ rfl).1
    have y0 := (HY.out.below hbm 0 _ rfl).1
    have y7 := (HY.out.below hbm 7 _ rfl).1
    have HBM := Lib.hid hbm
    clear hbm
    by_cases hjn : j < n
    · have j1 : (j : Int) < (n : Int) := by omega
      have hjl : j < rs.length := by omega
      have j2 : (j : Int) < (rs.length : Int) := by omega
      obtain ⟨b', off', _, _, _, _, _, _, _, _, e', ⟨f0, -⟩, -⟩ := (HC.out.below HBM.out).rd.at j hjl
      injection e' with e'
      injection e' with e1 e2
      subst e1 e2
      by_cases hx : rs[j].name = r.name
      · have hrr : Hid (validAt (kindS rs) rs (n : Int) = false) := by
          show _ = _
          rw [hr.out, hf.out.trans (findFrom_yes hjl hx), decide_eq_false (by omega), Bool.false_and]
        have g1 := str_eq hx
        generalize rs[j].name = x at f0 g1
        clear hx
        go_wp2
        go_quiet (fail)
        go_wp2
        go_ret
        exact ⟨ret_bool hrr.out.symm, by rw [(HE _).out]; exact below_drewN HB.out _⟩
      · have hff : Hid (findFrom r.name rs 0 = findFrom r.name (rs.drop (j + 1)) (j + 1)) := hf.out.trans (findFrom_no hjl hx)
        have g1 := str_ne hx
        generalize rs[j].name = x at f0 g1
        clear hx
        go_wp2
        go_quiet (fail)
        go_wp2
        go_roundw
        case rel => exact ⟨j + 1, _, by omega, by go_num, HE _, hff⟩
        case measure => simp [intOf]; omega
    · have j1 : ¬ (j : Int) < (n : Int) := by omega
      obtain rfl : j = n := by omega
      have hfd : Hid (findFrom r.name rs 0 = (j : Int)) := hf.out.trans hself.out
      rw [hfd.out, decide_eq_true rfl, Bool.true_and] at hr
      have s7 := hsr.out.2.2.2
      have HBR : Hid (Below w.heap.size w wr) := by
        show Below _ _ _
        rw [hw.out]
        exact below_drewN HB.out m
      have HKR := Lib.hid (HK.out.below HBM.out)
      have HCR := Lib.hid (HC.out.below HBM.out)
      have HQR := Lib.hid (HQ.out.below HBM.out)
      have HXR := Lib.hid (HX.out.below HBM.out)
      have HYR := Lib.hid (HY.out.below HBM.out)
      clear hf hself hfd hw HE HBM HK HC HQ HX HY HB bx y0
      go_wp2
      go_loop [7] (fun i => ∃ q : Nat, q ≤ r.kids.length ∧ i = .int .i64 q ∧ Hid (kidsB r.kids (j : Int) = kidsB (r.kids.drop q) (j : Int))) (fun i => r.kids.length - (intOf i).toNat)
      case atStart => exact ⟨0, Nat.zero_le _, rfl, rfl⟩
      case round =>
        obtain ⟨q, hq, rfl, hf⟩ := hrel
        have q0 : (0 : Int) ≤ (q : Int) := by omega
        by_cases hql : q < r.kids.length
        · have q1 : (q : Int) < (r.kids.length : Int) := by omega
          obtain ⟨b7, o7, ha7, hc⟩ := HKR.out q hql
          subst ha7
          by_cases hx : 0 ≤ r.kids[q] ∧ r.kids[q] ≤ (j : Int) - 1
          · have hrr : Hid (kidsB r.kids (j : Int) = kidsB (r.kids.drop (q + 1)) (j : Int)) := hf.out.trans (kidsB_yes hql hx)
            have hd : decide (0 ≤ r.kids[q] ∧ r.kids[q] ≤ (j : Int) - 1) = true := decide_eq_true hx
            generalize r.kids[q] = x at hc hx hd
            go_wp2_with fail
            refine (in_any _ _ _ true _ hd).mono ?_
            rintro e w3 ⟨rfl, rfl⟩
            go_wp2
            go_round
            case rel => exact ⟨q + 1, by omega, by go_num, hrr⟩
            case measure => simp [intOf]; omega
          · have hrr : Hid (validAt (kindS rs) rs (j : Int) = false) := by
              show _ = _
              rw [hr.out, hf.out.trans (kidsB_no hql hx), Bool.false_and]
            have hd : decide (0 ≤ r.kids[q] ∧ r.kids[q] ≤ (j : Int) - 1) = false := decide_eq_false hx
            generalize r.kids[q] = x at hc hx hd
            clear hx
            go_wp2_with fail
            refine (in_any _ _ _ false _ hd).mono ?_
            rintro e w3 ⟨rfl, rfl⟩
            go_wp2
            go_ret
            exact ⟨ret_bool hrr.out.symm, HBR.out⟩
        · have q1 : ¬ (q : Int) < (r.kids.length : Int) := by omega
          have hkt : kidsB r.kids (j : Int) = true := by
            have := hf.out
            rw [List.drop_of_length_le (by omega)] at this
            exact this
          rw [hkt, Bool.true_and] at hr
          clear hkt hf
          have y0 := (HYR.out 0 _ rfl).1
          go_wp2_with fail
          refine (name_spec r.name _ (by omega)).mono ?_
          rintro e w3 ⟨rfl, rfl⟩
          cases hnm : nameB r.name with
          | false =>
            go_wp2
            go_ret
            exact ⟨ret_bool (by rw [hr.out, hnm]; rfl), HBR.out⟩
          | true =>
            rw [hnm, Bool.true_and] at hr
            have bx := (HXR.out 0 _ rfl).1
            have y1 := (HYR.out 1 _ rfl).1
            have y2 := (HYR.out 2 _ rfl).1
            have y3 := (HYR.out 3 _ rfl).1
            have y4 := (HYR.out 4 _ rfl).1
            have y5 := (HYR.out 5 _ rfl).1
            have y6 := (HYR.out 6 _ rfl).1
            go_wp2_with fail
            refine (kinds_spec _ rs cap r _ _ hl hsr.out hpr.out HP5.out HCR.out.rd HQR.out).mono ?_
            rintro e w4 ⟨rfl, hb4⟩
            have HB4 := Lib.hid (HBR.out.trans (hb4.mono HBR.out.size))
            clear hb4
            go_wp2
            go_ret
            exact ⟨ret_bool hr.out.symm, HB4.out⟩
set_option maxRecDepth 100000 in
set_option maxHeartbeats 2000000 in
theorem validd_spec (a : Option Addr) (rs : List RuleV) (cap : Nat) (w : World) (hl : rs.length ≤ 1048576) (hs : ∀ r ∈ rs, Short r) (hp : ∀ r ∈ rs, Spelt r) (h : RdC a rs w) :
    Calls Try.prog 60 #[.agg #[.slice a rs.length cap]] w fun e w' => e = .returned (.bool (descrB (kindI rs) rs)) ∧ Below w.heap.size w w' := by
  rw [descr_same]
  obtain ⟨w0, hw0⟩ : ∃ w0, w0 = w.alloc (.cells #[.slice a rs.length cap] 38) := ⟨_, rfl⟩
  have hB : Below w.heap.size w w0 := by subst hw0; exact (Below.refl _ _).alloc (Nat.le_refl _) _
  have hX : CellsAt w.heap.size [.slice a rs.length cap] w0 := by subst hw0; exact CellsAt.new w _ _
  have HC := Lib.hid (h.below hB)
  have HB := Lib.hid hB
  have HX := Lib.hid hX
  have HS := Lib.hid hs
  have HP := Lib.hid hp
  have hW := Lib.hid hw0
  clear h hB hX hs hp hw0
  go_enter Try.func60, Try.ntmps60
  go_wp2
  go_loopw [3] (fun i W => ∃ k : Nat, k ≤ rs.length ∧ i = .int .i64 k ∧ Hid (∀ i : Nat, i < k → validAt (kindS rs) rs (i : Int) = true) ∧ Hid (Below w0.heap.size w0 W)) (fun i _ => rs.length - (intOf i).toNat)
  case atStart => exact ⟨0, Nat.zero_le _, rfl, fun i hi => by omega, by rw [← hW.out]; exact Below.refl _ _⟩
  case round =>
    obtain ⟨k, hk, rfl, hv, hbw⟩ := hrel
    have k0 : (0 : Int) ≤ (k : Int) := by omega
    have HBW := Lib.hid (HB.out.trans (hbw.out.mono HB.out.size))
    have bx := (HX.out.below hbw.out 0 _ rfl).1
    by_cases hlt : k < rs.length
    · have k1 : (k : Int) < (rs.length : Int) := by omega
      have HQ := Lib.hid (validr_spec a rs cap (k : Int) wr hl HS.out HP.out (HC.out.below hbw.out))
      cases hb : validAt (kindS rs) rs (k : Int) with
      | false =>
        have hr := Lib.hid (descrB_bad (f := kindS rs) hlt hb)
        rw [hb] at HQ
        clear hb
        go_wp2_with fail
        refine HQ.out.mono ?_
        rintro e w2 ⟨rfl, hb2⟩
        have HB2 := Lib.hid (HBW.out.trans (hb2.mono HBW.out.size))
        clear hb2
        go_wp2
        go_ret
        exact ⟨ret_bool hr.out.symm, HB2.out⟩
      | true =>
        have hv2 := Lib.hid (allV_next hv.out hb)
        rw [hb] at HQ
        clear hb
        go_wp2_with fail
        refine HQ.out.mono ?_
        rintro e w2 ⟨rfl, hb2⟩
        have HB2 := Lib.hid (hbw.out.trans (hb2.mono hbw.out.size))
        clear hb2
        go_wp2
        go_roundw
        case rel => exact ⟨k + 1, by omega, by go_num, hv2, HB2⟩
        case measure => simp [intOf]; omega
    · have k1 : ¬ (k : Int) < (rs.length : Int) := by omega
      obtain rfl : k = rs.length := by omega
      have hd : decide (1 ≤ (rs.length : Int) ∧ (rs.length : Int) ≤ 24) = descrB (kindS rs) rs := by
        by_cases hn : 1 ≤ rs.length ∧ rs.length ≤ 24
        · rw [descrB_yes hn hv.out, decide_eq_true (by omega)]
        · rw [descrB_len hn, decide_eq_false (by omega)]
      go_wp2_with fail
      refine (in_any _ _ _ _ _ hd).mono ?_
      rintro e w2 ⟨rfl, rfl⟩
      go_wp2
      go_ret
      exact ⟨rfl, HBW.out⟩
end Go.Proofs.Ytefkhknfjohnaaa
