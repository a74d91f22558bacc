/- The contracts of the program's measure, with leastSize, greatestSize and depthOverKids; MinSize, MaxSize, DepthOf. -/
import Derived.Test.YtfmnjclnhppghaaLeast
import Derived.Test.YtfmnjclnhppghaaQL
import Derived.Test.YtfmnjclnhppghaaSizeD
import Derived.Deep.RegionHeld3
namespace Go.Proofs.Ytfmnjclnhppghaa
open Go Go.RowKit
set_option maxRecDepth 100000 in
set_option maxHeartbeats 8000000 in
theorem measure_min (a : Option Addr) (rs : List RuleV) (cap : Nat) (k : Int) (w : World) (hl : rs.length ≤ 1048576) (hs : ∀ r ∈ rs, Short r) (hp : ∀ r ∈ rs, Spelt r) (h : RdK a rs w) :
  Calls Try.prog 84 #[.agg #[.slice a rs.length cap], .int .i64 k, .func (.func 85) #[] #[]] w fun e w' => e = .returned (.int .i64 (sizeD minStep rs k)) ∧ Below w.heap.size w w' := by
 obtain ⟨w0, hw0⟩ : ∃ w0, w0 = w.alloc (.cells #[.slice a rs.length cap] 35) := ⟨_, rfl⟩
 have hB0 : Below w.heap.size w w0 := by subst hw0; exact (Below.refl _ _).alloc (Nat.le_refl _) _
 have hX0 : CellsAt w.heap.size [.slice a rs.length cap] w0 := by subst hw0; exact CellsAt.new w _ _
 have hz0 : w0.heap.size = w.heap.size + 1 := by subst hw0; exact World.size_alloc _ _
 have bx := (hX0 0 _ rfl).1
 have HX := Lib.hid hX0
 have HB := Lib.hid hB0
 have HK := Lib.hid (h.below hB0)
 have HS := Lib.hid hs
 have HP := Lib.hid hp
 have hW := Lib.hid hw0
 have HZ0 := Lib.hid hz0
 have HKW := Lib.hid h
 have HBK : Hid (∀ j (hj : j < rs.length) b off, a = some ⟨b, off, none⟩ → b < w.heap.size) := fun j hj b off e => by obtain ⟨b1, o1, cs, e1, ⟨a4, c4, a5, c5, a6, c6, a7, c7, rfl, _⟩, _, _, hc⟩ := h j hj; rw [e1] at e; injection e with e; injection e with e2 e3; have := cell_lt (hc 0 _ rfl); simp at this; omega
 clear h hB0 hX0 hs hp hw0 hz0
 obtain ⟨b, hb⟩ : ∃ b, b = okAt rs k := ⟨_, rfl⟩
 have HBB := Lib.hid hb
 clear hb
 go_enter Try.func84, Try.ntmps84
 go_wp2_with fail
 rw [← hW.out]
 clear hW
 refine (isdescr_impl a rs cap k _ hl HS.out HP.out HK.out.rdc).mono ?_
 rintro e w1 ⟨rfl, hb1⟩
 rw [← HBB.out]
 replace HX := Lib.hid (HX.out.below hb1)
 replace HK := Lib.hid (HK.out.below hb1)
 replace HB := Lib.hid (HB.out.trans (hb1.mono HB.out.size))
 have HS1 : Hid (w.heap.size < w1.heap.size) := by have h1 := hb1.size; have h2 := HZ0.out; show _ < _; omega
 clear hb1 bx HZ0
 have bx := (HX.out 0 _ rfl).1
 cases b with
 | false =>
  have hr : Hid (sizeD minStep rs k = 0) := sizeD_no HBB.out.symm
  go_wp2
  go_ret
  exact ⟨ret_int hr.out.symm, HB.out⟩
 | true =>
  have hr : Hid (sizeD minStep rs k = sizeAt minStep rs k) := sizeD_yes HBB.out.symm
  obtain ⟨hk, hn, hv⟩ := okAt_yes HBB.out.symm
  have hn24 := hn.2
  obtain ⟨m, rfl⟩ : ∃ m : Nat, k = (m : Int) := ⟨k.toNat, by omega⟩
  have hm : m < rs.length := by omega
  have HV := Lib.hid hv
  clear hv hn HBB hk
  obtain ⟨w2, hww⟩ : ∃ w2, w2 = w1 := ⟨_, rfl⟩
  rw [← hww] at HX HK HB HS1 ⊢
  clear hww bx
  have z24 := arr24_nil
  obtain ⟨w3, hw3⟩ : ∃ w3, w3 = w2.alloc (.cells (arr24 []).toArray 130) := ⟨_, rfl⟩
  have hb3 : Below w2.heap.size w2 w3 := by subst hw3; exact (Below.refl _ _).alloc (Nat.le_refl _) _
  have HA : Hid (CellsAt w2.heap.size (arr24 []) w3) := by subst hw3; exact CellsAt.new w2 _ _
  replace HX := Lib.hid (HX.out.below hb3)
  replace HK := Lib.hid (HK.out.below hb3)
  replace HB := Lib.hid (HB.out.trans (hb3.mono HB.out.size))
  have HS3 : Hid (w2.heap.size < w3.heap.size) := by subst hw3; show _ < _; rw [World.size_alloc]; omega
  rw [z24] at hw3
  have hW3 := Lib.hid hw3
  clear hb3 hw3 z24
  go_upto_region 4 with fail
  rw [← hW3.out]
  clear hW3
  obtain ⟨B, hB⟩ : ∃ B, B = w2.heap.size := ⟨_, rfl⟩
  rw [← hB] at HA HS1 HS3 ⊢
  clear hB
  go_wp2
  clear HK
  go_loopw [8, 15] (fun _ i W => ∃ n : Nat, n ≤ m + 1 ∧ i = .int .i64 n ∧ Hid (CellsAt B (arr24 (tabTo minStep rs n)) W) ∧ Hid (CellsAt w.heap.size [.slice a rs.length cap] W) ∧ Hid (Below w.heap.size w W) ∧ Hid (B < W.heap.size)) (fun _ i _ => m + 1 - (intOf i).toNat)
  case atStart => exact ⟨0, Nat.zero_le _, rfl, HA, HX, HB, HS3⟩
  case round =>
   obtain ⟨n, hnm, rfl, ha, hx, hb, hsz⟩ := hrel
   have n0 : (0 : Int) ≤ (n : Int) := by omega
   have bx := (hx.out 0 _ rfl).1
   by_cases hlt : n < m + 1
   case pos =>
    have n1 : (n : Int) < (m : Int) + 1 := by omega
    have hnr : n < rs.length := by omega
    have n2 : (n : Int) < (rs.length : Int) := by omega
    have n3 : (n : Int) < 24 := by omega
    have HKI : Hid (kindI rs rs[n] = true) := allV_kind HV.out hnr
    have HKD := Lib.hid (allV_kids HV.out hnr)
    have HSH : Hid (rs[n].kids.length ≤ 1048576) := (HS.out _ (List.getElem_mem hnr)).2.2.2
    obtain ⟨b0, off, a4, c4, a5, c5, a6, c6, a7, c7, rfl, ⟨d0, d1, d2, d3, d4, d5, d6, d7⟩, ⟨r4, r5, r6, r7⟩, hc7⟩ := (HKW.out.below hb.out).at n hnr
    have HRD := Lib.hid (HKW.out.rd.below hb.out)
    have hzl : (tabTo minStep rs n).length = n := tabTo_length _ _ _ (by omega)
    have hnx := tabTo_next (f := minStep) hnr
    obtain ⟨r, hrr⟩ : ∃ r, r = rs[n] := ⟨_, rfl⟩
    rw [← hrr] at d0 d1 d2 d3 d4 d5 d6 d7 r4 r5 r6 r7 hc7 HKI HKD hnx HSH
    clear hrr
    have HIB : Hid (InB 401 (tabTo minStep rs n)) := mins_b HV.out n (by omega)
    obtain ⟨zs, hzs⟩ : ∃ zs, zs = tabTo minStep rs n := ⟨_, rfl⟩
    rw [← hzs] at ha hzl hnx HIB
    have HZS := Lib.hid hzs
    clear hzs
    have HIS : Hid (IsRule r [.string r.name, .int .i64 r.kind, .int .i64 r.size, .bool r.little, .slice a4 r.bytes.length c4, .slice a5 r.names.length c5, .slice a6 r.tags.length c6, .slice a7 r.kids.length c7] wr) := ⟨a4, c4, a5, c5, a6, c6, a7, c7, rfl, r4, r5, r6, r7⟩
    have HCP : Hid (Cap7 [.string r.name, .int .i64 r.kind, .int .i64 r.size, .bool r.little, .slice a4 r.bytes.length c4, .slice a5 r.names.length c5, .slice a6 r.tags.length c6, .slice a7 r.kids.length c7]) := fun a' n' c' hc => by simp at hc; obtain ⟨_, rfl, rfl⟩ := hc; exact hc7
    have HCALL := Lib.hid (fun wx (hbx : Below wr.heap.size wr wx) => least_impl (some ⟨b0, off, none⟩) rs cap r _ zs n wx hl (HRD.out.below hbx) (by omega) HKI.out HKD.out HIB.out HCP.out (HIS.out.below hbx) HV.out)
    obtain ⟨y, hy⟩ : ∃ y, y = minStep zs r := ⟨_, rfl⟩
    rw [← hy] at HCALL hnx
    have HY := Lib.hid hy
    have HNX := Lib.hid hnx
    have HZL := Lib.hid hzl
    clear hy hnx hzl r4 r5 r6 r7 hc7
    have hra : wr.drew.rangeAt B 0 (arr24 zs) := (show CellsAt B (arr24 zs) wr.drew from ha.out).range
    have hun := Try.underlying130
    have hin := info24 zs
    have hfz := (ha.out n _ (arr24_at zs (by omega))).2
    have hfc := (ha.out n _ (arr24_at zs (by omega))).1
    have hbB : b0 < B := by have h1 := HBK.out n hnr b0 off rfl; have h2 := HS1.out; omega
    have HSW : Hid (∀ W, Below B wr W → W.cell? ⟨w.heap.size, 0, none⟩ = some (.slice (some ⟨b0, off, none⟩) rs.length cap) ∧ W.cell? ⟨b0, off + n * 8, none⟩ = some (.string r.name) ∧ W.cell? ⟨b0, off + n * 8 + 1, none⟩ = some (.int .i64 r.kind) ∧ W.cell? ⟨b0, off + n * 8 + 2, none⟩ = some (.int .i64 r.size) ∧ W.cell? ⟨b0, off + n * 8 + 3, none⟩ = some (.bool r.little) ∧ W.cell? ⟨b0, off + n * 8 + 4, none⟩ = some (.slice a4 r.bytes.length c4) ∧ W.cell? ⟨b0, off + n * 8 + 5, none⟩ = some (.slice a5 r.names.length c5) ∧ W.cell? ⟨b0, off + n * 8 + 6, none⟩ = some (.slice a6 r.tags.length c6) ∧ W.cell? ⟨b0, off + n * 8 + 7, none⟩ = some (.slice a7 r.kids.length c7)) := fun W hW => ⟨cell_keepB hW (by have := HS1.out; exact this) bx, cell_keepB hW hbB d0, cell_keepB hW hbB d1, cell_keepB hW hbB d2, cell_keepB hW hbB d3, cell_keepB hW hbB d4, cell_keepB hW hbB d5, cell_keepB hW hbB d6, cell_keepB hW hbB d7⟩
    have HBQ : Hid (Below B wr wr.drew) := below_drewN (Below.refl B wr) 1
    go_upto_region 7 with fail
    clear bx d0 d1 d2 d3 d4 d5 d6 d7
    refine wp_region_held_drew (S := (fun W => W.cell? ⟨w.heap.size, 0, none⟩ = some (.slice (some ⟨b0, off, none⟩) rs.length cap) ∧ W.cell? ⟨b0, off + n * 8, none⟩ = some (.string r.name) ∧ W.cell? ⟨b0, off + n * 8 + 1, none⟩ = some (.int .i64 r.kind) ∧ W.cell? ⟨b0, off + n * 8 + 2, none⟩ = some (.int .i64 r.size) ∧ W.cell? ⟨b0, off + n * 8 + 3, none⟩ = some (.bool r.little) ∧ W.cell? ⟨b0, off + n * 8 + 4, none⟩ = some (.slice a4 r.bytes.length c4) ∧ W.cell? ⟨b0, off + n * 8 + 5, none⟩ = some (.slice a5 r.names.length c5) ∧ W.cell? ⟨b0, off + n * 8 + 6, none⟩ = some (.slice a6 r.tags.length c6) ∧ W.cell? ⟨b0, off + n * 8 + 7, none⟩ = some (.slice a7 r.kids.length c7))) (by kernel_rfl) ?_ (fun hHeld => ?_)
    ·(try dsimp only); exact HSW.out _ HBQ.out
    refine wpAnyH_take (i := 0) (v := ?v1) (by simp only [List.getElem?_toArray, List.getElem?_cons_zero]; rfl) (by kernel_rfl) (by kernel_rfl) (by kernel_rfl) (by exact fun _ _ _ h => h) (Or.inl ⟨by rfl, ?hy1⟩) (by assumption) ?rest1
    case hy1 => ((intro W hSw; (try dsimp only at hSw); go_simp); (try with_reducible rfl))
    simp only [Act.put, List.setIfInBounds_toArray, List.set_cons_zero, List.set_cons_succ]
    refine wpAnyH_take (i := 1) (v := ?v2) (by simp only [List.getElem?_toArray, List.getElem?_cons_succ, List.getElem?_cons_zero]; rfl) (by kernel_rfl) (by kernel_rfl) (by kernel_rfl) (by exact fun _ _ _ h => h) (Or.inl ⟨by rfl, ?hy2⟩) (by assumption) ?rest2
    case hy2 => ((intro W hSw; (try dsimp only at hSw); go_simp); (try with_reducible rfl))
    simp only [Act.put, List.setIfInBounds_toArray, List.set_cons_zero, List.set_cons_succ]
    refine wpAnyH_take (i := 2) (v := ?v3) (by simp only [List.getElem?_toArray, List.getElem?_cons_succ, List.getElem?_cons_zero]; rfl) (by kernel_rfl) (by kernel_rfl) (by kernel_rfl) (by exact fun _ _ _ h => h) (Or.inl ⟨by rfl, ?hy3⟩) (by assumption) ?rest3
    case hy3 => ((intro W hSw; (try dsimp only at hSw); go_simp); (try with_reducible rfl))
    simp only [Act.put, List.setIfInBounds_toArray, List.set_cons_zero, List.set_cons_succ]
    refine wpAnyH_take (i := 3) (v := ?v4) (by simp only [List.getElem?_toArray, List.getElem?_cons_succ, List.getElem?_cons_zero]; rfl) (by kernel_rfl) (by kernel_rfl) (by kernel_rfl) (by exact fun _ _ _ h => h) (Or.inl ⟨by rfl, ?hy4⟩) (by assumption) ?rest4
    case hy4 => ((intro W hSw; (try dsimp only at hSw); go_simp); (try with_reducible rfl))
    simp only [Act.put, List.setIfInBounds_toArray, List.set_cons_zero, List.set_cons_succ]
    refine wpAnyH_take (i := 4) (v := ?v5) (by simp only [List.getElem?_toArray, List.getElem?_cons_succ, List.getElem?_cons_zero]; rfl) (by kernel_rfl) (by kernel_rfl) (by kernel_rfl) (by exact fun _ _ _ h => h) (Or.inl ⟨by rfl, ?hy5⟩) (by assumption) ?rest5
    case hy5 => ((intro W hSw; (try dsimp only at hSw); go_simp); (try with_reducible rfl))
    simp only [Act.put, List.setIfInBounds_toArray, List.set_cons_zero, List.set_cons_succ]
    refine wpAnyH_take (i := 5) (v := ?v6) (by simp only [List.getElem?_toArray, List.getElem?_cons_succ, List.getElem?_cons_zero]; rfl) (by kernel_rfl) (by kernel_rfl) (by kernel_rfl) (by exact fun _ _ _ h => h) (Or.inl ⟨by rfl, ?hy6⟩) (by assumption) ?rest6
    case hy6 => ((intro W hSw; (try dsimp only at hSw); go_simp); (try with_reducible rfl))
    simp only [Act.put, List.setIfInBounds_toArray, List.set_cons_zero, List.set_cons_succ]
    refine wpAnyH_take (i := 6) (v := ?v7) (by simp only [List.getElem?_toArray, List.getElem?_cons_succ, List.getElem?_cons_zero]; rfl) (by kernel_rfl) (by kernel_rfl) (by kernel_rfl) (by exact fun _ _ _ h => h) (Or.inl ⟨by rfl, ?hy7⟩) (by assumption) ?rest7
    case hy7 => ((intro W hSw; (try dsimp only at hSw); go_simp); (try with_reducible rfl))
    simp only [Act.put, List.setIfInBounds_toArray, List.set_cons_zero, List.set_cons_succ]
    refine wpAnyH_take (i := 7) (v := ?v8) (by simp only [List.getElem?_toArray, List.getElem?_cons_succ, List.getElem?_cons_zero]; rfl) (by kernel_rfl) (by kernel_rfl) (by kernel_rfl) (by exact fun _ _ _ h => h) (Or.inl ⟨by rfl, ?hy8⟩) (by assumption) ?rest8
    case hy8 => ((intro W hSw; (try dsimp only at hSw); go_simp); (try with_reducible rfl))
    simp only [Act.put, List.setIfInBounds_toArray, List.set_cons_zero, List.set_cons_succ]
    refine wpAnyH_ready (rs := [8]) (by kernel_rfl) (by simp) ?_
    refine AllReadyH.cons (by simp only [List.getElem?_toArray, List.getElem?_cons_succ, List.getElem?_cons_zero]; rfl) (fun K hK => ?_) AllReadyH.nil
    rw [if_pos (by rfl)]
    refine wp_load_mid 130 (.tmp 7) rfl B 0 rfl (arr24 zs) _ hra hun rfl hin ?_
    simp only [Act.put, List.setIfInBounds_toArray, List.set_cons_zero, List.set_cons_succ]
    refine hK.out _ _ ?_ (fun hHeld => ?_)
    ·(try dsimp only); exact HSW.out _ HBQ.out
    clear hK K
    refine wpAnyH_ready (rs := [9]) (by kernel_rfl) (by simp) ?_
    refine AllReadyH.cons (by simp only [List.getElem?_toArray, List.getElem?_cons_succ, List.getElem?_cons_zero]; rfl) (fun K hK => ?_) AllReadyH.nil
    go_simp
    (go_at_call 85; refine (HCALL.out _ (below_drewN (Below.refl _ wr) 1)).mono ?_; rintro e wx ⟨rfl, hbx⟩; have hfc2 := cell_keep (w := wr.drew) hbx hfc; have hfz2 := ((show CellsAt B (arr24 zs) wr.drew from ha.out).below hbx n _ (arr24_at zs (by omega))).2; have HBX := Lib.hid hbx; replace HBQ := Lib.hid (HBQ.out.trans (hbx.mono (by have := hsz.out; show B ≤ wr.heap.size; omega))); clear hbx)
    go_wp2_with fail
    refine hK.out _ _ ?_ (fun hHeld => ?_)
    ·(try dsimp only); exact HSW.out _ HBQ.out
    clear hK K
    refine wpAnyH_take (i := 10) (v := ?v9) (by simp only [List.getElem?_toArray, List.getElem?_cons_succ, List.getElem?_cons_zero]; rfl) (by kernel_rfl) (by kernel_rfl) (by kernel_rfl) (by exact fun _ _ _ h => h) (Or.inl ⟨by rfl, ?hy9⟩) (by assumption) ?rest9
    case hy9 => ((intro W hSw; (try dsimp only at hSw); go_simp); (try with_reducible rfl))
    simp only [Act.put, List.setIfInBounds_toArray, List.set_cons_zero, List.set_cons_succ]
    refine wpAnyH_ready (rs := [11]) (by kernel_rfl) (by simp) ?_
    refine AllReadyH.cons (by simp only [List.getElem?_toArray, List.getElem?_cons_succ, List.getElem?_cons_zero]; rfl) (fun K hK => ?_) AllReadyH.nil
    go_simp
    refine hK.out _ _ ?_ (fun hHeld => ?_)
    ·(try dsimp only); exact HSW.out _ (HBQ.out.setCell (p := ⟨B, n, none⟩) (Nat.le_refl _) _)
    clear hK K
    refine wpAnyH_done (by kernel_rfl) ?_ _
    all_goals (have hA1 := (show CellsAt B (arr24 zs) wr.drew from ha.out).below HBX.out; have hA2 := hA1.set n (.int .i64 y) (by rw [arr24_length]; omega); rw [show (arr24 zs).set n (.int .i64 y) = arr24 (tabTo minStep rs (n + 1)) from by rw [HNX.out, ← arr24_set, HZL.out]] at hA2; have HA2 := Lib.hid hA2; have HX2 := Lib.hid (((show CellsAt w.heap.size [.slice (some ⟨b0, off, none⟩) rs.length cap] wr.drew from hx.out).below HBX.out).far (b' := B) (j := n) (v := .int .i64 y) (by have := HS1.out; omega)); have HB2 := Lib.hid (((show Below w.heap.size w wr.drew from below_drewN hb.out 1).trans (HBX.out.mono hb.out.size)).setCell (p := ⟨B, n, none⟩) (by have := HS1.out; show w.heap.size ≤ B; omega) (.int .i64 y)); have HS4 : Hid (B < (wx.setCell ⟨B, n, none⟩ (.int .i64 y)).heap.size) := (by show _ < _; have h1 := HBX.out.size; have h2 := hsz.out; simp at h1 ⊢; omega); clear hA1 hA2 HBX ha hx hb hsz hfz hfc hfc2 hfz2 hra hun hin)
    all_goals go_wp2
    all_goals go_roundw
    all_goals first | exact ⟨n + 1, by omega, by go_num, HA2, HX2, HB2, HS4⟩ | (simp [intOf]; omega)
   case neg =>
    obtain rfl : n = m + 1 := by omega
    have n1 : ¬ ((m + 1 : Nat) : Int) < (m : Int) + 1 := by omega
    have hcm := (ha.out m _ (arr24_at _ (by omega))).1
    rw [sizeAt_in (by omega) (by omega)] at hcm
    have m0 : (0 : Int) ≤ (m : Int) := by omega
    have m1 : (m : Int) < 24 := by omega
    obtain ⟨y, hy⟩ : ∃ y, y = sizeAt minStep rs (m : Int) := ⟨_, rfl⟩
    rw [← hy] at hcm
    have HRY : Hid (y = sizeD minStep rs (m : Int)) := by show _ = _; rw [hr.out, hy]
    clear hy hr ha hx
    go_wp2
    go_ret
    exact ⟨ret_int HRY.out, hb.out⟩
end Go.Proofs.Ytfmnjclnhppghaa
