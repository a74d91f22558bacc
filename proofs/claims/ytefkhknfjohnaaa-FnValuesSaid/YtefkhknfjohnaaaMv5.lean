/- Drawing values (l9Make): kinds 5. -/
import Derived.Test.YtefkhknfjohnaaaMvSt
import Derived.IntWalk
namespace Go.Proofs.Ytefkhknfjohnaaa
open Go Go.RowKit
set_option maxRecDepth 100000 in
set_option maxHeartbeats 8000000 in
theorem mv_5 (a : Option Addr) (len cap c base : Nat) (ad : Option Addr) (rs : List RuleV) (capd k : Nat) (_hl : len ≤ 140737488355328) (_hrs : rs.length ≤ 9) (hall : allV (kindI rs) rs) (hcb : c < base) (hk : k < rs.length) (hkd : rs[k].kind = 5) (ih : ∀ m, m < k → MvC a len cap c base ad rs capd m) : MvC a len cap c base ad rs capd k := by
  intro most w hm0 hm1 hrow hbw hc
  have hcw : c < w.heap.size := by omega
  have hold := Lib.hid hc.old
  have hl := _hl
  have hrs := _hrs
  have HROW := Lib.hid hrow
  have HIH := Lib.hid ih
  have HALL := Lib.hid hall
  obtain ⟨b0, off, a4, c4, a5, c5, a6, c6, a7, c7, rfl, ⟨d0, d1, d2, d3, d4, d5, d6, d7⟩, hR, hbk⟩ := hrow.one k hk
  have HKI := Lib.hid (allV_kind hall hk)
  have HKS : Hid (∀ x ∈ rs[k].kids, ∃ m : Nat, x = (m : Int) ∧ m < k) := fun x hx => by have h1 := allV_kids hall hk x hx; exact ⟨x.toNat, by omega, by omega⟩
  have HIN : Hid (rs[k].kind = 4 ∨ rs[k].kind = 5 ∨ rs[k].kind = 7 → (ruleAt rs (rs[k].kids.getD 0 0)).kind = 1 ∧ ∃ m : Nat, rs[k].kids.getD 0 0 = (m : Int) ∧ m < k) := fun h => kid_int hall hk h
  have HNODE : Hid (∀ v : ValueV, ownB rs rs[k] v = true → v.bytes.length ≤ 64 → v.items.length ≤ 8 → (∀ q (h : q < v.items.length), ∃ m : Nat, itemR rs[k] v.number q = (m : Int) ∧ m < k ∧ MadeVal rs m v.items[q]) → MadeVal rs k v) := fun v h1 h2 h3 h4 => made_node hall hk h1 h2 h3 h4
  obtain ⟨r, hr⟩ : ∃ r, r = rs[k] := ⟨_, rfl⟩
  rw [← hr] at hkd d0 d1 d2 d3 d4 d5 d6 d7 hR hbk HKI HKS HIN HNODE
  clear hr
  rw [hkd] at d1 hR hbk
  have HKD := Lib.hid hkd
  obtain ⟨w0, hw0⟩ : ∃ w0, w0 = (w.alloc (.cells #[.slice (some ⟨b0, off, none⟩) rs.length capd] 38)).alloc (.cells #[.int .i64 0, .slice none 0 0, .slice none 0 0] 47) := ⟨_, rfl⟩
  have hB0 : Below w.heap.size w w0 := by subst hw0; exact ((Below.refl _ _).alloc (Nat.le_refl _) _).alloc (by simp) _
  have hX : CellsAt w.heap.size [.slice (some ⟨b0, off, none⟩) rs.length capd] w0 := by subst hw0; exact (CellsAt.new w _ _).below ((Below.refl _ _).alloc (Nat.le_refl _) _)
  have hZ : CellsAt (w.heap.size + 1) [.int .i64 0, .slice none 0 0, .slice none 0 0] w0 := by subst hw0; have h1 := CellsAt.new (w.alloc (.cells #[.slice (some ⟨b0, off, none⟩) rs.length capd] 38)) [.int .i64 0, .slice none 0 0, .slice none 0 0] 47; rw [World.size_alloc] at h1; exact h1
  have hs0 : w0.heap.size = w.heap.size + 2 := by subst hw0; simp
  obtain ⟨w1, hw1⟩ : ∃ w1, w1 = w0.alloc (.cells #[.string r.name, .int .i64 5, .int .i64 r.size, .bool r.little, .slice a4 r.bytes.length c4, .slice a5 r.names.length c5, .slice a6 r.tags.length c6, .slice a7 r.kids.length c7] 76) := ⟨_, rfl⟩
  have hB1 : Below w0.heap.size w0 w1 := by subst hw1; exact (Below.refl _ _).alloc (Nat.le_refl _) _
  have hC1 : CellsAt w0.heap.size [.string r.name, .int .i64 5, .int .i64 r.size, .bool r.little, .slice a4 r.bytes.length c4, .slice a5 r.names.length c5, .slice a6 r.tags.length c6, .slice a7 r.kids.length c7] w1 := by subst hw1; exact CellsAt.new w0 _ _
  have hs1 : w1.heap.size = w.heap.size + 3 := by subst hw1; rw [World.size_alloc, hs0]
  obtain ⟨w2, hw2⟩ : ∃ w2, w2 = w1.alloc (.cells #[.int .i64 0, .slice none 0 0, .slice none 0 0] 47) := ⟨_, rfl⟩
  have hB2 : Below w1.heap.size w1 w2 := by subst hw2; exact (Below.refl _ _).alloc (Nat.le_refl _) _
  have hV2 : CellsAt w1.heap.size [.int .i64 0, .slice none 0 0, .slice none 0 0] w2 := by subst hw2; exact CellsAt.new w1 _ _
  have hs2 : w2.heap.size = w.heap.size + 4 := by subst hw2; rw [World.size_alloc, hs1]
  have bx := (hX 0 _ rfl).1
  have e0 := (hB0.cell (cell_lt d0)).trans d0
  have e1 := (hB0.cell (cell_lt d1)).trans d1
  have e2 := (hB0.cell (cell_lt d2)).trans d2
  have e3 := (hB0.cell (cell_lt d3)).trans d3
  have e4 := (hB0.cell (cell_lt d4)).trans d4
  have e5 := (hB0.cell (cell_lt d5)).trans d5
  have e6 := (hB0.cell (cell_lt d6)).trans d6
  have e7 := (hB0.cell (cell_lt d7)).trans d7
  have HST : Hid (MvSt a len cap c (.slice (some ⟨b0, off, none⟩) rs.length capd) [.string r.name, .int .i64 5, .int .i64 r.size, .bool r.little, .slice a4 r.bytes.length c4, .slice a5 r.names.length c5, .slice a6 r.tags.length c6, .slice a7 r.kids.length c7] [.int .i64 0, .slice none 0 0, .slice none 0 0] w0.heap.size w1.heap.size w w2) := by
    refine ⟨⟨hs0, hs1, by omega⟩, (hX.below hB1).below hB2, (hZ.below hB1).below hB2, hC1.below hB2, hV2, ((hc.below hB0).below hB1).below hB2, grown_below (grown_below (grown_of hB0) hB1) hB2⟩
  have hW0 := Lib.hid hw0
  have hW1 := Lib.hid hw1
  have hW2 := Lib.hid hw2
  have HR := Lib.hid hR
  have HBK := Lib.hid hbk
  have k0 : (0 : Int) ≤ (k : Int) := by omega
  have k1 : (k : Int) < (rs.length : Int) := by omega
  have HSZ : Hid (w0.heap.size = w.heap.size + 2 ∧ w1.heap.size = w.heap.size + 3) := ⟨hs0, hs1⟩
  clear hw0 hw1 hw2 hB0 hB1 hB2 hX hZ hC1 hV2 hs0 hs1 hs2 hR hbk hc hrow ih hall hkd d0 d1 d2 d3 d4 d5 d6 d7
  go_enter Try.func42, Try.ntmps42
  go_upto_region 1 with fail
  rw [← hW0.out]
  go_upto_region 2 with fail
  rw [← hW1.out]
  go_upto_region 3 with fail
  rw [← hW2.out]
  clear bx e0 e1 e2 e3 e4 e5 e6 e7 hW0 hW1 hW2
  generalize w0.heap.size = B at HST HSZ ⊢
  generalize w1.heap.size = N at HST HSZ ⊢
  have hNB : w.heap.size + 2 ≤ B ∧ w.heap.size + 3 ≤ N := by have h := HSZ.out; omega
  obtain ⟨hNB1, hNB2⟩ := hNB
  clear HSZ w0 w1
  have hkl := kindI_5 HKI.out HKD.out
  have hk2 : r.kids.length = 2 := by omega
  clear hkl
  have HK2 := Lib.hid hk2
  have HLM : Hid (255 ≤ limitAt rs (r.kids.getD 0 0)) := by
    show _ ≤ _
    obtain ⟨h1, m, hm, hmk⟩ := HIN.out (.inr (.inl HKD.out))
    rw [hm] at h1 ⊢
    rw [ruleAt_at (by omega)] at h1
    have h2 := kindI_size (allV_kind HALL.out (show m < rs.length by omega)) h1
    rw [limitAt_in (by omega), if_pos ⟨h1, h2⟩]
    have h3 := h2.1; have h4 := h2.2
    obtain e | e | e | e : rs[m].size = 1 ∨ rs[m].size = 2 ∨ rs[m].size = 3 ∨ rs[m].size = 4 := by omega
    all_goals (rw [e]; decide)
  obtain ⟨n, hn⟩ : ∃ n, n = min most 3 := ⟨_, rfl⟩
  have hn0 : 0 ≤ n := by omega
  have hn3 : n ≤ 3 := by omega
  clear hk2
  have y1 := (HST.out.r 1 _ rfl).1
  go_wp2_with fail
  refine (min_spec _ _ _).mono ?_
  rintro e w3 ⟨rfl, rfl⟩
  rw [← hn]
  clear hn
  go_wp2_with fail
  refine (below_draw a len cap c (n + 1) _ hl (by omega) (by omega) HST.out.cur).mono ?_
  rintro e w3 ⟨x, ⟨x0, x1⟩, rfl, hc1, hg⟩
  replace HST := Lib.hid (HST.out.draw hcw hc1 hg)
  clear hc1 hg y1
  obtain ⟨jn, rfl⟩ : ∃ j : Nat, x = (j : Int) := ⟨x.toNat, by omega⟩
  have hjn : jn ≤ 3 := by omega
  clear x0 x1
  have HRV0 : Hid (RowV k (w.heap.size + 4) (.slice none 0 0) [] w3) := RowV.start _ _ _
  have HY0 : Hid (∀ q (h : q < ([] : List ValueV).length), ∃ m : Nat, itemR r 0 q = (m : Int) ∧ m < k ∧ MadeVal rs m ([] : List ValueV)[q]) := fun q h => by simp at h
  go_wp2
  go_loopw [11] (fun i W => ∃ (j : Nat) (ys : List ValueV) (V : Value), j ≤ 3 ∧ i = .int .i64 j ∧ ys.length + j ≤ 3 ∧ Hid (MvSt a len cap c (.slice (some ⟨b0, off, none⟩) rs.length capd) [.string r.name, .int .i64 5, .int .i64 r.size, .bool r.little, .slice a4 r.bytes.length c4, .slice a5 r.names.length c5, .slice a6 r.tags.length c6, .slice a7 r.kids.length c7] [.int .i64 0, .slice none 0 0, V] B N w W) ∧ Hid (RowV k (w.heap.size + 4) V ys W) ∧ Hid (∀ q (h : q < ys.length), ∃ m : Nat, itemR r 0 q = (m : Int) ∧ m < k ∧ MadeVal rs m ys[q])) (fun i _ => (intOf i).toNat)
  case atStart => exact ⟨jn, [], _, hjn, rfl, by simp; omega, HST, HRV0, HY0⟩
  case round =>
    clear HST HRV0 HY0 hjn
    obtain ⟨j, ys, V, hj, rfl, hlen, HST, HRV, HYS⟩ := hrel
    by_cases hj0 : j = 0
    case pos =>
      subst hj0
      obtain ⟨xv, cv, rfl, hov⟩ := own_items (x := 0) HRV.out
      have HOV0 := Lib.hid hov
      have HYL : Hid (ys.length ≤ 3) := by show _ ≤ _; omega
      clear hov HRV hlen hj
      go_upto_region 32 with fail
      have HMV : Hid (MadeVal rs k (.mk 0 [] ys)) := HNODE.out _ (by have h := HYL.out; have h2 := HLM.out; simp [ownB, HKD.out, ValueV.number, ValueV.bytes, ValueV.items] at h2 ⊢; omega) (by simp [ValueV.bytes]) (by have h := HYL.out; simp [ValueV.items]; omega) (fun q h => HYS.out q h)
      have HOV : Hid (OwnV (fun b => w.heap.size + 4 ≤ b) (k + 1) (.mk 0 [] ys) [.int .i64 0, .slice none 0 0, .slice xv ys.length cv] wr) := HOV0.out
      have o0 := (HST.out.v 0 _ rfl).1
      have o1 := (HST.out.v 1 _ rfl).1
      have o2 := (HST.out.v 2 _ rfl).1
      obtain ⟨z0, t0⟩ := HST.out.z 0 _ rfl
      obtain ⟨z1, t1⟩ := HST.out.z 1 _ rfl
      obtain ⟨z2, t2⟩ := HST.out.z 2 _ rfl
      have HFI := Lib.hid (HST.out.fin HOV.out hcw hold.out)
      clear HOV HST
      go_wp2
      (try simp only [Exit.inBlock, Exit.then])
      refine bodyPost_ret (v := .agg #[.int .i64 0, .slice none 0 0, .slice xv ys.length cv]) ?_ rfl ?_
      · simp [results, Try.results42, go_sem, z0, z1, z2]
      · obtain ⟨ho, hcu, hgr⟩ := HFI.out _ _ _
        exact ⟨_, _, rfl, HMV.out, ho.mono (fun b _ hb => hb.1), hcu, hgr⟩
    have j1 : (0 : Int) < (j : Int) := by omega
    obtain ⟨xv, cv, rfl⟩ := HRV.out.slice
    obtain ⟨b7, o7, h7, hc7⟩ := (rule_slices (HST.out.rule HR.out HBK.out hcb)).2.2 1 (show 1 < r.kids.length by have h := HK2.out; omega)
    obtain ⟨m, hm, hmk⟩ := HKS.out _ (List.getElem_mem (show 1 < r.kids.length by have h := HK2.out; omega))
    subst h7
    rw [hm] at hc7
    have hm0n : (0 : Int) ≤ (m : Int) := by omega
    have HMK : Hid (r.kids.getD 1 0 = (m : Int)) := by show _ = _; rw [List.getD, List.getElem?_eq_getElem (show 1 < r.kids.length by have h := HK2.out; omega), Option.getD_some]; exact hm
    clear hm
    have HMI : Hid (itemR r 0 ys.length = (m : Int)) := by show _ = _; rw [← HMK.out]; simp [itemR, HKD.out]
    have hk1 : (1 : Int) < (r.kids.length : Int) := by have h := HK2.out; omega
    have hqo := IntWalk.i64_quo most 2 ⟨hm0, by omega, by omega⟩
    have bx := (HST.out.d 0 _ rfl).1
    have y7 := (HST.out.r 7 _ rfl).1
    have o2 := (HST.out.v 2 _ rfl).1
    have hle := HST.out.le
    have HOB : Hid (∀ g, (Value.slice xv ys.length cv).ownBlock = some g → g < wr.heap.size) := fun g e => (HRV.out.own g e).2
    have HD : Hid (Below wr.heap.size wr wr.drew) := below_drewN (Below.refl _ _) 1
    replace HST := Lib.hid (HST.out.below HD.out)
    replace HRV := Lib.hid (HRV.out.below HD.out)
    go_upto_region 17 with fail
    go_region_law (first | (go_simp; go_at_call 42; refine (HIH.out m hmk (most / 2) wr.drew (by omega) (by omega) (HROW.out.grown HST.out.grown hcb) (Nat.le_trans hbw (Nat.le_trans (by omega) hle)) HST.out.cur).mono ?_; rintro e w6 ⟨y, cy, rfl, hmv, hown, hc1, hg⟩; obtain ⟨xab, xcb, xai, xci, rfl⟩ := hown.cells; have HMY := Lib.hid hmv; have HOY : Hid (OwnV (fun b => w.heap.size + 4 ≤ b ∧ some b ≠ (Value.slice xv ys.length cv).ownBlock) k y [.int .i64 y.number, .slice xab y.bytes.length xcb, .slice xai y.items.length xci] w6) := ((hown.up (show m + 1 ≤ k by omega)).mono (fun b _ h => by have h8 : wr.heap.size ≤ b := h; exact ⟨by omega, fun e => by have := HOB.out b e.symm; omega⟩)); replace HST := Lib.hid (HST.out.draw hcw hc1 hg); replace HRV := Lib.hid (HRV.out.grown hg (fun g e => by injection e with e; omega)); have o2b := (HST.out.v 2 _ rfl).1; have o2c := (HST.out.v.below ((Below.refl w6.heap.size w6).alloc (Nat.le_refl _) (.cells #[.int .i64 y.number, .slice xab y.bytes.length xcb, .slice xai y.items.length xci] 47)) 2 _ rfl).1; have h6s := HST.out.le; clear hmv hown hc1 hg) | (refine step_pushV rfl (.tmp 86) (.tmp 96) rfl k (w.heap.size + 4) (.slice xv ys.length cv) ys y _ w6 (by simp [Act.eval]) (by simp [Act.eval]) HRV.out HOY.out (by omega) h6s ?_; intro v' w7 hrow hg; have HR7 := Lib.hid hrow; have HG7 := Lib.hid hg; obtain ⟨o2d, p2d⟩ := (HST.out.row hcw hold.out hg (fun g e => (HRV.out.own g e).1)).v 2 _ rfl; obtain ⟨xn, cn, rfl⟩ := hrow.slice; clear hrow hg))
    all_goals (have HS9 := Lib.hid (MvSt.push hcw hold.out HST.out HRV.out HR7.out HG7.out).1; have HR9 := Lib.hid (MvSt.push hcw hold.out HST.out HRV.out HR7.out HG7.out).2; have HY9 := Lib.hid (items_push HYS.out ⟨m, HMI.out, hmk, HMY.out⟩); have HYL : Hid ((ys ++ [y]).length = ys.length + 1) := (by show _ = _; simp); rw [HYL.out] at HS9 HR9; clear HST HRV HYS HR7 HG7 HMY HOY HOB HD HMI o2d p2d h6s HIH HROW; generalize w7.setCell ⟨N, 2, none⟩ (.slice xn (ys.length + 1) cn) = w9 at HS9 HR9 ⊢; generalize ys ++ [y] = yt at HR9 HY9 HYL)
    all_goals go_wp2
    all_goals go_roundw
    all_goals first | (simp [intOf]; omega) | exact ⟨j - 1, yt, _, by omega, by congr 1; omega, by have h := HYL.out; omega, HS9, HR9, HY9⟩
end Go.Proofs.Ytefkhknfjohnaaa
