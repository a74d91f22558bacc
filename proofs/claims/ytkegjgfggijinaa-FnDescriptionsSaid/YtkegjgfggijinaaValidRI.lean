/- The contract of the program's IsValidRule. -/
import Derived.Test.YtkegjgfggijinaaMeets
import Derived.Test.YtkegjgfggijinaaOnlyImpl
import Derived.Deep.RegionHeld3
import Derived.Deep.RegionWith
namespace Go.Proofs.Ytkegjgfggijinaa
open Go Go.RowKit
theorem kidsB_in {ks : List Int} {k : Int} {m : Nat} (h : kidsB ks k = true) (hm : k ≤ (m : Int)) : ∀ x ∈ ks, 0 ≤ x ∧ x < (m : Int) := fun x hx => by
  unfold kidsB at h
  have := of_decide_eq_true (List.all_eq_true.1 h x hx)
  omega
/-- The conditions of a kind give no more than the model's other fields: the rule alone. -/
theorem onlyShort (r : RuleV) (h : Short r) : Short (onlyR r) := by
  obtain ⟨h4, h5, h6, h7⟩ := h
  unfold onlyR
  split
  · exact ⟨by simp, by simp, by simp, by simp⟩
  split
  · exact ⟨by simp, by simp, by simp, by simp⟩
  split
  · exact ⟨h4, by simp, by simp, by simp⟩
  split
  · exact ⟨by simp, by simp, by simp, h7⟩
  split
  · exact ⟨by simp, h5, by simp, h7⟩
  split
  · exact ⟨by simp, by simp, h6, h7⟩
  · exact ⟨by simp, by simp, by simp, by simp⟩
set_option maxRecDepth 100000 in
set_option maxHeartbeats 4000000 in
theorem validr_impl (a : Option Addr) (rs : List RuleV) (cap : Nat) (k : Int) (w : World) (hl : rs.length ≤ 1048576) (hs : ∀ r ∈ rs, Short r) (hp : ∀ r ∈ rs, Spelt r) (h : RdC a rs w) :
    Calls Try.prog 11 #[.agg #[.slice a rs.length cap], .int .i64 k] w fun e w' => e = .returned (.bool (validAt (kindI rs) rs k)) ∧ Below w.heap.size w w' := by
  obtain ⟨w0, hw0⟩ : ∃ w0, w0 = w.alloc (.cells #[.slice a rs.length cap] 26) := ⟨_, rfl⟩
  have hB : Below w.heap.size w w0 := by subst hw0; exact (Below.refl _ _).alloc (Nat.le_refl _) _
  have hX : CellsAt w.heap.size [.slice a rs.length cap] w0 := by subst hw0; exact CellsAt.new w _ _
  have HC := Lib.hid (h.below hB)
  have HB := Lib.hid hB
  have HX := Lib.hid hX
  have HS := Lib.hid hs
  have HP := Lib.hid hp
  clear h hB hX hs hp
  by_cases hk : 0 ≤ k ∧ k < rs.length
  case neg =>
    have hr := Lib.hid (validAt_out (f := kindI rs) hk)
    go_enter Try.func11, Try.ntmps11
    go_wp2_with fail
    rw [← hw0]
    clear hw0
    refine (hasr_impl a rs.length cap k _ (by omega) false (by simpa using hk)).mono ?_
    rintro e w1 ⟨rfl, hb1⟩
    have HB1 := Lib.hid (HB.out.trans (hb1.mono HB.out.size))
    go_wp2
    go_ret
    exact ⟨ret_bool hr.out.symm, HB1.out⟩
  go_enter Try.func11, Try.ntmps11
  go_wp2_with fail
  rw [← hw0]
  clear hw0
  refine (hasr_impl a rs.length cap k _ (by omega) true (by simpa using hk)).mono ?_
  rintro e w1 ⟨rfl, hb1⟩
  have hx1 := (HX.out.below hb1 0 _ rfl).1
  have HX1 := Lib.hid (HX.out.below hb1)
  have HB1 := Lib.hid (HB.out.trans (hb1.mono HB.out.size))
  have HC1 := Lib.hid (HC.out.below hb1)
  clear hb1 HX HB HC
  obtain ⟨n, rfl⟩ : ∃ n : Nat, k = (n : Int) := ⟨k.toNat, by omega⟩
  have hlt : n < rs.length := by omega
  have k0 : (0 : Int) ≤ (n : Int) := by omega
  have k1 : (n : Int) < (rs.length : Int) := by omega
  have hr := Lib.hid (validAt_in (f := kindI rs) hlt)
  have hsr := Lib.hid (HS.out _ (List.getElem_mem hlt))
  have hpr := Lib.hid (HP.out _ (List.getElem_mem hlt))
  obtain ⟨b, off, a4, c4, a5, c5, a6, c6, a7, c7, rfl, ⟨d0, d1, d2, d3, d4, d5, d6, d7⟩, ⟨h4, h5, h6, h7⟩, hc5⟩ := HC1.out.at n hlt
  have HQ : Hid (IsRule rs[n] [.string rs[n].name, .int .i64 rs[n].kind, .int .i64 rs[n].size, .bool rs[n].little, .slice a4 rs[n].bytes.length c4, .slice a5 rs[n].names.length c5, .slice a6 rs[n].tags.length c6, .slice a7 rs[n].kids.length c7] w1) := ⟨a4, c4, a5, c5, a6, c6, a7, c7, rfl, h4, h5, h6, h7⟩
  have HK := Lib.hid h7
  have HP5 : Hid (Cap5 [.string rs[n].name, .int .i64 rs[n].kind, .int .i64 rs[n].size, .bool rs[n].little, .slice a4 rs[n].bytes.length c4, .slice a5 rs[n].names.length c5, .slice a6 rs[n].tags.length c6, .slice a7 rs[n].kids.length c7]) := fun a n c hc => by
    simp at hc
    obtain ⟨_, rfl, rfl⟩ := hc
    exact hc5
  clear h4 h5 h6 h7 hc5 hk HS HP
  generalize rs[n] = r at *
  obtain ⟨w2, hw2⟩ : ∃ w2, w2 = w1.alloc (.cells #[.string r.name, .int .i64 r.kind, .int .i64 r.size, .bool r.little, .slice a4 r.bytes.length c4, .slice a5 r.names.length c5, .slice a6 r.tags.length c6, .slice a7 r.kids.length c7] 35) := ⟨_, rfl⟩
  have hb2 : Below w1.heap.size w1 w2 := by subst hw2; exact (Below.refl _ _).alloc (Nat.le_refl _) _
  have hY2 : CellsAt w1.heap.size [.string r.name, .int .i64 r.kind, .int .i64 r.size, .bool r.little, .slice a4 r.bytes.length c4, .slice a5 r.names.length c5, .slice a6 r.tags.length c6, .slice a7 r.kids.length c7] w2 := by subst hw2; exact CellsAt.new w1 _ _
  have HX := Lib.hid (HX1.out.below hb2)
  have HY := Lib.hid hY2
  have HB := Lib.hid (HB1.out.trans (hb2.mono HB1.out.size))
  have HC := Lib.hid (HC1.out.below hb2)
  replace HQ := Lib.hid (HQ.out.below hb2)
  replace HK := Lib.hid (HK.out.below hb2)
  clear hb2 hY2 HX1 HB1 HC1
  have hsz := hpr.out.1
  go_wp2_with fail
  rw [← hw2]
  clear hw2 d0 d1 d2 d3 d4 d5 d6 d7 hx1
  refine (name_impl r.name _ (by omega)).mono ?_
  rintro e w3 ⟨rfl, hb⟩
  replace HX := Lib.hid (HX.out.below hb)
  replace HY := Lib.hid (HY.out.below hb)
  replace HB := Lib.hid (HB.out.trans (hb.mono HB.out.size))
  replace HC := Lib.hid (HC.out.below hb)
  replace HQ := Lib.hid (HQ.out.below hb)
  replace HK := Lib.hid (HK.out.below hb)
  clear hb
  cases hnm : nameB r.name with
  | false =>
    go_wp2
    go_ret
    exact ⟨ret_bool (by rw [hr.out, hnm]; simp), HB.out⟩
  | true =>
  have bx := (HX.out 0 _ rfl).1
  have y0 := (HY.out 0 _ rfl).1
  have hl2 : rs.length ≤ 1073741824 := by omega
  go_wp2_with fail
  refine (find_impl _ rs cap r.name _ hl2 HC.out.rd).mono ?_
  rintro e w4 ⟨rfl, hb⟩
  replace HX := Lib.hid (HX.out.below hb)
  replace HY := Lib.hid (HY.out.below hb)
  replace HB := Lib.hid (HB.out.trans (hb.mono HB.out.size))
  replace HC := Lib.hid (HC.out.below hb)
  replace HQ := Lib.hid (HQ.out.below hb)
  replace HK := Lib.hid (HK.out.below hb)
  clear hb bx y0
  by_cases hfd : findFrom r.name rs 0 = (n : Int)
  case neg =>
    have g1 : (findFrom r.name rs 0 != (n : Int)) = true := by simpa using hfd
    have hd := decide_eq_false hfd
    generalize findFrom r.name rs 0 = fd at *
    go_wp2
    go_ret
    exact ⟨ret_bool (by rw [hr.out, hd]; rfl), HB.out⟩
  have g1 : (findFrom r.name rs 0 != (n : Int)) = false := by simpa using hfd
  have hd := decide_eq_true hfd
  rw [hd, hnm, Bool.true_and, Bool.true_and] at hr
  clear hd hfd
  generalize findFrom r.name rs 0 = fd at *
  go_wp2
  clear g1
  have s7 := hsr.out.2.2.2
  have HD : Hid (∀ W : World, Below w4.heap.size w4 W → Calls Try.prog 30 #[.slice a7 r.kids.length c7, .int .i64 (n : Int)] W fun e w' => e = .returned (.bool (kidsB r.kids (n : Int))) ∧ W = w') := fun W hb => kids_impl a7 r.kids c7 (n : Int) W s7 k0 (by omega) (HK.out.below hb)
  replace HX : Hid (CellsAt w.heap.size [.slice (some ⟨b, off, none⟩) rs.length cap] w4.drew) := HX.out
  replace HY : Hid (CellsAt w1.heap.size [.string r.name, .int .i64 r.kind, .int .i64 r.size, .bool r.little, .slice a4 r.bytes.length c4, .slice a5 r.names.length c5, .slice a6 r.tags.length c6, .slice a7 r.kids.length c7] w4.drew) := HY.out
  replace HB : Hid (Below w.heap.size w w4.drew) := below_drewN HB.out 1
  replace HC : Hid (RdC (some ⟨b, off, none⟩) rs w4.drew) := HC.out
  replace HQ : Hid (IsRule r [.string r.name, .int .i64 r.kind, .int .i64 r.size, .bool r.little, .slice a4 r.bytes.length c4, .slice a5 r.names.length c5, .slice a6 r.tags.length c6, .slice a7 r.kids.length c7] w4.drew) := HQ.out
  have hd4 : Below w4.heap.size w4 w4.drew := below_drewN (Below.refl _ _) 1
  have HD4 := Lib.hid (HD.out _ hd4)
  clear hd4 HD HK
  cases hkb : kidsB r.kids (n : Int) with
  | false =>
    rw [hkb] at HD4 hr
    have bx : w4.cell? ⟨w.heap.size, 0, none⟩ = some (.slice (some ⟨b, off, none⟩) rs.length cap) := (HX.out 0 _ rfl).1
    have y0 : w4.cell? ⟨w1.heap.size, 0, none⟩ = some (.string r.name) := (HY.out 0 _ rfl).1
    have y1 : w4.cell? ⟨w1.heap.size, 1, none⟩ = some (.int .i64 r.kind) := (HY.out 1 _ rfl).1
    have y2 : w4.cell? ⟨w1.heap.size, 2, none⟩ = some (.int .i64 r.size) := (HY.out 2 _ rfl).1
    have y3 : w4.cell? ⟨w1.heap.size, 3, none⟩ = some (.bool r.little) := (HY.out 3 _ rfl).1
    have y4 : w4.cell? ⟨w1.heap.size, 4, none⟩ = some (.slice a4 r.bytes.length c4) := (HY.out 4 _ rfl).1
    have y5 : w4.cell? ⟨w1.heap.size, 5, none⟩ = some (.slice a5 r.names.length c5) := (HY.out 5 _ rfl).1
    have y6 : w4.cell? ⟨w1.heap.size, 6, none⟩ = some (.slice a6 r.tags.length c6) := (HY.out 6 _ rfl).1
    have y7 : w4.cell? ⟨w1.heap.size, 7, none⟩ = some (.slice a7 r.kids.length c7) := (HY.out 7 _ rfl).1
    go_region_with (first | (go_at_call 30; refine HD4.out.mono ?_; rintro e v ⟨rfl, rfl⟩))
    all_goals (go_wp2; go_ret; exact ⟨ret_bool (by rw [hr.out]; rfl), HB.out⟩)
  | true =>
  rw [hkb, Bool.true_and] at hr
  rw [hkb] at HD4
  have HM := Lib.hid (meets_impl _ rs cap r _ w4.drew hl hsr.out hpr.out HP5.out HC.out.rd HQ.out (kidsB_in hkb (by omega)))
  have hos := Lib.hid (onlyShort r hsr.out)
  replace hr : Hid (validAt (kindI rs) rs (n : Int) = (meetsB rs r && sameR r (onlyR r))) := hr.out
  cases hmb : meetsB rs r with
  | false =>
    rw [hmb] at HM hr
    have bx : w4.cell? ⟨w.heap.size, 0, none⟩ = some (.slice (some ⟨b, off, none⟩) rs.length cap) := (HX.out 0 _ rfl).1
    have y0 : w4.cell? ⟨w1.heap.size, 0, none⟩ = some (.string r.name) := (HY.out 0 _ rfl).1
    have y1 : w4.cell? ⟨w1.heap.size, 1, none⟩ = some (.int .i64 r.kind) := (HY.out 1 _ rfl).1
    have y2 : w4.cell? ⟨w1.heap.size, 2, none⟩ = some (.int .i64 r.size) := (HY.out 2 _ rfl).1
    have y3 : w4.cell? ⟨w1.heap.size, 3, none⟩ = some (.bool r.little) := (HY.out 3 _ rfl).1
    have y4 : w4.cell? ⟨w1.heap.size, 4, none⟩ = some (.slice a4 r.bytes.length c4) := (HY.out 4 _ rfl).1
    have y5 : w4.cell? ⟨w1.heap.size, 5, none⟩ = some (.slice a5 r.names.length c5) := (HY.out 5 _ rfl).1
    have y6 : w4.cell? ⟨w1.heap.size, 6, none⟩ = some (.slice a6 r.tags.length c6) := (HY.out 6 _ rfl).1
    have y7 : w4.cell? ⟨w1.heap.size, 7, none⟩ = some (.slice a7 r.kids.length c7) := (HY.out 7 _ rfl).1
    go_region_with (first | (go_at_call 30; refine HD4.out.mono ?_; rintro e v ⟨rfl, rfl⟩) | (go_at_call 31; refine HM.out.mono ?_; rintro e v ⟨rfl, hb⟩; replace HB := Lib.hid (HB.out.trans (hb.mono HB.out.size)); clear hb))
    all_goals (go_wp2; go_ret; exact ⟨ret_bool (by rw [hr.out]; rfl), HB.out⟩)
  | true =>
    rw [hmb] at HM
    rw [hmb, Bool.true_and] at hr
    go_region_held3 (fun W => W.cell? ⟨w.heap.size, 0, none⟩ = some (.slice (some ⟨b, off, none⟩) rs.length cap) ∧ W.cell? ⟨w1.heap.size, 0, none⟩ = some (.string r.name) ∧ W.cell? ⟨w1.heap.size, 1, none⟩ = some (.int .i64 r.kind) ∧ W.cell? ⟨w1.heap.size, 2, none⟩ = some (.int .i64 r.size) ∧ W.cell? ⟨w1.heap.size, 3, none⟩ = some (.bool r.little) ∧ W.cell? ⟨w1.heap.size, 4, none⟩ = some (.slice a4 r.bytes.length c4) ∧ W.cell? ⟨w1.heap.size, 5, none⟩ = some (.slice a5 r.names.length c5) ∧ W.cell? ⟨w1.heap.size, 6, none⟩ = some (.slice a6 r.tags.length c6) ∧ W.cell? ⟨w1.heap.size, 7, none⟩ = some (.slice a7 r.kids.length c7)) (exact ⟨(HX.out 0 _ rfl).1, (HY.out 0 _ rfl).1, (HY.out 1 _ rfl).1, (HY.out 2 _ rfl).1, (HY.out 3 _ rfl).1, (HY.out 4 _ rfl).1, (HY.out 5 _ rfl).1, (HY.out 6 _ rfl).1, (HY.out 7 _ rfl).1⟩) (first | (go_at_call 30; refine HD4.out.mono ?_; rintro e v ⟨rfl, rfl⟩) | (go_at_call 31; refine HM.out.mono ?_; rintro e v ⟨rfl, hb⟩; replace HX := Lib.hid (HX.out.below hb); replace HY := Lib.hid (HY.out.below hb); replace HB := Lib.hid (HB.out.trans (hb.mono HB.out.size)); replace HC := Lib.hid (HC.out.below hb); replace HQ := Lib.hid (HQ.out.below hb); clear hb) | (go_at_call 33; refine (only_impl r _ _ HQ.out).mono ?_; rintro e v ⟨ds, rfl, hds, hb⟩; have HDS := Lib.hid hds; replace HX := Lib.hid (HX.out.below hb); replace HY := Lib.hid (HY.out.below hb); replace HB := Lib.hid (HB.out.trans (hb.mono HB.out.size)); replace HC := Lib.hid (HC.out.below hb); replace HQ := Lib.hid (HQ.out.below hb); clear hb hds) | (go_at_call 32; refine (eqr_impl r (onlyR r) _ ds _ hsr.out hos.out HQ.out HDS.out).mono ?_; rintro e v ⟨rfl, hb⟩; replace HX := Lib.hid (HX.out.below hb); replace HY := Lib.hid (HY.out.below hb); replace HB := Lib.hid (HB.out.trans (hb.mono HB.out.size)); replace HC := Lib.hid (HC.out.below hb); replace HQ := Lib.hid (HQ.out.below hb); clear hb))
    all_goals (go_wp2; go_ret; exact ⟨ret_bool hr.out.symm, HB.out⟩)
end Go.Proofs.Ytkegjgfggijinaa
