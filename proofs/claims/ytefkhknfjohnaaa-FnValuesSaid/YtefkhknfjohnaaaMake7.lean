/- Drawing rules: a choice (l4Make, kind 7). -/
import Derived.Test.YtefkhknfjohnaaaGDr
import Derived.IntWalk
import Derived.Deep.CutRange
namespace Go.Proofs.Ytefkhknfjohnaaa
open Go Go.RowKit
set_option maxRecDepth 100000 in
set_option maxHeartbeats 4000000 in
theorem make_7 (a : Option Addr) (len cap c base : Nat) (ad : Option Addr) (rs : List RuleV) (capd : Nat) (w : World) (hl : len ≤ 140737488355328) (hrs : rs.length ≤ 9) (h0 : 0 < rs.length) (hk0 : rs[0].kind = 1) (hint : ∀ r ∈ rs, r.kind = 1 → 1 ≤ r.size ∧ r.size ≤ 4) (hrow : RowR base (.slice ad rs.length capd) rs w) (hcb : c < base) (hbw : base ≤ w.heap.size) (hc : Cur a len cap c w) :
    Calls Try.prog 66 #[.pointer (some ⟨c, 0, none⟩), .agg #[.slice ad rs.length capd], .int .i64 7] w (MakeOut a len cap c rs 7 w) := by
  have hcw : c < w.heap.size := by omega
  have hold := Lib.hid hc.old
  have HROW := Lib.hid hrow
  obtain ⟨w0, hw0⟩ : ∃ w0, w0 = (w.alloc (.cells #[.slice ad rs.length capd] 38)).alloc (.cells #[.string ⟨#[]⟩, .int .i64 0, .int .i64 0, .bool false, .slice none 0 0, .slice none 0 0, .slice none 0 0, .slice none 0 0] 76) := ⟨_, rfl⟩
  have hB : Below w.heap.size w w0 := by subst hw0; exact ((Below.refl _ _).alloc (Nat.le_refl _) _).alloc (by simp) _
  have hX : CellsAt w.heap.size [.slice ad rs.length capd] w0 := by subst hw0; exact (CellsAt.new w _ _).below ((Below.refl _ _).alloc (Nat.le_refl _) _)
  have hZ : CellsAt (w.heap.size + 1) [.string ⟨#[]⟩, .int .i64 0, .int .i64 0, .bool false, .slice none 0 0, .slice none 0 0, .slice none 0 0, .slice none 0 0] w0 := by
    subst hw0
    have h1 := CellsAt.new (w.alloc (.cells #[.slice ad rs.length capd] 38)) [.string ⟨#[]⟩, .int .i64 0, .int .i64 0, .bool false, .slice none 0 0, .slice none 0 0, .slice none 0 0, .slice none 0 0] 76
    simpa using h1
  have hs0 : Hid (w0.heap.size = w.heap.size + 2) := by subst hw0; show _ = _; simp
  have HC := Lib.hid (hc.below hB)
  have HG : Hid (w.grownBy w0 (some c)) := grown_of hB
  have HX := Lib.hid hX
  have HZ := Lib.hid hZ
  have hW := Lib.hid hw0
  clear hc hB hX hZ hw0 hrow
  go_enter Try.func66, Try.ntmps66
  go_wp2_with fail
  rw [← hW.out, show w.heap.size + 1 + 1 = w0.heap.size from by rw [hs0.out]]
  clear hW
  refine (str_pick a len cap c 5 [⟨#[97]⟩, ⟨#[105, 116, 101, 109]⟩, ⟨#[98]⟩, ⟨#[104, 101, 97, 100]⟩, ⟨#[120]⟩] _ rfl rfl w0 hl (by omega) (by omega) HC.out).mono ?_
  rintro e w1 ⟨s, hs, rfl, hc1, hg⟩
  replace HG := Lib.hid (Lib.grownBy_trans HG.out hg)
  replace HX := Lib.hid (HX.out.grown hg (by intro e; injection e with e; omega))
  replace HZ := Lib.hid (HZ.out.grown hg (by intro e; injection e with e; omega))
  replace HC := Lib.hid hc1
  have hs1 := Lib.hid hg.size
  clear hc1 hg
  have hss : s.size ≤ 4 := base_size hs
  have hsb := Lib.hid hs
  clear hs
  go_wp2_with fail
  refine (fmt_spec (rs.length : Int) _ (by omega) (by omega)).mono ?_
  rintro e w2 ⟨rfl, hb⟩
  replace HG := Lib.hid (grown_below HG.out hb)
  replace HC := Lib.hid (HC.out.below hb)
  replace HX := Lib.hid (HX.out.below hb)
  replace HZ := Lib.hid (HZ.out.below hb)
  have hs2 := Lib.hid hb.size
  clear hb
  have hd1 : (digitS rs.length).size = 1 := digit_one ⟨rs.length, by omega⟩
  have hadd := addS w2 s (digitS rs.length) (by omega)
  obtain ⟨nm, hnm⟩ : ∃ nm, nm = s ++ digitS rs.length := ⟨_, rfl⟩
  rw [← hnm] at hadd
  have HNM := Lib.hid hnm
  clear hnm
  unfold digitS at hadd
  go_upto_region 22 with fail
  clear hadd
  obtain ⟨w3, hw3⟩ : ∃ w3, w3 = w2.alloc (.cells #[.string nm, .int .i64 7, .int .i64 0, .bool false, .slice none 0 0, .slice none 0 0, .slice none 0 0, .slice none 0 0] 76) := ⟨_, rfl⟩
  rw [← hw3]
  have hb : Below w2.heap.size w2 w3 := by subst hw3; exact (Below.refl _ _).alloc (Nat.le_refl _) _
  have hO : CellsAt w2.heap.size [.string nm, .int .i64 7, .int .i64 0, .bool false, .slice none 0 0, .slice none 0 0, .slice none 0 0, .slice none 0 0] w3 := by subst hw3; exact CellsAt.new w2 _ _
  replace HG := Lib.hid (grown_below HG.out hb)
  replace HC := Lib.hid (HC.out.below hb)
  replace HX := Lib.hid (HX.out.below hb)
  replace HZ := Lib.hid (HZ.out.below hb)
  have HO := Lib.hid hO
  have hN : w.heap.size + 2 ≤ w2.heap.size := by have := hs0.out; have := hs1.out; have := hs2.out; omega
  have hs3 : Hid (w2.heap.size < w3.heap.size) := cell_lt (hO 0 _ rfl).1
  clear hb hO hw3 hs0 hs1 hs2
  obtain ⟨N, hNN⟩ : ∃ N, N = w2.heap.size := ⟨_, rfl⟩
  rw [← hNN] at HO hN hs3 ⊢
  clear hNN
  have bx := (HX.out 0 _ rfl).1
  go_wp2_with fail
  refine (integer_draw a len cap c ad rs capd _ hl (by omega) h0 hk0 (HROW.out.grown HG.out hcb).at.rd HC.out).mono ?_
  rintro e w4 ⟨x, hx, rfl, hc1, hg⟩
  replace HG := Lib.hid (Lib.grownBy_trans HG.out hg)
  replace HX := Lib.hid (HX.out.grown hg (by intro e; injection e with e; omega))
  replace HZ := Lib.hid (HZ.out.grown hg (by intro e; injection e with e; omega))
  replace HO := Lib.hid (HO.out.grown hg (by intro e; injection e with e; omega))
  replace HC := Lib.hid hc1
  clear hc1 hg
  clear bx
  have HLIM := Lib.hid (limit_int hint hx)
  have hxr : Hid (0 ≤ x ∧ x < (rs.length : Int)) := by obtain ⟨n, hn, rfl, _⟩ := hx; exact ⟨by omega, by omega⟩
  clear hx hint
  have hsz : N < w4.heap.size := cell_lt (HO.out 0 _ rfl).1
  have hbl0 : Below w4.heap.size w4 (w4.alloc (.cells #[.int .i64 x] 3)) := (Below.refl _ _).alloc (Nat.le_refl _) _
  obtain ⟨o7, p7⟩ := HO.out.below hbl0 7 _ rfl
  clear hbl0
  go_upto_region 23 with fail
  clear o7 p7
  have hszl : (w4.setCell ⟨N, 7, none⟩ (.slice (some ⟨w4.heap.size, 0, none⟩) 1 1)).heap.size = w4.heap.size := by simp
  obtain ⟨w5l, hv⟩ : ∃ v, v = w4.setCell ⟨N, 7, none⟩ (.slice (some ⟨w4.heap.size, 0, none⟩) 1 1) := ⟨_, rfl⟩
  rw [← hv]
  (try rw [← hv] at hszl)
  replace HO := Lib.hid (HO.out.set 7 (.slice (some ⟨w4.heap.size, 0, none⟩) 1 1) (by simp))
  rw [← hv] at HO
  simp only [List.set] at HO
  replace HX := Lib.hid (HX.out.far (b' := N) (j := 7) (v := .slice (some ⟨w4.heap.size, 0, none⟩) 1 1) (by omega))
  rw [← hv] at HX
  replace HZ := Lib.hid (HZ.out.far (b' := N) (j := 7) (v := .slice (some ⟨w4.heap.size, 0, none⟩) 1 1) (by omega))
  rw [← hv] at HZ
  replace HC := Lib.hid (HC.out.put (q := N) (i := 7) (v := .slice (some ⟨w4.heap.size, 0, none⟩) 1 1) (by omega) (fun b off ha hl => by have := hold.out b off ha hl; omega))
  rw [← hv] at HC
  replace HG := Lib.hid (grown_put (q := N) (i := 7) (v := .slice (some ⟨w4.heap.size, 0, none⟩) 1 1) HG.out (by omega))
  rw [← hv] at HG
  clear hv
  obtain ⟨w5, hvl⟩ : ∃ v, v = w5l.alloc (.cells #[.int .i64 x] 3) := ⟨_, rfl⟩
  rw [← hvl]
  have hb : Below w5l.heap.size w5l w5 := by subst hvl; exact (Below.refl _ _).alloc (Nat.le_refl _) _
  obtain ⟨B, hB⟩ : ∃ B, B = w4.heap.size := ⟨_, rfl⟩
  rw [← hB] at hszl HO ⊢
  have hNB : N < B := by omega
  have hown : w5.ownsRow B 3 1 (.slice (some ⟨B, 0, none⟩) 1 1) ([x] : List Int).length (([x] : List Int).map (Value.int .i64)) := by
    have h1 := own_lit (f := Value.int .i64) w5l B 3 [x] (by omega) (by unfold maxLen; simp)
    rw [hszl] at h1
    rw [hvl]
    exact h1
  replace HG := Lib.hid (grown_below HG.out hb)
  replace HC := Lib.hid (HC.out.below hb)
  replace HX := Lib.hid (HX.out.below hb)
  replace HZ := Lib.hid (HZ.out.below hb)
  replace HO := Lib.hid (HO.out.below hb)
  have hs5 : B ≤ w5.heap.size := by have := hb.size; omega
  clear hb hvl hB
  have HOW := Lib.hid hown
  clear hown
  go_wp2_with fail
  refine (below_draw a len cap c 3 _ hl (by omega) (by omega) HC.out).mono ?_
  rintro e w6 ⟨y, hx, rfl, hc1, hg⟩
  replace HG := Lib.hid (Lib.grownBy_trans HG.out hg)
  replace HX := Lib.hid (HX.out.grown hg (by intro e; injection e with e; omega))
  replace HZ := Lib.hid (HZ.out.grown hg (by intro e; injection e with e; omega))
  replace HO := Lib.hid (HO.out.grown hg (by intro e; injection e with e; omega))
  replace HC := Lib.hid hc1
  replace HOW := Lib.hid (own_keep HOW.out hg (fun g hh => by intro e; injection e with e; have := (World.ownsRow.lt HOW.out g hh).1; omega))
  have hs6 := hg.size
  clear hc1 hg
  obtain ⟨x0, x1⟩ := hx
  obtain ⟨m, hm⟩ : ∃ m : Nat, 1 + y = (m : Int) := ⟨(1 + y).toNat, by omega⟩
  have m1 : 1 ≤ m := by omega
  have m3 : m ≤ 3 := by omega
  have hst : Hid (Seq7 a len cap c ad rs capd nm x N B m m m w w6) := ⟨.slice none 0 0, .slice (some ⟨B, 0, none⟩) 1 1, [], [x], ⟨by simp, fun t h => by simp at h⟩, ⟨fun z hz => by rw [List.mem_singleton] at hz; rw [hz]; exact hxr.out, rfl⟩, by simp; omega, ⟨rfl, .inl ⟨rfl, rfl⟩⟩, HOW.out, fun g hg => by simp [Value.ownBlock] at hg, HX.out, HZ.out, HO.out, HC.out, HG.out, by omega⟩
  clear HX HZ HO HC HG HOW hs3 hxr hszl hsz
  go_wp2
  go_loopw [10] (fun i W => ∃ j : Nat, j ≤ m ∧ i = .int .i64 j ∧ Hid (Seq7 a len cap c ad rs capd nm x N B m j j w W)) (fun i _ => (intOf i).toNat)
  case atStart => exact ⟨m, Nat.le_refl _, rfl, hst⟩
  case round =>
    clear hst hm
    obtain ⟨j, hj, rfl, hsq⟩ := hrel
    by_cases hj0 : j = 0
    case pos =>
      subst hj0
      obtain ⟨vN, vK, ns, ks, hns, hks, hkl, hoN, hoK, hdis, hX, hZ, hO, hC, hG, hBW⟩ := hsq.out
      clear hsq
      obtain ⟨xn, cn, rfl, hrn⟩ := own_row (f := Value.int .i64) hoN
      obtain ⟨xk, ck, rfl, hrk⟩ := own_row (f := Value.int .i64) hoK
      have HRN := Lib.hid hrn
      have HRK := Lib.hid hrk
      have HNS := Lib.hid hns
      have HKS := Lib.hid hks
      have HKL := Lib.hid hkl
      have HZ := Lib.hid hZ
      have HO := Lib.hid hO
      have HC := Lib.hid hC
      have HG := Lib.hid hG
      have HON := Lib.hid hoN
      have HOK := Lib.hid hoK
      have HDI := Lib.hid hdis
      clear hns hks hkl hoN hoK hdis hX hZ hO hC hG hBW hrn hrk
      have hbx : Hid (∀ b ∈ ([.string nm, .int .i64 7, .int .i64 0, .bool false, .slice none 0 0, .slice none 0 0, .slice xn ns.length cn, .slice xk ks.length ck] : List Value).flatMap sliceBlk, w.heap.size + 2 ≤ b) := fun b hb => by
        have e : ([.string nm, .int .i64 7, .int .i64 0, .bool false, .slice none 0 0, .slice none 0 0, .slice xn ns.length cn, .slice xk ks.length ck] : List Value).flatMap sliceBlk = sliceBlk (.slice xn ns.length cn) ++ (sliceBlk (.slice xk ks.length ck) ++ []) := rfl
        rw [e, List.append_nil] at hb
        rcases List.mem_append.1 hb with hb | hb
        · have := row_blk HRN.out b hb; omega
        · have := row_blk HRK.out b hb; omega
      obtain ⟨o0, -⟩ := HO.out 0 _ rfl
      obtain ⟨o1, -⟩ := HO.out 1 _ rfl
      obtain ⟨o2, -⟩ := HO.out 2 _ rfl
      obtain ⟨o3, -⟩ := HO.out 3 _ rfl
      obtain ⟨o4, -⟩ := HO.out 4 _ rfl
      obtain ⟨o5, -⟩ := HO.out 5 _ rfl
      obtain ⟨o6, -⟩ := HO.out 6 _ rfl
      obtain ⟨o7, -⟩ := HO.out 7 _ rfl
      obtain ⟨z0, t0⟩ := HZ.out 0 _ rfl
      obtain ⟨z1, t1⟩ := HZ.out 1 _ rfl
      obtain ⟨z2, t2⟩ := HZ.out 2 _ rfl
      obtain ⟨z3, t3⟩ := HZ.out 3 _ rfl
      obtain ⟨z4, t4⟩ := HZ.out 4 _ rfl
      obtain ⟨z5, t5⟩ := HZ.out 5 _ rfl
      obtain ⟨z6, t6⟩ := HZ.out 6 _ rfl
      obtain ⟨z7, t7⟩ := HZ.out 7 _ rfl
      have hmk : Hid (MakeP a len cap c ⟨nm, 7, 0, false, [], [], ns, ks⟩ [.string nm, .int .i64 7, .int .i64 0, .bool false, .slice none 0 0, .slice none 0 0, .slice xn ns.length cn, .slice xk ks.length ck] w _) := ⟨OwnedR.tags (own_mono HON.out (by omega)) (own_mono HOK.out (by omega)) HDI.out, HC.out, HG.out⟩
      have hbl : Hid (∀ b ∈ ([.string nm, .int .i64 7, .int .i64 0, .bool false, .slice none 0 0, .slice none 0 0, .slice xn ns.length cn, .slice xk ks.length ck] : List Value).flatMap sliceBlk, w.heap.size + 2 ≤ b) := hbx.out
      have hcp : Hid (CapK [.string nm, .int .i64 7, .int .i64 0, .bool false, .slice none 0 0, .slice none 0 0, .slice xn ns.length cn, .slice xk ks.length ck]) := ⟨(fun a n c h => by simp at h; obtain ⟨_, rfl, rfl⟩ := h; exact Nat.le_refl _), (fun a n c h => by simp at h; obtain ⟨_, rfl, rfl⟩ := h; first | exact Nat.le_refl _ | exact HRK.out.2.1)⟩
      have hmd : Hid (MadeR rs ⟨nm, 7, 0, false, [], [], ns, ks⟩) := ⟨⟨s, hsb.out, HNM.out⟩, kids_seq HKS.out.1, kind7 HNS.out HKS.out HKL.out m1 m3 HLIM.out⟩
      go_wp2
      (try simp only [Exit.inBlock, Exit.then])
      refine bodyPost_ret (v := .agg #[.string nm, .int .i64 7, .int .i64 0, .bool false, .slice none 0 0, .slice none 0 0, .slice xn ns.length cn, .slice xk ks.length ck]) ?_ rfl ?_
      · simp [results, Try.results66, go_sem, z0, z1, z2, z3, z4, z5, z6, z7]
      · exact ⟨_, _, rfl, ⟨hmd.out, rfl⟩, hcp.out, fun b hb => by have := hbl.out b hb; omega, ((((((((hmk.out.put hbl.out hcw hold.out 0 _).put hbl.out hcw hold.out 1 _).put hbl.out hcw hold.out 2 _).put hbl.out hcw hold.out 3 _).put hbl.out hcw hold.out 4 _).put hbl.out hcw hold.out 5 _).put hbl.out hcw hold.out 6 _).put hbl.out hcw hold.out 7 _)⟩
    have j1 : (0 : Int) < (j : Int) := by omega
    obtain ⟨vN, vK, ns, ks, hns, hks, hkl, hoN, hoK, hdis, hX, hZ, hO, hC, hG, hBW⟩ := hsq.out
    clear hsq
    obtain ⟨xt, ct, hvt, -⟩ := own_row (f := Value.int .i64) hoN
    subst hvt
    have HN := Lib.hid hoN
    have HK := Lib.hid hoK
    have HD := Lib.hid hdis
    have HX := Lib.hid hX
    have HZ := Lib.hid hZ
    have HO := Lib.hid hO
    have HC := Lib.hid hC
    have HG := Lib.hid hG
    have HNS := Lib.hid hns
    have HKS := Lib.hid hks
    have HBW := Lib.hid hBW
    have hkl2 := Lib.hid hkl
    have hnl : ns.length ≤ 3 := by have := hns.1; omega
    clear hns hks hkl hoN hoK hdis hX hZ hO hC hG hBW
    go_upto_region 26 with fail
    go_cut [10] from 106 to 129 (fun i W => i = .int .i64 (j : Int) ∧ Hid (Seq7 a len cap c ad rs capd nm x N B m (j - 1) j w W))
    case first =>
      have hbd : Below wr.heap.size wr wr.drew := below_drewN (Below.refl _ _) 1
      have hgd0 : wr.grownBy wr.drew none := ⟨rfl, rfl, rfl, Nat.le_refl _, fun _ _ _ => rfl⟩
      replace HN := Lib.hid (own_keep HN.out hgd0 (fun g _ => by simp))
      replace HK := Lib.hid (own_keep HK.out hgd0 (fun g _ => by simp))
      replace HX := Lib.hid (HX.out.below hbd)
      replace HZ := Lib.hid (HZ.out.below hbd)
      replace HO := Lib.hid (HO.out.below hbd)
      replace HC := Lib.hid (HC.out.below hbd)
      replace HG := Lib.hid (grown_below HG.out hbd)
      replace HBW : Hid (B ≤ wr.drew.heap.size) := HBW.out
      have o6 : wr.cell? ⟨N, 6, none⟩ = some (.slice xt ns.length ct) := (HO.out 6 _ rfl).1
      have hw1 : IntKind.i64.wrap (4 * (ns.length : Int)) = 4 * (ns.length : Int) := IntWalk.i64_in _ (by omega)
      clear hbd hgd0
      go_region_law (first | (go_simp; go_at_call 55; refine (below_draw a len cap c 4 wr.drew hl (by omega) (by omega) HC.out).mono ?_; rintro e w5 ⟨y, ⟨y0, y1⟩, rfl, hc1, hg⟩; have HY : Hid (0 ≤ y ∧ y < 4) := ⟨y0, y1⟩; obtain ⟨ny, hny⟩ : ∃ ny, ny = 4 * (ns.length : Int) + y := ⟨_, rfl⟩; have hw2 : 4 * (ns.length : Int) + y = ny := hny.symm; have hw3 : IntKind.i64.wrap ny = ny := IntWalk.i64_in _ (by omega); have HNY := Lib.hid hny; clear hny; replace HN := Lib.hid (own_keep HN.out hg (fun g hh => by intro e; injection e with e; have := (World.ownsRow.lt HN.out g hh).1; omega)); replace HK := Lib.hid (own_keep HK.out hg (fun g hh => by intro e; injection e with e; have := (World.ownsRow.lt HK.out g hh).1; omega)); replace HX := Lib.hid (HX.out.grown hg (by intro e; injection e with e; omega)); replace HZ := Lib.hid (HZ.out.grown hg (by intro e; injection e with e; omega)); replace HO := Lib.hid (HO.out.grown hg (by intro e; injection e with e; omega)); replace HG := Lib.hid (Lib.grownBy_trans HG.out hg); replace HBW := Lib.hid (Nat.le_trans HBW.out hg.size); replace HC := Lib.hid hc1; have o6b := (HO.out 6 _ rfl).1; have o6d := (HO.out.below ((Below.refl w5.heap.size w5).alloc (Nat.le_refl _) (.cells #[.int .i64 ny] 3)) 6 _ rfl).1; clear hc1 hg) | (refine step_pushF (f := Value.int .i64) 74 3 (.int .i64 0) 8 Try.underlying74 infoInt rfl (by rfl) (.tmp 111) (.tmp 119) (by rfl) B (.slice xt ns.length ct) ns ny rfl w5 (by simp [Act.eval]) (by simp [Act.eval]) HN.out (by unfold maxLen; omega) (by omega) HBW.out ?_; intro v' w7 hown hg hblk; obtain ⟨x', c', rfl, -⟩ := own_row (f := Value.int .i64) hown; have HV := Lib.hid hown; have HG7 := Lib.hid hg; have HB7 := Lib.hid hblk; obtain ⟨o6e, p6e⟩ := HO.out.grown hg (by intro e; have := (World.ownsRow.lt HN.out N e.symm).1; omega) 6 _ rfl; clear hown hg hblk))
      all_goals (go_wp2_with fail; go_meet; exact ⟨rfl, Seq7.tag (y := y) (by omega) hcw hN hNB hold.out HNS.out HKS.out hkl2.out HN.out HK.out HD.out HX.out HZ.out HO.out HC.out HG.out HBW.out HY.out HNY.out (by have h := HV.out; rw [show (ns ++ [ny]).length = ns.length + 1 from by simp] at h ⊢; exact h) HG7.out (by have h := HB7.out; rw [show (ns ++ [ny]).length = ns.length + 1 from by simp] at h; exact h)⟩)
    case rest =>
      clear HN HK HD HX HZ HO HC HG HNS HKS HBW hkl2 hnl
      obtain ⟨rfl, hsq⟩ := hcut
      go_upto_region 27 with fail
      obtain ⟨vN, vK, ns, ks, hns, hks, hkl, hoN, hoK, hdis, hX, hZ, hO, hC, hG, hBW⟩ := hsq.out
      clear hsq
      have HNS := Lib.hid hns
      have HKS := Lib.hid hks
      have hkl2 := Lib.hid hkl
      have HD := Lib.hid hdis
      have hkn : ks.length ≤ 4 := by omega
      have o7 : wc.cell? ⟨N, 7, none⟩ = some vK := (hO 7 _ rfl).1
      have hbd : Below wc.heap.size wc wc.drew := below_drewN (Below.refl _ _) 1
      have hgd0 : wc.grownBy wc.drew none := ⟨rfl, rfl, rfl, Nat.le_refl _, fun _ _ _ => rfl⟩
      have HN := Lib.hid (own_keep hoN hgd0 (fun g _ => by simp))
      have HK := Lib.hid (own_keep hoK hgd0 (fun g _ => by simp))
      have HX := Lib.hid (hX.below hbd)
      have HZ := Lib.hid (hZ.below hbd)
      have HO := Lib.hid (hO.below hbd)
      have HC := Lib.hid (hC.below hbd)
      have HG := Lib.hid (grown_below hG hbd)
      have HBW : Hid (B ≤ wc.drew.heap.size) := hBW
      clear hns hks hkl hoN hoK hdis hX hZ hO hC hG hBW hbd hgd0
      go_region_law (first | (go_simp; go_at_call 55; refine (below_draw a len cap c (rs.length : Int) wc.drew hl (by omega) (by omega) HC.out).mono ?_; rintro e w5 ⟨y, hy, rfl, hc1, hg⟩; have HY := Lib.hid hy; replace HN := Lib.hid (own_keep HN.out hg (fun g hh => by intro e; injection e with e; have := (World.ownsRow.lt HN.out g hh).1; omega)); replace HK := Lib.hid (own_keep HK.out hg (fun g hh => by intro e; injection e with e; have := (World.ownsRow.lt HK.out g hh).1; omega)); replace HX := Lib.hid (HX.out.grown hg (by intro e; injection e with e; omega)); replace HZ := Lib.hid (HZ.out.grown hg (by intro e; injection e with e; omega)); replace HO := Lib.hid (HO.out.grown hg (by intro e; injection e with e; omega)); replace HG := Lib.hid (Lib.grownBy_trans HG.out hg); replace HBW := Lib.hid (Nat.le_trans HBW.out hg.size); replace HC := Lib.hid hc1; have o7b := (HO.out 7 _ rfl).1; have o7d := (HO.out.below ((Below.refl w5.heap.size w5).alloc (Nat.le_refl _) (.cells #[.int .i64 y] 3)) 7 _ rfl).1; clear hc1 hg hy) | (refine step_pushF (f := Value.int .i64) 74 3 (.int .i64 0) 8 Try.underlying74 infoInt rfl (by rfl) (.tmp 123) (.tmp 127) (by rfl) B vK ks y rfl w5 (by simp [Act.eval]) (by simp [Act.eval]) HK.out (by unfold maxLen; omega) (by omega) HBW.out ?_; intro v' w7 hown hg hblk; obtain ⟨x', c', rfl, -⟩ := own_row (f := Value.int .i64) hown; have HV := Lib.hid hown; have HG7 := Lib.hid hg; have HB7 := Lib.hid hblk; obtain ⟨o7e, p7e⟩ := HO.out.grown hg (by intro e; have := (World.ownsRow.lt HK.out N e.symm).1; omega) 7 _ rfl; clear hown hg hblk))
      all_goals (have hfin := Lib.hid (Seq7.kid (x := y) (by omega) hcw hN hNB hold.out HNS.out HKS.out hkl2.out HN.out HK.out HD.out HX.out HZ.out HO.out HC.out HG.out HBW.out HY.out (by have h := HV.out; rw [show (ks ++ [y]).length = ks.length + 1 from by simp] at h ⊢; exact h) HG7.out (by have h := HB7.out; rw [show (ks ++ [y]).length = ks.length + 1 from by simp] at h; exact h)); clear HNS HKS hkl2 HN HK HD HX HZ HO HC HG HBW HV HG7 HB7)
      all_goals go_wp2
      all_goals go_roundw
      all_goals first | exact ⟨j - 1, by omega, by congr 1; omega, hfin⟩ | exact ⟨j - 1, by omega, by rw [show ((j : Int) - 1) = ((j - 1 : Nat) : Int) from by omega], hfin⟩ | (simp [intOf]; omega)
end Go.Proofs.Ytefkhknfjohnaaa
