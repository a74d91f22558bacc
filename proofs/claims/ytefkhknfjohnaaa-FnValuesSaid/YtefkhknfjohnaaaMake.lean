/- Drawing rules: one more rule (l4Make), kinds 1, 3, 8, 9. -/
import Derived.Test.YtefkhknfjohnaaaGDr
import Derived.Deep.CutRange
namespace Go.Proofs.Ytefkhknfjohnaaa
open Go Go.RowKit
set_option maxRecDepth 100000 in
set_option maxHeartbeats 4000000 in
theorem make_3 (a : Option Addr) (len cap c base : Nat) (ad : Option Addr) (rs : List RuleV) (capd : Nat) (w : World) (hl : len ≤ 140737488355328) (hrs : rs.length ≤ 9) (hrow : RowR base (.slice ad rs.length capd) rs w) (hcb : c < base) (hbw : base ≤ w.heap.size) (hc : Cur a len cap c w) :
    Calls Try.prog 66 #[.pointer (some ⟨c, 0, none⟩), .agg #[.slice ad rs.length capd], .int .i64 3] w (MakeOut a len cap c rs 3 w) := by
  have hcw : c < w.heap.size := by omega
  have hold := Lib.hid hc.old
  have HROW := Lib.hid hrow
  obtain ⟨w0, hw0⟩ : ∃ w0, w0 = (w.alloc (.cells #[.slice ad rs.length capd] 38)).alloc (.cells #[.string ⟨#[]⟩, .int .i64 0, .int .i64 0, .bool false, .slice none 0 0, .slice none 0 0, .slice none 0 0, .slice none 0 0] 76) := ⟨_, rfl⟩
  have hB : Below w.heap.size w w0 := by subst hw0; exact ((Below.refl _ _).alloc (Nat.le_refl _) _).alloc (by simp) _
  have hX : CellsAt w.heap.size [.slice ad rs.length capd] w0 := by subst hw0; exact (CellsAt.new w _ _).below ((Below.refl _ _).alloc (Nat.le_refl _) _)
  have hZ : CellsAt (w.heap.size + 1) [.string ⟨#[]⟩, .int .i64 0, .int .i64 0, .bool false, .slice none 0 0, .slice none 0 0, .slice none 0 0, .slice none 0 0] w0 := by
    subst hw0
    have h1 := CellsAt.new (w.alloc (.cells #[.slice ad rs.length capd] 38)) [.string ⟨#[]⟩, .int .i64 0, .int .i64 0, .bool false, .slice none 0 0, .slice none 0 0, .slice none 0 0, .slice none 0 0] 76
    simpa using h1
  have hs0 : Hid (w0.heap.size = w.heap.size + 2) := by subst hw0; show _ = _; simp
  have HC := Lib.hid (hc.below hB)
  have HG : Hid (w.grownBy w0 (some c)) := grown_of hB
  have HX := Lib.hid hX
  have HZ := Lib.hid hZ
  have hW := Lib.hid hw0
  clear hc hB hX hZ hw0 hrow
  go_enter Try.func66, Try.ntmps66
  go_wp2_with fail
  rw [← hW.out, show w.heap.size + 1 + 1 = w0.heap.size from by rw [hs0.out]]
  clear hW
  refine (str_pick a len cap c 5 [⟨#[97]⟩, ⟨#[105, 116, 101, 109]⟩, ⟨#[98]⟩, ⟨#[104, 101, 97, 100]⟩, ⟨#[120]⟩] _ rfl rfl w0 hl (by omega) (by omega) HC.out).mono ?_
  rintro e w1 ⟨s, hs, rfl, hc1, hg⟩
  replace HG := Lib.hid (Lib.grownBy_trans HG.out hg)
  replace HX := Lib.hid (HX.out.grown hg (by intro e; injection e with e; omega))
  replace HZ := Lib.hid (HZ.out.grown hg (by intro e; injection e with e; omega))
  replace HC := Lib.hid hc1
  have hs1 := Lib.hid hg.size
  clear hc1 hg
  have hss : s.size ≤ 4 := base_size hs
  have hsb := Lib.hid hs
  clear hs
  go_wp2_with fail
  refine (fmt_spec (rs.length : Int) _ (by omega) (by omega)).mono ?_
  rintro e w2 ⟨rfl, hb⟩
  replace HG := Lib.hid (grown_below HG.out hb)
  replace HC := Lib.hid (HC.out.below hb)
  replace HX := Lib.hid (HX.out.below hb)
  replace HZ := Lib.hid (HZ.out.below hb)
  have hs2 := Lib.hid hb.size
  clear hb
  have hd1 : (digitS rs.length).size = 1 := digit_one ⟨rs.length, by omega⟩
  have hadd := addS w2 s (digitS rs.length) (by omega)
  obtain ⟨nm, hnm⟩ : ∃ nm, nm = s ++ digitS rs.length := ⟨_, rfl⟩
  rw [← hnm] at hadd
  have HNM := Lib.hid hnm
  clear hnm
  unfold digitS at hadd
  go_upto_region 10 with fail
  clear hadd
  obtain ⟨w3, hw3⟩ : ∃ w3, w3 = w2.alloc (.cells #[.string nm, .int .i64 3, .int .i64 0, .bool false, .slice none 0 0, .slice none 0 0, .slice none 0 0, .slice none 0 0] 76) := ⟨_, rfl⟩
  rw [← hw3]
  have hb : Below w2.heap.size w2 w3 := by subst hw3; exact (Below.refl _ _).alloc (Nat.le_refl _) _
  have hO : CellsAt w2.heap.size [.string nm, .int .i64 3, .int .i64 0, .bool false, .slice none 0 0, .slice none 0 0, .slice none 0 0, .slice none 0 0] w3 := by subst hw3; exact CellsAt.new w2 _ _
  replace HG := Lib.hid (grown_below HG.out hb)
  replace HC := Lib.hid (HC.out.below hb)
  replace HX := Lib.hid (HX.out.below hb)
  replace HZ := Lib.hid (HZ.out.below hb)
  have HO := Lib.hid hO
  have hN : w.heap.size + 2 ≤ w2.heap.size := by have := hs0.out; have := hs1.out; have := hs2.out; omega
  have hs3 : Hid (w2.heap.size < w3.heap.size) := cell_lt (hO 0 _ rfl).1
  clear hb hO hw3 hs0 hs1 hs2
  obtain ⟨N, hNN⟩ : ∃ N, N = w2.heap.size := ⟨_, rfl⟩
  rw [← hNN] at HO hN hs3 ⊢
  clear hNN
  go_wp2_with fail
  refine (below_draw a len cap c 4 _ hl (by omega) (by omega) HC.out).mono ?_
  rintro e w4 ⟨x, hx, rfl, hc1, hg⟩
  replace HG := Lib.hid (Lib.grownBy_trans HG.out hg)
  replace HX := Lib.hid (HX.out.grown hg (by intro e; injection e with e; omega))
  replace HZ := Lib.hid (HZ.out.grown hg (by intro e; injection e with e; omega))
  replace HO := Lib.hid (HO.out.grown hg (by intro e; injection e with e; omega))
  replace HC := Lib.hid hc1
  clear hc1 hg
  obtain ⟨x0, x1⟩ := hx
  obtain ⟨o2, p2⟩ := HO.out 2 _ rfl
  go_upto_region 33 with fail
  clear o2 p2
  obtain ⟨w5, hv⟩ : ∃ v, v = w4.setCell ⟨N, 2, none⟩ (.int .i64 (1 + x)) := ⟨_, rfl⟩
  rw [← hv]
  replace HO := Lib.hid (HO.out.set 2 (.int .i64 (1 + x)) (by simp))
  rw [← hv] at HO
  simp only [List.set] at HO
  replace HX := Lib.hid (HX.out.far (b' := N) (j := 2) (v := .int .i64 (1 + x)) (by omega))
  rw [← hv] at HX
  replace HZ := Lib.hid (HZ.out.far (b' := N) (j := 2) (v := .int .i64 (1 + x)) (by omega))
  rw [← hv] at HZ
  replace HC := Lib.hid (HC.out.put (q := N) (i := 2) (v := .int .i64 (1 + x)) (by omega) (fun b off ha hl => by have := hold.out b off ha hl; omega))
  rw [← hv] at HC
  replace HG := Lib.hid (grown_put (q := N) (i := 2) (v := .int .i64 (1 + x)) HG.out (by omega))
  rw [← hv] at HG
  clear hv
  obtain ⟨o0, -⟩ := HO.out 0 _ rfl
  obtain ⟨o1, -⟩ := HO.out 1 _ rfl
  obtain ⟨o2, -⟩ := HO.out 2 _ rfl
  obtain ⟨o3, -⟩ := HO.out 3 _ rfl
  obtain ⟨o4, -⟩ := HO.out 4 _ rfl
  obtain ⟨o5, -⟩ := HO.out 5 _ rfl
  obtain ⟨o6, -⟩ := HO.out 6 _ rfl
  obtain ⟨o7, -⟩ := HO.out 7 _ rfl
  obtain ⟨z0, t0⟩ := HZ.out 0 _ rfl
  obtain ⟨z1, t1⟩ := HZ.out 1 _ rfl
  obtain ⟨z2, t2⟩ := HZ.out 2 _ rfl
  obtain ⟨z3, t3⟩ := HZ.out 3 _ rfl
  obtain ⟨z4, t4⟩ := HZ.out 4 _ rfl
  obtain ⟨z5, t5⟩ := HZ.out 5 _ rfl
  obtain ⟨z6, t6⟩ := HZ.out 6 _ rfl
  obtain ⟨z7, t7⟩ := HZ.out 7 _ rfl
  have hmk : Hid (MakeP a len cap c ⟨nm, 3, 1 + x, false, [], [], [], []⟩ [.string nm, .int .i64 3, .int .i64 (1 + x), .bool false, .slice none 0 0, .slice none 0 0, .slice none 0 0, .slice none 0 0] w _) := ⟨OwnedR.empty _ _ _ _ _ _, HC.out, HG.out⟩
  have hbl : Hid (∀ b ∈ ([.string nm, .int .i64 3, .int .i64 (1 + x), .bool false, .slice none 0 0, .slice none 0 0, .slice none 0 0, .slice none 0 0] : List Value).flatMap sliceBlk, w.heap.size + 2 ≤ b) := fun b hb => by simp [sliceBlk] at hb
  have hcp : Hid (CapK [.string nm, .int .i64 3, .int .i64 (1 + x), .bool false, .slice none 0 0, .slice none 0 0, .slice none 0 0, .slice none 0 0]) := ⟨(fun a n c h => by simp at h; obtain ⟨_, rfl, rfl⟩ := h; exact Nat.le_refl _), (fun a n c h => by simp at h; obtain ⟨_, rfl, rfl⟩ := h; first | exact Nat.le_refl _ | exact HRK.out.2.1)⟩
  have hmd : Hid (MadeR rs ⟨nm, 3, 1 + x, false, [], [], [], []⟩) := ⟨⟨s, hsb.out, HNM.out⟩, by simp [kidsB], by simp [kindI, meetsB, onlyR, sameR]; omega⟩
  go_wp2
  (try simp only [Exit.inBlock, Exit.then])
  refine bodyPost_ret (v := .agg #[.string nm, .int .i64 3, .int .i64 (1 + x), .bool false, .slice none 0 0, .slice none 0 0, .slice none 0 0, .slice none 0 0]) ?_ rfl ?_
  · simp [results, Try.results66, go_sem, z0, z1, z2, z3, z4, z5, z6, z7]
  · exact ⟨_, _, rfl, ⟨hmd.out, rfl⟩, hcp.out, fun b hb => by have := hbl.out b hb; omega, ((((((((hmk.out.put hbl.out hcw hold.out 0 _).put hbl.out hcw hold.out 1 _).put hbl.out hcw hold.out 2 _).put hbl.out hcw hold.out 3 _).put hbl.out hcw hold.out 4 _).put hbl.out hcw hold.out 5 _).put hbl.out hcw hold.out 6 _).put hbl.out hcw hold.out 7 _)⟩
set_option maxRecDepth 100000 in
set_option maxHeartbeats 4000000 in
theorem make_1 (a : Option Addr) (len cap c base : Nat) (ad : Option Addr) (rs : List RuleV) (capd : Nat) (w : World) (hl : len ≤ 140737488355328) (hrs : rs.length ≤ 9) (hrow : RowR base (.slice ad rs.length capd) rs w) (hcb : c < base) (hbw : base ≤ w.heap.size) (hc : Cur a len cap c w) :
    Calls Try.prog 66 #[.pointer (some ⟨c, 0, none⟩), .agg #[.slice ad rs.length capd], .int .i64 1] w (MakeOut a len cap c rs 1 w) := by
  have hcw : c < w.heap.size := by omega
  have hold := Lib.hid hc.old
  have HROW := Lib.hid hrow
  obtain ⟨w0, hw0⟩ : ∃ w0, w0 = (w.alloc (.cells #[.slice ad rs.length capd] 38)).alloc (.cells #[.string ⟨#[]⟩, .int .i64 0, .int .i64 0, .bool false, .slice none 0 0, .slice none 0 0, .slice none 0 0, .slice none 0 0] 76) := ⟨_, rfl⟩
  have hB : Below w.heap.size w w0 := by subst hw0; exact ((Below.refl _ _).alloc (Nat.le_refl _) _).alloc (by simp) _
  have hX : CellsAt w.heap.size [.slice ad rs.length capd] w0 := by subst hw0; exact (CellsAt.new w _ _).below ((Below.refl _ _).alloc (Nat.le_refl _) _)
  have hZ : CellsAt (w.heap.size + 1) [.string ⟨#[]⟩, .int .i64 0, .int .i64 0, .bool false, .slice none 0 0, .slice none 0 0, .slice none 0 0, .slice none 0 0] w0 := by
    subst hw0
    have h1 := CellsAt.new (w.alloc (.cells #[.slice ad rs.length capd] 38)) [.string ⟨#[]⟩, .int .i64 0, .int .i64 0, .bool false, .slice none 0 0, .slice none 0 0, .slice none 0 0, .slice none 0 0] 76
    simpa using h1
  have hs0 : Hid (w0.heap.size = w.heap.size + 2) := by subst hw0; show _ = _; simp
  have HC := Lib.hid (hc.below hB)
  have HG : Hid (w.grownBy w0 (some c)) := grown_of hB
  have HX := Lib.hid hX
  have HZ := Lib.hid hZ
  have hW := Lib.hid hw0
  clear hc hB hX hZ hw0 hrow
  go_enter Try.func66, Try.ntmps66
  go_wp2_with fail
  rw [← hW.out, show w.heap.size + 1 + 1 = w0.heap.size from by rw [hs0.out]]
  clear hW
  refine (str_pick a len cap c 5 [⟨#[97]⟩, ⟨#[105, 116, 101, 109]⟩, ⟨#[98]⟩, ⟨#[104, 101, 97, 100]⟩, ⟨#[120]⟩] _ rfl rfl w0 hl (by omega) (by omega) HC.out).mono ?_
  rintro e w1 ⟨s, hs, rfl, hc1, hg⟩
  replace HG := Lib.hid (Lib.grownBy_trans HG.out hg)
  replace HX := Lib.hid (HX.out.grown hg (by intro e; injection e with e; omega))
  replace HZ := Lib.hid (HZ.out.grown hg (by intro e; injection e with e; omega))
  replace HC := Lib.hid hc1
  have hs1 := Lib.hid hg.size
  clear hc1 hg
  have hss : s.size ≤ 4 := base_size hs
  have hsb := Lib.hid hs
  clear hs
  go_wp2_with fail
  refine (fmt_spec (rs.length : Int) _ (by omega) (by omega)).mono ?_
  rintro e w2 ⟨rfl, hb⟩
  replace HG := Lib.hid (grown_below HG.out hb)
  replace HC := Lib.hid (HC.out.below hb)
  replace HX := Lib.hid (HX.out.below hb)
  replace HZ := Lib.hid (HZ.out.below hb)
  have hs2 := Lib.hid hb.size
  clear hb
  have hd1 : (digitS rs.length).size = 1 := digit_one ⟨rs.length, by omega⟩
  have hadd := addS w2 s (digitS rs.length) (by omega)
  obtain ⟨nm, hnm⟩ : ∃ nm, nm = s ++ digitS rs.length := ⟨_, rfl⟩
  rw [← hnm] at hadd
  have HNM := Lib.hid hnm
  clear hnm
  unfold digitS at hadd
  go_upto_region 5 with fail
  clear hadd
  obtain ⟨w3, hw3⟩ : ∃ w3, w3 = w2.alloc (.cells #[.string nm, .int .i64 1, .int .i64 0, .bool false, .slice none 0 0, .slice none 0 0, .slice none 0 0, .slice none 0 0] 76) := ⟨_, rfl⟩
  rw [← hw3]
  have hb : Below w2.heap.size w2 w3 := by subst hw3; exact (Below.refl _ _).alloc (Nat.le_refl _) _
  have hO : CellsAt w2.heap.size [.string nm, .int .i64 1, .int .i64 0, .bool false, .slice none 0 0, .slice none 0 0, .slice none 0 0, .slice none 0 0] w3 := by subst hw3; exact CellsAt.new w2 _ _
  replace HG := Lib.hid (grown_below HG.out hb)
  replace HC := Lib.hid (HC.out.below hb)
  replace HX := Lib.hid (HX.out.below hb)
  replace HZ := Lib.hid (HZ.out.below hb)
  have HO := Lib.hid hO
  have hN : w.heap.size + 2 ≤ w2.heap.size := by have := hs0.out; have := hs1.out; have := hs2.out; omega
  have hs3 : Hid (w2.heap.size < w3.heap.size) := cell_lt (hO 0 _ rfl).1
  clear hb hO hw3 hs0 hs1 hs2
  obtain ⟨N, hNN⟩ : ∃ N, N = w2.heap.size := ⟨_, rfl⟩
  rw [← hNN] at HO hN hs3 ⊢
  clear hNN
  go_wp2_with fail
  refine (below_draw a len cap c 3 _ hl (by omega) (by omega) HC.out).mono ?_
  rintro e w4 ⟨x, hx, rfl, hc1, hg⟩
  replace HG := Lib.hid (Lib.grownBy_trans HG.out hg)
  replace HX := Lib.hid (HX.out.grown hg (by intro e; injection e with e; omega))
  replace HZ := Lib.hid (HZ.out.grown hg (by intro e; injection e with e; omega))
  replace HO := Lib.hid (HO.out.grown hg (by intro e; injection e with e; omega))
  replace HC := Lib.hid hc1
  clear hc1 hg
  obtain ⟨x0, x1⟩ := hx
  obtain ⟨o2, p2⟩ := HO.out 2 _ rfl
  go_upto_region 6 with fail
  clear o2 p2
  obtain ⟨w5, hv⟩ : ∃ v, v = w4.setCell ⟨N, 2, none⟩ (.int .i64 (1 + x)) := ⟨_, rfl⟩
  rw [← hv]
  replace HO := Lib.hid (HO.out.set 2 (.int .i64 (1 + x)) (by simp))
  rw [← hv] at HO
  simp only [List.set] at HO
  replace HX := Lib.hid (HX.out.far (b' := N) (j := 2) (v := .int .i64 (1 + x)) (by omega))
  rw [← hv] at HX
  replace HZ := Lib.hid (HZ.out.far (b' := N) (j := 2) (v := .int .i64 (1 + x)) (by omega))
  rw [← hv] at HZ
  replace HC := Lib.hid (HC.out.put (q := N) (i := 2) (v := .int .i64 (1 + x)) (by omega) (fun b off ha hl => by have := hold.out b off ha hl; omega))
  rw [← hv] at HC
  replace HG := Lib.hid (grown_put (q := N) (i := 2) (v := .int .i64 (1 + x)) HG.out (by omega))
  rw [← hv] at HG
  clear hv
  obtain ⟨o2, p2⟩ := HO.out 2 _ rfl
  obtain ⟨o3, p3⟩ := HO.out 3 _ rfl
  by_cases hx : 1 < 1 + x
  case neg =>
    have g1 : decide ((1 : Int) < 1 + x) = false := decide_eq_false hx
    go_upto_region 33 with fail
    clear o2 p2 o3 p3
    obtain ⟨w6, hv⟩ : ∃ v, v = w5.setCell ⟨N, 3, none⟩ (.bool false) := ⟨_, rfl⟩
    rw [← hv]
    replace HO := Lib.hid (HO.out.set 3 (.bool false) (by simp))
    rw [← hv] at HO
    simp only [List.set] at HO
    replace HX := Lib.hid (HX.out.far (b' := N) (j := 3) (v := .bool false) (by omega))
    rw [← hv] at HX
    replace HZ := Lib.hid (HZ.out.far (b' := N) (j := 3) (v := .bool false) (by omega))
    rw [← hv] at HZ
    replace HC := Lib.hid (HC.out.put (q := N) (i := 3) (v := .bool false) (by omega) (fun b off ha hl => by have := hold.out b off ha hl; omega))
    rw [← hv] at HC
    replace HG := Lib.hid (grown_put (q := N) (i := 3) (v := .bool false) HG.out (by omega))
    rw [← hv] at HG
    clear hv
    obtain ⟨o0, -⟩ := HO.out 0 _ rfl
    obtain ⟨o1, -⟩ := HO.out 1 _ rfl
    obtain ⟨o2, -⟩ := HO.out 2 _ rfl
    obtain ⟨o3, -⟩ := HO.out 3 _ rfl
    obtain ⟨o4, -⟩ := HO.out 4 _ rfl
    obtain ⟨o5, -⟩ := HO.out 5 _ rfl
    obtain ⟨o6, -⟩ := HO.out 6 _ rfl
    obtain ⟨o7, -⟩ := HO.out 7 _ rfl
    obtain ⟨z0, t0⟩ := HZ.out 0 _ rfl
    obtain ⟨z1, t1⟩ := HZ.out 1 _ rfl
    obtain ⟨z2, t2⟩ := HZ.out 2 _ rfl
    obtain ⟨z3, t3⟩ := HZ.out 3 _ rfl
    obtain ⟨z4, t4⟩ := HZ.out 4 _ rfl
    obtain ⟨z5, t5⟩ := HZ.out 5 _ rfl
    obtain ⟨z6, t6⟩ := HZ.out 6 _ rfl
    obtain ⟨z7, t7⟩ := HZ.out 7 _ rfl
    have hmk : Hid (MakeP a len cap c ⟨nm, 1, 1 + x, false, [], [], [], []⟩ [.string nm, .int .i64 1, .int .i64 (1 + x), .bool false, .slice none 0 0, .slice none 0 0, .slice none 0 0, .slice none 0 0] w _) := ⟨OwnedR.empty _ _ _ _ _ _, HC.out, HG.out⟩
    have hbl : Hid (∀ b ∈ ([.string nm, .int .i64 1, .int .i64 (1 + x), .bool false, .slice none 0 0, .slice none 0 0, .slice none 0 0, .slice none 0 0] : List Value).flatMap sliceBlk, w.heap.size + 2 ≤ b) := fun b hb => by simp [sliceBlk] at hb
    have hcp : Hid (CapK [.string nm, .int .i64 1, .int .i64 (1 + x), .bool false, .slice none 0 0, .slice none 0 0, .slice none 0 0, .slice none 0 0]) := ⟨(fun a n c h => by simp at h; obtain ⟨_, rfl, rfl⟩ := h; exact Nat.le_refl _), (fun a n c h => by simp at h; obtain ⟨_, rfl, rfl⟩ := h; first | exact Nat.le_refl _ | exact HRK.out.2.1)⟩
    have hmd : Hid (MadeR rs ⟨nm, 1, 1 + x, false, [], [], [], []⟩) := ⟨⟨s, hsb.out, HNM.out⟩, by simp [kidsB], by simp [kindI, meetsB, onlyR, sameR]; omega⟩
    go_wp2
    (try simp only [Exit.inBlock, Exit.then])
    refine bodyPost_ret (v := .agg #[.string nm, .int .i64 1, .int .i64 (1 + x), .bool false, .slice none 0 0, .slice none 0 0, .slice none 0 0, .slice none 0 0]) ?_ rfl ?_
    · simp [results, Try.results66, go_sem, z0, z1, z2, z3, z4, z5, z6, z7]
    · exact ⟨_, _, rfl, ⟨hmd.out, rfl⟩, hcp.out, fun b hb => by have := hbl.out b hb; omega, ((((((((hmk.out.put hbl.out hcw hold.out 0 _).put hbl.out hcw hold.out 1 _).put hbl.out hcw hold.out 2 _).put hbl.out hcw hold.out 3 _).put hbl.out hcw hold.out 4 _).put hbl.out hcw hold.out 5 _).put hbl.out hcw hold.out 6 _).put hbl.out hcw hold.out 7 _)⟩
  have g1 : decide ((1 : Int) < 1 + x) = true := decide_eq_true hx
  go_wp2_with fail
  refine (once_draw a len cap c 2 _ hl (by omega) (by omega) HC.out).mono ?_
  rintro e w6 ⟨y, rfl, hc1, hg⟩
  replace HG := Lib.hid (Lib.grownBy_trans HG.out hg)
  replace HX := Lib.hid (HX.out.grown hg (by intro e; injection e with e; omega))
  replace HZ := Lib.hid (HZ.out.grown hg (by intro e; injection e with e; omega))
  replace HO := Lib.hid (HO.out.grown hg (by intro e; injection e with e; omega))
  replace HC := Lib.hid hc1
  clear hc1 hg o2 p2 o3 p3
  obtain ⟨o3, p3⟩ := HO.out 3 _ rfl
  go_upto_region 33 with fail
  clear o3 p3
  obtain ⟨w7, hv⟩ : ∃ v, v = w6.setCell ⟨N, 3, none⟩ (.bool y) := ⟨_, rfl⟩
  rw [← hv]
  replace HO := Lib.hid (HO.out.set 3 (.bool y) (by simp))
  rw [← hv] at HO
  simp only [List.set] at HO
  replace HX := Lib.hid (HX.out.far (b' := N) (j := 3) (v := .bool y) (by omega))
  rw [← hv] at HX
  replace HZ := Lib.hid (HZ.out.far (b' := N) (j := 3) (v := .bool y) (by omega))
  rw [← hv] at HZ
  replace HC := Lib.hid (HC.out.put (q := N) (i := 3) (v := .bool y) (by omega) (fun b off ha hl => by have := hold.out b off ha hl; omega))
  rw [← hv] at HC
  replace HG := Lib.hid (grown_put (q := N) (i := 3) (v := .bool y) HG.out (by omega))
  rw [← hv] at HG
  clear hv
  obtain ⟨o0, -⟩ := HO.out 0 _ rfl
  obtain ⟨o1, -⟩ := HO.out 1 _ rfl
  obtain ⟨o2, -⟩ := HO.out 2 _ rfl
  obtain ⟨o3, -⟩ := HO.out 3 _ rfl
  obtain ⟨o4, -⟩ := HO.out 4 _ rfl
  obtain ⟨o5, -⟩ := HO.out 5 _ rfl
  obtain ⟨o6, -⟩ := HO.out 6 _ rfl
  obtain ⟨o7, -⟩ := HO.out 7 _ rfl
  obtain ⟨z0, t0⟩ := HZ.out 0 _ rfl
  obtain ⟨z1, t1⟩ := HZ.out 1 _ rfl
  obtain ⟨z2, t2⟩ := HZ.out 2 _ rfl
  obtain ⟨z3, t3⟩ := HZ.out 3 _ rfl
  obtain ⟨z4, t4⟩ := HZ.out 4 _ rfl
  obtain ⟨z5, t5⟩ := HZ.out 5 _ rfl
  obtain ⟨z6, t6⟩ := HZ.out 6 _ rfl
  obtain ⟨z7, t7⟩ := HZ.out 7 _ rfl
  have hmk : Hid (MakeP a len cap c ⟨nm, 1, 1 + x, y, [], [], [], []⟩ [.string nm, .int .i64 1, .int .i64 (1 + x), .bool y, .slice none 0 0, .slice none 0 0, .slice none 0 0, .slice none 0 0] w _) := ⟨OwnedR.empty _ _ _ _ _ _, HC.out, HG.out⟩
  have hbl : Hid (∀ b ∈ ([.string nm, .int .i64 1, .int .i64 (1 + x), .bool y, .slice none 0 0, .slice none 0 0, .slice none 0 0, .slice none 0 0] : List Value).flatMap sliceBlk, w.heap.size + 2 ≤ b) := fun b hb => by simp [sliceBlk] at hb
  have hcp : Hid (CapK [.string nm, .int .i64 1, .int .i64 (1 + x), .bool y, .slice none 0 0, .slice none 0 0, .slice none 0 0, .slice none 0 0]) := ⟨(fun a n c h => by simp at h; obtain ⟨_, rfl, rfl⟩ := h; exact Nat.le_refl _), (fun a n c h => by simp at h; obtain ⟨_, rfl, rfl⟩ := h; first | exact Nat.le_refl _ | exact HRK.out.2.1)⟩
  have hmd : Hid (MadeR rs ⟨nm, 1, 1 + x, y, [], [], [], []⟩) := ⟨⟨s, hsb.out, HNM.out⟩, by simp [kidsB], by simp [kindI, meetsB, onlyR, sameR]; omega⟩
  go_wp2
  (try simp only [Exit.inBlock, Exit.then])
  refine bodyPost_ret (v := .agg #[.string nm, .int .i64 1, .int .i64 (1 + x), .bool y, .slice none 0 0, .slice none 0 0, .slice none 0 0, .slice none 0 0]) ?_ rfl ?_
  · simp [results, Try.results66, go_sem, z0, z1, z2, z3, z4, z5, z6, z7]
  · exact ⟨_, _, rfl, ⟨hmd.out, rfl⟩, hcp.out, fun b hb => by have := hbl.out b hb; omega, ((((((((hmk.out.put hbl.out hcw hold.out 0 _).put hbl.out hcw hold.out 1 _).put hbl.out hcw hold.out 2 _).put hbl.out hcw hold.out 3 _).put hbl.out hcw hold.out 4 _).put hbl.out hcw hold.out 5 _).put hbl.out hcw hold.out 6 _).put hbl.out hcw hold.out 7 _)⟩
set_option maxRecDepth 100000 in
set_option maxHeartbeats 4000000 in
theorem make_8 (a : Option Addr) (len cap c base : Nat) (ad : Option Addr) (rs : List RuleV) (capd : Nat) (w : World) (hl : len ≤ 140737488355328) (hrs : rs.length ≤ 9) (h0 : 0 < rs.length) (hk0 : rs[0].kind = 1) (hrow : RowR base (.slice ad rs.length capd) rs w) (hcb : c < base) (hbw : base ≤ w.heap.size) (hc : Cur a len cap c w) :
    Calls Try.prog 66 #[.pointer (some ⟨c, 0, none⟩), .agg #[.slice ad rs.length capd], .int .i64 8] w (MakeOut a len cap c rs 8 w) := by
  have hcw : c < w.heap.size := by omega
  have hold := Lib.hid hc.old
  have HROW := Lib.hid hrow
  obtain ⟨w0, hw0⟩ : ∃ w0, w0 = (w.alloc (.cells #[.slice ad rs.length capd] 38)).alloc (.cells #[.string ⟨#[]⟩, .int .i64 0, .int .i64 0, .bool false, .slice none 0 0, .slice none 0 0, .slice none 0 0, .slice none 0 0] 76) := ⟨_, rfl⟩
  have hB : Below w.heap.size w w0 := by subst hw0; exact ((Below.refl _ _).alloc (Nat.le_refl _) _).alloc (by simp) _
  have hX : CellsAt w.heap.size [.slice ad rs.length capd] w0 := by subst hw0; exact (CellsAt.new w _ _).below ((Below.refl _ _).alloc (Nat.le_refl _) _)
  have hZ : CellsAt (w.heap.size + 1) [.string ⟨#[]⟩, .int .i64 0, .int .i64 0, .bool false, .slice none 0 0, .slice none 0 0, .slice none 0 0, .slice none 0 0] w0 := by
    subst hw0
    have h1 := CellsAt.new (w.alloc (.cells #[.slice ad rs.length capd] 38)) [.string ⟨#[]⟩, .int .i64 0, .int .i64 0, .bool false, .slice none 0 0, .slice none 0 0, .slice none 0 0, .slice none 0 0] 76
    simpa using h1
  have hs0 : Hid (w0.heap.size = w.heap.size + 2) := by subst hw0; show _ = _; simp
  have HC := Lib.hid (hc.below hB)
  have HG : Hid (w.grownBy w0 (some c)) := grown_of hB
  have HX := Lib.hid hX
  have HZ := Lib.hid hZ
  have hW := Lib.hid hw0
  clear hc hB hX hZ hw0 hrow
  go_enter Try.func66, Try.ntmps66
  go_wp2_with fail
  rw [← hW.out, show w.heap.size + 1 + 1 = w0.heap.size from by rw [hs0.out]]
  clear hW
  refine (str_pick a len cap c 5 [⟨#[97]⟩, ⟨#[105, 116, 101, 109]⟩, ⟨#[98]⟩, ⟨#[104, 101, 97, 100]⟩, ⟨#[120]⟩] _ rfl rfl w0 hl (by omega) (by omega) HC.out).mono ?_
  rintro e w1 ⟨s, hs, rfl, hc1, hg⟩
  replace HG := Lib.hid (Lib.grownBy_trans HG.out hg)
  replace HX := Lib.hid (HX.out.grown hg (by intro e; injection e with e; omega))
  replace HZ := Lib.hid (HZ.out.grown hg (by intro e; injection e with e; omega))
  replace HC := Lib.hid hc1
  have hs1 := Lib.hid hg.size
  clear hc1 hg
  have hss : s.size ≤ 4 := base_size hs
  have hsb := Lib.hid hs
  clear hs
  go_wp2_with fail
  refine (fmt_spec (rs.length : Int) _ (by omega) (by omega)).mono ?_
  rintro e w2 ⟨rfl, hb⟩
  replace HG := Lib.hid (grown_below HG.out hb)
  replace HC := Lib.hid (HC.out.below hb)
  replace HX := Lib.hid (HX.out.below hb)
  replace HZ := Lib.hid (HZ.out.below hb)
  have hs2 := Lib.hid hb.size
  clear hb
  have hd1 : (digitS rs.length).size = 1 := digit_one ⟨rs.length, by omega⟩
  have hadd := addS w2 s (digitS rs.length) (by omega)
  obtain ⟨nm, hnm⟩ : ∃ nm, nm = s ++ digitS rs.length := ⟨_, rfl⟩
  rw [← hnm] at hadd
  have HNM := Lib.hid hnm
  clear hnm
  unfold digitS at hadd
  go_upto_region 30 with fail
  clear hadd
  obtain ⟨w3, hw3⟩ : ∃ w3, w3 = w2.alloc (.cells #[.string nm, .int .i64 8, .int .i64 0, .bool false, .slice none 0 0, .slice none 0 0, .slice none 0 0, .slice none 0 0] 76) := ⟨_, rfl⟩
  rw [← hw3]
  have hb : Below w2.heap.size w2 w3 := by subst hw3; exact (Below.refl _ _).alloc (Nat.le_refl _) _
  have hO : CellsAt w2.heap.size [.string nm, .int .i64 8, .int .i64 0, .bool false, .slice none 0 0, .slice none 0 0, .slice none 0 0, .slice none 0 0] w3 := by subst hw3; exact CellsAt.new w2 _ _
  replace HG := Lib.hid (grown_below HG.out hb)
  replace HC := Lib.hid (HC.out.below hb)
  replace HX := Lib.hid (HX.out.below hb)
  replace HZ := Lib.hid (HZ.out.below hb)
  have HO := Lib.hid hO
  have hN : w.heap.size + 2 ≤ w2.heap.size := by have := hs0.out; have := hs1.out; have := hs2.out; omega
  have hs3 : Hid (w2.heap.size < w3.heap.size) := cell_lt (hO 0 _ rfl).1
  clear hb hO hw3 hs0 hs1 hs2
  obtain ⟨N, hNN⟩ : ∃ N, N = w2.heap.size := ⟨_, rfl⟩
  rw [← hNN] at HO hN hs3 ⊢
  clear hNN
  have _ := hk0
  go_wp2_with fail
  refine (below_draw a len cap c (rs.length : Int) _ hl (by omega) (by omega) HC.out).mono ?_
  rintro e w4 ⟨x, hx, rfl, hc1, hg⟩
  replace HG := Lib.hid (Lib.grownBy_trans HG.out hg)
  replace HX := Lib.hid (HX.out.grown hg (by intro e; injection e with e; omega))
  replace HZ := Lib.hid (HZ.out.grown hg (by intro e; injection e with e; omega))
  replace HO := Lib.hid (HO.out.grown hg (by intro e; injection e with e; omega))
  replace HC := Lib.hid hc1
  clear hc1 hg
  obtain ⟨x0, x1⟩ := hx
  have hsz : N < w4.heap.size := cell_lt (HO.out 0 _ rfl).1
  have hbl0 : Below w4.heap.size w4 (w4.alloc (.cells #[.int .i64 x] 3)) := (Below.refl _ _).alloc (Nat.le_refl _) _
  obtain ⟨o7, p7⟩ := HO.out.below hbl0 7 _ rfl
  clear hbl0
  go_upto_region 33 with fail
  clear o7 p7
  have hKN : Hid (w4.heap.size ≠ N ∧ w.heap.size + 2 ≤ w4.heap.size) := ⟨by omega, by omega⟩
  have hszl : (w4.setCell ⟨N, 7, none⟩ (.slice (some ⟨w4.heap.size, 0, none⟩) 1 1)).heap.size = w4.heap.size := by simp
  obtain ⟨w5l, hv⟩ : ∃ v, v = w4.setCell ⟨N, 7, none⟩ (.slice (some ⟨w4.heap.size, 0, none⟩) 1 1) := ⟨_, rfl⟩
  rw [← hv]
  (try rw [← hv] at hszl)
  replace HO := Lib.hid (HO.out.set 7 (.slice (some ⟨w4.heap.size, 0, none⟩) 1 1) (by simp))
  rw [← hv] at HO
  simp only [List.set] at HO
  replace HX := Lib.hid (HX.out.far (b' := N) (j := 7) (v := .slice (some ⟨w4.heap.size, 0, none⟩) 1 1) (by omega))
  rw [← hv] at HX
  replace HZ := Lib.hid (HZ.out.far (b' := N) (j := 7) (v := .slice (some ⟨w4.heap.size, 0, none⟩) 1 1) (by omega))
  rw [← hv] at HZ
  replace HC := Lib.hid (HC.out.put (q := N) (i := 7) (v := .slice (some ⟨w4.heap.size, 0, none⟩) 1 1) (by omega) (fun b off ha hl => by have := hold.out b off ha hl; omega))
  rw [← hv] at HC
  replace HG := Lib.hid (grown_put (q := N) (i := 7) (v := .slice (some ⟨w4.heap.size, 0, none⟩) 1 1) HG.out (by omega))
  rw [← hv] at HG
  clear hv
  obtain ⟨w5, hvl⟩ : ∃ v, v = w5l.alloc (.cells #[.int .i64 x] 3) := ⟨_, rfl⟩
  rw [← hvl]
  have hb : Below w5l.heap.size w5l w5 := by subst hvl; exact (Below.refl _ _).alloc (Nat.le_refl _) _
  have hK : CellsAt w5l.heap.size [.int .i64 x] w5 := by subst hvl; exact CellsAt.new w5l _ _
  rw [hszl] at hK
  have HK2 := Lib.hid hK
  replace HG := Lib.hid (grown_below HG.out hb)
  replace HC := Lib.hid (HC.out.below hb)
  replace HX := Lib.hid (HX.out.below hb)
  replace HZ := Lib.hid (HZ.out.below hb)
  replace HO := Lib.hid (HO.out.below hb)
  have HOW : Hid (w5.ownsRow (w.heap.size + 2) 3 1 (.slice (some ⟨w4.heap.size, 0, none⟩) 1 1) [x].length ([x].map (Value.int .i64))) := by show World.ownsRow _ _ _ _ _ _ _; subst hvl; rw [← hszl]; exact own_lits (f := (Value.int .i64)) w5l _ 3 [x] (by rw [hszl]; exact hKN.out.2) (by show 1 ≤ maxLen; decide)
  clear hb hK hvl hszl
  have hkr : Hid (RdI (some ⟨w4.heap.size, 0, none⟩) [x] w5) := fun j hj => by
    obtain rfl : j = 0 := by simpa using hj
    exact ⟨_, 0, rfl, (HK2.out 0 _ rfl).1⟩
  obtain ⟨o0, -⟩ := HO.out 0 _ rfl
  obtain ⟨o1, -⟩ := HO.out 1 _ rfl
  obtain ⟨o2, -⟩ := HO.out 2 _ rfl
  obtain ⟨o3, -⟩ := HO.out 3 _ rfl
  obtain ⟨o4, -⟩ := HO.out 4 _ rfl
  obtain ⟨o5, -⟩ := HO.out 5 _ rfl
  obtain ⟨o6, -⟩ := HO.out 6 _ rfl
  obtain ⟨o7, -⟩ := HO.out 7 _ rfl
  obtain ⟨z0, t0⟩ := HZ.out 0 _ rfl
  obtain ⟨z1, t1⟩ := HZ.out 1 _ rfl
  obtain ⟨z2, t2⟩ := HZ.out 2 _ rfl
  obtain ⟨z3, t3⟩ := HZ.out 3 _ rfl
  obtain ⟨z4, t4⟩ := HZ.out 4 _ rfl
  obtain ⟨z5, t5⟩ := HZ.out 5 _ rfl
  obtain ⟨z6, t6⟩ := HZ.out 6 _ rfl
  obtain ⟨z7, t7⟩ := HZ.out 7 _ rfl
  have hmk : Hid (MakeP a len cap c ⟨nm, 8, 0, false, [], [], [], [x]⟩ [.string nm, .int .i64 8, .int .i64 0, .bool false, .slice none 0 0, .slice none 0 0, .slice none 0 0, .slice (some ⟨w4.heap.size, 0, none⟩) 1 1] w _) := ⟨OwnedR.kids HOW.out, HC.out, HG.out⟩
  have hbl : Hid (∀ b ∈ ([.string nm, .int .i64 8, .int .i64 0, .bool false, .slice none 0 0, .slice none 0 0, .slice none 0 0, .slice (some ⟨w4.heap.size, 0, none⟩) 1 1] : List Value).flatMap sliceBlk, w.heap.size + 2 ≤ b) := fun b hb => by simp [sliceBlk] at hb; subst hb; exact hKN.out.2
  have hcp : Hid (CapK [.string nm, .int .i64 8, .int .i64 0, .bool false, .slice none 0 0, .slice none 0 0, .slice none 0 0, .slice (some ⟨w4.heap.size, 0, none⟩) 1 1]) := ⟨(fun a n c h => by simp at h; obtain ⟨_, rfl, rfl⟩ := h; exact Nat.le_refl _), (fun a n c h => by simp at h; obtain ⟨_, rfl, rfl⟩ := h; first | exact Nat.le_refl _ | exact HRK.out.2.1)⟩
  have hmd : Hid (MadeR rs ⟨nm, 8, 0, false, [], [], [], [x]⟩) := ⟨⟨s, hsb.out, HNM.out⟩, by simp [kidsB]; omega, by simp [kindI, meetsB, onlyR, sameR]⟩
  go_wp2
  (try simp only [Exit.inBlock, Exit.then])
  refine bodyPost_ret (v := .agg #[.string nm, .int .i64 8, .int .i64 0, .bool false, .slice none 0 0, .slice none 0 0, .slice none 0 0, .slice (some ⟨w4.heap.size, 0, none⟩) 1 1]) ?_ rfl ?_
  · simp [results, Try.results66, go_sem, z0, z1, z2, z3, z4, z5, z6, z7]
  · exact ⟨_, _, rfl, ⟨hmd.out, rfl⟩, hcp.out, fun b hb => by have := hbl.out b hb; omega, ((((((((hmk.out.put hbl.out hcw hold.out 0 _).put hbl.out hcw hold.out 1 _).put hbl.out hcw hold.out 2 _).put hbl.out hcw hold.out 3 _).put hbl.out hcw hold.out 4 _).put hbl.out hcw hold.out 5 _).put hbl.out hcw hold.out 6 _).put hbl.out hcw hold.out 7 _)⟩
set_option maxRecDepth 100000 in
set_option maxHeartbeats 4000000 in
theorem make_9 (a : Option Addr) (len cap c base : Nat) (ad : Option Addr) (rs : List RuleV) (capd : Nat) (w : World) (hl : len ≤ 140737488355328) (hrs : rs.length ≤ 9) (h0 : 0 < rs.length) (hk0 : rs[0].kind = 1) (hrow : RowR base (.slice ad rs.length capd) rs w) (hcb : c < base) (hbw : base ≤ w.heap.size) (hc : Cur a len cap c w) :
    Calls Try.prog 66 #[.pointer (some ⟨c, 0, none⟩), .agg #[.slice ad rs.length capd], .int .i64 9] w (MakeOut a len cap c rs 9 w) := by
  have hcw : c < w.heap.size := by omega
  have hold := Lib.hid hc.old
  have HROW := Lib.hid hrow
  obtain ⟨w0, hw0⟩ : ∃ w0, w0 = (w.alloc (.cells #[.slice ad rs.length capd] 38)).alloc (.cells #[.string ⟨#[]⟩, .int .i64 0, .int .i64 0, .bool false, .slice none 0 0, .slice none 0 0, .slice none 0 0, .slice none 0 0] 76) := ⟨_, rfl⟩
  have hB : Below w.heap.size w w0 := by subst hw0; exact ((Below.refl _ _).alloc (Nat.le_refl _) _).alloc (by simp) _
  have hX : CellsAt w.heap.size [.slice ad rs.length capd] w0 := by subst hw0; exact (CellsAt.new w _ _).below ((Below.refl _ _).alloc (Nat.le_refl _) _)
  have hZ : CellsAt (w.heap.size + 1) [.string ⟨#[]⟩, .int .i64 0, .int .i64 0, .bool false, .slice none 0 0, .slice none 0 0, .slice none 0 0, .slice none 0 0] w0 := by
    subst hw0
    have h1 := CellsAt.new (w.alloc (.cells #[.slice ad rs.length capd] 38)) [.string ⟨#[]⟩, .int .i64 0, .int .i64 0, .bool false, .slice none 0 0, .slice none 0 0, .slice none 0 0, .slice none 0 0] 76
    simpa using h1
  have hs0 : Hid (w0.heap.size = w.heap.size + 2) := by subst hw0; show _ = _; simp
  have HC := Lib.hid (hc.below hB)
  have HG : Hid (w.grownBy w0 (some c)) := grown_of hB
  have HX := Lib.hid hX
  have HZ := Lib.hid hZ
  have hW := Lib.hid hw0
  clear hc hB hX hZ hw0 hrow
  go_enter Try.func66, Try.ntmps66
  go_wp2_with fail
  rw [← hW.out, show w.heap.size + 1 + 1 = w0.heap.size from by rw [hs0.out]]
  clear hW
  refine (str_pick a len cap c 5 [⟨#[97]⟩, ⟨#[105, 116, 101, 109]⟩, ⟨#[98]⟩, ⟨#[104, 101, 97, 100]⟩, ⟨#[120]⟩] _ rfl rfl w0 hl (by omega) (by omega) HC.out).mono ?_
  rintro e w1 ⟨s, hs, rfl, hc1, hg⟩
  replace HG := Lib.hid (Lib.grownBy_trans HG.out hg)
  replace HX := Lib.hid (HX.out.grown hg (by intro e; injection e with e; omega))
  replace HZ := Lib.hid (HZ.out.grown hg (by intro e; injection e with e; omega))
  replace HC := Lib.hid hc1
  have hs1 := Lib.hid hg.size
  clear hc1 hg
  have hss : s.size ≤ 4 := base_size hs
  have hsb := Lib.hid hs
  clear hs
  go_wp2_with fail
  refine (fmt_spec (rs.length : Int) _ (by omega) (by omega)).mono ?_
  rintro e w2 ⟨rfl, hb⟩
  replace HG := Lib.hid (grown_below HG.out hb)
  replace HC := Lib.hid (HC.out.below hb)
  replace HX := Lib.hid (HX.out.below hb)
  replace HZ := Lib.hid (HZ.out.below hb)
  have hs2 := Lib.hid hb.size
  clear hb
  have hd1 : (digitS rs.length).size = 1 := digit_one ⟨rs.length, by omega⟩
  have hadd := addS w2 s (digitS rs.length) (by omega)
  obtain ⟨nm, hnm⟩ : ∃ nm, nm = s ++ digitS rs.length := ⟨_, rfl⟩
  rw [← hnm] at hadd
  have HNM := Lib.hid hnm
  clear hnm
  unfold digitS at hadd
  go_upto_region 30 with fail
  clear hadd
  obtain ⟨w3, hw3⟩ : ∃ w3, w3 = w2.alloc (.cells #[.string nm, .int .i64 9, .int .i64 0, .bool false, .slice none 0 0, .slice none 0 0, .slice none 0 0, .slice none 0 0] 76) := ⟨_, rfl⟩
  rw [← hw3]
  have hb : Below w2.heap.size w2 w3 := by subst hw3; exact (Below.refl _ _).alloc (Nat.le_refl _) _
  have hO : CellsAt w2.heap.size [.string nm, .int .i64 9, .int .i64 0, .bool false, .slice none 0 0, .slice none 0 0, .slice none 0 0, .slice none 0 0] w3 := by subst hw3; exact CellsAt.new w2 _ _
  replace HG := Lib.hid (grown_below HG.out hb)
  replace HC := Lib.hid (HC.out.below hb)
  replace HX := Lib.hid (HX.out.below hb)
  replace HZ := Lib.hid (HZ.out.below hb)
  have HO := Lib.hid hO
  have hN : w.heap.size + 2 ≤ w2.heap.size := by have := hs0.out; have := hs1.out; have := hs2.out; omega
  have hs3 : Hid (w2.heap.size < w3.heap.size) := cell_lt (hO 0 _ rfl).1
  clear hb hO hw3 hs0 hs1 hs2
  obtain ⟨N, hNN⟩ : ∃ N, N = w2.heap.size := ⟨_, rfl⟩
  rw [← hNN] at HO hN hs3 ⊢
  clear hNN
  have _ := hk0
  go_wp2_with fail
  refine (below_draw a len cap c (rs.length : Int) _ hl (by omega) (by omega) HC.out).mono ?_
  rintro e w4 ⟨x, hx, rfl, hc1, hg⟩
  replace HG := Lib.hid (Lib.grownBy_trans HG.out hg)
  replace HX := Lib.hid (HX.out.grown hg (by intro e; injection e with e; omega))
  replace HZ := Lib.hid (HZ.out.grown hg (by intro e; injection e with e; omega))
  replace HO := Lib.hid (HO.out.grown hg (by intro e; injection e with e; omega))
  replace HC := Lib.hid hc1
  clear hc1 hg
  obtain ⟨x0, x1⟩ := hx
  have hsz : N < w4.heap.size := cell_lt (HO.out 0 _ rfl).1
  have hbl0 : Below w4.heap.size w4 (w4.alloc (.cells #[.int .i64 x] 3)) := (Below.refl _ _).alloc (Nat.le_refl _) _
  obtain ⟨o7, p7⟩ := HO.out.below hbl0 7 _ rfl
  clear hbl0
  go_upto_region 33 with fail
  clear o7 p7
  have hKN : Hid (w4.heap.size ≠ N ∧ w.heap.size + 2 ≤ w4.heap.size) := ⟨by omega, by omega⟩
  have hszl : (w4.setCell ⟨N, 7, none⟩ (.slice (some ⟨w4.heap.size, 0, none⟩) 1 1)).heap.size = w4.heap.size := by simp
  obtain ⟨w5l, hv⟩ : ∃ v, v = w4.setCell ⟨N, 7, none⟩ (.slice (some ⟨w4.heap.size, 0, none⟩) 1 1) := ⟨_, rfl⟩
  rw [← hv]
  (try rw [← hv] at hszl)
  replace HO := Lib.hid (HO.out.set 7 (.slice (some ⟨w4.heap.size, 0, none⟩) 1 1) (by simp))
  rw [← hv] at HO
  simp only [List.set] at HO
  replace HX := Lib.hid (HX.out.far (b' := N) (j := 7) (v := .slice (some ⟨w4.heap.size, 0, none⟩) 1 1) (by omega))
  rw [← hv] at HX
  replace HZ := Lib.hid (HZ.out.far (b' := N) (j := 7) (v := .slice (some ⟨w4.heap.size, 0, none⟩) 1 1) (by omega))
  rw [← hv] at HZ
  replace HC := Lib.hid (HC.out.put (q := N) (i := 7) (v := .slice (some ⟨w4.heap.size, 0, none⟩) 1 1) (by omega) (fun b off ha hl => by have := hold.out b off ha hl; omega))
  rw [← hv] at HC
  replace HG := Lib.hid (grown_put (q := N) (i := 7) (v := .slice (some ⟨w4.heap.size, 0, none⟩) 1 1) HG.out (by omega))
  rw [← hv] at HG
  clear hv
  obtain ⟨w5, hvl⟩ : ∃ v, v = w5l.alloc (.cells #[.int .i64 x] 3) := ⟨_, rfl⟩
  rw [← hvl]
  have hb : Below w5l.heap.size w5l w5 := by subst hvl; exact (Below.refl _ _).alloc (Nat.le_refl _) _
  have hK : CellsAt w5l.heap.size [.int .i64 x] w5 := by subst hvl; exact CellsAt.new w5l _ _
  rw [hszl] at hK
  have HK2 := Lib.hid hK
  replace HG := Lib.hid (grown_below HG.out hb)
  replace HC := Lib.hid (HC.out.below hb)
  replace HX := Lib.hid (HX.out.below hb)
  replace HZ := Lib.hid (HZ.out.below hb)
  replace HO := Lib.hid (HO.out.below hb)
  have HOW : Hid (w5.ownsRow (w.heap.size + 2) 3 1 (.slice (some ⟨w4.heap.size, 0, none⟩) 1 1) [x].length ([x].map (Value.int .i64))) := by show World.ownsRow _ _ _ _ _ _ _; subst hvl; rw [← hszl]; exact own_lits (f := (Value.int .i64)) w5l _ 3 [x] (by rw [hszl]; exact hKN.out.2) (by show 1 ≤ maxLen; decide)
  clear hb hK hvl hszl
  have hkr : Hid (RdI (some ⟨w4.heap.size, 0, none⟩) [x] w5) := fun j hj => by
    obtain rfl : j = 0 := by simpa using hj
    exact ⟨_, 0, rfl, (HK2.out 0 _ rfl).1⟩
  obtain ⟨o0, -⟩ := HO.out 0 _ rfl
  obtain ⟨o1, -⟩ := HO.out 1 _ rfl
  obtain ⟨o2, -⟩ := HO.out 2 _ rfl
  obtain ⟨o3, -⟩ := HO.out 3 _ rfl
  obtain ⟨o4, -⟩ := HO.out 4 _ rfl
  obtain ⟨o5, -⟩ := HO.out 5 _ rfl
  obtain ⟨o6, -⟩ := HO.out 6 _ rfl
  obtain ⟨o7, -⟩ := HO.out 7 _ rfl
  obtain ⟨z0, t0⟩ := HZ.out 0 _ rfl
  obtain ⟨z1, t1⟩ := HZ.out 1 _ rfl
  obtain ⟨z2, t2⟩ := HZ.out 2 _ rfl
  obtain ⟨z3, t3⟩ := HZ.out 3 _ rfl
  obtain ⟨z4, t4⟩ := HZ.out 4 _ rfl
  obtain ⟨z5, t5⟩ := HZ.out 5 _ rfl
  obtain ⟨z6, t6⟩ := HZ.out 6 _ rfl
  obtain ⟨z7, t7⟩ := HZ.out 7 _ rfl
  have hmk : Hid (MakeP a len cap c ⟨nm, 9, 0, false, [], [], [], [x]⟩ [.string nm, .int .i64 9, .int .i64 0, .bool false, .slice none 0 0, .slice none 0 0, .slice none 0 0, .slice (some ⟨w4.heap.size, 0, none⟩) 1 1] w _) := ⟨OwnedR.kids HOW.out, HC.out, HG.out⟩
  have hbl : Hid (∀ b ∈ ([.string nm, .int .i64 9, .int .i64 0, .bool false, .slice none 0 0, .slice none 0 0, .slice none 0 0, .slice (some ⟨w4.heap.size, 0, none⟩) 1 1] : List Value).flatMap sliceBlk, w.heap.size + 2 ≤ b) := fun b hb => by simp [sliceBlk] at hb; subst hb; exact hKN.out.2
  have hcp : Hid (CapK [.string nm, .int .i64 9, .int .i64 0, .bool false, .slice none 0 0, .slice none 0 0, .slice none 0 0, .slice (some ⟨w4.heap.size, 0, none⟩) 1 1]) := ⟨(fun a n c h => by simp at h; obtain ⟨_, rfl, rfl⟩ := h; exact Nat.le_refl _), (fun a n c h => by simp at h; obtain ⟨_, rfl, rfl⟩ := h; first | exact Nat.le_refl _ | exact HRK.out.2.1)⟩
  have hmd : Hid (MadeR rs ⟨nm, 9, 0, false, [], [], [], [x]⟩) := ⟨⟨s, hsb.out, HNM.out⟩, by simp [kidsB]; omega, by simp [kindI, meetsB, onlyR, sameR]⟩
  go_wp2
  (try simp only [Exit.inBlock, Exit.then])
  refine bodyPost_ret (v := .agg #[.string nm, .int .i64 9, .int .i64 0, .bool false, .slice none 0 0, .slice none 0 0, .slice none 0 0, .slice (some ⟨w4.heap.size, 0, none⟩) 1 1]) ?_ rfl ?_
  · simp [results, Try.results66, go_sem, z0, z1, z2, z3, z4, z5, z6, z7]
  · exact ⟨_, _, rfl, ⟨hmd.out, rfl⟩, hcp.out, fun b hb => by have := hbl.out b hb; omega, ((((((((hmk.out.put hbl.out hcw hold.out 0 _).put hbl.out hcw hold.out 1 _).put hbl.out hcw hold.out 2 _).put hbl.out hcw hold.out 3 _).put hbl.out hcw hold.out 4 _).put hbl.out hcw hold.out 5 _).put hbl.out hcw hold.out 6 _).put hbl.out hcw hold.out 7 _)⟩
end Go.Proofs.Ytefkhknfjohnaaa
