/- The contracts of the model's l9Make (every rule) and DrawValue. -/
import Derived.Test.YtefkhknfjohnaaaMvA
import Derived.Test.YtefkhknfjohnaaaMv5
import Derived.Test.YtefkhknfjohnaaaMv6
import Derived.Test.YtefkhknfjohnaaaDescrP
import Derived.IntWalk
import Derived.Deep.RegionLaw
namespace Go.Proofs.Ytefkhknfjohnaaa
open Go Go.RowKit
theorem mv_all (a : Option Addr) (len cap c base : Nat) (ad : Option Addr) (rs : List RuleV) (capd : Nat) (hl : len ≤ 140737488355328) (hrs : rs.length ≤ 9) (hall : allV (kindI rs) rs) (hcb : c < base) : ∀ k, k < rs.length → MvC a len cap c base ad rs capd k := by
  intro k
  induction k using Nat.strongRecOn with
  | _ k ih =>
    intro hk
    have ih2 : ∀ m, m < k → MvC a len cap c base ad rs capd m := fun m hm => ih m hm (by omega)
    have hkn := kindI_known (allV_kind hall hk)
    rcases (by omega : rs[k].kind = 1 ∨ rs[k].kind = 2 ∨ rs[k].kind = 3 ∨ rs[k].kind = 4 ∨ rs[k].kind = 5 ∨ rs[k].kind = 6 ∨ rs[k].kind = 7 ∨ rs[k].kind = 8 ∨ rs[k].kind = 9 ∨ rs[k].kind = 10) with e | e | e | e | e | e | e | e | e | e
    · exact mv_1 a len cap c base ad rs capd k hl hrs hall hcb hk e ih2
    · exact mv_2 a len cap c base ad rs capd k hl hrs hall hcb hk e ih2
    · exact mv_3 a len cap c base ad rs capd k hl hrs hall hcb hk e ih2
    · exact mv_4 a len cap c base ad rs capd k hl hrs hall hcb hk e ih2
    · exact mv_5 a len cap c base ad rs capd k hl hrs hall hcb hk e ih2
    · exact mv_6 a len cap c base ad rs capd k hl hrs hall hcb hk e ih2
    · exact mv_7 a len cap c base ad rs capd k hl hrs hall hcb hk e ih2
    · exact mv_8 a len cap c base ad rs capd k hl hrs hall hcb hk e ih2
    · exact mv_9 a len cap c base ad rs capd k hl hrs hall hcb hk e ih2
    · exact mv_10 a len cap c base ad rs capd k hl hrs hall hcb hk e ih2
theorem RowR.room {base : Nat} {v : Value} {rs : List RuleV} {w : World} (h : RowR base v rs w) (h0 : 0 < rs.length) : base ≤ w.heap.size := by
  obtain ⟨css, hl, ho, hr⟩ := h
  have h1 := ho
  rcases ho.2 with ⟨_, hn⟩ | ⟨g, cap, cur, rfl, hb, hg, _⟩
  · omega
  · have := World.ownsRow.lt (w := w) h1 g rfl
    omega
theorem size_any (a : Option Addr) (n cap : Nat) (w : World) (hn : n ≤ 1099511627776) :
    Calls Try.prog 43 #[.slice a n cap, .int .i64 8] w fun e w' => ∃ m : Int, 0 ≤ m ∧ m ≤ 8 ∧ e = .returned (.int .i64 m) ∧ w = w' := by
  have h0 : (0 : Int) ≤ (n : Int) := by omega
  by_cases h8 : 8 < 3 + (n : Int) / 12
  · go_enter Try.func43, Try.ntmps43
    go_wp2
    go_ret
    exact ⟨8, by omega, by omega, rfl, rfl⟩
  · go_enter Try.func43, Try.ntmps43
    go_wp2
    go_ret
    exact ⟨3 + (n : Int) / 12, by omega, by omega, rfl, rfl⟩
/-- A drawn description and a value of its last rule, in new memory. -/
def DrawnV (w : World) (e : Ending) (w' : World) : Prop :=
  ∃ (rs : List RuleV) (x : Option Addr) (cp : Nat) (v : ValueV) (cs : List Value), e = .returned (.tuple #[.agg #[.slice x rs.length cp], .agg cs.toArray]) ∧ MadeAll rs ∧ (1 ≤ rs.length ∧ rs.length ≤ 6) ∧ RowR w.heap.size (.slice x rs.length cp) rs w' ∧ MadeVal rs (rs.length - 1) v ∧ IsVal rs.length v cs w' ∧ Below w.heap.size w w'
/-- What is left when both come back. -/
def DvP (base n : Nat) (D : Value) (rs : List RuleV) (v : ValueV) (cs : List Value) (w W : World) : Prop := RowR base D rs W ∧ OwnV (fun b => w.heap.size + 2 ≤ b) n v cs W ∧ Below w.heap.size w W
theorem DvP.put {base n j : Nat} {D : Value} {rs : List RuleV} {v : ValueV} {cs : List Value} {w W : World} (h : DvP base n D rs v cs w W) (hj : w.heap.size ≤ j) (hj2 : j < w.heap.size + 2) (hb : w.heap.size + 2 ≤ base) (i : Nat) (u : Value) : DvP base n D rs v cs w (W.setCell ⟨j, i, none⟩ u) :=
  ⟨h.1.grown (grown_set (grown_refl W j) i u) (by omega), h.2.1.grown (grown_set (grown_refl W j) i u) (fun b _ hb => ⟨hb, fun e => by injection e with e; omega⟩), h.2.2.setCell (p := ⟨j, i, none⟩) hj u⟩
set_option maxRecDepth 100000 in
set_option maxHeartbeats 8000000 in
theorem drawv (a : Option Addr) (len cap : Nat) (w : World) (hl : len ≤ 1099511627776) (hs : Code a len w) :
    Calls Try.prog 24 #[.slice a len cap] w (DrawnV w) := by
  obtain ⟨w0, hw0⟩ : ∃ w0, w0 = (w.alloc (.cells #[.slice none 0 0] 38)).alloc (.cells #[.int .i64 0, .slice none 0 0, .slice none 0 0] 47) := ⟨_, rfl⟩
  have hB : Below w.heap.size w w0 := by subst hw0; exact ((Below.refl _ _).alloc (Nat.le_refl _) _).alloc (by simp) _
  have hX : CellsAt w.heap.size [.slice none 0 0] w0 := by subst hw0; exact (CellsAt.new w _ _).below ((Below.refl _ _).alloc (Nat.le_refl _) _)
  have hZ : CellsAt (w.heap.size + 1) [.int .i64 0, .slice none 0 0, .slice none 0 0] w0 := by subst hw0; have h1 := CellsAt.new (w.alloc (.cells #[.slice none 0 0] 38)) [.int .i64 0, .slice none 0 0, .slice none 0 0] 47; rw [World.size_alloc] at h1; exact h1
  have hz : w0.heap.size = w.heap.size + 2 := by subst hw0; simp
  have HSO : Hid (∀ b off, a = some ⟨b, off, none⟩ → 0 < len → b < w.heap.size) := fun b off ha h0 => by obtain ⟨b2, o2, y, e, _, hc⟩ := hs 0 h0; rw [ha] at e; injection e with e; injection e with e1; have := cell_lt hc; simp at this; omega
  have HS := Lib.hid (hs.below hB)
  have HB := Lib.hid hB
  have HX := Lib.hid hX
  have HZ := Lib.hid hZ
  have HZ0 := Lib.hid hz
  have hW := Lib.hid hw0
  clear hs hB hX hZ hz hw0
  go_enter Try.func24, Try.ntmps24
  go_wp2_with fail
  rw [← hW.out]
  clear hW
  refine (new_draw a len cap _ (by omega) HS.out).mono ?_
  rintro e w1 ⟨rfl, hc1, hb1, hz1⟩
  have HC := Lib.hid hc1
  replace HB := Lib.hid (HB.out.trans (hb1.mono HB.out.size))
  replace HX := Lib.hid (HX.out.below hb1)
  replace HZ := Lib.hid (HZ.out.below hb1)
  have hz2 : Hid (w1.heap.size = w.heap.size + 3) := by show _ = _; rw [hz1, HZ0.out]
  clear hc1 hb1 hz1 HS
  obtain ⟨c, hcc⟩ : ∃ c, c = w0.heap.size := ⟨_, rfl⟩
  rw [← hcc] at HC HZ0 ⊢
  have hc2 : c < w1.heap.size := HC.out.lt
  have hcw : w.heap.size + 2 ≤ c := by have h := HZ0.out; omega
  have hcw2 : c < w.heap.size + 3 := by have h := HZ0.out; omega
  clear hcc
  go_wp2_with fail
  refine (descr_draw a len cap c _ (by omega) HC.out).mono ?_
  rintro e w2 ⟨rs, x, cp, rfl, hm, ⟨hn1, hn6⟩, -, hrow, hcu, hg2⟩
  have HX2 := Lib.hid (HX.out.grown hg2 (by intro e; injection e with e; omega))
  have HZ2 := Lib.hid (HZ.out.grown hg2 (by intro e; injection e with e; omega))
  have HB2 := Lib.hid (HB.out.grown hg2 HB.out.size (fun k e => by injection e with e; omega))
  obtain ⟨base, hbase⟩ : ∃ b, b = w1.heap.size + 2 := ⟨_, rfl⟩
  rw [← hbase] at hrow
  have hb5 : w.heap.size + 5 ≤ base := by have h := hz2.out; omega
  have hcb : c < base := by omega
  have HBS : Hid (base ≤ w2.heap.size) := by
    exact hrow.room (by omega)
  have HM := Lib.hid hm
  have HR := Lib.hid hrow
  have HCU := Lib.hid hcu
  have HALL := Lib.hid (made_valid hm (by omega))
  clear hm hrow hcu hg2 hbase hz2 HX HZ HB HC HZ0 hc2 hcw2 w0 w1
  obtain ⟨kk, hkk⟩ : ∃ kk : Nat, kk + 1 = rs.length := ⟨rs.length - 1, by omega⟩
  have hk1 : (rs.length : Int) - 1 = (kk : Int) := by omega
  have HKK := Lib.hid hkk
  have hkr : kk < rs.length := by omega
  have hwk : IntKind.i64.wrap (kk : Int) = (kk : Int) := IntWalk.i64_in _ (by omega)
  have HMK := Lib.hid (mv_all a len cap c base x rs cp (by omega) (by omega) HALL.out hcb kk hkr)
  clear hkk
  obtain ⟨w3, hw3⟩ : ∃ w3, w3 = w2.alloc (.cells #[.slice x rs.length cp] 38) := ⟨_, rfl⟩
  have hb3 : Below w2.heap.size w2 w3 := by subst hw3; exact (Below.refl _ _).alloc (Nat.le_refl _) _
  have HD : Hid (CellsAt w2.heap.size [.slice x rs.length cp] w3) := by subst hw3; exact CellsAt.new w2 _ _
  replace HX2 := Lib.hid (HX2.out.below hb3)
  replace HZ2 := Lib.hid (HZ2.out.below hb3)
  replace HB2 := Lib.hid (HB2.out.trans (hb3.mono HB2.out.size))
  replace HR := Lib.hid (HR.out.below hb3)
  replace HCU := Lib.hid (HCU.out.below hb3)
  have HBS3 : Hid (base ≤ w3.heap.size) := by have h1 := HBS.out; have h2 := hb3.size; show _ ≤ _; omega
  have hBD : base ≤ w2.heap.size := HBS.out
  have hW3 := Lib.hid hw3
  clear hb3 hw3
  go_upto_region 3 with fail
  rw [← hW3.out]
  clear hW3
  generalize w2.heap.size = bd at HD hBD ⊢
  clear HBS w2
  have x0 := HX2.out 0 _ rfl
  obtain ⟨x0, f0⟩ := x0
  obtain ⟨z0, g0⟩ := HZ2.out 0 _ rfl
  obtain ⟨z1, g1⟩ := HZ2.out 1 _ rfl
  obtain ⟨z2, g2⟩ := HZ2.out 2 _ rfl
  have bd0 := (HD.out 0 _ rfl).1
  have HBD : Hid (Below w3.heap.size w3 w3.drew) := below_drewN (Below.refl _ _) 1
  have hsold : Hid (∀ b off, a = some ⟨b, off, none⟩ → 0 < len → b < w.heap.size) := HSO
  replace HX2 := Lib.hid (HX2.out.below HBD.out)
  replace HZ2 := Lib.hid (HZ2.out.below HBD.out)
  replace HB2 := Lib.hid (HB2.out.trans (HBD.out.mono HB2.out.size))
  replace HR := Lib.hid (HR.out.below HBD.out)
  replace HCU := Lib.hid (HCU.out.below HBD.out)
  have HXs := Lib.hid (HX2.out.set 0 (.slice x rs.length cp) (by simp))
  simp only [List.set] at HXs
  have HZs := Lib.hid (HZ2.out.far (b' := w.heap.size) (j := 0) (v := .slice x rs.length cp) (by omega))
  have HBs := Lib.hid (HB2.out.setCell (p := ⟨w.heap.size, 0, none⟩) (Nat.le_refl _) (.slice x rs.length cp))
  have HRs := Lib.hid (HR.out.grown (grown_set (grown_refl w3.drew w.heap.size) 0 (.slice x rs.length cp)) (by omega))
  have HCs := Lib.hid (HCU.out.put (q := w.heap.size) (i := 0) (v := .slice x rs.length cp) (by omega) (fun b off ha h0 => by have h1 := hsold.out b off ha h0; omega))
  have HDs := Lib.hid ((HD.out.below HBD.out).far (b' := w.heap.size) (j := 0) (v := .slice x rs.length cp) (by omega))
  replace HD := Lib.hid (HD.out.below HBD.out)
  have HBSs : Hid (base ≤ (w3.drew.setCell ⟨w.heap.size, 0, none⟩ (.slice x rs.length cp)).heap.size) := by have h1 := HBS3.out; show _ ≤ _; simpa using h1
  have HBS4 : Hid (base ≤ w3.drew.heap.size) := HBS3.out
  have hne : w.heap.size ≠ c := by omega
  have hne2 : w.heap.size + 1 ≠ c := by omega
  go_region_law (first | (go_simp; go_at_call 43; refine (size_any a len cap _ hl).mono ?_; rintro e w5 ⟨n, n0, n8, rfl, rfl⟩; obtain ⟨mm, hmm⟩ : ∃ m, 4 + n = m := ⟨_, rfl⟩; have hwm : IntKind.i64.wrap mm = mm := IntWalk.i64_in _ (by omega); have hm0 : 0 ≤ mm := (by omega); have hm1 : mm ≤ 100 := (by omega)) | (go_simp; go_at_call 42; refine (HMK.out mm (w3.drew) hm0 hm1 HR.out HBS4.out HCU.out).mono ?_; rintro e w6 ⟨v, cs, rfl, hmv, hov, hc6, hg6⟩; obtain ⟨xab, xcb, xai, xci, rfl⟩ := hov.cells; have HMV := Lib.hid hmv; have bd6 := (HD.out.grown hg6 (by intro e; injection e with e; omega) 0 _ rfl).1; obtain ⟨x6, f6⟩ := HX2.out.grown hg6 (by intro e; injection e with e; omega) 0 _ rfl; have HZ6 := Lib.hid (HZ2.out.grown hg6 (by intro e; injection e with e; omega)); obtain ⟨z60, g60⟩ := HZ6.out 0 _ rfl; obtain ⟨z61, g61⟩ := HZ6.out 1 _ rfl; obtain ⟨z62, g62⟩ := HZ6.out 2 _ rfl; have HFIN : Hid (DvP base rs.length (.slice x rs.length cp) rs v [.int .i64 v.number, .slice xab v.bytes.length xcb, .slice xai v.items.length xci] w w6) := ⟨HR.out.grown hg6 hcb, (hov.up (by have h := HKK.out; omega)).mono (fun b _ h => by have h8 := HBS4.out; have h9 : (w3.drew).heap.size ≤ b := h; omega), HB2.out.grown hg6 HB2.out.size (fun k e => by injection e with e; omega)⟩; clear hmv hov hc6 hg6) | (go_simp; go_at_call 42; refine (HMK.out mm (w3.drew.setCell ⟨w.heap.size, 0, none⟩ (.slice x rs.length cp)) hm0 hm1 HRs.out HBSs.out HCs.out).mono ?_; rintro e w6 ⟨v, cs, rfl, hmv, hov, hc6, hg6⟩; obtain ⟨xab, xcb, xai, xci, rfl⟩ := hov.cells; have HMV := Lib.hid hmv; have bd6 := (HDs.out.grown hg6 (by intro e; injection e with e; omega) 0 _ rfl).1; obtain ⟨x6, f6⟩ := HXs.out.grown hg6 (by intro e; injection e with e; omega) 0 _ rfl; have HZ6 := Lib.hid (HZs.out.grown hg6 (by intro e; injection e with e; omega)); obtain ⟨z60, g60⟩ := HZ6.out 0 _ rfl; obtain ⟨z61, g61⟩ := HZ6.out 1 _ rfl; obtain ⟨z62, g62⟩ := HZ6.out 2 _ rfl; have HFIN : Hid (DvP base rs.length (.slice x rs.length cp) rs v [.int .i64 v.number, .slice xab v.bytes.length xcb, .slice xai v.items.length xci] w w6) := ⟨HRs.out.grown hg6 hcb, (hov.up (by have h := HKK.out; omega)).mono (fun b _ h => by have h8 := HBSs.out; have h9 : (w3.drew.setCell ⟨w.heap.size, 0, none⟩ (.slice x rs.length cp)).heap.size ≤ b := h; omega), HBs.out.grown hg6 HBs.out.size (fun k e => by injection e with e; omega)⟩; clear hmv hov hc6 hg6))
  all_goals (clear HX2 HZ2 HB2 HR HCU HXs HZs HBs HRs HCs HBSs HBS4 HBS3 HMK HALL HD HDs HZ6)
  all_goals go_wp2
  all_goals (try simp only [Exit.inBlock, Exit.then])
  all_goals refine bodyPost_ret (v := .tuple #[.agg #[.slice x rs.length cp], .agg #[.int .i64 v.number, .slice xab v.bytes.length xcb, .slice xai v.items.length xci]]) ?_ rfl ?_
  all_goals first | (simp [results, Try.results24, go_sem, x6, z60, z61, z62]; done) | skip
  all_goals first | (obtain ⟨p1, p2, p3⟩ := (DvP.put (DvP.put (DvP.put (DvP.put HFIN.out (j := w.heap.size) (Nat.le_refl _) (by omega) (by omega) 0 _) (j := w.heap.size + 1) (by omega) (by omega) (by omega) 0 _) (j := w.heap.size + 1) (by omega) (by omega) (by omega) 1 _) (j := w.heap.size + 1) (by omega) (by omega) (by omega) 2 _); exact ⟨rs, x, cp, v, _, rfl, HM.out, ⟨hn1, hn6⟩, p1.more (by omega), (by have h := HKK.out; rw [show rs.length - 1 = kk from by omega]; exact HMV.out), p2.is, p3⟩) | (obtain ⟨p1, p2, p3⟩ := (DvP.put (DvP.put (DvP.put (DvP.put HFIN.out (j := w.heap.size + 1) (by omega) (by omega) (by omega) 0 _) (j := w.heap.size + 1) (by omega) (by omega) (by omega) 1 _) (j := w.heap.size + 1) (by omega) (by omega) (by omega) 2 _) (j := w.heap.size) (Nat.le_refl _) (by omega) (by omega) 0 _); exact ⟨rs, x, cp, v, _, rfl, HM.out, ⟨hn1, hn6⟩, p1.more (by omega), (by have h := HKK.out; rw [show rs.length - 1 = kk from by omega]; exact HMV.out), p2.is, p3⟩) | (obtain ⟨p1, p2, p3⟩ := (DvP.put (DvP.put (DvP.put HFIN.out (j := w.heap.size + 1) (by omega) (by omega) (by omega) 0 _) (j := w.heap.size + 1) (by omega) (by omega) (by omega) 1 _) (j := w.heap.size + 1) (by omega) (by omega) (by omega) 2 _); exact ⟨rs, x, cp, v, _, rfl, HM.out, ⟨hn1, hn6⟩, p1.more (by omega), (by have h := HKK.out; rw [show rs.length - 1 = kk from by omega]; exact HMV.out), p2.is, p3⟩)
end Go.Proofs.Ytefkhknfjohnaaa
