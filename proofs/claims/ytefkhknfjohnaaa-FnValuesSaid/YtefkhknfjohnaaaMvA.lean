/- Drawing values (l9Make): kinds 1, 2, 3, 4, 7, 8, 9, 10. -/
import Derived.Test.YtefkhknfjohnaaaMvSt
import Derived.IntWalk
namespace Go.Proofs.Ytefkhknfjohnaaa
open Go Go.RowKit
set_option maxRecDepth 100000 in
set_option maxHeartbeats 8000000 in
theorem mv_1 (a : Option Addr) (len cap c base : Nat) (ad : Option Addr) (rs : List RuleV) (capd k : Nat) (_hl : len ≤ 140737488355328) (_hrs : rs.length ≤ 9) (hall : allV (kindI rs) rs) (hcb : c < base) (hk : k < rs.length) (hkd : rs[k].kind = 1) (ih : ∀ m, m < k → MvC a len cap c base ad rs capd m) : MvC a len cap c base ad rs capd k := by
  intro most w hm0 hm1 hrow hbw hc
  have hcw : c < w.heap.size := by omega
  have hold := Lib.hid hc.old
  have hl := _hl
  have hrs := _hrs
  have HROW := Lib.hid hrow
  have HIH := Lib.hid ih
  have HALL := Lib.hid hall
  obtain ⟨b0, off, a4, c4, a5, c5, a6, c6, a7, c7, rfl, ⟨d0, d1, d2, d3, d4, d5, d6, d7⟩, hR, hbk⟩ := hrow.one k hk
  have HKI := Lib.hid (allV_kind hall hk)
  have HKS : Hid (∀ x ∈ rs[k].kids, ∃ m : Nat, x = (m : Int) ∧ m < k) := fun x hx => by have h1 := allV_kids hall hk x hx; exact ⟨x.toNat, by omega, by omega⟩
  have HIN : Hid (rs[k].kind = 4 ∨ rs[k].kind = 5 ∨ rs[k].kind = 7 → (ruleAt rs (rs[k].kids.getD 0 0)).kind = 1 ∧ ∃ m : Nat, rs[k].kids.getD 0 0 = (m : Int) ∧ m < k) := fun h => kid_int hall hk h
  have HNODE : Hid (∀ v : ValueV, ownB rs rs[k] v = true → v.bytes.length ≤ 64 → v.items.length ≤ 8 → (∀ q (h : q < v.items.length), ∃ m : Nat, itemR rs[k] v.number q = (m : Int) ∧ m < k ∧ MadeVal rs m v.items[q]) → MadeVal rs k v) := fun v h1 h2 h3 h4 => made_node hall hk h1 h2 h3 h4
  obtain ⟨r, hr⟩ : ∃ r, r = rs[k] := ⟨_, rfl⟩
  rw [← hr] at hkd d0 d1 d2 d3 d4 d5 d6 d7 hR hbk HKI HKS HIN HNODE
  clear hr
  rw [hkd] at d1 hR hbk
  have HKD := Lib.hid hkd
  obtain ⟨w0, hw0⟩ : ∃ w0, w0 = (w.alloc (.cells #[.slice (some ⟨b0, off, none⟩) rs.length capd] 38)).alloc (.cells #[.int .i64 0, .slice none 0 0, .slice none 0 0] 47) := ⟨_, rfl⟩
  have hB0 : Below w.heap.size w w0 := by subst hw0; exact ((Below.refl _ _).alloc (Nat.le_refl _) _).alloc (by simp) _
  have hX : CellsAt w.heap.size [.slice (some ⟨b0, off, none⟩) rs.length capd] w0 := by subst hw0; exact (CellsAt.new w _ _).below ((Below.refl _ _).alloc (Nat.le_refl _) _)
  have hZ : CellsAt (w.heap.size + 1) [.int .i64 0, .slice none 0 0, .slice none 0 0] w0 := by subst hw0; have h1 := CellsAt.new (w.alloc (.cells #[.slice (some ⟨b0, off, none⟩) rs.length capd] 38)) [.int .i64 0, .slice none 0 0, .slice none 0 0] 47; rw [World.size_alloc] at h1; exact h1
  have hs0 : w0.heap.size = w.heap.size + 2 := by subst hw0; simp
  obtain ⟨w1, hw1⟩ : ∃ w1, w1 = w0.alloc (.cells #[.string r.name, .int .i64 1, .int .i64 r.size, .bool r.little, .slice a4 r.bytes.length c4, .slice a5 r.names.length c5, .slice a6 r.tags.length c6, .slice a7 r.kids.length c7] 76) := ⟨_, rfl⟩
  have hB1 : Below w0.heap.size w0 w1 := by subst hw1; exact (Below.refl _ _).alloc (Nat.le_refl _) _
  have hC1 : CellsAt w0.heap.size [.string r.name, .int .i64 1, .int .i64 r.size, .bool r.little, .slice a4 r.bytes.length c4, .slice a5 r.names.length c5, .slice a6 r.tags.length c6, .slice a7 r.kids.length c7] w1 := by subst hw1; exact CellsAt.new w0 _ _
  have hs1 : w1.heap.size = w.heap.size + 3 := by subst hw1; rw [World.size_alloc, hs0]
  obtain ⟨w2, hw2⟩ : ∃ w2, w2 = w1.alloc (.cells #[.int .i64 0, .slice none 0 0, .slice none 0 0] 47) := ⟨_, rfl⟩
  have hB2 : Below w1.heap.size w1 w2 := by subst hw2; exact (Below.refl _ _).alloc (Nat.le_refl _) _
  have hV2 : CellsAt w1.heap.size [.int .i64 0, .slice none 0 0, .slice none 0 0] w2 := by subst hw2; exact CellsAt.new w1 _ _
  have hs2 : w2.heap.size = w.heap.size + 4 := by subst hw2; rw [World.size_alloc, hs1]
  have bx := (hX 0 _ rfl).1
  have e0 := (hB0.cell (cell_lt d0)).trans d0
  have e1 := (hB0.cell (cell_lt d1)).trans d1
  have e2 := (hB0.cell (cell_lt d2)).trans d2
  have e3 := (hB0.cell (cell_lt d3)).trans d3
  have e4 := (hB0.cell (cell_lt d4)).trans d4
  have e5 := (hB0.cell (cell_lt d5)).trans d5
  have e6 := (hB0.cell (cell_lt d6)).trans d6
  have e7 := (hB0.cell (cell_lt d7)).trans d7
  have HST : Hid (MvSt a len cap c (.slice (some ⟨b0, off, none⟩) rs.length capd) [.string r.name, .int .i64 1, .int .i64 r.size, .bool r.little, .slice a4 r.bytes.length c4, .slice a5 r.names.length c5, .slice a6 r.tags.length c6, .slice a7 r.kids.length c7] [.int .i64 0, .slice none 0 0, .slice none 0 0] w0.heap.size w1.heap.size w w2) := by
    refine ⟨⟨hs0, hs1, by omega⟩, (hX.below hB1).below hB2, (hZ.below hB1).below hB2, hC1.below hB2, hV2, ((hc.below hB0).below hB1).below hB2, grown_below (grown_below (grown_of hB0) hB1) hB2⟩
  have hW0 := Lib.hid hw0
  have hW1 := Lib.hid hw1
  have hW2 := Lib.hid hw2
  have HR := Lib.hid hR
  have HBK := Lib.hid hbk
  have k0 : (0 : Int) ≤ (k : Int) := by omega
  have k1 : (k : Int) < (rs.length : Int) := by omega
  have HSZ : Hid (w0.heap.size = w.heap.size + 2 ∧ w1.heap.size = w.heap.size + 3) := ⟨hs0, hs1⟩
  clear hw0 hw1 hw2 hB0 hB1 hB2 hX hZ hC1 hV2 hs0 hs1 hs2 hR hbk hc hrow ih hall hkd d0 d1 d2 d3 d4 d5 d6 d7
  go_enter Try.func42, Try.ntmps42
  go_upto_region 1 with fail
  rw [← hW0.out]
  go_upto_region 2 with fail
  rw [← hW1.out]
  go_upto_region 3 with fail
  rw [← hW2.out]
  clear bx e0 e1 e2 e3 e4 e5 e6 e7 hW0 hW1 hW2
  generalize w0.heap.size = B at HST HSZ ⊢
  generalize w1.heap.size = N at HST HSZ ⊢
  have hNB : w.heap.size + 2 ≤ B ∧ w.heap.size + 3 ≤ N := by have h := HSZ.out; omega
  obtain ⟨hNB1, hNB2⟩ := hNB
  clear HSZ w0 w1
  have hsz := kindI_size HKI.out HKD.out
  obtain ⟨hsz1, hsz4⟩ := hsz
  have hpw := Lib.hid (pow256_bounds r.size)
  have hp1 : 1 ≤ pow256 r.size := by have := hpw.out; omega
  have y1 := (HST.out.r 1 _ rfl).1
  have y2 := (HST.out.r 2 _ rfl).1
  go_wp2_with fail
  refine (power_spec r.size _ hsz1 hsz4).mono ?_
  rintro e w3 ⟨rfl, rfl⟩
  go_wp2_with fail
  refine (min_spec _ _ _).mono ?_
  rintro e w3 ⟨rfl, rfl⟩
  obtain ⟨m, hm⟩ : ∃ m, m = min (pow256 r.size) 70000 := ⟨_, rfl⟩
  rw [← hm]
  have hm1 : 1 ≤ m := by omega
  have hm2 : m ≤ 70000 := by omega
  have HML : Hid (m ≤ pow256 r.size) := by show _ ≤ _; omega
  clear hm
  go_wp2_with fail
  refine (below_draw a len cap c m _ hl (by omega) (by omega) HST.out.cur).mono ?_
  rintro e w4 ⟨x, ⟨x0, x1⟩, rfl, hc1, hg⟩
  replace HST := Lib.hid (HST.out.draw hcw hc1 hg)
  clear hc1 hg y1 y2
  obtain ⟨o0, p0⟩ := HST.out.v 0 _ rfl
  go_upto_region 32 with fail
  clear o0 p0
  obtain ⟨w5, hv⟩ : ∃ v, v = w4.setCell ⟨N, 0, none⟩ (.int .i64 x) := ⟨_, rfl⟩
  rw [← hv]
  replace HST := Lib.hid (HST.out.set hcw hold.out 0 (.int .i64 x) (by simp))
  rw [← hv] at HST
  simp only [List.set] at HST
  clear hv
  have HMV : Hid (MadeVal rs k (.mk x [] [])) := HNODE.out _ (by have h := HML.out; simp [ownB, HKD.out, ValueV.number, ValueV.bytes, ValueV.items]; first | omega | exact decide_eq_true (by omega)) (by simp [ValueV.bytes]) (by simp [ValueV.items]) (fun q h => by simp [ValueV.items] at h)
  have HOV : Hid (OwnV (fun b => w.heap.size + 4 ≤ b) (k + 1) (.mk x [] []) [.int .i64 x, .slice none 0 0, .slice none 0 0] w5) := ownv_none
  have o0 := (HST.out.v 0 _ rfl).1
  have o1 := (HST.out.v 1 _ rfl).1
  have o2 := (HST.out.v 2 _ rfl).1
  obtain ⟨z0, t0⟩ := HST.out.z 0 _ rfl
  obtain ⟨z1, t1⟩ := HST.out.z 1 _ rfl
  obtain ⟨z2, t2⟩ := HST.out.z 2 _ rfl
  have HFI := Lib.hid (HST.out.fin HOV.out hcw hold.out)
  clear HOV HST
  go_wp2
  (try simp only [Exit.inBlock, Exit.then])
  refine bodyPost_ret (v := .agg #[.int .i64 x, .slice none 0 0, .slice none 0 0]) ?_ rfl ?_
  · simp [results, Try.results42, go_sem, z0, z1, z2]
  · obtain ⟨ho, hcu, hgr⟩ := HFI.out _ _ _
    exact ⟨_, _, rfl, HMV.out, ho.mono (fun b _ hb => hb.1), hcu, hgr⟩
set_option maxRecDepth 100000 in
set_option maxHeartbeats 8000000 in
theorem mv_2 (a : Option Addr) (len cap c base : Nat) (ad : Option Addr) (rs : List RuleV) (capd k : Nat) (_hl : len ≤ 140737488355328) (_hrs : rs.length ≤ 9) (hall : allV (kindI rs) rs) (hcb : c < base) (hk : k < rs.length) (hkd : rs[k].kind = 2) (ih : ∀ m, m < k → MvC a len cap c base ad rs capd m) : MvC a len cap c base ad rs capd k := by
  intro most w hm0 hm1 hrow hbw hc
  have hcw : c < w.heap.size := by omega
  have hold := Lib.hid hc.old
  have hl := _hl
  have hrs := _hrs
  have HROW := Lib.hid hrow
  have HIH := Lib.hid ih
  have HALL := Lib.hid hall
  obtain ⟨b0, off, a4, c4, a5, c5, a6, c6, a7, c7, rfl, ⟨d0, d1, d2, d3, d4, d5, d6, d7⟩, hR, hbk⟩ := hrow.one k hk
  have HKI := Lib.hid (allV_kind hall hk)
  have HKS : Hid (∀ x ∈ rs[k].kids, ∃ m : Nat, x = (m : Int) ∧ m < k) := fun x hx => by have h1 := allV_kids hall hk x hx; exact ⟨x.toNat, by omega, by omega⟩
  have HIN : Hid (rs[k].kind = 4 ∨ rs[k].kind = 5 ∨ rs[k].kind = 7 → (ruleAt rs (rs[k].kids.getD 0 0)).kind = 1 ∧ ∃ m : Nat, rs[k].kids.getD 0 0 = (m : Int) ∧ m < k) := fun h => kid_int hall hk h
  have HNODE : Hid (∀ v : ValueV, ownB rs rs[k] v = true → v.bytes.length ≤ 64 → v.items.length ≤ 8 → (∀ q (h : q < v.items.length), ∃ m : Nat, itemR rs[k] v.number q = (m : Int) ∧ m < k ∧ MadeVal rs m v.items[q]) → MadeVal rs k v) := fun v h1 h2 h3 h4 => made_node hall hk h1 h2 h3 h4
  obtain ⟨r, hr⟩ : ∃ r, r = rs[k] := ⟨_, rfl⟩
  rw [← hr] at hkd d0 d1 d2 d3 d4 d5 d6 d7 hR hbk HKI HKS HIN HNODE
  clear hr
  rw [hkd] at d1 hR hbk
  have HKD := Lib.hid hkd
  obtain ⟨w0, hw0⟩ : ∃ w0, w0 = (w.alloc (.cells #[.slice (some ⟨b0, off, none⟩) rs.length capd] 38)).alloc (.cells #[.int .i64 0, .slice none 0 0, .slice none 0 0] 47) := ⟨_, rfl⟩
  have hB0 : Below w.heap.size w w0 := by subst hw0; exact ((Below.refl _ _).alloc (Nat.le_refl _) _).alloc (by simp) _
  have hX : CellsAt w.heap.size [.slice (some ⟨b0, off, none⟩) rs.length capd] w0 := by subst hw0; exact (CellsAt.new w _ _).below ((Below.refl _ _).alloc (Nat.le_refl _) _)
  have hZ : CellsAt (w.heap.size + 1) [.int .i64 0, .slice none 0 0, .slice none 0 0] w0 := by subst hw0; have h1 := CellsAt.new (w.alloc (.cells #[.slice (some ⟨b0, off, none⟩) rs.length capd] 38)) [.int .i64 0, .slice none 0 0, .slice none 0 0] 47; rw [World.size_alloc] at h1; exact h1
  have hs0 : w0.heap.size = w.heap.size + 2 := by subst hw0; simp
  obtain ⟨w1, hw1⟩ : ∃ w1, w1 = w0.alloc (.cells #[.string r.name, .int .i64 2, .int .i64 r.size, .bool r.little, .slice a4 r.bytes.length c4, .slice a5 r.names.length c5, .slice a6 r.tags.length c6, .slice a7 r.kids.length c7] 76) := ⟨_, rfl⟩
  have hB1 : Below w0.heap.size w0 w1 := by subst hw1; exact (Below.refl _ _).alloc (Nat.le_refl _) _
  have hC1 : CellsAt w0.heap.size [.string r.name, .int .i64 2, .int .i64 r.size, .bool r.little, .slice a4 r.bytes.length c4, .slice a5 r.names.length c5, .slice a6 r.tags.length c6, .slice a7 r.kids.length c7] w1 := by subst hw1; exact CellsAt.new w0 _ _
  have hs1 : w1.heap.size = w.heap.size + 3 := by subst hw1; rw [World.size_alloc, hs0]
  obtain ⟨w2, hw2⟩ : ∃ w2, w2 = w1.alloc (.cells #[.int .i64 0, .slice none 0 0, .slice none 0 0] 47) := ⟨_, rfl⟩
  have hB2 : Below w1.heap.size w1 w2 := by subst hw2; exact (Below.refl _ _).alloc (Nat.le_refl _) _
  have hV2 : CellsAt w1.heap.size [.int .i64 0, .slice none 0 0, .slice none 0 0] w2 := by subst hw2; exact CellsAt.new w1 _ _
  have hs2 : w2.heap.size = w.heap.size + 4 := by subst hw2; rw [World.size_alloc, hs1]
  have bx := (hX 0 _ rfl).1
  have e0 := (hB0.cell (cell_lt d0)).trans d0
  have e1 := (hB0.cell (cell_lt d1)).trans d1
  have e2 := (hB0.cell (cell_lt d2)).trans d2
  have e3 := (hB0.cell (cell_lt d3)).trans d3
  have e4 := (hB0.cell (cell_lt d4)).trans d4
  have e5 := (hB0.cell (cell_lt d5)).trans d5
  have e6 := (hB0.cell (cell_lt d6)).trans d6
  have e7 := (hB0.cell (cell_lt d7)).trans d7
  have HST : Hid (MvSt a len cap c (.slice (some ⟨b0, off, none⟩) rs.length capd) [.string r.name, .int .i64 2, .int .i64 r.size, .bool r.little, .slice a4 r.bytes.length c4, .slice a5 r.names.length c5, .slice a6 r.tags.length c6, .slice a7 r.kids.length c7] [.int .i64 0, .slice none 0 0, .slice none 0 0] w0.heap.size w1.heap.size w w2) := by
    refine ⟨⟨hs0, hs1, by omega⟩, (hX.below hB1).below hB2, (hZ.below hB1).below hB2, hC1.below hB2, hV2, ((hc.below hB0).below hB1).below hB2, grown_below (grown_below (grown_of hB0) hB1) hB2⟩
  have hW0 := Lib.hid hw0
  have hW1 := Lib.hid hw1
  have hW2 := Lib.hid hw2
  have HR := Lib.hid hR
  have HBK := Lib.hid hbk
  have k0 : (0 : Int) ≤ (k : Int) := by omega
  have k1 : (k : Int) < (rs.length : Int) := by omega
  have HSZ : Hid (w0.heap.size = w.heap.size + 2 ∧ w1.heap.size = w.heap.size + 3) := ⟨hs0, hs1⟩
  clear hw0 hw1 hw2 hB0 hB1 hB2 hX hZ hC1 hV2 hs0 hs1 hs2 hR hbk hc hrow ih hall hkd d0 d1 d2 d3 d4 d5 d6 d7
  go_enter Try.func42, Try.ntmps42
  go_upto_region 1 with fail
  rw [← hW0.out]
  go_upto_region 2 with fail
  rw [← hW1.out]
  go_upto_region 3 with fail
  rw [← hW2.out]
  clear bx e0 e1 e2 e3 e4 e5 e6 e7 hW0 hW1 hW2
  generalize w0.heap.size = B at HST HSZ ⊢
  generalize w1.heap.size = N at HST HSZ ⊢
  have hNB : w.heap.size + 2 ≤ B ∧ w.heap.size + 3 ≤ N := by have h := HSZ.out; omega
  obtain ⟨hNB1, hNB2⟩ := hNB
  clear HSZ w0 w1
  have y1 := (HST.out.r 1 _ rfl).1
  go_upto_region 32 with fail
  clear y1
  have HMV : Hid (MadeVal rs k (.mk 0 [] [])) := HNODE.out _ (by simp [ownB, HKD.out, ValueV.number, ValueV.bytes, ValueV.items]) (by simp [ValueV.bytes]) (by simp [ValueV.items]) (fun q h => by simp [ValueV.items] at h)
  have HOV : Hid (OwnV (fun b => w.heap.size + 4 ≤ b) (k + 1) (.mk 0 [] []) [.int .i64 0, .slice none 0 0, .slice none 0 0] w2) := ownv_none
  have o0 := (HST.out.v 0 _ rfl).1
  have o1 := (HST.out.v 1 _ rfl).1
  have o2 := (HST.out.v 2 _ rfl).1
  obtain ⟨z0, t0⟩ := HST.out.z 0 _ rfl
  obtain ⟨z1, t1⟩ := HST.out.z 1 _ rfl
  obtain ⟨z2, t2⟩ := HST.out.z 2 _ rfl
  have HFI := Lib.hid (HST.out.fin HOV.out hcw hold.out)
  clear HOV HST
  go_wp2
  (try simp only [Exit.inBlock, Exit.then])
  refine bodyPost_ret (v := .agg #[.int .i64 0, .slice none 0 0, .slice none 0 0]) ?_ rfl ?_
  · simp [results, Try.results42, go_sem, z0, z1, z2]
  · obtain ⟨ho, hcu, hgr⟩ := HFI.out _ _ _
    exact ⟨_, _, rfl, HMV.out, ho.mono (fun b _ hb => hb.1), hcu, hgr⟩
set_option maxRecDepth 100000 in
set_option maxHeartbeats 8000000 in
theorem mv_3 (a : Option Addr) (len cap c base : Nat) (ad : Option Addr) (rs : List RuleV) (capd k : Nat) (_hl : len ≤ 140737488355328) (_hrs : rs.length ≤ 9) (hall : allV (kindI rs) rs) (hcb : c < base) (hk : k < rs.length) (hkd : rs[k].kind = 3) (ih : ∀ m, m < k → MvC a len cap c base ad rs capd m) : MvC a len cap c base ad rs capd k := by
  intro most w hm0 hm1 hrow hbw hc
  have hcw : c < w.heap.size := by omega
  have hold := Lib.hid hc.old
  have hl := _hl
  have hrs := _hrs
  have HROW := Lib.hid hrow
  have HIH := Lib.hid ih
  have HALL := Lib.hid hall
  obtain ⟨b0, off, a4, c4, a5, c5, a6, c6, a7, c7, rfl, ⟨d0, d1, d2, d3, d4, d5, d6, d7⟩, hR, hbk⟩ := hrow.one k hk
  have HKI := Lib.hid (allV_kind hall hk)
  have HKS : Hid (∀ x ∈ rs[k].kids, ∃ m : Nat, x = (m : Int) ∧ m < k) := fun x hx => by have h1 := allV_kids hall hk x hx; exact ⟨x.toNat, by omega, by omega⟩
  have HIN : Hid (rs[k].kind = 4 ∨ rs[k].kind = 5 ∨ rs[k].kind = 7 → (ruleAt rs (rs[k].kids.getD 0 0)).kind = 1 ∧ ∃ m : Nat, rs[k].kids.getD 0 0 = (m : Int) ∧ m < k) := fun h => kid_int hall hk h
  have HNODE : Hid (∀ v : ValueV, ownB rs rs[k] v = true → v.bytes.length ≤ 64 → v.items.length ≤ 8 → (∀ q (h : q < v.items.length), ∃ m : Nat, itemR rs[k] v.number q = (m : Int) ∧ m < k ∧ MadeVal rs m v.items[q]) → MadeVal rs k v) := fun v h1 h2 h3 h4 => made_node hall hk h1 h2 h3 h4
  obtain ⟨r, hr⟩ : ∃ r, r = rs[k] := ⟨_, rfl⟩
  rw [← hr] at hkd d0 d1 d2 d3 d4 d5 d6 d7 hR hbk HKI HKS HIN HNODE
  clear hr
  rw [hkd] at d1 hR hbk
  have HKD := Lib.hid hkd
  obtain ⟨w0, hw0⟩ : ∃ w0, w0 = (w.alloc (.cells #[.slice (some ⟨b0, off, none⟩) rs.length capd] 38)).alloc (.cells #[.int .i64 0, .slice none 0 0, .slice none 0 0] 47) := ⟨_, rfl⟩
  have hB0 : Below w.heap.size w w0 := by subst hw0; exact ((Below.refl _ _).alloc (Nat.le_refl _) _).alloc (by simp) _
  have hX : CellsAt w.heap.size [.slice (some ⟨b0, off, none⟩) rs.length capd] w0 := by subst hw0; exact (CellsAt.new w _ _).below ((Below.refl _ _).alloc (Nat.le_refl _) _)
  have hZ : CellsAt (w.heap.size + 1) [.int .i64 0, .slice none 0 0, .slice none 0 0] w0 := by subst hw0; have h1 := CellsAt.new (w.alloc (.cells #[.slice (some ⟨b0, off, none⟩) rs.length capd] 38)) [.int .i64 0, .slice none 0 0, .slice none 0 0] 47; rw [World.size_alloc] at h1; exact h1
  have hs0 : w0.heap.size = w.heap.size + 2 := by subst hw0; simp
  obtain ⟨w1, hw1⟩ : ∃ w1, w1 = w0.alloc (.cells #[.string r.name, .int .i64 3, .int .i64 r.size, .bool r.little, .slice a4 r.bytes.length c4, .slice a5 r.names.length c5, .slice a6 r.tags.length c6, .slice a7 r.kids.length c7] 76) := ⟨_, rfl⟩
  have hB1 : Below w0.heap.size w0 w1 := by subst hw1; exact (Below.refl _ _).alloc (Nat.le_refl _) _
  have hC1 : CellsAt w0.heap.size [.string r.name, .int .i64 3, .int .i64 r.size, .bool r.little, .slice a4 r.bytes.length c4, .slice a5 r.names.length c5, .slice a6 r.tags.length c6, .slice a7 r.kids.length c7] w1 := by subst hw1; exact CellsAt.new w0 _ _
  have hs1 : w1.heap.size = w.heap.size + 3 := by subst hw1; rw [World.size_alloc, hs0]
  obtain ⟨w2, hw2⟩ : ∃ w2, w2 = w1.alloc (.cells #[.int .i64 0, .slice none 0 0, .slice none 0 0] 47) := ⟨_, rfl⟩
  have hB2 : Below w1.heap.size w1 w2 := by subst hw2; exact (Below.refl _ _).alloc (Nat.le_refl _) _
  have hV2 : CellsAt w1.heap.size [.int .i64 0, .slice none 0 0, .slice none 0 0] w2 := by subst hw2; exact CellsAt.new w1 _ _
  have hs2 : w2.heap.size = w.heap.size + 4 := by subst hw2; rw [World.size_alloc, hs1]
  have bx := (hX 0 _ rfl).1
  have e0 := (hB0.cell (cell_lt d0)).trans d0
  have e1 := (hB0.cell (cell_lt d1)).trans d1
  have e2 := (hB0.cell (cell_lt d2)).trans d2
  have e3 := (hB0.cell (cell_lt d3)).trans d3
  have e4 := (hB0.cell (cell_lt d4)).trans d4
  have e5 := (hB0.cell (cell_lt d5)).trans d5
  have e6 := (hB0.cell (cell_lt d6)).trans d6
  have e7 := (hB0.cell (cell_lt d7)).trans d7
  have HST : Hid (MvSt a len cap c (.slice (some ⟨b0, off, none⟩) rs.length capd) [.string r.name, .int .i64 3, .int .i64 r.size, .bool r.little, .slice a4 r.bytes.length c4, .slice a5 r.names.length c5, .slice a6 r.tags.length c6, .slice a7 r.kids.length c7] [.int .i64 0, .slice none 0 0, .slice none 0 0] w0.heap.size w1.heap.size w w2) := by
    refine ⟨⟨hs0, hs1, by omega⟩, (hX.below hB1).below hB2, (hZ.below hB1).below hB2, hC1.below hB2, hV2, ((hc.below hB0).below hB1).below hB2, grown_below (grown_below (grown_of hB0) hB1) hB2⟩
  have hW0 := Lib.hid hw0
  have hW1 := Lib.hid hw1
  have hW2 := Lib.hid hw2
  have HR := Lib.hid hR
  have HBK := Lib.hid hbk
  have k0 : (0 : Int) ≤ (k : Int) := by omega
  have k1 : (k : Int) < (rs.length : Int) := by omega
  have HSZ : Hid (w0.heap.size = w.heap.size + 2 ∧ w1.heap.size = w.heap.size + 3) := ⟨hs0, hs1⟩
  clear hw0 hw1 hw2 hB0 hB1 hB2 hX hZ hC1 hV2 hs0 hs1 hs2 hR hbk hc hrow ih hall hkd d0 d1 d2 d3 d4 d5 d6 d7
  go_enter Try.func42, Try.ntmps42
  go_upto_region 1 with fail
  rw [← hW0.out]
  go_upto_region 2 with fail
  rw [← hW1.out]
  go_upto_region 3 with fail
  rw [← hW2.out]
  clear bx e0 e1 e2 e3 e4 e5 e6 e7 hW0 hW1 hW2
  generalize w0.heap.size = B at HST HSZ ⊢
  generalize w1.heap.size = N at HST HSZ ⊢
  have hNB : w.heap.size + 2 ≤ B ∧ w.heap.size + 3 ≤ N := by have h := HSZ.out; omega
  obtain ⟨hNB1, hNB2⟩ := hNB
  clear HSZ w0 w1
  have hsz : 1 ≤ r.size ∧ r.size ≤ 64 := by have h := HKI.out; simp [kindI, meetsB, HKD.out] at h; omega
  obtain ⟨n, hn⟩ : ∃ n : Nat, r.size = (n : Int) := ⟨r.size.toNat, by omega⟩
  have hn64 : n ≤ 64 := by omega
  have HNS := Lib.hid hn
  clear hsz
  have y1 := (HST.out.r 1 _ rfl).1
  have y2 := (HST.out.r 2 _ rfl).1
  rw [hn] at y2
  clear hn
  go_wp2_with fail
  refine (bytes_draw a len cap c n _ hl (by omega) HST.out.cur).mono ?_
  rintro e w4 ⟨vb, bs, hbl, rfl, hob, hc1, hg⟩
  have hle := HST.out.le
  replace HST := Lib.hid (HST.out.draw hcw hc1 hg)
  obtain ⟨xa, xc, rfl, hrd, hblk, -⟩ := RowOut.rdn hob
  have HRD := Lib.hid hrd
  have HBL : Hid (∀ b off, xa = some ⟨b, off, none⟩ → bs.length ≠ 0 → w.heap.size + 4 ≤ b) := fun b off h1 h2 => Nat.le_trans hle (hblk b off h1 h2)
  have HLN := Lib.hid hbl
  clear hc1 hg y1 y2 hob hrd hblk hle hbl
  obtain ⟨o1, p1⟩ := HST.out.v 1 _ rfl
  go_upto_region 32 with fail
  clear o1 p1
  obtain ⟨w5, hv⟩ : ∃ v, v = w4.setCell ⟨N, 1, none⟩ (.slice xa bs.length xc) := ⟨_, rfl⟩
  rw [← hv]
  replace HST := Lib.hid (HST.out.set hcw hold.out 1 (.slice xa bs.length xc) (by simp))
  rw [← hv] at HST
  simp only [List.set] at HST
  have hNe := HST.out.1.2.1
  have HRD5 : Hid (RdN xa bs xc w5) := by rw [hv]; exact HRD.out.grown (grown_set (grown_refl w4 N) 1 _) (fun b off h1 h2 => by have := HBL.out b off h1 h2; intro e; injection e with e; omega)
  clear hNe
  clear hv
  have HMV : Hid (MadeVal rs k (.mk 0 bs [])) := HNODE.out _ (by have h := HLN.out; have h2 := HNS.out; simp [ownB, HKD.out, ValueV.number, ValueV.bytes, ValueV.items]; first | omega | exact decide_eq_true (by omega)) (by have h := HLN.out; simp [ValueV.bytes]; omega) (by simp [ValueV.items]) (fun q h => by simp [ValueV.items] at h)
  have HOV : Hid (OwnV (fun b => w.heap.size + 4 ≤ b) (k + 1) (.mk 0 bs []) [.int .i64 0, .slice xa bs.length xc, .slice none 0 0] w5) := own_leaf HRD5.out HBL.out
  have o0 := (HST.out.v 0 _ rfl).1
  have o1 := (HST.out.v 1 _ rfl).1
  have o2 := (HST.out.v 2 _ rfl).1
  obtain ⟨z0, t0⟩ := HST.out.z 0 _ rfl
  obtain ⟨z1, t1⟩ := HST.out.z 1 _ rfl
  obtain ⟨z2, t2⟩ := HST.out.z 2 _ rfl
  have HFI := Lib.hid (HST.out.fin HOV.out hcw hold.out)
  clear HOV HST
  go_wp2
  (try simp only [Exit.inBlock, Exit.then])
  refine bodyPost_ret (v := .agg #[.int .i64 0, .slice xa bs.length xc, .slice none 0 0]) ?_ rfl ?_
  · simp [results, Try.results42, go_sem, z0, z1, z2]
  · obtain ⟨ho, hcu, hgr⟩ := HFI.out _ _ _
    exact ⟨_, _, rfl, HMV.out, ho.mono (fun b _ hb => hb.1), hcu, hgr⟩
set_option maxRecDepth 100000 in
set_option maxHeartbeats 8000000 in
theorem mv_4 (a : Option Addr) (len cap c base : Nat) (ad : Option Addr) (rs : List RuleV) (capd k : Nat) (_hl : len ≤ 140737488355328) (_hrs : rs.length ≤ 9) (hall : allV (kindI rs) rs) (hcb : c < base) (hk : k < rs.length) (hkd : rs[k].kind = 4) (ih : ∀ m, m < k → MvC a len cap c base ad rs capd m) : MvC a len cap c base ad rs capd k := by
  intro most w hm0 hm1 hrow hbw hc
  have hcw : c < w.heap.size := by omega
  have hold := Lib.hid hc.old
  have hl := _hl
  have hrs := _hrs
  have HROW := Lib.hid hrow
  have HIH := Lib.hid ih
  have HALL := Lib.hid hall
  obtain ⟨b0, off, a4, c4, a5, c5, a6, c6, a7, c7, rfl, ⟨d0, d1, d2, d3, d4, d5, d6, d7⟩, hR, hbk⟩ := hrow.one k hk
  have HKI := Lib.hid (allV_kind hall hk)
  have HKS : Hid (∀ x ∈ rs[k].kids, ∃ m : Nat, x = (m : Int) ∧ m < k) := fun x hx => by have h1 := allV_kids hall hk x hx; exact ⟨x.toNat, by omega, by omega⟩
  have HIN : Hid (rs[k].kind = 4 ∨ rs[k].kind = 5 ∨ rs[k].kind = 7 → (ruleAt rs (rs[k].kids.getD 0 0)).kind = 1 ∧ ∃ m : Nat, rs[k].kids.getD 0 0 = (m : Int) ∧ m < k) := fun h => kid_int hall hk h
  have HNODE : Hid (∀ v : ValueV, ownB rs rs[k] v = true → v.bytes.length ≤ 64 → v.items.length ≤ 8 → (∀ q (h : q < v.items.length), ∃ m : Nat, itemR rs[k] v.number q = (m : Int) ∧ m < k ∧ MadeVal rs m v.items[q]) → MadeVal rs k v) := fun v h1 h2 h3 h4 => made_node hall hk h1 h2 h3 h4
  obtain ⟨r, hr⟩ : ∃ r, r = rs[k] := ⟨_, rfl⟩
  rw [← hr] at hkd d0 d1 d2 d3 d4 d5 d6 d7 hR hbk HKI HKS HIN HNODE
  clear hr
  rw [hkd] at d1 hR hbk
  have HKD := Lib.hid hkd
  obtain ⟨w0, hw0⟩ : ∃ w0, w0 = (w.alloc (.cells #[.slice (some ⟨b0, off, none⟩) rs.length capd] 38)).alloc (.cells #[.int .i64 0, .slice none 0 0, .slice none 0 0] 47) := ⟨_, rfl⟩
  have hB0 : Below w.heap.size w w0 := by subst hw0; exact ((Below.refl _ _).alloc (Nat.le_refl _) _).alloc (by simp) _
  have hX : CellsAt w.heap.size [.slice (some ⟨b0, off, none⟩) rs.length capd] w0 := by subst hw0; exact (CellsAt.new w _ _).below ((Below.refl _ _).alloc (Nat.le_refl _) _)
  have hZ : CellsAt (w.heap.size + 1) [.int .i64 0, .slice none 0 0, .slice none 0 0] w0 := by subst hw0; have h1 := CellsAt.new (w.alloc (.cells #[.slice (some ⟨b0, off, none⟩) rs.length capd] 38)) [.int .i64 0, .slice none 0 0, .slice none 0 0] 47; rw [World.size_alloc] at h1; exact h1
  have hs0 : w0.heap.size = w.heap.size + 2 := by subst hw0; simp
  obtain ⟨w1, hw1⟩ : ∃ w1, w1 = w0.alloc (.cells #[.string r.name, .int .i64 4, .int .i64 r.size, .bool r.little, .slice a4 r.bytes.length c4, .slice a5 r.names.length c5, .slice a6 r.tags.length c6, .slice a7 r.kids.length c7] 76) := ⟨_, rfl⟩
  have hB1 : Below w0.heap.size w0 w1 := by subst hw1; exact (Below.refl _ _).alloc (Nat.le_refl _) _
  have hC1 : CellsAt w0.heap.size [.string r.name, .int .i64 4, .int .i64 r.size, .bool r.little, .slice a4 r.bytes.length c4, .slice a5 r.names.length c5, .slice a6 r.tags.length c6, .slice a7 r.kids.length c7] w1 := by subst hw1; exact CellsAt.new w0 _ _
  have hs1 : w1.heap.size = w.heap.size + 3 := by subst hw1; rw [World.size_alloc, hs0]
  obtain ⟨w2, hw2⟩ : ∃ w2, w2 = w1.alloc (.cells #[.int .i64 0, .slice none 0 0, .slice none 0 0] 47) := ⟨_, rfl⟩
  have hB2 : Below w1.heap.size w1 w2 := by subst hw2; exact (Below.refl _ _).alloc (Nat.le_refl _) _
  have hV2 : CellsAt w1.heap.size [.int .i64 0, .slice none 0 0, .slice none 0 0] w2 := by subst hw2; exact CellsAt.new w1 _ _
  have hs2 : w2.heap.size = w.heap.size + 4 := by subst hw2; rw [World.size_alloc, hs1]
  have bx := (hX 0 _ rfl).1
  have e0 := (hB0.cell (cell_lt d0)).trans d0
  have e1 := (hB0.cell (cell_lt d1)).trans d1
  have e2 := (hB0.cell (cell_lt d2)).trans d2
  have e3 := (hB0.cell (cell_lt d3)).trans d3
  have e4 := (hB0.cell (cell_lt d4)).trans d4
  have e5 := (hB0.cell (cell_lt d5)).trans d5
  have e6 := (hB0.cell (cell_lt d6)).trans d6
  have e7 := (hB0.cell (cell_lt d7)).trans d7
  have HST : Hid (MvSt a len cap c (.slice (some ⟨b0, off, none⟩) rs.length capd) [.string r.name, .int .i64 4, .int .i64 r.size, .bool r.little, .slice a4 r.bytes.length c4, .slice a5 r.names.length c5, .slice a6 r.tags.length c6, .slice a7 r.kids.length c7] [.int .i64 0, .slice none 0 0, .slice none 0 0] w0.heap.size w1.heap.size w w2) := by
    refine ⟨⟨hs0, hs1, by omega⟩, (hX.below hB1).below hB2, (hZ.below hB1).below hB2, hC1.below hB2, hV2, ((hc.below hB0).below hB1).below hB2, grown_below (grown_below (grown_of hB0) hB1) hB2⟩
  have hW0 := Lib.hid hw0
  have hW1 := Lib.hid hw1
  have hW2 := Lib.hid hw2
  have HR := Lib.hid hR
  have HBK := Lib.hid hbk
  have k0 : (0 : Int) ≤ (k : Int) := by omega
  have k1 : (k : Int) < (rs.length : Int) := by omega
  have HSZ : Hid (w0.heap.size = w.heap.size + 2 ∧ w1.heap.size = w.heap.size + 3) := ⟨hs0, hs1⟩
  clear hw0 hw1 hw2 hB0 hB1 hB2 hX hZ hC1 hV2 hs0 hs1 hs2 hR hbk hc hrow ih hall hkd d0 d1 d2 d3 d4 d5 d6 d7
  go_enter Try.func42, Try.ntmps42
  go_upto_region 1 with fail
  rw [← hW0.out]
  go_upto_region 2 with fail
  rw [← hW1.out]
  go_upto_region 3 with fail
  rw [← hW2.out]
  clear bx e0 e1 e2 e3 e4 e5 e6 e7 hW0 hW1 hW2
  generalize w0.heap.size = B at HST HSZ ⊢
  generalize w1.heap.size = N at HST HSZ ⊢
  have hNB : w.heap.size + 2 ≤ B ∧ w.heap.size + 3 ≤ N := by have h := HSZ.out; omega
  obtain ⟨hNB1, hNB2⟩ := hNB
  clear HSZ w0 w1
  have HLM : Hid (255 ≤ limitAt rs (r.kids.getD 0 0)) := by
    show _ ≤ _
    obtain ⟨h1, m, hm, hmk⟩ := HIN.out (.inl HKD.out)
    rw [hm] at h1 ⊢
    rw [ruleAt_at (by omega)] at h1
    have h2 := kindI_size (allV_kind HALL.out (show m < rs.length by omega)) h1
    rw [limitAt_in (by omega), if_pos ⟨h1, h2⟩]
    have h3 := h2.1; have h4 := h2.2
    obtain e | e | e | e : rs[m].size = 1 ∨ rs[m].size = 2 ∨ rs[m].size = 3 ∨ rs[m].size = 4 := by omega
    all_goals (rw [e]; decide)
  obtain ⟨m, hm⟩ : ∃ m, m = min most 6 := ⟨_, rfl⟩
  have hm0' : 0 ≤ m := by omega
  have hm6 : m ≤ 6 := by omega
  have y1 := (HST.out.r 1 _ rfl).1
  have y4 := (HST.out.r 4 _ rfl).1
  go_wp2_with fail
  refine (min_spec _ _ _).mono ?_
  rintro e w3 ⟨rfl, rfl⟩
  rw [← hm]
  clear hm
  go_wp2_with fail
  refine (below_draw a len cap c (m + 1) _ hl (by omega) (by omega) HST.out.cur).mono ?_
  rintro e w3 ⟨x, ⟨x0, x1⟩, rfl, hc1, hg⟩
  replace HST := Lib.hid (HST.out.draw hcw hc1 hg)
  clear hc1 hg y1 y4
  obtain ⟨n, rfl⟩ : ∃ n : Nat, x = (n : Int) := ⟨x.toNat, by omega⟩
  have hn6 : n ≤ 6 := by omega
  go_wp2_with fail
  refine (bytes_draw a len cap c n _ hl (by omega) HST.out.cur).mono ?_
  rintro e w4 ⟨vb, bs, hbl, rfl, hob, hc1, hg⟩
  have hle := HST.out.le
  replace HST := Lib.hid (HST.out.draw hcw hc1 hg)
  obtain ⟨xa, xc, rfl, hrd, hblk, hrw⟩ := RowOut.rdn hob
  have HRD := Lib.hid hrd
  have HRW := Lib.hid hrw
  have HBL : Hid (∀ b off, xa = some ⟨b, off, none⟩ → bs.length ≠ 0 → w.heap.size + 4 ≤ b) := fun b off h1 h2 => Nat.le_trans hle (hblk b off h1 h2)
  have HLN : Hid (bs.length ≤ 6) := by show _ ≤ _; omega
  have hb7 : bs.length ≤ 7 := by have h := HLN.out; omega
  clear hc1 hg hob hrd hrw hblk hle hbl
  obtain ⟨o1, p1⟩ := HST.out.v 1 _ rfl
  go_upto_region 11 with fail
  clear o1 p1
  obtain ⟨w5, hv⟩ : ∃ v, v = w4.setCell ⟨N, 1, none⟩ (.slice xa bs.length xc) := ⟨_, rfl⟩
  rw [← hv]
  replace HST := Lib.hid (HST.out.set hcw hold.out 1 (.slice xa bs.length xc) (by simp))
  rw [← hv] at HST
  simp only [List.set] at HST
  have hNe := HST.out.1.2.1
  have HRD5 : Hid (RdN xa bs xc w5) := by rw [hv]; exact HRD.out.grown (grown_set (grown_refl w4 N) 1 _) (fun b off h1 h2 => by have := HBL.out b off h1 h2; intro e; injection e with e; omega)
  have HRW5 : Hid (∀ h : 0 < bs.length, ∃ b off, xa = some ⟨b, off, none⟩ ∧ w5.cell? ⟨b, off, none⟩ = some (.int .u8 (bs[0].toNat : Int)) ∧ w5.frozen? ⟨b, off, none⟩ = false) := fun h => by
    rcases HRW.out.1 with h0 | ⟨b, off, ha, hB, hcc⟩
    · rw [h0] at h; simp at h
    · have h1 := hcc 0 h
      have h2 := HBL.out b off ha (by omega)
      rw [Nat.add_zero] at h1
      exact ⟨b, off, ha, by rw [hv]; exact (World.cell?_setCell_other _ _ _ _ (by intro e; injection e with e; omega)).trans h1.1, by rw [hv]; simpa using h1.2⟩
  clear hNe
  clear hv
  have y1 := (HST.out.r 1 _ rfl).1
  go_upto_region 32 with fail
  clear y1
  have HMV : Hid (MadeVal rs k (.mk 0 bs [])) := HNODE.out _ (by have h := HLN.out; have h2 := HLM.out; simp [ownB, HKD.out, ValueV.number, ValueV.bytes, ValueV.items] at h2 ⊢; omega) (by have h := HLN.out; simp [ValueV.bytes]; omega) (by simp [ValueV.items]) (fun q h => by simp [ValueV.items] at h)
  have HOV : Hid (OwnV (fun b => w.heap.size + 4 ≤ b) (k + 1) (.mk 0 bs []) [.int .i64 0, .slice xa bs.length xc, .slice none 0 0] w5) := own_leaf HRD5.out HBL.out
  have o0 := (HST.out.v 0 _ rfl).1
  have o1 := (HST.out.v 1 _ rfl).1
  have o2 := (HST.out.v 2 _ rfl).1
  obtain ⟨z0, t0⟩ := HST.out.z 0 _ rfl
  obtain ⟨z1, t1⟩ := HST.out.z 1 _ rfl
  obtain ⟨z2, t2⟩ := HST.out.z 2 _ rfl
  have HFI := Lib.hid (HST.out.fin HOV.out hcw hold.out)
  clear HOV HST
  go_wp2
  (try simp only [Exit.inBlock, Exit.then])
  refine bodyPost_ret (v := .agg #[.int .i64 0, .slice xa bs.length xc, .slice none 0 0]) ?_ rfl ?_
  · simp [results, Try.results42, go_sem, z0, z1, z2]
  · obtain ⟨ho, hcu, hgr⟩ := HFI.out _ _ _
    exact ⟨_, _, rfl, HMV.out, ho.mono (fun b _ hb => hb.1), hcu, hgr⟩
set_option maxRecDepth 100000 in
set_option maxHeartbeats 8000000 in
theorem mv_7 (a : Option Addr) (len cap c base : Nat) (ad : Option Addr) (rs : List RuleV) (capd k : Nat) (_hl : len ≤ 140737488355328) (_hrs : rs.length ≤ 9) (hall : allV (kindI rs) rs) (hcb : c < base) (hk : k < rs.length) (hkd : rs[k].kind = 7) (ih : ∀ m, m < k → MvC a len cap c base ad rs capd m) : MvC a len cap c base ad rs capd k := by
  intro most w hm0 hm1 hrow hbw hc
  have hcw : c < w.heap.size := by omega
  have hold := Lib.hid hc.old
  have hl := _hl
  have hrs := _hrs
  have HROW := Lib.hid hrow
  have HIH := Lib.hid ih
  have HALL := Lib.hid hall
  obtain ⟨b0, off, a4, c4, a5, c5, a6, c6, a7, c7, rfl, ⟨d0, d1, d2, d3, d4, d5, d6, d7⟩, hR, hbk⟩ := hrow.one k hk
  have HKI := Lib.hid (allV_kind hall hk)
  have HKS : Hid (∀ x ∈ rs[k].kids, ∃ m : Nat, x = (m : Int) ∧ m < k) := fun x hx => by have h1 := allV_kids hall hk x hx; exact ⟨x.toNat, by omega, by omega⟩
  have HIN : Hid (rs[k].kind = 4 ∨ rs[k].kind = 5 ∨ rs[k].kind = 7 → (ruleAt rs (rs[k].kids.getD 0 0)).kind = 1 ∧ ∃ m : Nat, rs[k].kids.getD 0 0 = (m : Int) ∧ m < k) := fun h => kid_int hall hk h
  have HNODE : Hid (∀ v : ValueV, ownB rs rs[k] v = true → v.bytes.length ≤ 64 → v.items.length ≤ 8 → (∀ q (h : q < v.items.length), ∃ m : Nat, itemR rs[k] v.number q = (m : Int) ∧ m < k ∧ MadeVal rs m v.items[q]) → MadeVal rs k v) := fun v h1 h2 h3 h4 => made_node hall hk h1 h2 h3 h4
  obtain ⟨r, hr⟩ : ∃ r, r = rs[k] := ⟨_, rfl⟩
  rw [← hr] at hkd d0 d1 d2 d3 d4 d5 d6 d7 hR hbk HKI HKS HIN HNODE
  clear hr
  rw [hkd] at d1 hR hbk
  have HKD := Lib.hid hkd
  obtain ⟨w0, hw0⟩ : ∃ w0, w0 = (w.alloc (.cells #[.slice (some ⟨b0, off, none⟩) rs.length capd] 38)).alloc (.cells #[.int .i64 0, .slice none 0 0, .slice none 0 0] 47) := ⟨_, rfl⟩
  have hB0 : Below w.heap.size w w0 := by subst hw0; exact ((Below.refl _ _).alloc (Nat.le_refl _) _).alloc (by simp) _
  have hX : CellsAt w.heap.size [.slice (some ⟨b0, off, none⟩) rs.length capd] w0 := by subst hw0; exact (CellsAt.new w _ _).below ((Below.refl _ _).alloc (Nat.le_refl _) _)
  have hZ : CellsAt (w.heap.size + 1) [.int .i64 0, .slice none 0 0, .slice none 0 0] w0 := by subst hw0; have h1 := CellsAt.new (w.alloc (.cells #[.slice (some ⟨b0, off, none⟩) rs.length capd] 38)) [.int .i64 0, .slice none 0 0, .slice none 0 0] 47; rw [World.size_alloc] at h1; exact h1
  have hs0 : w0.heap.size = w.heap.size + 2 := by subst hw0; simp
  obtain ⟨w1, hw1⟩ : ∃ w1, w1 = w0.alloc (.cells #[.string r.name, .int .i64 7, .int .i64 r.size, .bool r.little, .slice a4 r.bytes.length c4, .slice a5 r.names.length c5, .slice a6 r.tags.length c6, .slice a7 r.kids.length c7] 76) := ⟨_, rfl⟩
  have hB1 : Below w0.heap.size w0 w1 := by subst hw1; exact (Below.refl _ _).alloc (Nat.le_refl _) _
  have hC1 : CellsAt w0.heap.size [.string r.name, .int .i64 7, .int .i64 r.size, .bool r.little, .slice a4 r.bytes.length c4, .slice a5 r.names.length c5, .slice a6 r.tags.length c6, .slice a7 r.kids.length c7] w1 := by subst hw1; exact CellsAt.new w0 _ _
  have hs1 : w1.heap.size = w.heap.size + 3 := by subst hw1; rw [World.size_alloc, hs0]
  obtain ⟨w2, hw2⟩ : ∃ w2, w2 = w1.alloc (.cells #[.int .i64 0, .slice none 0 0, .slice none 0 0] 47) := ⟨_, rfl⟩
  have hB2 : Below w1.heap.size w1 w2 := by subst hw2; exact (Below.refl _ _).alloc (Nat.le_refl _) _
  have hV2 : CellsAt w1.heap.size [.int .i64 0, .slice none 0 0, .slice none 0 0] w2 := by subst hw2; exact CellsAt.new w1 _ _
  have hs2 : w2.heap.size = w.heap.size + 4 := by subst hw2; rw [World.size_alloc, hs1]
  have bx := (hX 0 _ rfl).1
  have e0 := (hB0.cell (cell_lt d0)).trans d0
  have e1 := (hB0.cell (cell_lt d1)).trans d1
  have e2 := (hB0.cell (cell_lt d2)).trans d2
  have e3 := (hB0.cell (cell_lt d3)).trans d3
  have e4 := (hB0.cell (cell_lt d4)).trans d4
  have e5 := (hB0.cell (cell_lt d5)).trans d5
  have e6 := (hB0.cell (cell_lt d6)).trans d6
  have e7 := (hB0.cell (cell_lt d7)).trans d7
  have HST : Hid (MvSt a len cap c (.slice (some ⟨b0, off, none⟩) rs.length capd) [.string r.name, .int .i64 7, .int .i64 r.size, .bool r.little, .slice a4 r.bytes.length c4, .slice a5 r.names.length c5, .slice a6 r.tags.length c6, .slice a7 r.kids.length c7] [.int .i64 0, .slice none 0 0, .slice none 0 0] w0.heap.size w1.heap.size w w2) := by
    refine ⟨⟨hs0, hs1, by omega⟩, (hX.below hB1).below hB2, (hZ.below hB1).below hB2, hC1.below hB2, hV2, ((hc.below hB0).below hB1).below hB2, grown_below (grown_below (grown_of hB0) hB1) hB2⟩
  have hW0 := Lib.hid hw0
  have hW1 := Lib.hid hw1
  have hW2 := Lib.hid hw2
  have HR := Lib.hid hR
  have HBK := Lib.hid hbk
  have k0 : (0 : Int) ≤ (k : Int) := by omega
  have k1 : (k : Int) < (rs.length : Int) := by omega
  have HSZ : Hid (w0.heap.size = w.heap.size + 2 ∧ w1.heap.size = w.heap.size + 3) := ⟨hs0, hs1⟩
  clear hw0 hw1 hw2 hB0 hB1 hB2 hX hZ hC1 hV2 hs0 hs1 hs2 hR hbk hc hrow ih hall hkd d0 d1 d2 d3 d4 d5 d6 d7
  go_enter Try.func42, Try.ntmps42
  go_upto_region 1 with fail
  rw [← hW0.out]
  go_upto_region 2 with fail
  rw [← hW1.out]
  go_upto_region 3 with fail
  rw [← hW2.out]
  clear bx e0 e1 e2 e3 e4 e5 e6 e7 hW0 hW1 hW2
  generalize w0.heap.size = B at HST HSZ ⊢
  generalize w1.heap.size = N at HST HSZ ⊢
  have hNB : w.heap.size + 2 ≤ B ∧ w.heap.size + 3 ≤ N := by have h := HSZ.out; omega
  obtain ⟨hNB1, hNB2⟩ := hNB
  clear HSZ w0 w1
  have hl7 := kindI_7 HKI.out HKD.out
  obtain ⟨n, hn⟩ : ∃ n : Nat, n = r.tags.length := ⟨_, rfl⟩
  have HTN := Lib.hid hn
  have hkt : n + 1 = r.kids.length ∧ 1 ≤ n ∧ n ≤ 8 := by omega
  obtain ⟨hkt1, hkt2, hkt3⟩ := hkt
  have HKT := Lib.hid hkt1
  have HTG : Hid (tagsOk (limitAt rs (r.kids.headD 0)) 0 r.tags = true) := by
    have h8 : tagsB rs r = true := by have h := HKI.out; simp [kindI, meetsB, HKD.out] at h; exact h.1
    unfold tagsB at h8
    rw [Bool.and_eq_true] at h8
    exact h8.2
  have y1 := (HST.out.r 1 _ rfl).1
  have y6 := (HST.out.r 6 _ rfl).1
  rw [← hn] at y6
  clear hl7 hkt1 hn
  go_wp2_with fail
  refine (below_draw a len cap c (n : Int) _ hl (by omega) (by omega) HST.out.cur).mono ?_
  rintro e w3 ⟨x, ⟨x0, x1⟩, rfl, hc1, hg⟩
  replace HST := Lib.hid (HST.out.draw hcw hc1 hg)
  clear hc1 hg y1 y6
  obtain ⟨j, rfl⟩ : ∃ j : Nat, x = (j : Int) := ⟨x.toNat, by omega⟩
  have hjn : j < n := by omega
  have hjt : j < r.tags.length := by have h := HTN.out; omega
  obtain ⟨b6, o6, h6, hc6⟩ := (rule_slices (HST.out.rule HR.out HBK.out hcb)).2.1 j hjt
  subst h6
  obtain ⟨tg, htg⟩ : ∃ t, t = r.tags[j] := ⟨_, rfl⟩
  rw [← htg] at hc6
  have HTJ := Lib.hid htg
  clear htg
  obtain ⟨b7, o7, h7, hc7⟩ := (rule_slices (HST.out.rule HR.out HBK.out hcb)).2.2 (j + 1) (show j + 1 < r.kids.length by have h := HKT.out; omega)
  obtain ⟨m, hm, hmk⟩ := HKS.out _ (List.getElem_mem (show j + 1 < r.kids.length by have h := HKT.out; omega))
  subst h7
  rw [hm] at hc7
  have hm0n : (0 : Int) ≤ (m : Int) := by omega
  have HMK : Hid (r.kids.getD (j + 1) 0 = (m : Int)) := by show _ = _; rw [List.getD, List.getElem?_eq_getElem (show j + 1 < r.kids.length by have h := HKT.out; omega), Option.getD_some]; exact hm
  clear hm
  have HNI : Hid (itemR r tg 0 = (m : Int)) := by
    show _ = _
    have h1 : itemR r tg 0 = tagKid r.tags (r.kids.drop 1) tg := by unfold itemR; rw [if_neg (by have := HKD.out; omega), if_neg (by have := HKD.out; omega), if_pos HKD.out]
    have h4 := HKT.out; have h5 := HTN.out
    rw [h1, HTJ.out, tagKid_at HTG.out (by rw [List.length_drop]; omega) hjt (by rw [List.length_drop]; omega), ← HMK.out, List.getElem_drop]
    rw [List.getD, List.getElem?_eq_getElem (show j + 1 < r.kids.length by omega), Option.getD_some]
    congr 1; omega
  have y6 := (HST.out.r 6 _ rfl).1
  rw [← HTN.out] at y6
  have j0 : (0 : Int) ≤ (j : Int) := by omega
  have j1 : (j : Int) < (n : Int) := by omega
  obtain ⟨o0, p0⟩ := HST.out.v 0 _ rfl
  go_upto_region 26 with fail
  clear o0 p0 y6 hc6
  obtain ⟨w4, hv⟩ : ∃ v, v = w3.setCell ⟨N, 0, none⟩ (.int .i64 tg) := ⟨_, rfl⟩
  rw [← hv]
  replace HST := Lib.hid (HST.out.set hcw hold.out 0 (.int .i64 tg) (by simp))
  rw [← hv] at HST
  simp only [List.set] at HST
  have HC7 : Hid (w4.cell? ⟨b7, o7 + (j + 1), none⟩ = some (.int .i64 (m : Int))) := by
    have hb7 : some b7 ≠ some N := by
      have h1 := HBK.out b7 (by simp only [List.flatMap_cons, List.mem_append]; right; right; right; right; right; right; right; left; exact blk_of (by have h := HKT.out; omega))
      have h2 := cell_lt hc7
      intro e; injection e with e
      exact absurd (HR.out.lt b7 (by simp only [List.flatMap_cons, List.mem_append]; right; right; right; right; right; right; right; left; exact blk_of (by have h := HKT.out; omega))) (by omega)
    rw [hv]; exact (World.cell?_setCell_other _ _ _ _ (by intro e; apply hb7; injection e with e; rw [e])).trans hc7
  clear hv
  clear hc7
  have hc7 := HC7.out
  clear HC7
  obtain ⟨J, hJ⟩ : ∃ J : Nat, J = j + 1 := ⟨_, rfl⟩
  rw [← hJ] at hc7
  have hJ2 : (j : Int) + 1 = (J : Int) := by omega
  have hwJ : IntKind.i64.wrap (J : Int) = (J : Int) := IntWalk.i64_in _ (by have h := HKT.out; omega)
  have J0 : (0 : Int) ≤ (J : Int) := by omega
  have J1 : (J : Int) < (r.kids.length : Int) := by have h := HKT.out; omega
  clear hJ
  have hqo := IntWalk.i64_quo most 2 ⟨hm0, by omega, by omega⟩
  have bx := (HST.out.d 0 _ rfl).1
  have y7 := (HST.out.r 7 _ rfl).1
  have hle := HST.out.le
  have HD : Hid (Below w4.heap.size w4 w4.drew) := below_drewN (Below.refl _ _) 1
  replace HST := Lib.hid (HST.out.below HD.out)
  go_upto_region 26 with fail
  go_region_law (first | (go_simp; go_at_call 42; refine (HIH.out m hmk (most / 2) w4.drew (by omega) (by omega) (HROW.out.grown HST.out.grown hcb) (Nat.le_trans hbw (Nat.le_trans (by omega) hle)) HST.out.cur).mono ?_; rintro e w6 ⟨y, ys, rfl, hmv, hown, hc1, hg⟩; obtain ⟨xab, xcb, xai, xci, rfl⟩ := hown.cells; have HMY := Lib.hid hmv; have HOY := Lib.hid hown; replace HST := Lib.hid (HST.out.draw hcw hc1 hg); obtain ⟨o2, p2⟩ := HST.out.v.below ((Below.refl w6.heap.size w6).alloc (Nat.le_refl _) (.cells #[.int .i64 y.number, .slice xab y.bytes.length xcb, .slice xai y.items.length xci] 47)) 2 _ rfl; clear hmv hown hc1 hg))
  all_goals (
    have h6 := HST.out.le
    have hNe := HST.out.1.2.1
    obtain ⟨w7, hw7⟩ : ∃ v, v = w6.alloc (.cells #[.int .i64 y.number, .slice xab y.bytes.length xcb, .slice xai y.items.length xci] 47) := ⟨_, rfl⟩
    rw [← hw7]
    have hb7 : Below w6.heap.size w6 w7 := by rw [hw7]; exact (Below.refl _ _).alloc (Nat.le_refl _) _
    have HCY : Hid (CellsAt w6.heap.size [.int .i64 y.number, .slice xab y.bytes.length xcb, .slice xai y.items.length xci] w7) := by rw [hw7]; exact CellsAt.new w6 _ _
    replace HST := Lib.hid (HST.out.below hb7)
    replace HOY := Lib.hid ((HOY.out.below (g := fun b => w4.drew.heap.size ≤ b) hb7 (fun b _ h => h)).up (show m + 1 ≤ k by omega))
    clear hw7 hb7 o2 p2
    obtain ⟨w8, hv⟩ : ∃ v, v = w7.setCell ⟨N, 2, none⟩ (.slice (some ⟨w6.heap.size, 0, none⟩) 1 1) := ⟨_, rfl⟩
    replace HST := Lib.hid (HST.out.set hcw hold.out 2 (.slice (some ⟨w6.heap.size, 0, none⟩) 1 1) (by simp))
    rw [← hv] at HST ⊢
    simp only [List.set] at HST
    replace HCY : Hid (CellsAt w6.heap.size [.int .i64 y.number, .slice xab y.bytes.length xcb, .slice xai y.items.length xci] w8) := by rw [hv]; exact HCY.out.far (by omega)
    replace HOY := Lib.hid (HOY.out.grown (g := fun b => w.heap.size + 4 ≤ b) (w' := w8) (row := some N) (by rw [hv]; exact grown_set (grown_refl w7 N) 2 _) (fun b _ h => by have h8 : w4.heap.size ≤ b := h; exact ⟨by omega, by intro e; injection e with e; omega⟩))
    have HBS : Hid (w.heap.size + 4 ≤ w6.heap.size) := by show _ ≤ _; omega
    clear hv h6 hNe bx y7 hc7 hqo hle hJ2 hwJ J0 J1 j0 j1
    generalize w6.heap.size = bv5 at HST HCY HBS ⊢
    go_upto_region 32 with fail
    have HMV : Hid (MadeVal rs k (.mk tg [] [y])) := HNODE.out _ (by have h := HNI.out; simp [ownB, HKD.out, ValueV.number, ValueV.bytes, ValueV.items, h]) (by simp [ValueV.bytes]) (by simp [ValueV.items]) (fun q h => by have h0 : q = 0 := (by simpa [ValueV.items] using h); subst h0; exact ⟨m, HNI.out, hmk, HMY.out⟩)
    have HOV : Hid (OwnV (fun b => w.heap.size + 4 ≤ b) (k + 1) (.mk tg [] [y]) [.int .i64 tg, .slice none 0 0, .slice (some ⟨bv5, 0, none⟩) 1 1] w8) := own_single (f := fun b => w.heap.size + 4 ≤ b) HBS.out HOY.out HCY.out
    have o0 := (HST.out.v 0 _ rfl).1
    have o1 := (HST.out.v 1 _ rfl).1
    have o2 := (HST.out.v 2 _ rfl).1
    obtain ⟨z0, t0⟩ := HST.out.z 0 _ rfl
    obtain ⟨z1, t1⟩ := HST.out.z 1 _ rfl
    obtain ⟨z2, t2⟩ := HST.out.z 2 _ rfl
    have HFI := Lib.hid (HST.out.fin HOV.out hcw hold.out)
    clear HOV HST
    go_wp2
    (try simp only [Exit.inBlock, Exit.then])
    refine bodyPost_ret (v := .agg #[.int .i64 tg, .slice none 0 0, .slice (some ⟨bv5, 0, none⟩) 1 1]) ?_ rfl ?_
    · simp [results, Try.results42, go_sem, z0, z1, z2]
    · obtain ⟨ho, hcu, hgr⟩ := HFI.out _ _ _
      exact ⟨_, _, rfl, HMV.out, ho.mono (fun b _ hb => hb.1), hcu, hgr⟩)
set_option maxRecDepth 100000 in
set_option maxHeartbeats 8000000 in
theorem mv_8 (a : Option Addr) (len cap c base : Nat) (ad : Option Addr) (rs : List RuleV) (capd k : Nat) (_hl : len ≤ 140737488355328) (_hrs : rs.length ≤ 9) (hall : allV (kindI rs) rs) (hcb : c < base) (hk : k < rs.length) (hkd : rs[k].kind = 8) (ih : ∀ m, m < k → MvC a len cap c base ad rs capd m) : MvC a len cap c base ad rs capd k := by
  intro most w hm0 hm1 hrow hbw hc
  have hcw : c < w.heap.size := by omega
  have hold := Lib.hid hc.old
  have hl := _hl
  have hrs := _hrs
  have HROW := Lib.hid hrow
  have HIH := Lib.hid ih
  have HALL := Lib.hid hall
  obtain ⟨b0, off, a4, c4, a5, c5, a6, c6, a7, c7, rfl, ⟨d0, d1, d2, d3, d4, d5, d6, d7⟩, hR, hbk⟩ := hrow.one k hk
  have HKI := Lib.hid (allV_kind hall hk)
  have HKS : Hid (∀ x ∈ rs[k].kids, ∃ m : Nat, x = (m : Int) ∧ m < k) := fun x hx => by have h1 := allV_kids hall hk x hx; exact ⟨x.toNat, by omega, by omega⟩
  have HIN : Hid (rs[k].kind = 4 ∨ rs[k].kind = 5 ∨ rs[k].kind = 7 → (ruleAt rs (rs[k].kids.getD 0 0)).kind = 1 ∧ ∃ m : Nat, rs[k].kids.getD 0 0 = (m : Int) ∧ m < k) := fun h => kid_int hall hk h
  have HNODE : Hid (∀ v : ValueV, ownB rs rs[k] v = true → v.bytes.length ≤ 64 → v.items.length ≤ 8 → (∀ q (h : q < v.items.length), ∃ m : Nat, itemR rs[k] v.number q = (m : Int) ∧ m < k ∧ MadeVal rs m v.items[q]) → MadeVal rs k v) := fun v h1 h2 h3 h4 => made_node hall hk h1 h2 h3 h4
  obtain ⟨r, hr⟩ : ∃ r, r = rs[k] := ⟨_, rfl⟩
  rw [← hr] at hkd d0 d1 d2 d3 d4 d5 d6 d7 hR hbk HKI HKS HIN HNODE
  clear hr
  rw [hkd] at d1 hR hbk
  have HKD := Lib.hid hkd
  obtain ⟨w0, hw0⟩ : ∃ w0, w0 = (w.alloc (.cells #[.slice (some ⟨b0, off, none⟩) rs.length capd] 38)).alloc (.cells #[.int .i64 0, .slice none 0 0, .slice none 0 0] 47) := ⟨_, rfl⟩
  have hB0 : Below w.heap.size w w0 := by subst hw0; exact ((Below.refl _ _).alloc (Nat.le_refl _) _).alloc (by simp) _
  have hX : CellsAt w.heap.size [.slice (some ⟨b0, off, none⟩) rs.length capd] w0 := by subst hw0; exact (CellsAt.new w _ _).below ((Below.refl _ _).alloc (Nat.le_refl _) _)
  have hZ : CellsAt (w.heap.size + 1) [.int .i64 0, .slice none 0 0, .slice none 0 0] w0 := by subst hw0; have h1 := CellsAt.new (w.alloc (.cells #[.slice (some ⟨b0, off, none⟩) rs.length capd] 38)) [.int .i64 0, .slice none 0 0, .slice none 0 0] 47; rw [World.size_alloc] at h1; exact h1
  have hs0 : w0.heap.size = w.heap.size + 2 := by subst hw0; simp
  obtain ⟨w1, hw1⟩ : ∃ w1, w1 = w0.alloc (.cells #[.string r.name, .int .i64 8, .int .i64 r.size, .bool r.little, .slice a4 r.bytes.length c4, .slice a5 r.names.length c5, .slice a6 r.tags.length c6, .slice a7 r.kids.length c7] 76) := ⟨_, rfl⟩
  have hB1 : Below w0.heap.size w0 w1 := by subst hw1; exact (Below.refl _ _).alloc (Nat.le_refl _) _
  have hC1 : CellsAt w0.heap.size [.string r.name, .int .i64 8, .int .i64 r.size, .bool r.little, .slice a4 r.bytes.length c4, .slice a5 r.names.length c5, .slice a6 r.tags.length c6, .slice a7 r.kids.length c7] w1 := by subst hw1; exact CellsAt.new w0 _ _
  have hs1 : w1.heap.size = w.heap.size + 3 := by subst hw1; rw [World.size_alloc, hs0]
  obtain ⟨w2, hw2⟩ : ∃ w2, w2 = w1.alloc (.cells #[.int .i64 0, .slice none 0 0, .slice none 0 0] 47) := ⟨_, rfl⟩
  have hB2 : Below w1.heap.size w1 w2 := by subst hw2; exact (Below.refl _ _).alloc (Nat.le_refl _) _
  have hV2 : CellsAt w1.heap.size [.int .i64 0, .slice none 0 0, .slice none 0 0] w2 := by subst hw2; exact CellsAt.new w1 _ _
  have hs2 : w2.heap.size = w.heap.size + 4 := by subst hw2; rw [World.size_alloc, hs1]
  have bx := (hX 0 _ rfl).1
  have e0 := (hB0.cell (cell_lt d0)).trans d0
  have e1 := (hB0.cell (cell_lt d1)).trans d1
  have e2 := (hB0.cell (cell_lt d2)).trans d2
  have e3 := (hB0.cell (cell_lt d3)).trans d3
  have e4 := (hB0.cell (cell_lt d4)).trans d4
  have e5 := (hB0.cell (cell_lt d5)).trans d5
  have e6 := (hB0.cell (cell_lt d6)).trans d6
  have e7 := (hB0.cell (cell_lt d7)).trans d7
  have HST : Hid (MvSt a len cap c (.slice (some ⟨b0, off, none⟩) rs.length capd) [.string r.name, .int .i64 8, .int .i64 r.size, .bool r.little, .slice a4 r.bytes.length c4, .slice a5 r.names.length c5, .slice a6 r.tags.length c6, .slice a7 r.kids.length c7] [.int .i64 0, .slice none 0 0, .slice none 0 0] w0.heap.size w1.heap.size w w2) := by
    refine ⟨⟨hs0, hs1, by omega⟩, (hX.below hB1).below hB2, (hZ.below hB1).below hB2, hC1.below hB2, hV2, ((hc.below hB0).below hB1).below hB2, grown_below (grown_below (grown_of hB0) hB1) hB2⟩
  have hW0 := Lib.hid hw0
  have hW1 := Lib.hid hw1
  have hW2 := Lib.hid hw2
  have HR := Lib.hid hR
  have HBK := Lib.hid hbk
  have k0 : (0 : Int) ≤ (k : Int) := by omega
  have k1 : (k : Int) < (rs.length : Int) := by omega
  have HSZ : Hid (w0.heap.size = w.heap.size + 2 ∧ w1.heap.size = w.heap.size + 3) := ⟨hs0, hs1⟩
  clear hw0 hw1 hw2 hB0 hB1 hB2 hX hZ hC1 hV2 hs0 hs1 hs2 hR hbk hc hrow ih hall hkd d0 d1 d2 d3 d4 d5 d6 d7
  go_enter Try.func42, Try.ntmps42
  go_upto_region 1 with fail
  rw [← hW0.out]
  go_upto_region 2 with fail
  rw [← hW1.out]
  go_upto_region 3 with fail
  rw [← hW2.out]
  clear bx e0 e1 e2 e3 e4 e5 e6 e7 hW0 hW1 hW2
  generalize w0.heap.size = B at HST HSZ ⊢
  generalize w1.heap.size = N at HST HSZ ⊢
  have hNB : w.heap.size + 2 ≤ B ∧ w.heap.size + 3 ≤ N := by have h := HSZ.out; omega
  obtain ⟨hNB1, hNB2⟩ := hNB
  clear HSZ w0 w1
  have hkl := kindI_8 HKI.out HKD.out
  have hkl1 : (0 : Int) < (r.kids.length : Int) := by omega
  have y1 := (HST.out.r 1 _ rfl).1
  go_wp2_with fail
  refine (once_draw a len cap c 2 _ hl (by omega) (by omega) HST.out.cur).mono ?_
  rintro e w3 ⟨x, rfl, hc1, hg⟩
  replace HST := Lib.hid (HST.out.draw hcw hc1 hg)
  clear hc1 hg y1
  cases x with
  | false =>
    go_upto_region 32 with fail
    have HMV : Hid (MadeVal rs k (.mk 0 [] [])) := HNODE.out _ (by simp [ownB, HKD.out, ValueV.number, ValueV.bytes, ValueV.items]) (by simp [ValueV.bytes]) (by simp [ValueV.items]) (fun q h => by simp [ValueV.items] at h)
    have HOV : Hid (OwnV (fun b => w.heap.size + 4 ≤ b) (k + 1) (.mk 0 [] []) [.int .i64 0, .slice none 0 0, .slice none 0 0] w3) := ownv_none
    have o0 := (HST.out.v 0 _ rfl).1
    have o1 := (HST.out.v 1 _ rfl).1
    have o2 := (HST.out.v 2 _ rfl).1
    obtain ⟨z0, t0⟩ := HST.out.z 0 _ rfl
    obtain ⟨z1, t1⟩ := HST.out.z 1 _ rfl
    obtain ⟨z2, t2⟩ := HST.out.z 2 _ rfl
    have HFI := Lib.hid (HST.out.fin HOV.out hcw hold.out)
    clear HOV HST
    go_wp2
    (try simp only [Exit.inBlock, Exit.then])
    refine bodyPost_ret (v := .agg #[.int .i64 0, .slice none 0 0, .slice none 0 0]) ?_ rfl ?_
    · simp [results, Try.results42, go_sem, z0, z1, z2]
    · obtain ⟨ho, hcu, hgr⟩ := HFI.out _ _ _
      exact ⟨_, _, rfl, HMV.out, ho.mono (fun b _ hb => hb.1), hcu, hgr⟩
  | true =>
    obtain ⟨b7, o7, h7, hc7⟩ := (rule_slices (HST.out.rule HR.out HBK.out hcb)).2.2 0 (by omega)
    obtain ⟨m, hm, hmk⟩ := HKS.out _ (List.getElem_mem (show 0 < r.kids.length by omega))
    subst h7
    rw [hm] at hc7
    have hm0n : (0 : Int) ≤ (m : Int) := by omega
    have HMK : Hid (r.kids.getD 0 0 = (m : Int)) := by show _ = _; rw [List.getD, List.getElem?_eq_getElem (show 0 < r.kids.length by omega), Option.getD_some]; exact hm
    clear hm
    simp only [Nat.add_zero] at hc7
    have hqo := IntWalk.i64_quo most 2 ⟨hm0, by omega, by omega⟩
    have bx := (HST.out.d 0 _ rfl).1
    have y7 := (HST.out.r 7 _ rfl).1
    have hle := HST.out.le
    have HD : Hid (Below w3.heap.size w3 w3.drew) := below_drewN (Below.refl _ _) 1
    replace HST := Lib.hid (HST.out.below HD.out)
    go_upto_region 29 with fail
    go_region_law (first | (go_simp; go_at_call 42; refine (HIH.out m hmk (most / 2) w3.drew (by omega) (by omega) (HROW.out.grown HST.out.grown hcb) (Nat.le_trans hbw (Nat.le_trans (by omega) hle)) HST.out.cur).mono ?_; rintro e w6 ⟨y, ys, rfl, hmv, hown, hc1, hg⟩; obtain ⟨xab, xcb, xai, xci, rfl⟩ := hown.cells; have HMY := Lib.hid hmv; have HOY := Lib.hid hown; replace HST := Lib.hid (HST.out.draw hcw hc1 hg); obtain ⟨o2, p2⟩ := HST.out.v.below ((Below.refl w6.heap.size w6).alloc (Nat.le_refl _) (.cells #[.int .i64 y.number, .slice xab y.bytes.length xcb, .slice xai y.items.length xci] 47)) 2 _ rfl; clear hmv hown hc1 hg))
    all_goals (
      have h6 := HST.out.le
      have hNe := HST.out.1.2.1
      obtain ⟨w7, hw7⟩ : ∃ v, v = w6.alloc (.cells #[.int .i64 y.number, .slice xab y.bytes.length xcb, .slice xai y.items.length xci] 47) := ⟨_, rfl⟩
      rw [← hw7]
      have hb7 : Below w6.heap.size w6 w7 := by rw [hw7]; exact (Below.refl _ _).alloc (Nat.le_refl _) _
      have HCY : Hid (CellsAt w6.heap.size [.int .i64 y.number, .slice xab y.bytes.length xcb, .slice xai y.items.length xci] w7) := by rw [hw7]; exact CellsAt.new w6 _ _
      replace HST := Lib.hid (HST.out.below hb7)
      replace HOY := Lib.hid ((HOY.out.below (g := fun b => w3.drew.heap.size ≤ b) hb7 (fun b _ h => h)).up (show m + 1 ≤ k by omega))
      clear hw7 hb7 o2 p2
      obtain ⟨w8, hv⟩ : ∃ v, v = w7.setCell ⟨N, 2, none⟩ (.slice (some ⟨w6.heap.size, 0, none⟩) 1 1) := ⟨_, rfl⟩
      replace HST := Lib.hid (HST.out.set hcw hold.out 2 (.slice (some ⟨w6.heap.size, 0, none⟩) 1 1) (by simp))
      rw [← hv] at HST ⊢
      simp only [List.set] at HST
      replace HCY : Hid (CellsAt w6.heap.size [.int .i64 y.number, .slice xab y.bytes.length xcb, .slice xai y.items.length xci] w8) := by rw [hv]; exact HCY.out.far (by omega)
      replace HOY := Lib.hid (HOY.out.grown (g := fun b => w.heap.size + 4 ≤ b) (w' := w8) (row := some N) (by rw [hv]; exact grown_set (grown_refl w7 N) 2 _) (fun b _ h => by have h8 : w3.heap.size ≤ b := h; exact ⟨by omega, by intro e; injection e with e; omega⟩))
      have HBS : Hid (w.heap.size + 4 ≤ w6.heap.size) := by show _ ≤ _; omega
      clear hv h6 hNe bx y7 hc7 hqo hle hkl1 hkl
      generalize w6.heap.size = bv5 at HST HCY HBS ⊢
      go_upto_region 32 with fail
      have HMV : Hid (MadeVal rs k (.mk 0 [] [y])) := HNODE.out _ (by simp [ownB, HKD.out, ValueV.number, ValueV.bytes, ValueV.items]) (by simp [ValueV.bytes]) (by simp [ValueV.items]) (fun q h => by have h0 : q = 0 := (by simpa [ValueV.items] using h); subst h0; exact ⟨m, by rw [← HMK.out]; simp [itemR, HKD.out], hmk, HMY.out⟩)
      have HOV : Hid (OwnV (fun b => w.heap.size + 4 ≤ b) (k + 1) (.mk 0 [] [y]) [.int .i64 0, .slice none 0 0, .slice (some ⟨bv5, 0, none⟩) 1 1] w8) := own_single (f := fun b => w.heap.size + 4 ≤ b) HBS.out HOY.out HCY.out
      have o0 := (HST.out.v 0 _ rfl).1
      have o1 := (HST.out.v 1 _ rfl).1
      have o2 := (HST.out.v 2 _ rfl).1
      obtain ⟨z0, t0⟩ := HST.out.z 0 _ rfl
      obtain ⟨z1, t1⟩ := HST.out.z 1 _ rfl
      obtain ⟨z2, t2⟩ := HST.out.z 2 _ rfl
      have HFI := Lib.hid (HST.out.fin HOV.out hcw hold.out)
      clear HOV HST
      go_wp2
      (try simp only [Exit.inBlock, Exit.then])
      refine bodyPost_ret (v := .agg #[.int .i64 0, .slice none 0 0, .slice (some ⟨bv5, 0, none⟩) 1 1]) ?_ rfl ?_
      · simp [results, Try.results42, go_sem, z0, z1, z2]
      · obtain ⟨ho, hcu, hgr⟩ := HFI.out _ _ _
        exact ⟨_, _, rfl, HMV.out, ho.mono (fun b _ hb => hb.1), hcu, hgr⟩)
set_option maxRecDepth 100000 in
set_option maxHeartbeats 8000000 in
theorem mv_9 (a : Option Addr) (len cap c base : Nat) (ad : Option Addr) (rs : List RuleV) (capd k : Nat) (_hl : len ≤ 140737488355328) (_hrs : rs.length ≤ 9) (hall : allV (kindI rs) rs) (hcb : c < base) (hk : k < rs.length) (hkd : rs[k].kind = 9) (ih : ∀ m, m < k → MvC a len cap c base ad rs capd m) : MvC a len cap c base ad rs capd k := by
  intro most w hm0 hm1 hrow hbw hc
  have hcw : c < w.heap.size := by omega
  have hold := Lib.hid hc.old
  have hl := _hl
  have hrs := _hrs
  have HROW := Lib.hid hrow
  have HIH := Lib.hid ih
  have HALL := Lib.hid hall
  obtain ⟨b0, off, a4, c4, a5, c5, a6, c6, a7, c7, rfl, ⟨d0, d1, d2, d3, d4, d5, d6, d7⟩, hR, hbk⟩ := hrow.one k hk
  have HKI := Lib.hid (allV_kind hall hk)
  have HKS : Hid (∀ x ∈ rs[k].kids, ∃ m : Nat, x = (m : Int) ∧ m < k) := fun x hx => by have h1 := allV_kids hall hk x hx; exact ⟨x.toNat, by omega, by omega⟩
  have HIN : Hid (rs[k].kind = 4 ∨ rs[k].kind = 5 ∨ rs[k].kind = 7 → (ruleAt rs (rs[k].kids.getD 0 0)).kind = 1 ∧ ∃ m : Nat, rs[k].kids.getD 0 0 = (m : Int) ∧ m < k) := fun h => kid_int hall hk h
  have HNODE : Hid (∀ v : ValueV, ownB rs rs[k] v = true → v.bytes.length ≤ 64 → v.items.length ≤ 8 → (∀ q (h : q < v.items.length), ∃ m : Nat, itemR rs[k] v.number q = (m : Int) ∧ m < k ∧ MadeVal rs m v.items[q]) → MadeVal rs k v) := fun v h1 h2 h3 h4 => made_node hall hk h1 h2 h3 h4
  obtain ⟨r, hr⟩ : ∃ r, r = rs[k] := ⟨_, rfl⟩
  rw [← hr] at hkd d0 d1 d2 d3 d4 d5 d6 d7 hR hbk HKI HKS HIN HNODE
  clear hr
  rw [hkd] at d1 hR hbk
  have HKD := Lib.hid hkd
  obtain ⟨w0, hw0⟩ : ∃ w0, w0 = (w.alloc (.cells #[.slice (some ⟨b0, off, none⟩) rs.length capd] 38)).alloc (.cells #[.int .i64 0, .slice none 0 0, .slice none 0 0] 47) := ⟨_, rfl⟩
  have hB0 : Below w.heap.size w w0 := by subst hw0; exact ((Below.refl _ _).alloc (Nat.le_refl _) _).alloc (by simp) _
  have hX : CellsAt w.heap.size [.slice (some ⟨b0, off, none⟩) rs.length capd] w0 := by subst hw0; exact (CellsAt.new w _ _).below ((Below.refl _ _).alloc (Nat.le_refl _) _)
  have hZ : CellsAt (w.heap.size + 1) [.int .i64 0, .slice none 0 0, .slice none 0 0] w0 := by subst hw0; have h1 := CellsAt.new (w.alloc (.cells #[.slice (some ⟨b0, off, none⟩) rs.length capd] 38)) [.int .i64 0, .slice none 0 0, .slice none 0 0] 47; rw [World.size_alloc] at h1; exact h1
  have hs0 : w0.heap.size = w.heap.size + 2 := by subst hw0; simp
  obtain ⟨w1, hw1⟩ : ∃ w1, w1 = w0.alloc (.cells #[.string r.name, .int .i64 9, .int .i64 r.size, .bool r.little, .slice a4 r.bytes.length c4, .slice a5 r.names.length c5, .slice a6 r.tags.length c6, .slice a7 r.kids.length c7] 76) := ⟨_, rfl⟩
  have hB1 : Below w0.heap.size w0 w1 := by subst hw1; exact (Below.refl _ _).alloc (Nat.le_refl _) _
  have hC1 : CellsAt w0.heap.size [.string r.name, .int .i64 9, .int .i64 r.size, .bool r.little, .slice a4 r.bytes.length c4, .slice a5 r.names.length c5, .slice a6 r.tags.length c6, .slice a7 r.kids.length c7] w1 := by subst hw1; exact CellsAt.new w0 _ _
  have hs1 : w1.heap.size = w.heap.size + 3 := by subst hw1; rw [World.size_alloc, hs0]
  obtain ⟨w2, hw2⟩ : ∃ w2, w2 = w1.alloc (.cells #[.int .i64 0, .slice none 0 0, .slice none 0 0] 47) := ⟨_, rfl⟩
  have hB2 : Below w1.heap.size w1 w2 := by subst hw2; exact (Below.refl _ _).alloc (Nat.le_refl _) _
  have hV2 : CellsAt w1.heap.size [.int .i64 0, .slice none 0 0, .slice none 0 0] w2 := by subst hw2; exact CellsAt.new w1 _ _
  have hs2 : w2.heap.size = w.heap.size + 4 := by subst hw2; rw [World.size_alloc, hs1]
  have bx := (hX 0 _ rfl).1
  have e0 := (hB0.cell (cell_lt d0)).trans d0
  have e1 := (hB0.cell (cell_lt d1)).trans d1
  have e2 := (hB0.cell (cell_lt d2)).trans d2
  have e3 := (hB0.cell (cell_lt d3)).trans d3
  have e4 := (hB0.cell (cell_lt d4)).trans d4
  have e5 := (hB0.cell (cell_lt d5)).trans d5
  have e6 := (hB0.cell (cell_lt d6)).trans d6
  have e7 := (hB0.cell (cell_lt d7)).trans d7
  have HST : Hid (MvSt a len cap c (.slice (some ⟨b0, off, none⟩) rs.length capd) [.string r.name, .int .i64 9, .int .i64 r.size, .bool r.little, .slice a4 r.bytes.length c4, .slice a5 r.names.length c5, .slice a6 r.tags.length c6, .slice a7 r.kids.length c7] [.int .i64 0, .slice none 0 0, .slice none 0 0] w0.heap.size w1.heap.size w w2) := by
    refine ⟨⟨hs0, hs1, by omega⟩, (hX.below hB1).below hB2, (hZ.below hB1).below hB2, hC1.below hB2, hV2, ((hc.below hB0).below hB1).below hB2, grown_below (grown_below (grown_of hB0) hB1) hB2⟩
  have hW0 := Lib.hid hw0
  have hW1 := Lib.hid hw1
  have hW2 := Lib.hid hw2
  have HR := Lib.hid hR
  have HBK := Lib.hid hbk
  have k0 : (0 : Int) ≤ (k : Int) := by omega
  have k1 : (k : Int) < (rs.length : Int) := by omega
  have HSZ : Hid (w0.heap.size = w.heap.size + 2 ∧ w1.heap.size = w.heap.size + 3) := ⟨hs0, hs1⟩
  clear hw0 hw1 hw2 hB0 hB1 hB2 hX hZ hC1 hV2 hs0 hs1 hs2 hR hbk hc hrow ih hall hkd d0 d1 d2 d3 d4 d5 d6 d7
  go_enter Try.func42, Try.ntmps42
  go_upto_region 1 with fail
  rw [← hW0.out]
  go_upto_region 2 with fail
  rw [← hW1.out]
  go_upto_region 3 with fail
  rw [← hW2.out]
  clear bx e0 e1 e2 e3 e4 e5 e6 e7 hW0 hW1 hW2
  generalize w0.heap.size = B at HST HSZ ⊢
  generalize w1.heap.size = N at HST HSZ ⊢
  have hNB : w.heap.size + 2 ≤ B ∧ w.heap.size + 3 ≤ N := by have h := HSZ.out; omega
  obtain ⟨hNB1, hNB2⟩ := hNB
  clear HSZ w0 w1
  have hkl := kindI_9 HKI.out HKD.out
  have hkl1 : (0 : Int) < (r.kids.length : Int) := by omega
  obtain ⟨b7, o7, h7, hc7⟩ := (rule_slices (HST.out.rule HR.out HBK.out hcb)).2.2 0 (by omega)
  obtain ⟨m, hm, hmk⟩ := HKS.out _ (List.getElem_mem (show 0 < r.kids.length by omega))
  subst h7
  rw [hm] at hc7
  have hm0n : (0 : Int) ≤ (m : Int) := by omega
  have HMK : Hid (r.kids.getD 0 0 = (m : Int)) := by show _ = _; rw [List.getD, List.getElem?_eq_getElem (show 0 < r.kids.length by omega), Option.getD_some]; exact hm
  clear hm
  have y1 := (HST.out.r 1 _ rfl).1
  simp only [Nat.add_zero] at hc7
  have hqo := IntWalk.i64_quo most 2 ⟨hm0, by omega, by omega⟩
  have bx := (HST.out.d 0 _ rfl).1
  have y7 := (HST.out.r 7 _ rfl).1
  have hle := HST.out.le
  have HD : Hid (Below w2.heap.size w2 w2.drew) := below_drewN (Below.refl _ _) 1
  replace HST := Lib.hid (HST.out.below HD.out)
  go_upto_region 31 with fail
  go_region_law (first | (go_simp; go_at_call 42; refine (HIH.out m hmk (most / 2) w2.drew (by omega) (by omega) (HROW.out.grown HST.out.grown hcb) (Nat.le_trans hbw (Nat.le_trans (by omega) hle)) HST.out.cur).mono ?_; rintro e w6 ⟨y, ys, rfl, hmv, hown, hc1, hg⟩; obtain ⟨xab, xcb, xai, xci, rfl⟩ := hown.cells; have HMY := Lib.hid hmv; have HOY := Lib.hid hown; replace HST := Lib.hid (HST.out.draw hcw hc1 hg); obtain ⟨o2, p2⟩ := HST.out.v.below ((Below.refl w6.heap.size w6).alloc (Nat.le_refl _) (.cells #[.int .i64 y.number, .slice xab y.bytes.length xcb, .slice xai y.items.length xci] 47)) 2 _ rfl; clear hmv hown hc1 hg))
  all_goals (
    have h6 := HST.out.le
    have hNe := HST.out.1.2.1
    obtain ⟨w7, hw7⟩ : ∃ v, v = w6.alloc (.cells #[.int .i64 y.number, .slice xab y.bytes.length xcb, .slice xai y.items.length xci] 47) := ⟨_, rfl⟩
    rw [← hw7]
    have hb7 : Below w6.heap.size w6 w7 := by rw [hw7]; exact (Below.refl _ _).alloc (Nat.le_refl _) _
    have HCY : Hid (CellsAt w6.heap.size [.int .i64 y.number, .slice xab y.bytes.length xcb, .slice xai y.items.length xci] w7) := by rw [hw7]; exact CellsAt.new w6 _ _
    replace HST := Lib.hid (HST.out.below hb7)
    replace HOY := Lib.hid ((HOY.out.below (g := fun b => w2.drew.heap.size ≤ b) hb7 (fun b _ h => h)).up (show m + 1 ≤ k by omega))
    clear hw7 hb7 o2 p2
    obtain ⟨w8, hv⟩ : ∃ v, v = w7.setCell ⟨N, 2, none⟩ (.slice (some ⟨w6.heap.size, 0, none⟩) 1 1) := ⟨_, rfl⟩
    replace HST := Lib.hid (HST.out.set hcw hold.out 2 (.slice (some ⟨w6.heap.size, 0, none⟩) 1 1) (by simp))
    rw [← hv] at HST ⊢
    simp only [List.set] at HST
    replace HCY : Hid (CellsAt w6.heap.size [.int .i64 y.number, .slice xab y.bytes.length xcb, .slice xai y.items.length xci] w8) := by rw [hv]; exact HCY.out.far (by omega)
    replace HOY := Lib.hid (HOY.out.grown (g := fun b => w.heap.size + 4 ≤ b) (w' := w8) (row := some N) (by rw [hv]; exact grown_set (grown_refl w7 N) 2 _) (fun b _ h => by have h8 : w2.heap.size ≤ b := h; exact ⟨by omega, by intro e; injection e with e; omega⟩))
    have HBS : Hid (w.heap.size + 4 ≤ w6.heap.size) := by show _ ≤ _; omega
    clear hv h6 hNe bx y7 hc7 hqo hle y1 hkl1 hkl
    generalize w6.heap.size = bv5 at HST HCY HBS ⊢
    go_upto_region 32 with fail
    have HMV : Hid (MadeVal rs k (.mk 0 [] [y])) := HNODE.out _ (by simp [ownB, HKD.out, ValueV.number, ValueV.bytes, ValueV.items]) (by simp [ValueV.bytes]) (by simp [ValueV.items]) (fun q h => by have h0 : q = 0 := (by simpa [ValueV.items] using h); subst h0; exact ⟨m, by rw [← HMK.out]; simp [itemR, HKD.out], hmk, HMY.out⟩)
    have HOV : Hid (OwnV (fun b => w.heap.size + 4 ≤ b) (k + 1) (.mk 0 [] [y]) [.int .i64 0, .slice none 0 0, .slice (some ⟨bv5, 0, none⟩) 1 1] w8) := own_single (f := fun b => w.heap.size + 4 ≤ b) HBS.out HOY.out HCY.out
    have o0 := (HST.out.v 0 _ rfl).1
    have o1 := (HST.out.v 1 _ rfl).1
    have o2 := (HST.out.v 2 _ rfl).1
    obtain ⟨z0, t0⟩ := HST.out.z 0 _ rfl
    obtain ⟨z1, t1⟩ := HST.out.z 1 _ rfl
    obtain ⟨z2, t2⟩ := HST.out.z 2 _ rfl
    have HFI := Lib.hid (HST.out.fin HOV.out hcw hold.out)
    clear HOV HST
    go_wp2
    (try simp only [Exit.inBlock, Exit.then])
    refine bodyPost_ret (v := .agg #[.int .i64 0, .slice none 0 0, .slice (some ⟨bv5, 0, none⟩) 1 1]) ?_ rfl ?_
    · simp [results, Try.results42, go_sem, z0, z1, z2]
    · obtain ⟨ho, hcu, hgr⟩ := HFI.out _ _ _
      exact ⟨_, _, rfl, HMV.out, ho.mono (fun b _ hb => hb.1), hcu, hgr⟩)
set_option maxRecDepth 100000 in
set_option maxHeartbeats 8000000 in
theorem mv_10 (a : Option Addr) (len cap c base : Nat) (ad : Option Addr) (rs : List RuleV) (capd k : Nat) (_hl : len ≤ 140737488355328) (_hrs : rs.length ≤ 9) (hall : allV (kindI rs) rs) (hcb : c < base) (hk : k < rs.length) (hkd : rs[k].kind = 10) (ih : ∀ m, m < k → MvC a len cap c base ad rs capd m) : MvC a len cap c base ad rs capd k := by
  intro most w hm0 hm1 hrow hbw hc
  have hcw : c < w.heap.size := by omega
  have hold := Lib.hid hc.old
  have hl := _hl
  have hrs := _hrs
  have HROW := Lib.hid hrow
  have HIH := Lib.hid ih
  have HALL := Lib.hid hall
  obtain ⟨b0, off, a4, c4, a5, c5, a6, c6, a7, c7, rfl, ⟨d0, d1, d2, d3, d4, d5, d6, d7⟩, hR, hbk⟩ := hrow.one k hk
  have HKI := Lib.hid (allV_kind hall hk)
  have HKS : Hid (∀ x ∈ rs[k].kids, ∃ m : Nat, x = (m : Int) ∧ m < k) := fun x hx => by have h1 := allV_kids hall hk x hx; exact ⟨x.toNat, by omega, by omega⟩
  have HIN : Hid (rs[k].kind = 4 ∨ rs[k].kind = 5 ∨ rs[k].kind = 7 → (ruleAt rs (rs[k].kids.getD 0 0)).kind = 1 ∧ ∃ m : Nat, rs[k].kids.getD 0 0 = (m : Int) ∧ m < k) := fun h => kid_int hall hk h
  have HNODE : Hid (∀ v : ValueV, ownB rs rs[k] v = true → v.bytes.length ≤ 64 → v.items.length ≤ 8 → (∀ q (h : q < v.items.length), ∃ m : Nat, itemR rs[k] v.number q = (m : Int) ∧ m < k ∧ MadeVal rs m v.items[q]) → MadeVal rs k v) := fun v h1 h2 h3 h4 => made_node hall hk h1 h2 h3 h4
  obtain ⟨r, hr⟩ : ∃ r, r = rs[k] := ⟨_, rfl⟩
  rw [← hr] at hkd d0 d1 d2 d3 d4 d5 d6 d7 hR hbk HKI HKS HIN HNODE
  clear hr
  rw [hkd] at d1 hR hbk
  have HKD := Lib.hid hkd
  obtain ⟨w0, hw0⟩ : ∃ w0, w0 = (w.alloc (.cells #[.slice (some ⟨b0, off, none⟩) rs.length capd] 38)).alloc (.cells #[.int .i64 0, .slice none 0 0, .slice none 0 0] 47) := ⟨_, rfl⟩
  have hB0 : Below w.heap.size w w0 := by subst hw0; exact ((Below.refl _ _).alloc (Nat.le_refl _) _).alloc (by simp) _
  have hX : CellsAt w.heap.size [.slice (some ⟨b0, off, none⟩) rs.length capd] w0 := by subst hw0; exact (CellsAt.new w _ _).below ((Below.refl _ _).alloc (Nat.le_refl _) _)
  have hZ : CellsAt (w.heap.size + 1) [.int .i64 0, .slice none 0 0, .slice none 0 0] w0 := by subst hw0; have h1 := CellsAt.new (w.alloc (.cells #[.slice (some ⟨b0, off, none⟩) rs.length capd] 38)) [.int .i64 0, .slice none 0 0, .slice none 0 0] 47; rw [World.size_alloc] at h1; exact h1
  have hs0 : w0.heap.size = w.heap.size + 2 := by subst hw0; simp
  obtain ⟨w1, hw1⟩ : ∃ w1, w1 = w0.alloc (.cells #[.string r.name, .int .i64 10, .int .i64 r.size, .bool r.little, .slice a4 r.bytes.length c4, .slice a5 r.names.length c5, .slice a6 r.tags.length c6, .slice a7 r.kids.length c7] 76) := ⟨_, rfl⟩
  have hB1 : Below w0.heap.size w0 w1 := by subst hw1; exact (Below.refl _ _).alloc (Nat.le_refl _) _
  have hC1 : CellsAt w0.heap.size [.string r.name, .int .i64 10, .int .i64 r.size, .bool r.little, .slice a4 r.bytes.length c4, .slice a5 r.names.length c5, .slice a6 r.tags.length c6, .slice a7 r.kids.length c7] w1 := by subst hw1; exact CellsAt.new w0 _ _
  have hs1 : w1.heap.size = w.heap.size + 3 := by subst hw1; rw [World.size_alloc, hs0]
  obtain ⟨w2, hw2⟩ : ∃ w2, w2 = w1.alloc (.cells #[.int .i64 0, .slice none 0 0, .slice none 0 0] 47) := ⟨_, rfl⟩
  have hB2 : Below w1.heap.size w1 w2 := by subst hw2; exact (Below.refl _ _).alloc (Nat.le_refl _) _
  have hV2 : CellsAt w1.heap.size [.int .i64 0, .slice none 0 0, .slice none 0 0] w2 := by subst hw2; exact CellsAt.new w1 _ _
  have hs2 : w2.heap.size = w.heap.size + 4 := by subst hw2; rw [World.size_alloc, hs1]
  have bx := (hX 0 _ rfl).1
  have e0 := (hB0.cell (cell_lt d0)).trans d0
  have e1 := (hB0.cell (cell_lt d1)).trans d1
  have e2 := (hB0.cell (cell_lt d2)).trans d2
  have e3 := (hB0.cell (cell_lt d3)).trans d3
  have e4 := (hB0.cell (cell_lt d4)).trans d4
  have e5 := (hB0.cell (cell_lt d5)).trans d5
  have e6 := (hB0.cell (cell_lt d6)).trans d6
  have e7 := (hB0.cell (cell_lt d7)).trans d7
  have HST : Hid (MvSt a len cap c (.slice (some ⟨b0, off, none⟩) rs.length capd) [.string r.name, .int .i64 10, .int .i64 r.size, .bool r.little, .slice a4 r.bytes.length c4, .slice a5 r.names.length c5, .slice a6 r.tags.length c6, .slice a7 r.kids.length c7] [.int .i64 0, .slice none 0 0, .slice none 0 0] w0.heap.size w1.heap.size w w2) := by
    refine ⟨⟨hs0, hs1, by omega⟩, (hX.below hB1).below hB2, (hZ.below hB1).below hB2, hC1.below hB2, hV2, ((hc.below hB0).below hB1).below hB2, grown_below (grown_below (grown_of hB0) hB1) hB2⟩
  have hW0 := Lib.hid hw0
  have hW1 := Lib.hid hw1
  have hW2 := Lib.hid hw2
  have HR := Lib.hid hR
  have HBK := Lib.hid hbk
  have k0 : (0 : Int) ≤ (k : Int) := by omega
  have k1 : (k : Int) < (rs.length : Int) := by omega
  have HSZ : Hid (w0.heap.size = w.heap.size + 2 ∧ w1.heap.size = w.heap.size + 3) := ⟨hs0, hs1⟩
  clear hw0 hw1 hw2 hB0 hB1 hB2 hX hZ hC1 hV2 hs0 hs1 hs2 hR hbk hc hrow ih hall hkd d0 d1 d2 d3 d4 d5 d6 d7
  go_enter Try.func42, Try.ntmps42
  go_upto_region 1 with fail
  rw [← hW0.out]
  go_upto_region 2 with fail
  rw [← hW1.out]
  go_upto_region 3 with fail
  rw [← hW2.out]
  clear bx e0 e1 e2 e3 e4 e5 e6 e7 hW0 hW1 hW2
  generalize w0.heap.size = B at HST HSZ ⊢
  generalize w1.heap.size = N at HST HSZ ⊢
  have hNB : w.heap.size + 2 ≤ B ∧ w.heap.size + 3 ≤ N := by have h := HSZ.out; omega
  obtain ⟨hNB1, hNB2⟩ := hNB
  clear HSZ w0 w1
  obtain ⟨m, hm⟩ : ∃ m, m = min most 6 := ⟨_, rfl⟩
  have hm0' : 0 ≤ m := by omega
  have hm6 : m ≤ 6 := by omega
  have y1 := (HST.out.r 1 _ rfl).1
  have y4 := (HST.out.r 4 _ rfl).1
  go_wp2_with fail
  refine (min_spec _ _ _).mono ?_
  rintro e w3 ⟨rfl, rfl⟩
  rw [← hm]
  clear hm
  go_wp2_with fail
  refine (below_draw a len cap c (m + 1) _ hl (by omega) (by omega) HST.out.cur).mono ?_
  rintro e w3 ⟨x, ⟨x0, x1⟩, rfl, hc1, hg⟩
  replace HST := Lib.hid (HST.out.draw hcw hc1 hg)
  clear hc1 hg y1 y4
  obtain ⟨n, rfl⟩ : ∃ n : Nat, x = (n : Int) := ⟨x.toNat, by omega⟩
  have hn6 : n ≤ 6 := by omega
  go_wp2_with fail
  refine (bytes_draw a len cap c n _ hl (by omega) HST.out.cur).mono ?_
  rintro e w4 ⟨vb, bs, hbl, rfl, hob, hc1, hg⟩
  have hle := HST.out.le
  replace HST := Lib.hid (HST.out.draw hcw hc1 hg)
  obtain ⟨xa, xc, rfl, hrd, hblk, hrw⟩ := RowOut.rdn hob
  have HRD := Lib.hid hrd
  have HRW := Lib.hid hrw
  have HBL : Hid (∀ b off, xa = some ⟨b, off, none⟩ → bs.length ≠ 0 → w.heap.size + 4 ≤ b) := fun b off h1 h2 => Nat.le_trans hle (hblk b off h1 h2)
  have HLN : Hid (bs.length ≤ 6) := by show _ ≤ _; omega
  have hb7 : bs.length ≤ 7 := by have h := HLN.out; omega
  clear hc1 hg hob hrd hrw hblk hle hbl
  obtain ⟨o1, p1⟩ := HST.out.v 1 _ rfl
  go_upto_region 11 with fail
  clear o1 p1
  obtain ⟨w5, hv⟩ : ∃ v, v = w4.setCell ⟨N, 1, none⟩ (.slice xa bs.length xc) := ⟨_, rfl⟩
  rw [← hv]
  replace HST := Lib.hid (HST.out.set hcw hold.out 1 (.slice xa bs.length xc) (by simp))
  rw [← hv] at HST
  simp only [List.set] at HST
  have hNe := HST.out.1.2.1
  have HRD5 : Hid (RdN xa bs xc w5) := by rw [hv]; exact HRD.out.grown (grown_set (grown_refl w4 N) 1 _) (fun b off h1 h2 => by have := HBL.out b off h1 h2; intro e; injection e with e; omega)
  have HRW5 : Hid (∀ h : 0 < bs.length, ∃ b off, xa = some ⟨b, off, none⟩ ∧ w5.cell? ⟨b, off, none⟩ = some (.int .u8 (bs[0].toNat : Int)) ∧ w5.frozen? ⟨b, off, none⟩ = false) := fun h => by
    rcases HRW.out.1 with h0 | ⟨b, off, ha, hB, hcc⟩
    · rw [h0] at h; simp at h
    · have h1 := hcc 0 h
      have h2 := HBL.out b off ha (by omega)
      rw [Nat.add_zero] at h1
      exact ⟨b, off, ha, by rw [hv]; exact (World.cell?_setCell_other _ _ _ _ (by intro e; injection e with e; omega)).trans h1.1, by rw [hv]; simpa using h1.2⟩
  clear hNe
  clear hv
  have y1 := (HST.out.r 1 _ rfl).1
  have o1 := (HST.out.v 1 _ rfl).1
  by_cases hb0 : bs.length = 0
  case pos =>
    have g0 : ¬ (0 : Int) < (bs.length : Int) := by omega
    clear hb0
    go_upto_region 32 with fail
    clear y1 o1 g0
    have HMV : Hid (MadeVal rs k (.mk 0 bs [])) := HNODE.out _ (by have h := HLN.out; simp [ownB, HKD.out, ValueV.number, ValueV.bytes, ValueV.items]; first | omega | exact decide_eq_true (by omega)) (by have h := HLN.out; simp [ValueV.bytes]; omega) (by simp [ValueV.items]) (fun q h => by simp [ValueV.items] at h)
    have HOV : Hid (OwnV (fun b => w.heap.size + 4 ≤ b) (k + 1) (.mk 0 bs []) [.int .i64 0, .slice xa bs.length xc, .slice none 0 0] w5) := own_leaf HRD5.out HBL.out
    have o0 := (HST.out.v 0 _ rfl).1
    have o1 := (HST.out.v 1 _ rfl).1
    have o2 := (HST.out.v 2 _ rfl).1
    obtain ⟨z0, t0⟩ := HST.out.z 0 _ rfl
    obtain ⟨z1, t1⟩ := HST.out.z 1 _ rfl
    obtain ⟨z2, t2⟩ := HST.out.z 2 _ rfl
    have HFI := Lib.hid (HST.out.fin HOV.out hcw hold.out)
    clear HOV HST
    go_wp2
    (try simp only [Exit.inBlock, Exit.then])
    refine bodyPost_ret (v := .agg #[.int .i64 0, .slice xa bs.length xc, .slice none 0 0]) ?_ rfl ?_
    · simp [results, Try.results42, go_sem, z0, z1, z2]
    · obtain ⟨ho, hcu, hgr⟩ := HFI.out _ _ _
      exact ⟨_, _, rfl, HMV.out, ho.mono (fun b _ hb => hb.1), hcu, hgr⟩
  have g0 : (0 : Int) < (bs.length : Int) := by omega
  go_wp2_with fail
  refine (once_draw a len cap c 2 _ hl (by omega) (by omega) HST.out.cur).mono ?_
  rintro e w6 ⟨x, rfl, hc1, hg⟩
  have HRD6 : Hid (RdN xa bs xc w6) := HRD5.out.grown hg (fun b off h1 h2 => by have := HBL.out b off h1 h2; intro e; injection e with e; omega)
  obtain ⟨bb, ob, hxa, hcell, hfz⟩ := HRW5.out (by omega)
  subst hxa
  have hbb : w.heap.size + 4 ≤ bb := HBL.out bb ob rfl (by omega)
  have HC6 := Lib.hid (hg.cell hcell (by intro e; injection e with e; have e : bb = c := e; omega))
  have HF6 : Hid (w6.frozen? ⟨bb, ob, none⟩ = false) := (World.frozen?_of_block (a := ⟨bb, ob, none⟩) (hg.block bb (cell_lt hcell) (by intro e; injection e with e; omega))).trans hfz
  replace HST := Lib.hid (HST.out.draw hcw hc1 hg)
  clear hc1 hg y1 o1 hcell hfz HRD5 HRW5 HRW HRD
  have y1 := (HST.out.r 1 _ rfl).1
  have y4 := (HST.out.r 4 _ rfl).1
  have o1 := (HST.out.v 1 _ rfl).1
  cases x with
  | false =>
    go_upto_region 32 with fail
    clear y1 o1 y4 g0
    have HMV : Hid (MadeVal rs k (.mk 0 bs [])) := HNODE.out _ (by have h := HLN.out; simp [ownB, HKD.out, ValueV.number, ValueV.bytes, ValueV.items]; first | omega | exact decide_eq_true (by omega)) (by have h := HLN.out; simp [ValueV.bytes]; omega) (by simp [ValueV.items]) (fun q h => by simp [ValueV.items] at h)
    have HOV : Hid (OwnV (fun b => w.heap.size + 4 ≤ b) (k + 1) (.mk 0 bs []) [.int .i64 0, .slice (some ⟨bb, ob, none⟩) bs.length xc, .slice none 0 0] w6) := own_leaf HRD6.out HBL.out
    have o0 := (HST.out.v 0 _ rfl).1
    have o1 := (HST.out.v 1 _ rfl).1
    have o2 := (HST.out.v 2 _ rfl).1
    obtain ⟨z0, t0⟩ := HST.out.z 0 _ rfl
    obtain ⟨z1, t1⟩ := HST.out.z 1 _ rfl
    obtain ⟨z2, t2⟩ := HST.out.z 2 _ rfl
    have HFI := Lib.hid (HST.out.fin HOV.out hcw hold.out)
    clear HOV HST
    go_wp2
    (try simp only [Exit.inBlock, Exit.then])
    refine bodyPost_ret (v := .agg #[.int .i64 0, .slice (some ⟨bb, ob, none⟩) bs.length xc, .slice none 0 0]) ?_ rfl ?_
    · simp [results, Try.results42, go_sem, z0, z1, z2]
    · obtain ⟨ho, hcu, hgr⟩ := HFI.out _ _ _
      exact ⟨_, _, rfl, HMV.out, ho.mono (fun b _ hb => hb.1), hcu, hgr⟩
  | true =>
    have hrl := kindI_10 HKI.out HKD.out
    obtain ⟨b4, o4, h4, hc4⟩ : ∃ b4 o4, a4 = some ⟨b4, o4, none⟩ ∧ w6.cell? ⟨b4, o4, none⟩ = some (.int .u8 (r.bytes[0].toNat : Int)) := by
      obtain ⟨b4, o4, h4, hc4⟩ := (rule_slices (HST.out.rule HR.out HBK.out hcb)).1 0 (by omega)
      exact ⟨b4, o4, h4, hc4⟩
    subst h4
    generalize r.bytes[0] = tb at hc4
    obtain ⟨tn, htn⟩ : ∃ tn : Int, tn = (tb.toNat : Int) := ⟨_, rfl⟩
    have htn0 : 0 ≤ tn := by omega
    have htn1 : tn < 256 := by have := tb.toNat_lt; omega
    rw [← htn] at hc4
    clear htn
    have rl0 : (0 : Int) < (r.bytes.length : Int) := by omega
    have cb := HC6.out
    have fb := HF6.out
    have hb4 : b4 < w6.heap.size := cell_lt hc4
    have hlw := HST.out.le
    have hwt : IntKind.i64.wrap tn = tn := IntWalk.i64_in _ (by omega)
    have HD : Hid (Below w6.heap.size w6 w6.drew) := below_drewN (Below.refl _ _) 1
    have o1e := (HST.out.v.below ((Below.refl w6.heap.size w6).alloc (Nat.le_refl _) (.cells #[.int .i64 tn, .int .i64 92] 3)) 1 _ rfl).1
    replace HST := Lib.hid (HST.out.below HD.out)
    go_upto_region 12 with fail
    go_region_law (first | (go_simp; go_at_call 56; refine (int_pick a len cap c 2 [tn, 92] _ rfl rfl w6.drew hl (by omega) (by omega) HST.out.cur).mono ?_; rintro e w7 ⟨x, hx, rfl, hc1, hg⟩; have hx0 : 0 ≤ x ∧ x < 256 := (by simp at hx; omega); obtain ⟨hx0, hx1⟩ := hx0; have cb7 := hg.cell (HC6.out) (by intro e; injection e with e; have e : bb = c := e; omega); have fb7 := (World.frozen?_of_block (a := ⟨bb, ob, none⟩) (hg.block bb (cell_lt HC6.out) (by intro e; injection e with e; omega))).trans HF6.out; have HG7 := Lib.hid hg; have HCU := Lib.hid hc1; have o1f := ((HST.out.draw hcw hc1 hg).v 1 _ rfl).1; clear hc1 hg hx))
    all_goals (
      obtain ⟨u, hu⟩ : ∃ u : UInt8, x = (u.toNat : Int) := ⟨UInt8.ofNat x.toNat, by rw [UInt8.toNat_ofNat', Nat.mod_eq_of_lt (by omega)]; omega⟩
      have hwu : IntKind.u8.wrap x = (u.toNat : Int) := by rw [← hu]; exact IntWalk.u8_in x ⟨hx0, by omega⟩
      rw [hwu]
      replace HST := Lib.hid (HST.out.draw hcw HCU.out HG7.out)
      have HRD7 : Hid (RdN (some ⟨bb, ob, none⟩) (bs.set 0 u) xc (w7.setCell ⟨bb, ob, none⟩ (.int .u8 (u.toNat : Int)))) := ((HRD6.out.grown (row := none) ⟨HD.out.os, HD.out.tape, HD.out.output, HD.out.size, fun k hk _ => HD.out.block k hk⟩ (fun b off h1 h2 => by simp)).grown HG7.out (fun b off h1 h2 => by have := HBL.out b off h1 h2; intro e; injection e with e; omega)).set0
      replace HST := Lib.hid (HST.out.row hcw hold.out (grown_set (grown_refl w7 bb) ob (.int .u8 (u.toNat : Int))) (fun k e => by injection e with e; omega))
      obtain ⟨w8, hw8⟩ : ∃ v, v = w7.setCell ⟨bb, ob, none⟩ (.int .u8 (u.toNat : Int)) := ⟨_, rfl⟩
      rw [← hw8] at HST HRD7 ⊢
      have HLS : Hid ((bs.set 0 u).length = bs.length) := by show _ = _; simp
      replace HBL : Hid (∀ b off, some (⟨bb, ob, none⟩ : Addr) = some ⟨b, off, none⟩ → (bs.set 0 u).length ≠ 0 → w.heap.size + 4 ≤ b) := fun b off h1 h2 => HBL.out b off h1 (by rw [← HLS.out]; exact h2)
      replace HLN : Hid ((bs.set 0 u).length ≤ 6) := by show _ ≤ _; rw [HLS.out]; exact HLN.out
      clear hw8 hu hwu cb7 fb7 o1f HG7 HCU cb fb y4 o1 o1e y1 hc4 HC6 HF6 HRD6
      generalize hbs : bs.set 0 u = bt at HRD7 HBL HLN HLS
      rw [← HLS.out] at HST
      clear hbs HLS g0 hb0 hb7
      go_upto_region 32 with fail
      have HMV : Hid (MadeVal rs k (.mk 0 bt [])) := HNODE.out _ (by have h := HLN.out; simp [ownB, HKD.out, ValueV.number, ValueV.bytes, ValueV.items]; first | omega | exact decide_eq_true (by omega)) (by have h := HLN.out; simp [ValueV.bytes]; omega) (by simp [ValueV.items]) (fun q h => by simp [ValueV.items] at h)
      have HOV : Hid (OwnV (fun b => w.heap.size + 4 ≤ b) (k + 1) (.mk 0 bt []) [.int .i64 0, .slice (some ⟨bb, ob, none⟩) bt.length xc, .slice none 0 0] w8) := own_leaf HRD7.out HBL.out
      have o0 := (HST.out.v 0 _ rfl).1
      have o1 := (HST.out.v 1 _ rfl).1
      have o2 := (HST.out.v 2 _ rfl).1
      obtain ⟨z0, t0⟩ := HST.out.z 0 _ rfl
      obtain ⟨z1, t1⟩ := HST.out.z 1 _ rfl
      obtain ⟨z2, t2⟩ := HST.out.z 2 _ rfl
      have HFI := Lib.hid (HST.out.fin HOV.out hcw hold.out)
      clear HOV HST
      go_wp2
      (try simp only [Exit.inBlock, Exit.then])
      refine bodyPost_ret (v := .agg #[.int .i64 0, .slice (some ⟨bb, ob, none⟩) bt.length xc, .slice none 0 0]) ?_ rfl ?_
      · simp [results, Try.results42, go_sem, z0, z1, z2]
      · obtain ⟨ho, hcu, hgr⟩ := HFI.out _ _ _
        exact ⟨_, _, rfl, HMV.out, ho.mono (fun b _ hb => hb.1), hcu, hgr⟩)
end Go.Proofs.Ytefkhknfjohnaaa
