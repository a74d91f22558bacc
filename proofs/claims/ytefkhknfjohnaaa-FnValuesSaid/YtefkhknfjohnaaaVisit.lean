/- Contracts of the program's visitParts, for each closure it is called with, over any relation on the parts still to come that a visit keeps. -/
import Derived.Test.YtefkhknfjohnaaaVisitP
import Derived.IntWalk
namespace Go.Proofs.Ytefkhknfjohnaaa
open Go Go.RowKit
set_option maxRecDepth 100000 in
set_option maxHeartbeats 8000000 in
theorem visit_count (c : Nat) (base : Nat) (I : List Nat → List Node → World → Prop) (hk : Keeps base I)
    (hv : ∀ bt ps b o v w, I bt (ps ++ [(b, o, v)]) w → cntP (ps ++ [(b, o, v)]) ≤ 16777217 → base ≤ w.heap.size → Calls Try.prog 52 #[.pointer (some ⟨b, o, none⟩), .pointer (some ⟨c, 0, none⟩)] w (Visited base I bt ps b o v w))
    (b0 o0 : Nat) (v0 : ValueV) (bt0 : List Nat) (w : World) (h0 : I bt0 [(b0, o0, v0)] w) (hbase : base ≤ w.heap.size) (hc : cntV v0 ≤ 16777217) :
    Calls Try.prog 44 #[.pointer (some ⟨b0, o0, none⟩), .func (.func 52) #[] #[.pointer (some ⟨c, 0, none⟩)]] w fun e w' => e = .returned (.tuple #[]) ∧ ∃ bt, I bt [] w' := by
  have HK := Lib.hid hk
  have HV := Lib.hid hv
  have hst := PtrRow.start base b0 o0 v0 w hbase
  obtain ⟨w0, hw0⟩ : ∃ w0, w0 = w.alloc (.cells #[.pointer (some ⟨b0, o0, none⟩)] 67) := ⟨_, rfl⟩
  rw [← hw0] at hst
  have hI : I bt0 [(b0, o0, v0)] w0 := by subst hw0; exact hk.stay _ _ _ _ none h0 (World.grownBy_alloc w _ _) (fun k e => by cases e)
  have HR := Lib.hid hst
  have HI := Lib.hid hI
  have HN : Hid (∀ k, (Value.slice (some ⟨w.heap.size, 0, none⟩) 1 1).ownBlock = some k → k ∉ bt0) := fun k e hm => by
    simp only [Value.ownBlock] at e
    injection e with e
    have := hk.lt _ _ _ h0 k hm
    omega
  have hb0 : base ≤ w0.heap.size := by subst hw0; simp; omega
  have hW := Lib.hid hw0
  clear hk hv hst h0 hI hw0
  go_enter Try.func44, Try.ntmps44
  go_upto_region 1 with fail
  rw [← hW.out]
  go_loopg [4] (cntV v0) (fun g q W => ∃ (ps : List Node) (bt : List Nat), Hid (g = cntP ps) ∧ g ≤ 16777217 ∧ Hid (PtrRow base q ps W) ∧ Hid (I bt ps W) ∧ Hid (∀ k, q.ownBlock = some k → k ∉ bt) ∧ base ≤ W.heap.size)
  case atStart => exact ⟨[(b0, o0, v0)], bt0, (by show _ = _; simp [cntP]), hc, HR, HI, HN, hb0⟩
  case round =>
    clear HR HI HN hb0 hc hbase
    obtain ⟨ps, bt, hg, hgl, hrow, hI, hnb, hbw⟩ := hrel
    rcases List.eq_nil_or_concat ps with rfl | ⟨P, p, rfl⟩
    · obtain ⟨a, cap, rfl, -⟩ := hrow.out.form
      clear hrow hnb
      go_wp2
      first | go_end0 | go_ret
      all_goals exact ⟨rfl, bt, hI.out⟩
    · obtain ⟨b, o, v⟩ := p
      rw [List.concat_eq_append] at hg hrow hI
      obtain ⟨a, cap, rfl, ha⟩ := hrow.out.form
      obtain ⟨g, rfl⟩ := ha (by simp)
      obtain ⟨np, hnp⟩ : ∃ np, np = P.length := ⟨_, rfl⟩
      rw [show (P ++ [(b, o, v)]).length = np + 1 from by simp [hnp]] at hrow hnb ⊢
      obtain ⟨hpop, hcell, hcap, hgb, hgw⟩ := PtrRow.pop hnp hrow.out
      have hnpl : np + 1 ≤ 16777217 := by have h1 := cntP_len (P ++ [(b, o, v)]); have h2 := hg.out; simp at h1; omega
      have l0 : (0 : Int) < ((np + 1 : Nat) : Int) := by omega
      have l1 : ((np + 1 : Nat) : Int) - 1 = (np : Int) := by omega
      have hcl := (HV.out bt P b o v wr hI.out (by have := hg.out; omega) hbw)
      unfold ptrN at hcell
      simp only at hcell
      have HNB : Hid (g ∉ bt) := hnb.out g rfl
      have HPOP := Lib.hid hpop
      have HCL := Lib.hid hcl
      have HNP := Lib.hid hnp
      clear hrow hnb hpop hcl hnp ha
      go_wp2_with fail
      refine HCL.out.mono ?_
      rintro e w1 ⟨rfl, bt', ai, ci, b', o', hon, hsub, hbb, hbl, hx2, hai, hI1⟩
      have hs1 := hon.size
      have HR1 : Hid (PtrRow base (.slice (some ⟨g, 0, none⟩) np cap) (P ++ (kidsAt b' o' v.items).take 0) w1) := by
        show PtrRow _ _ _ _
        rw [List.take_zero, List.append_nil]
        exact HPOP.out.only hon fun k e hm => by simp only [Value.ownBlock] at e; injection e with e; exact HNB.out (e ▸ hm)
      have HN1 : Hid (∀ k, (Value.slice (some ⟨g, 0, none⟩) np cap).ownBlock = some k → k ∉ bt') := fun k e hm => by
        simp only [Value.ownBlock] at e
        injection e with e
        rcases hsub k hm with h | h
        · exact HNB.out (e ▸ h)
        · omega
      have HI1 := Lib.hid hI1
      have HBB := Lib.hid hbb
      have hb1 : base ≤ w1.heap.size := by omega
      have hstep := cntP_step P b o b' o' v
      have hkl := cntP_len (P ++ kidsAt b' o' v.items)
      rw [List.length_append, kidsAt_length, ← HNP.out] at hkl
      have hge := hg.out
      obtain ⟨ni, hni⟩ : ∃ ni, ni = v.items.length := ⟨_, rfl⟩
      rw [← hni] at hx2 hkl
      have hnl : np + ni ≤ 16777217 := by omega
      have HX2 := Lib.hid hx2
      have HNI := Lib.hid hni
      have HAI := Lib.hid hai
      have HST : Hid (cntP (P ++ kidsAt b' o' v.items) + 1 = gk) := by show _ = _; rw [hge]; exact hstep
      clear hon hsub hbb hbl hai hI1 hs1 hstep hkl hge hni HPOP HNB HCL hI hg hcell hgb hgw hbw l0 l1
      go_wp2
      clear hx2
      go_loopw [4, 31] (fun q i W => ∃ j : Nat, j ≤ ni ∧ i = .int .i64 j ∧ Hid (PtrRow base q (P ++ (kidsAt b' o' v.items).take j) W) ∧ Hid (∀ k, q.ownBlock = some k → k ∉ bt') ∧ Hid (I bt' (P ++ kidsAt b' o' v.items) W) ∧ Hid (W.cell? ⟨b, o + 2, none⟩ = some (.slice ai ni ci)) ∧ base ≤ W.heap.size) (fun _ i _ => ni - (intOf i).toNat)
      case atStart => exact ⟨0, Nat.zero_le _, rfl, HR1, HN1, HI1, HX2, hb1⟩
      case round =>
        clear HR1 HN1 HI1 HX2 hb1
        obtain ⟨j, hjl, rfl, hrow, hnb, hI, hx, hbw⟩ := hrel
        have j0 : (0 : Int) ≤ (j : Int) := by omega
        by_cases hlt : j < ni
        · have j1 : (j : Int) < (ni : Int) := by omega
          have hjv : j < v.items.length := by have := HNI.out; omega
          obtain rfl := HAI.out (by intro e; rw [e] at hjv; simp at hjv)
          have x2 := hx.out
          have hal : (P ++ (kidsAt b' o' v.items).take j).length = np + j := by simp [kidsAt_length, HNP.out]; omega
          go_wp2_with (at_builtin; refine wp_pushF (f := ptrN) 94 67 (.pointer none) 8 Try.underlying94 infoPtr rfl rfl (.tmp 34) (.tmp 41) rfl base u4 (P ++ (kidsAt b' o' v.items).take j) (b', o' + j * 3, v.items[j]) rfl wr (by simp [Act.eval]) (by simp [Act.eval]) hrow.out (by unfold maxLen; omega) (by omega) hbw ?_)
          intro v' w2 hown' hgrow hwh
          have hlb : ∀ k, u4.ownBlock = some k → base ≤ k := fun k e => (World.ownsRow.lt (w := wr) hrow.out k e).1
          have hR2 : Hid (PtrRow base v' (P ++ (kidsAt b' o' v.items).take (j + 1)) w2) := by
            show PtrRow _ _ _ _
            rw [kidsAt_next b' o' v.items j hjv, ← List.append_assoc]
            unfold PtrRow
            simpa using hown'
          have hN2 : Hid (∀ k, v'.ownBlock = some k → k ∉ bt') := fun k e hm => by
            rcases hwh with h | ⟨g2, h, hge⟩
            · rw [h] at e; exact hnb.out k e hm
            · rw [h] at e
              injection e with e
              have := HK.out.lt _ _ _ hI.out k hm
              omega
          have hI2 : Hid (I bt' (P ++ kidsAt b' o' v.items) w2) := HK.out.stay _ _ _ _ _ hI.out hgrow fun k e => ⟨hnb.out k e, hlb k e⟩
          have hX2 : Hid (w2.cell? ⟨b, o + 2, none⟩ = some (.slice (some ⟨b', o', none⟩) ni ci)) := hgrow.cell hx.out (fun e => by
            rcases HBB.out with h | h
            · exact hnb.out b e.symm h
            · have := hlb b e.symm; omega)
          have hb2 : base ≤ w2.heap.size := by have := hgrow.size; omega
          clear hown' hgrow hwh hlb hrow hnb hI hx x2 hbw hal
          go_wp2
          go_roundw
          case rel => exact ⟨j + 1, by omega, by go_num, hR2, hN2, hI2, hX2, hb2⟩
          case measure => simp [intOf]; omega
        · have j1 : ¬ (j : Int) < (ni : Int) := by omega
          obtain rfl : j = ni := by omega
          have hR2 : Hid (PtrRow base u4 (P ++ kidsAt b' o' v.items) wr) := by have := hrow.out; rw [HNI.out, kidsAt_all] at this; exact this
          clear hrow hx
          go_wp2
          go_roundg (cntP (P ++ kidsAt b' o' v.items))
          case measure => have := HST.out; omega
          case rel => exact ⟨P ++ kidsAt b' o' v.items, bt', rfl, by have := HST.out; omega, hR2, hI, hnb, hbw⟩

set_option maxRecDepth 100000 in
set_option maxHeartbeats 8000000 in
theorem visit_total (c : Nat) (base : Nat) (I : List Nat → List Node → World → Prop) (hk : Keeps base I)
    (hv : ∀ bt ps b o v w, I bt (ps ++ [(b, o, v)]) w → cntP (ps ++ [(b, o, v)]) ≤ 16777217 → base ≤ w.heap.size → Calls Try.prog 54 #[.pointer (some ⟨b, o, none⟩), .pointer (some ⟨c, 0, none⟩)] w (Visited base I bt ps b o v w))
    (b0 o0 : Nat) (v0 : ValueV) (bt0 : List Nat) (w : World) (h0 : I bt0 [(b0, o0, v0)] w) (hbase : base ≤ w.heap.size) (hc : cntV v0 ≤ 16777217) :
    Calls Try.prog 44 #[.pointer (some ⟨b0, o0, none⟩), .func (.func 54) #[] #[.pointer (some ⟨c, 0, none⟩)]] w fun e w' => e = .returned (.tuple #[]) ∧ ∃ bt, I bt [] w' := by
  have HK := Lib.hid hk
  have HV := Lib.hid hv
  have hst := PtrRow.start base b0 o0 v0 w hbase
  obtain ⟨w0, hw0⟩ : ∃ w0, w0 = w.alloc (.cells #[.pointer (some ⟨b0, o0, none⟩)] 67) := ⟨_, rfl⟩
  rw [← hw0] at hst
  have hI : I bt0 [(b0, o0, v0)] w0 := by subst hw0; exact hk.stay _ _ _ _ none h0 (World.grownBy_alloc w _ _) (fun k e => by cases e)
  have HR := Lib.hid hst
  have HI := Lib.hid hI
  have HN : Hid (∀ k, (Value.slice (some ⟨w.heap.size, 0, none⟩) 1 1).ownBlock = some k → k ∉ bt0) := fun k e hm => by
    simp only [Value.ownBlock] at e
    injection e with e
    have := hk.lt _ _ _ h0 k hm
    omega
  have hb0 : base ≤ w0.heap.size := by subst hw0; simp; omega
  have hW := Lib.hid hw0
  clear hk hv hst h0 hI hw0
  go_enter Try.func44, Try.ntmps44
  go_upto_region 1 with fail
  rw [← hW.out]
  go_loopg [4] (cntV v0) (fun g q W => ∃ (ps : List Node) (bt : List Nat), Hid (g = cntP ps) ∧ g ≤ 16777217 ∧ Hid (PtrRow base q ps W) ∧ Hid (I bt ps W) ∧ Hid (∀ k, q.ownBlock = some k → k ∉ bt) ∧ base ≤ W.heap.size)
  case atStart => exact ⟨[(b0, o0, v0)], bt0, (by show _ = _; simp [cntP]), hc, HR, HI, HN, hb0⟩
  case round =>
    clear HR HI HN hb0 hc hbase
    obtain ⟨ps, bt, hg, hgl, hrow, hI, hnb, hbw⟩ := hrel
    rcases List.eq_nil_or_concat ps with rfl | ⟨P, p, rfl⟩
    · obtain ⟨a, cap, rfl, -⟩ := hrow.out.form
      clear hrow hnb
      go_wp2
      first | go_end0 | go_ret
      all_goals exact ⟨rfl, bt, hI.out⟩
    · obtain ⟨b, o, v⟩ := p
      rw [List.concat_eq_append] at hg hrow hI
      obtain ⟨a, cap, rfl, ha⟩ := hrow.out.form
      obtain ⟨g, rfl⟩ := ha (by simp)
      obtain ⟨np, hnp⟩ : ∃ np, np = P.length := ⟨_, rfl⟩
      rw [show (P ++ [(b, o, v)]).length = np + 1 from by simp [hnp]] at hrow hnb ⊢
      obtain ⟨hpop, hcell, hcap, hgb, hgw⟩ := PtrRow.pop hnp hrow.out
      have hnpl : np + 1 ≤ 16777217 := by have h1 := cntP_len (P ++ [(b, o, v)]); have h2 := hg.out; simp at h1; omega
      have l0 : (0 : Int) < ((np + 1 : Nat) : Int) := by omega
      have l1 : ((np + 1 : Nat) : Int) - 1 = (np : Int) := by omega
      have hcl := (HV.out bt P b o v wr hI.out (by have := hg.out; omega) hbw)
      unfold ptrN at hcell
      simp only at hcell
      have HNB : Hid (g ∉ bt) := hnb.out g rfl
      have HPOP := Lib.hid hpop
      have HCL := Lib.hid hcl
      have HNP := Lib.hid hnp
      clear hrow hnb hpop hcl hnp ha
      go_wp2_with fail
      refine HCL.out.mono ?_
      rintro e w1 ⟨rfl, bt', ai, ci, b', o', hon, hsub, hbb, hbl, hx2, hai, hI1⟩
      have hs1 := hon.size
      have HR1 : Hid (PtrRow base (.slice (some ⟨g, 0, none⟩) np cap) (P ++ (kidsAt b' o' v.items).take 0) w1) := by
        show PtrRow _ _ _ _
        rw [List.take_zero, List.append_nil]
        exact HPOP.out.only hon fun k e hm => by simp only [Value.ownBlock] at e; injection e with e; exact HNB.out (e ▸ hm)
      have HN1 : Hid (∀ k, (Value.slice (some ⟨g, 0, none⟩) np cap).ownBlock = some k → k ∉ bt') := fun k e hm => by
        simp only [Value.ownBlock] at e
        injection e with e
        rcases hsub k hm with h | h
        · exact HNB.out (e ▸ h)
        · omega
      have HI1 := Lib.hid hI1
      have HBB := Lib.hid hbb
      have hb1 : base ≤ w1.heap.size := by omega
      have hstep := cntP_step P b o b' o' v
      have hkl := cntP_len (P ++ kidsAt b' o' v.items)
      rw [List.length_append, kidsAt_length, ← HNP.out] at hkl
      have hge := hg.out
      obtain ⟨ni, hni⟩ : ∃ ni, ni = v.items.length := ⟨_, rfl⟩
      rw [← hni] at hx2 hkl
      have hnl : np + ni ≤ 16777217 := by omega
      have HX2 := Lib.hid hx2
      have HNI := Lib.hid hni
      have HAI := Lib.hid hai
      have HST : Hid (cntP (P ++ kidsAt b' o' v.items) + 1 = gk) := by show _ = _; rw [hge]; exact hstep
      clear hon hsub hbb hbl hai hI1 hs1 hstep hkl hge hni HPOP HNB HCL hI hg hcell hgb hgw hbw l0 l1
      go_wp2
      clear hx2
      go_loopw [4, 31] (fun q i W => ∃ j : Nat, j ≤ ni ∧ i = .int .i64 j ∧ Hid (PtrRow base q (P ++ (kidsAt b' o' v.items).take j) W) ∧ Hid (∀ k, q.ownBlock = some k → k ∉ bt') ∧ Hid (I bt' (P ++ kidsAt b' o' v.items) W) ∧ Hid (W.cell? ⟨b, o + 2, none⟩ = some (.slice ai ni ci)) ∧ base ≤ W.heap.size) (fun _ i _ => ni - (intOf i).toNat)
      case atStart => exact ⟨0, Nat.zero_le _, rfl, HR1, HN1, HI1, HX2, hb1⟩
      case round =>
        clear HR1 HN1 HI1 HX2 hb1
        obtain ⟨j, hjl, rfl, hrow, hnb, hI, hx, hbw⟩ := hrel
        have j0 : (0 : Int) ≤ (j : Int) := by omega
        by_cases hlt : j < ni
        · have j1 : (j : Int) < (ni : Int) := by omega
          have hjv : j < v.items.length := by have := HNI.out; omega
          obtain rfl := HAI.out (by intro e; rw [e] at hjv; simp at hjv)
          have x2 := hx.out
          have hal : (P ++ (kidsAt b' o' v.items).take j).length = np + j := by simp [kidsAt_length, HNP.out]; omega
          go_wp2_with (at_builtin; refine wp_pushF (f := ptrN) 94 67 (.pointer none) 8 Try.underlying94 infoPtr rfl rfl (.tmp 34) (.tmp 41) rfl base u4 (P ++ (kidsAt b' o' v.items).take j) (b', o' + j * 3, v.items[j]) rfl wr (by simp [Act.eval]) (by simp [Act.eval]) hrow.out (by unfold maxLen; omega) (by omega) hbw ?_)
          intro v' w2 hown' hgrow hwh
          have hlb : ∀ k, u4.ownBlock = some k → base ≤ k := fun k e => (World.ownsRow.lt (w := wr) hrow.out k e).1
          have hR2 : Hid (PtrRow base v' (P ++ (kidsAt b' o' v.items).take (j + 1)) w2) := by
            show PtrRow _ _ _ _
            rw [kidsAt_next b' o' v.items j hjv, ← List.append_assoc]
            unfold PtrRow
            simpa using hown'
          have hN2 : Hid (∀ k, v'.ownBlock = some k → k ∉ bt') := fun k e hm => by
            rcases hwh with h | ⟨g2, h, hge⟩
            · rw [h] at e; exact hnb.out k e hm
            · rw [h] at e
              injection e with e
              have := HK.out.lt _ _ _ hI.out k hm
              omega
          have hI2 : Hid (I bt' (P ++ kidsAt b' o' v.items) w2) := HK.out.stay _ _ _ _ _ hI.out hgrow fun k e => ⟨hnb.out k e, hlb k e⟩
          have hX2 : Hid (w2.cell? ⟨b, o + 2, none⟩ = some (.slice (some ⟨b', o', none⟩) ni ci)) := hgrow.cell hx.out (fun e => by
            rcases HBB.out with h | h
            · exact hnb.out b e.symm h
            · have := hlb b e.symm; omega)
          have hb2 : base ≤ w2.heap.size := by have := hgrow.size; omega
          clear hown' hgrow hwh hlb hrow hnb hI hx x2 hbw hal
          go_wp2
          go_roundw
          case rel => exact ⟨j + 1, by omega, by go_num, hR2, hN2, hI2, hX2, hb2⟩
          case measure => simp [intOf]; omega
        · have j1 : ¬ (j : Int) < (ni : Int) := by omega
          obtain rfl : j = ni := by omega
          have hR2 : Hid (PtrRow base u4 (P ++ kidsAt b' o' v.items) wr) := by have := hrow.out; rw [HNI.out, kidsAt_all] at this; exact this
          clear hrow hx
          go_wp2
          go_roundg (cntP (P ++ kidsAt b' o' v.items))
          case measure => have := HST.out; omega
          case rel => exact ⟨P ++ kidsAt b' o' v.items, bt', rfl, by have := HST.out; omega, hR2, hI, hnb, hbw⟩

set_option maxRecDepth 100000 in
set_option maxHeartbeats 8000000 in
theorem visit_copy (base : Nat) (I : List Nat → List Node → World → Prop) (hk : Keeps base I)
    (hv : ∀ bt ps b o v w, I bt (ps ++ [(b, o, v)]) w → cntP (ps ++ [(b, o, v)]) ≤ 16777217 → base ≤ w.heap.size → Calls Try.prog 45 #[.pointer (some ⟨b, o, none⟩)] w (Visited base I bt ps b o v w))
    (b0 o0 : Nat) (v0 : ValueV) (bt0 : List Nat) (w : World) (h0 : I bt0 [(b0, o0, v0)] w) (hbase : base ≤ w.heap.size) (hc : cntV v0 ≤ 16777217) :
    Calls Try.prog 44 #[.pointer (some ⟨b0, o0, none⟩), .func (.func 45) #[] #[]] w fun e w' => e = .returned (.tuple #[]) ∧ ∃ bt, I bt [] w' := by
  have HK := Lib.hid hk
  have HV := Lib.hid hv
  have hst := PtrRow.start base b0 o0 v0 w hbase
  obtain ⟨w0, hw0⟩ : ∃ w0, w0 = w.alloc (.cells #[.pointer (some ⟨b0, o0, none⟩)] 67) := ⟨_, rfl⟩
  rw [← hw0] at hst
  have hI : I bt0 [(b0, o0, v0)] w0 := by subst hw0; exact hk.stay _ _ _ _ none h0 (World.grownBy_alloc w _ _) (fun k e => by cases e)
  have HR := Lib.hid hst
  have HI := Lib.hid hI
  have HN : Hid (∀ k, (Value.slice (some ⟨w.heap.size, 0, none⟩) 1 1).ownBlock = some k → k ∉ bt0) := fun k e hm => by
    simp only [Value.ownBlock] at e
    injection e with e
    have := hk.lt _ _ _ h0 k hm
    omega
  have hb0 : base ≤ w0.heap.size := by subst hw0; simp; omega
  have hW := Lib.hid hw0
  clear hk hv hst h0 hI hw0
  go_enter Try.func44, Try.ntmps44
  go_upto_region 1 with fail
  rw [← hW.out]
  go_loopg [4] (cntV v0) (fun g q W => ∃ (ps : List Node) (bt : List Nat), Hid (g = cntP ps) ∧ g ≤ 16777217 ∧ Hid (PtrRow base q ps W) ∧ Hid (I bt ps W) ∧ Hid (∀ k, q.ownBlock = some k → k ∉ bt) ∧ base ≤ W.heap.size)
  case atStart => exact ⟨[(b0, o0, v0)], bt0, (by show _ = _; simp [cntP]), hc, HR, HI, HN, hb0⟩
  case round =>
    clear HR HI HN hb0 hc hbase
    obtain ⟨ps, bt, hg, hgl, hrow, hI, hnb, hbw⟩ := hrel
    rcases List.eq_nil_or_concat ps with rfl | ⟨P, p, rfl⟩
    · obtain ⟨a, cap, rfl, -⟩ := hrow.out.form
      clear hrow hnb
      go_wp2
      first | go_end0 | go_ret
      all_goals exact ⟨rfl, bt, hI.out⟩
    · obtain ⟨b, o, v⟩ := p
      rw [List.concat_eq_append] at hg hrow hI
      obtain ⟨a, cap, rfl, ha⟩ := hrow.out.form
      obtain ⟨g, rfl⟩ := ha (by simp)
      obtain ⟨np, hnp⟩ : ∃ np, np = P.length := ⟨_, rfl⟩
      rw [show (P ++ [(b, o, v)]).length = np + 1 from by simp [hnp]] at hrow hnb ⊢
      obtain ⟨hpop, hcell, hcap, hgb, hgw⟩ := PtrRow.pop hnp hrow.out
      have hnpl : np + 1 ≤ 16777217 := by have h1 := cntP_len (P ++ [(b, o, v)]); have h2 := hg.out; simp at h1; omega
      have l0 : (0 : Int) < ((np + 1 : Nat) : Int) := by omega
      have l1 : ((np + 1 : Nat) : Int) - 1 = (np : Int) := by omega
      have hcl := (HV.out bt P b o v wr hI.out (by have := hg.out; omega) hbw)
      unfold ptrN at hcell
      simp only at hcell
      have HNB : Hid (g ∉ bt) := hnb.out g rfl
      have HPOP := Lib.hid hpop
      have HCL := Lib.hid hcl
      have HNP := Lib.hid hnp
      clear hrow hnb hpop hcl hnp ha
      go_wp2_with fail
      refine HCL.out.mono ?_
      rintro e w1 ⟨rfl, bt', ai, ci, b', o', hon, hsub, hbb, hbl, hx2, hai, hI1⟩
      have hs1 := hon.size
      have HR1 : Hid (PtrRow base (.slice (some ⟨g, 0, none⟩) np cap) (P ++ (kidsAt b' o' v.items).take 0) w1) := by
        show PtrRow _ _ _ _
        rw [List.take_zero, List.append_nil]
        exact HPOP.out.only hon fun k e hm => by simp only [Value.ownBlock] at e; injection e with e; exact HNB.out (e ▸ hm)
      have HN1 : Hid (∀ k, (Value.slice (some ⟨g, 0, none⟩) np cap).ownBlock = some k → k ∉ bt') := fun k e hm => by
        simp only [Value.ownBlock] at e
        injection e with e
        rcases hsub k hm with h | h
        · exact HNB.out (e ▸ h)
        · omega
      have HI1 := Lib.hid hI1
      have HBB := Lib.hid hbb
      have hb1 : base ≤ w1.heap.size := by omega
      have hstep := cntP_step P b o b' o' v
      have hkl := cntP_len (P ++ kidsAt b' o' v.items)
      rw [List.length_append, kidsAt_length, ← HNP.out] at hkl
      have hge := hg.out
      obtain ⟨ni, hni⟩ : ∃ ni, ni = v.items.length := ⟨_, rfl⟩
      rw [← hni] at hx2 hkl
      have hnl : np + ni ≤ 16777217 := by omega
      have HX2 := Lib.hid hx2
      have HNI := Lib.hid hni
      have HAI := Lib.hid hai
      have HST : Hid (cntP (P ++ kidsAt b' o' v.items) + 1 = gk) := by show _ = _; rw [hge]; exact hstep
      clear hon hsub hbb hbl hai hI1 hs1 hstep hkl hge hni HPOP HNB HCL hI hg hcell hgb hgw hbw l0 l1
      go_wp2
      clear hx2
      go_loopw [4, 31] (fun q i W => ∃ j : Nat, j ≤ ni ∧ i = .int .i64 j ∧ Hid (PtrRow base q (P ++ (kidsAt b' o' v.items).take j) W) ∧ Hid (∀ k, q.ownBlock = some k → k ∉ bt') ∧ Hid (I bt' (P ++ kidsAt b' o' v.items) W) ∧ Hid (W.cell? ⟨b, o + 2, none⟩ = some (.slice ai ni ci)) ∧ base ≤ W.heap.size) (fun _ i _ => ni - (intOf i).toNat)
      case atStart => exact ⟨0, Nat.zero_le _, rfl, HR1, HN1, HI1, HX2, hb1⟩
      case round =>
        clear HR1 HN1 HI1 HX2 hb1
        obtain ⟨j, hjl, rfl, hrow, hnb, hI, hx, hbw⟩ := hrel
        have j0 : (0 : Int) ≤ (j : Int) := by omega
        by_cases hlt : j < ni
        · have j1 : (j : Int) < (ni : Int) := by omega
          have hjv : j < v.items.length := by have := HNI.out; omega
          obtain rfl := HAI.out (by intro e; rw [e] at hjv; simp at hjv)
          have x2 := hx.out
          have hal : (P ++ (kidsAt b' o' v.items).take j).length = np + j := by simp [kidsAt_length, HNP.out]; omega
          go_wp2_with (at_builtin; refine wp_pushF (f := ptrN) 94 67 (.pointer none) 8 Try.underlying94 infoPtr rfl rfl (.tmp 34) (.tmp 41) rfl base u4 (P ++ (kidsAt b' o' v.items).take j) (b', o' + j * 3, v.items[j]) rfl wr (by simp [Act.eval]) (by simp [Act.eval]) hrow.out (by unfold maxLen; omega) (by omega) hbw ?_)
          intro v' w2 hown' hgrow hwh
          have hlb : ∀ k, u4.ownBlock = some k → base ≤ k := fun k e => (World.ownsRow.lt (w := wr) hrow.out k e).1
          have hR2 : Hid (PtrRow base v' (P ++ (kidsAt b' o' v.items).take (j + 1)) w2) := by
            show PtrRow _ _ _ _
            rw [kidsAt_next b' o' v.items j hjv, ← List.append_assoc]
            unfold PtrRow
            simpa using hown'
          have hN2 : Hid (∀ k, v'.ownBlock = some k → k ∉ bt') := fun k e hm => by
            rcases hwh with h | ⟨g2, h, hge⟩
            · rw [h] at e; exact hnb.out k e hm
            · rw [h] at e
              injection e with e
              have := HK.out.lt _ _ _ hI.out k hm
              omega
          have hI2 : Hid (I bt' (P ++ kidsAt b' o' v.items) w2) := HK.out.stay _ _ _ _ _ hI.out hgrow fun k e => ⟨hnb.out k e, hlb k e⟩
          have hX2 : Hid (w2.cell? ⟨b, o + 2, none⟩ = some (.slice (some ⟨b', o', none⟩) ni ci)) := hgrow.cell hx.out (fun e => by
            rcases HBB.out with h | h
            · exact hnb.out b e.symm h
            · have := hlb b e.symm; omega)
          have hb2 : base ≤ w2.heap.size := by have := hgrow.size; omega
          clear hown' hgrow hwh hlb hrow hnb hI hx x2 hbw hal
          go_wp2
          go_roundw
          case rel => exact ⟨j + 1, by omega, by go_num, hR2, hN2, hI2, hX2, hb2⟩
          case measure => simp [intOf]; omega
        · have j1 : ¬ (j : Int) < (ni : Int) := by omega
          obtain rfl : j = ni := by omega
          have hR2 : Hid (PtrRow base u4 (P ++ kidsAt b' o' v.items) wr) := by have := hrow.out; rw [HNI.out, kidsAt_all] at this; exact this
          clear hrow hx
          go_wp2
          go_roundg (cntP (P ++ kidsAt b' o' v.items))
          case measure => have := HST.out; omega
          case rel => exact ⟨P ++ kidsAt b' o' v.items, bt', rfl, by have := HST.out; omega, hR2, hI, hnb, hbw⟩

end Go.Proofs.Ytefkhknfjohnaaa
