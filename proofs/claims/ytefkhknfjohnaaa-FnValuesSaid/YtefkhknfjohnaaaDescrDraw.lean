/- Drawing whole descriptions: l4Make of every kind, l4Description, DrawDescription. -/
import Derived.Test.YtefkhknfjohnaaaMake
import Derived.Test.YtefkhknfjohnaaaMakeB
import Derived.Test.YtefkhknfjohnaaaMake6
import Derived.Test.YtefkhknfjohnaaaMake7
namespace Go.Proofs.Ytefkhknfjohnaaa
open Go Go.RowKit
theorem make_any (a : Option Addr) (len cap c base : Nat) (ad : Option Addr) (rs : List RuleV) (capd : Nat) (k : Int) (w : World) (hl : len ≤ 140737488355328) (hk : 1 ≤ k ∧ k ≤ 10) (hrs : rs.length ≤ 9) (h0 : 0 < rs.length) (hk0 : rs[0].kind = 1) (hint : ∀ r ∈ rs, r.kind = 1 → 1 ≤ r.size ∧ r.size ≤ 4) (hrow : RowR base (.slice ad rs.length capd) rs w) (hcb : c < base) (hbw : base ≤ w.heap.size) (hc : Cur a len cap c w) :
    Calls Try.prog 66 #[.pointer (some ⟨c, 0, none⟩), .agg #[.slice ad rs.length capd], .int .i64 k] w (MakeOut a len cap c rs k w) := by
  rcases (by omega : k = 1 ∨ k = 2 ∨ k = 3 ∨ k = 4 ∨ k = 5 ∨ k = 6 ∨ k = 7 ∨ k = 8 ∨ k = 9 ∨ k = 10) with rfl | rfl | rfl | rfl | rfl | rfl | rfl | rfl | rfl | rfl
  · exact make_1 a len cap c base ad rs capd w hl hrs hrow hcb hbw hc
  · exact make_2 a len cap c base ad rs capd w hl hrs h0 hk0 hrow hcb hbw hc
  · exact make_3 a len cap c base ad rs capd w hl hrs hrow hcb hbw hc
  · exact make_4 a len cap c base ad rs capd w hl hrs h0 hk0 hrow hcb hbw hc
  · exact make_5 a len cap c base ad rs capd w hl hrs h0 hk0 hrow hcb hbw hc
  · exact make_6 a len cap c base ad rs capd w hl hrs h0 hk0 hrow hcb hbw hc
  · exact make_7 a len cap c base ad rs capd w hl hrs h0 hk0 hint hrow hcb hbw hc
  · exact make_8 a len cap c base ad rs capd w hl hrs h0 hk0 hrow hcb hbw hc
  · exact make_9 a len cap c base ad rs capd w hl hrs h0 hk0 hrow hcb hbw hc
  · exact make_10 a len cap c base ad rs capd w hl hrs h0 hk0 hrow hcb hbw hc
/-- Every rule was drawn behind the rules ahead of it. -/
def MadeAll (rs : List RuleV) : Prop := ∀ j (h : j < rs.length), MadeR (rs.take j) rs[j]
theorem MadeAll.nil : MadeAll [] := fun j h => by simp at h
theorem MadeAll.push {rs : List RuleV} {r : RuleV} (h : MadeAll rs) (hr : MadeR rs r) : MadeAll (rs ++ [r]) := fun j hj => by
  by_cases e : j < rs.length
  · rw [List.getElem_append_left e, List.take_append_of_le_length (by omega)]
    exact h j e
  · simp at hj
    obtain rfl : j = rs.length := by omega
    rw [List.getElem_append_right (Nat.le_refl _), List.take_append_of_le_length (Nat.le_refl _), List.take_length]
    simpa using hr
theorem MadeAll.int {rs : List RuleV} (h : MadeAll rs) : ∀ r ∈ rs, r.kind = 1 → 1 ≤ r.size ∧ r.size ≤ 4 := fun r hr hk => by
  obtain ⟨j, hj, rfl⟩ := List.getElem_of_mem hr
  exact kindI_size (h j hj).2.2 hk
theorem RowR.more {base base' : Nat} {v : Value} {rs : List RuleV} {w : World} (h : RowR base v rs w) (hb : base' ≤ base) : RowR base' v rs w := by
  obtain ⟨css, hl, ho, hr⟩ := h
  refine ⟨css, hl, ⟨ho.1, ?_⟩, fun j h1 h2 => ⟨(hr j h1 h2).1, (hr j h1 h2).2.1, fun b hbb => ⟨Nat.le_trans hb ((hr j h1 h2).2.2 b hbb).1, ((hr j h1 h2).2.2 b hbb).2⟩⟩⟩
  rcases ho.2 with h | ⟨g, cap, cur, e, hg, rest⟩
  · exact .inl h
  · exact .inr ⟨g, cap, cur, e, Nat.le_trans hb hg, rest⟩
/-- The state of a drawn description between two rules. -/
def DescrSt (a : Option Addr) (len cap c : Nat) (rs : List RuleV) (v : Value) (w W : World) : Prop :=
  MadeAll rs ∧ CellsAt w.heap.size [.slice none 0 0] W ∧ CellsAt (w.heap.size + 1) [v] W ∧ RowO (w.heap.size + 2) W.heap.size v rs W ∧ Cur a len cap c W ∧ w.grownBy W (some c) ∧ w.heap.size + 2 ≤ W.heap.size
theorem DescrSt.push {a : Option Addr} {len cap c hi : Nat} {rs : List RuleV} {r : RuleV} {v v' : Value} {w w6 w7 : World} (hcw : c < w.heap.size) (hold : ∀ b off, a = some ⟨b, off, none⟩ → 0 < len → b < w.heap.size)
    (hm : MadeAll rs) (hr : MadeR rs r) (hX : CellsAt w.heap.size [.slice none 0 0] w6) (hD : CellsAt (w.heap.size + 1) [v] w6) (hR : RowO (w.heap.size + 2) hi v rs w6) (hC : Cur a len cap c w6) (hG : w.grownBy w6 (some c)) (hBW : w.heap.size + 2 ≤ w6.heap.size)
    (hrow : RowO (w.heap.size + 2) w7.heap.size v' (rs ++ [r]) w7) (hg : w6.grownBy w7 v.ownBlock) :
    DescrSt a len cap c (rs ++ [r]) v' w (w7.setCell ⟨w.heap.size + 1, 0, none⟩ v') := by
  have hlt : ∀ k, v.ownBlock = some k → w.heap.size + 2 ≤ k := fun k e => (hR.row.own k e).1
  have hX7 := hX.grown hg (by intro e; have := hlt _ e.symm; omega)
  have hD7 := (hD.grown hg (by intro e; have := hlt _ e.symm; omega)).set 0 v' (by simp)
  have hC7 := hC.grown hg (by intro e; have := hlt _ e.symm; omega) (fun b off ha hl => by intro e; have := hlt _ e.symm; have := hold b off ha hl; omega)
  simp only [List.set] at hD7
  refine ⟨hm.push hr, hX7.far (by omega), hD7, (hrow.grown (grown_set (grown_refl _ _) 0 _) (by omega)).wide (by simp), hC7.put (by omega) (fun b off ha hl => by have := hold b off ha hl; omega), grown_put (grown_far hG hg (fun k e => by have := hlt _ e; omega)) (by omega), ?_⟩
  have := hg.size
  simp
  omega
/-- A drawn description comes back. -/
def DescrMadeO (a : Option Addr) (len cap c : Nat) (w : World) (e : Ending) (w' : World) : Prop :=
  ∃ (rs : List RuleV) (x : Option Addr) (cp : Nat), e = .returned (.agg #[.slice x rs.length cp]) ∧ MadeAll rs ∧ (1 ≤ rs.length ∧ rs.length ≤ 6) ∧ (∀ h : 0 < rs.length, rs[0].kind = 1) ∧ RowO (w.heap.size + 2) w'.heap.size (.slice x rs.length cp) rs w' ∧ Cur a len cap c w' ∧ w.grownBy w' (some c)
set_option maxRecDepth 100000 in
set_option maxHeartbeats 4000000 in
theorem descr_drawO (a : Option Addr) (len cap c : Nat) (w : World) (hl : len ≤ 140737488355328) (hc : Cur a len cap c w) :
    Calls Try.prog 41 #[.pointer (some ⟨c, 0, none⟩)] w (DescrMadeO a len cap c w) := by
  have hcw : c < w.heap.size := hc.lt
  have hold := Lib.hid hc.old
  obtain ⟨w0, hw0⟩ : ∃ w0, w0 = (w.alloc (.cells #[.slice none 0 0] 38)).alloc (.cells #[.slice none 0 0] 38) := ⟨_, rfl⟩
  have hB : Below w.heap.size w w0 := by subst hw0; exact ((Below.refl _ _).alloc (Nat.le_refl _) _).alloc (by simp) _
  have hX : CellsAt w.heap.size [.slice none 0 0] w0 := by subst hw0; exact (CellsAt.new w _ _).below ((Below.refl _ _).alloc (Nat.le_refl _) _)
  have hD : CellsAt (w.heap.size + 1) [.slice none 0 0] w0 := by
    subst hw0
    have h1 := CellsAt.new (w.alloc (.cells #[.slice none 0 0] 38)) [.slice none 0 0] 38
    simpa using h1
  have hs0 : w.heap.size + 2 ≤ w0.heap.size := by subst hw0; simp
  have bo : w0.cell? ⟨w.heap.size + 1, 0, none⟩ = some (.slice none 0 0) := (hD 0 _ rfl).1
  have hbd : Below w0.heap.size w0 w0.drew := below_drewN (Below.refl _ _) 1
  have HX := Lib.hid (hX.below hbd)
  have HD := Lib.hid (hD.below hbd)
  have HC := Lib.hid ((hc.below hB).below hbd)
  have HG : Hid (w.grownBy w0.drew (some c)) := grown_below (grown_of hB) hbd
  have HR : Hid (RowO (w.heap.size + 2) w0.drew.heap.size (.slice none 0 0) [] w0.drew) := RowO.start _ _ _
  have HBW : Hid (w.heap.size + 2 ≤ w0.drew.heap.size) := hs0
  have hW := Lib.hid hw0
  clear hc hB hX hD hw0 hbd hs0
  go_enter Try.func41, Try.ntmps41
  go_upto_region 2 with fail
  rw [← hW.out]
  clear hW
  go_cut [] from 6 to 13 (fun W => ∃ (r : RuleV) (v : Value), Hid (DescrSt a len cap c [r] v w W) ∧ Hid (r.kind = 1))
  case first =>
    go_region_law (first | (go_simp; go_at_call 66; refine (make_1 a len cap c (w.heap.size + 2) none [] 0 w0.drew hl (by simp) HR.out.row (by omega) HBW.out HC.out).mono ?_; rintro e w6 ⟨r, cs, rfl, ⟨hmd, hkd⟩, hcp, hblk, hI, hc1, hg⟩; have HNE : Hid (∀ b ∈ cs.flatMap blkO, w0.drew.heap.size ≤ b) := (fun b hb => by have h1 := (hI.lt b hb).1; omega); have HMD := Lib.hid hmd; have HKD := Lib.hid hkd; have HCP := Lib.hid hcp; have HI := Lib.hid (hI.mono (lo' := w.heap.size + 2) (by have := HBW.out; omega)); replace HX := Lib.hid (HX.out.grown hg (by intro e; injection e with e; omega)); replace HD := Lib.hid (HD.out.grown hg (by intro e; injection e with e; omega)); replace HR := Lib.hid (HR.out.grown hg (by omega)); replace HG := Lib.hid (Lib.grownBy_trans HG.out hg); replace HBW := Lib.hid (Nat.le_trans HBW.out hg.size); replace HC := Lib.hid hc1; have bo6 := (HD.out 0 _ rfl).1; clear hmd hkd hcp hblk hc1 hg; obtain ⟨x4, y4, x5, y5, x6, y6, x7, y7, rfl, -⟩ := hI.is.1; have bo7 := (HD.out.below ((Below.refl w6.heap.size w6).alloc (Nat.le_refl _) (.cells #[.string r.name, .int .i64 r.kind, .int .i64 r.size, .bool r.little, .slice x4 r.bytes.length y4, .slice x5 r.names.length y5, .slice x6 r.tags.length y6, .slice x7 r.kids.length y7] 76)) 0 _ rfl).1) | (refine step_pushO rfl (.tmp 7) (.tmp 11) rfl (w.heap.size + 2) w0.drew.heap.size (.slice none 0 0) [] r _ w6 (by simp [Act.eval]) (by simp [Act.eval]) HR.out HI.out HNE.out (by simp) HBW.out ?_; intro v' w7 hrow hg; have HR7 := Lib.hid hrow; have HG7 := Lib.hid hg; obtain ⟨bo8, bf8⟩ := HD.out.grown hg (by intro e; have := (HR.out.row.own _ e.symm).1; omega) 0 _ rfl; obtain ⟨x', c', rfl, -⟩ := hrow.row.rdc; clear hrow hg))
    all_goals (go_wp2_with fail; go_meet; exact ⟨r, _, DescrSt.push hcw hold.out MadeAll.nil HMD.out HX.out HD.out HR.out HC.out HG.out HBW.out HR7.out HG7.out, HKD⟩)
  case rest =>
    clear HX HD HC HG HR HBW bo
    obtain ⟨r0, v0, hst, hk0⟩ := hcut
    obtain ⟨hm, hX, hD, hR, hC, hG, hBW⟩ := hst.out
    clear hst
    go_wp2_with fail
    refine (below_draw a len cap c 6 _ hl (by omega) (by omega) hC).mono ?_
    rintro e w5 ⟨x, ⟨x0, x1⟩, rfl, hc1, hg⟩
    have hst : Hid (DescrSt a len cap c [r0] v0 w w5) := ⟨hm, hX.grown hg (by intro e; injection e with e; omega), hD.grown hg (by intro e; injection e with e; omega), (hR.grown hg (by omega)).wide hg.size, hc1, Lib.grownBy_trans hG hg, Nat.le_trans hBW hg.size⟩
    clear hm hX hD hR hC hG hBW hc1 hg
    obtain ⟨m, rfl⟩ : ∃ m : Nat, x = (m : Int) := ⟨x.toNat, by omega⟩
    have m5 : m ≤ 5 := by omega
    have hkk : Hid (∀ h : 0 < [r0].length, [r0][0].kind = 1) := fun _ => hk0.out
    go_wp2
    go_loopw [4] (fun i W => ∃ (j : Nat) (rs : List RuleV) (v : Value), j ≤ 5 ∧ i = .int .i64 j ∧ rs.length + j ≤ 6 ∧ 1 ≤ rs.length ∧ Hid (∀ h : 0 < rs.length, rs[0].kind = 1) ∧ Hid (DescrSt a len cap c rs v w W)) (fun i _ => (intOf i).toNat)
    case atStart => exact ⟨m, [r0], v0, m5, rfl, by simp; omega, by simp, hkk, hst⟩
    case round =>
      clear hst hkk hk0 x0 x1 m5
      obtain ⟨j, rs, v, hj, rfl, hlen, hlen1, hk, hst⟩ := hrel
      obtain ⟨hm, hX, hD, hR, hC, hG, hBW⟩ := hst.out
      clear hst
      obtain ⟨ad, capd, rfl, -⟩ := hR.row.rdc
      have HM := Lib.hid hm
      by_cases hj0 : j = 0
      case pos =>
        subst hj0
        obtain ⟨z0, t0⟩ := hX 0 _ rfl
        obtain ⟨d0, -⟩ := hD 0 _ rfl
        have HRF : Hid (RowO (w.heap.size + 2) (wr.setCell ⟨w.heap.size, 0, none⟩ (.slice ad rs.length capd)).heap.size (.slice ad rs.length capd) rs (wr.setCell ⟨w.heap.size, 0, none⟩ (.slice ad rs.length capd))) := (hR.grown (grown_set (grown_refl wr w.heap.size) 0 (.slice ad rs.length capd)) (by omega)).wide (by simp)
        have HCF := Lib.hid (hC.put (q := w.heap.size) (i := 0) (v := .slice ad rs.length capd) (by omega) (fun b off ha hl => by have := hold.out b off ha hl; omega))
        have HGF := Lib.hid (grown_put (q := w.heap.size) (i := 0) (v := .slice ad rs.length capd) hG (Nat.le_refl _))
        clear hX hD hR hC hG hBW hm
        go_wp2
        (try simp only [Exit.inBlock, Exit.then])
        refine bodyPost_ret (v := .agg #[.slice ad rs.length capd]) ?_ rfl ?_
        · simp [results, Try.results41, go_sem, z0]
        · exact ⟨rs, ad, capd, rfl, HM.out, ⟨hlen1, by omega⟩, hk.out, HRF.out, HCF.out, HGF.out⟩
      have j1 : (0 : Int) < (j : Int) := by omega
      have bo : wr.cell? ⟨w.heap.size + 1, 0, none⟩ = some (.slice ad rs.length capd) := (hD 0 _ rfl).1
      have hbd : Below wr.heap.size wr wr.drew := below_drewN (Below.refl _ _) 1
      have HX := Lib.hid (hX.below hbd)
      have HD := Lib.hid (hD.below hbd)
      have HC := Lib.hid (hC.below hbd)
      have HG := Lib.hid (grown_below hG hbd)
      have HR := Lib.hid (hR.below hbd)
      have HBW : Hid (w.heap.size + 2 ≤ wr.drew.heap.size) := hBW
      have hrs9 : rs.length ≤ 9 := by omega
      clear hbd hX hD hR hC hG hBW hm
      go_upto_region 6 with fail
      go_region_law (first | (go_simp; go_at_call 55; refine (below_draw a len cap c 10 wr.drew hl (by omega) (by omega) HC.out).mono ?_; rintro e w5 ⟨y, ⟨y0, y1⟩, rfl, hc1, hg⟩; have hw : IntKind.i64.wrap (1 + y) = 1 + y := IntWalk.i64_in _ (by omega); replace HX := Lib.hid (HX.out.grown hg (by intro e; injection e with e; omega)); replace HD := Lib.hid (HD.out.grown hg (by intro e; injection e with e; omega)); replace HR := Lib.hid (HR.out.grown hg (by omega)); replace HG := Lib.hid (Lib.grownBy_trans HG.out hg); replace HBW := Lib.hid (Nat.le_trans HBW.out hg.size); replace HC := Lib.hid hc1; have bo5 := (HD.out 0 _ rfl).1; have HSZ := Lib.hid (show wr.heap.size ≤ w5.heap.size from hg.size); clear hc1 hg) | (go_simp; go_at_call 66; refine (make_any a len cap c (w.heap.size + 2) ad rs capd (1 + y) w5 hl (by omega) hrs9 (by omega) (hk.out _) HM.out.int HR.out.row (by omega) HBW.out HC.out).mono ?_; rintro e w6 ⟨r, cs, rfl, ⟨hmd, hkd⟩, hcp, hblk, hI, hc1, hg⟩; have HNE : Hid (∀ b ∈ cs.flatMap blkO, wr.heap.size ≤ b) := (fun b hb => by have h1 := (hI.lt b hb).1; have h2 := HSZ.out; omega); have HMD := Lib.hid hmd; have HKD := Lib.hid hkd; have HCP := Lib.hid hcp; have HI := Lib.hid (hI.mono (lo' := w.heap.size + 2) (by have := HBW.out; omega)); replace HX := Lib.hid (HX.out.grown hg (by intro e; injection e with e; omega)); replace HD := Lib.hid (HD.out.grown hg (by intro e; injection e with e; omega)); replace HR := Lib.hid (HR.out.grown hg (by omega)); replace HG := Lib.hid (Lib.grownBy_trans HG.out hg); replace HBW := Lib.hid (Nat.le_trans HBW.out hg.size); replace HC := Lib.hid hc1; have bo6 := (HD.out 0 _ rfl).1; clear hmd hkd hcp hblk hc1 hg; obtain ⟨x4, y4, x5, y5, x6, y6, x7, y7, rfl, -⟩ := hI.is.1; have bo7 := (HD.out.below ((Below.refl w6.heap.size w6).alloc (Nat.le_refl _) (.cells #[.string r.name, .int .i64 r.kind, .int .i64 r.size, .bool r.little, .slice x4 r.bytes.length y4, .slice x5 r.names.length y5, .slice x6 r.tags.length y6, .slice x7 r.kids.length y7] 76)) 0 _ rfl).1) | (refine step_pushO rfl (.tmp 21) (.tmp 28) rfl (w.heap.size + 2) wr.heap.size (.slice ad rs.length capd) rs r _ w6 (by simp [Act.eval]) (by simp [Act.eval]) HR.out HI.out HNE.out (by omega) HBW.out ?_; intro v' w7 hrow hg; have HR7 := Lib.hid hrow; have HG7 := Lib.hid hg; obtain ⟨bo8, bf8⟩ := HD.out.grown hg (by intro e; have := (HR.out.row.own _ e.symm).1; omega) 0 _ rfl; obtain ⟨x', c', rfl, -⟩ := hrow.row.rdc; clear hrow hg))
      all_goals (have hfin := Lib.hid (DescrSt.push hcw hold.out HM.out HMD.out HX.out HD.out HR.out HC.out HG.out HBW.out HR7.out HG7.out); rw [show (rs ++ [r]).length = rs.length + 1 from by simp] at hfin; have hkf : Hid (∀ h : 0 < (rs ++ [r]).length, (rs ++ [r])[0].kind = 1) := (fun _ => by rw [List.getElem_append_left (by omega)]; exact hk.out _); clear HMD HKD HX HD HR HC HG HBW HR7 HG7 HI HCP HNE)
      all_goals go_wp2
      all_goals go_roundw
      all_goals first | exact ⟨j - 1, rs ++ [r], _, by omega, by congr 1; omega, by simp; omega, by simp, hkf, hfin⟩ | exact ⟨j - 1, rs ++ [r], _, by omega, by rw [show ((j : Int) - 1) = ((j - 1 : Nat) : Int) from by omega], by simp; omega, by simp, hkf, hfin⟩ | (simp [intOf]; omega)
/-- A drawn description comes back. -/
def DescrMade (a : Option Addr) (len cap c : Nat) (w : World) (e : Ending) (w' : World) : Prop :=
  ∃ (rs : List RuleV) (x : Option Addr) (cp : Nat), e = .returned (.agg #[.slice x rs.length cp]) ∧ MadeAll rs ∧ (1 ≤ rs.length ∧ rs.length ≤ 6) ∧ (∀ h : 0 < rs.length, rs[0].kind = 1) ∧ RowR (w.heap.size + 2) (.slice x rs.length cp) rs w' ∧ Cur a len cap c w' ∧ w.grownBy w' (some c)
theorem descr_draw (a : Option Addr) (len cap c : Nat) (w : World) (hl : len ≤ 140737488355328) (hc : Cur a len cap c w) :
    Calls Try.prog 41 #[.pointer (some ⟨c, 0, none⟩)] w (DescrMade a len cap c w) := by
  refine (descr_drawO a len cap c w hl hc).mono ?_
  rintro e w' ⟨rs, x, cp, he, hm, hl, hk, hr, h⟩
  exact ⟨rs, x, cp, he, hm, hl, hk, hr.row, h⟩
end Go.Proofs.Ytefkhknfjohnaaa
