/- The contract of the model's CopyDescription. -/
import Derived.Test.YtdhfcopfoknokaaL4Rule
namespace Go.Proofs.Ytdhfcopfoknokaa
open Go Go.RowKit
/-- The slice at a reads as these rules; nil slices in them have no room. -/
def RdN (a : Option Addr) (rs : List RuleV) (w : World) : Prop :=
  ∀ j (h : j < rs.length), ∃ b off cs, a = some ⟨b, off, none⟩ ∧ IsRule rs[j] cs w ∧ NilOk cs ∧ ∀ i v, cs[i]? = some v → w.cell? ⟨b, off + j * 8 + i, none⟩ = some v
theorem RdN.below {a : Option Addr} {rs : List RuleV} {w w' : World} (h : RdN a rs w) (hb : Below w.heap.size w w') : RdN a rs w' := fun j hj => by
  obtain ⟨b, off, cs, ha, hr, hp, hc⟩ := h j hj
  exact ⟨b, off, cs, ha, hr.below hb, hp, fun i v hi => (hb.cell (cell_lt (hc i v hi))).trans (hc i v hi)⟩
theorem OwnR.rdn {lo hi : Nat} {a : Option Addr} {rs : List RuleV} {cap : Nat} {w : World} (h : OwnR lo hi a rs cap w) : RdN a rs w := fun j hj => by
  obtain ⟨css, hl, ho, hr, _⟩ := h
  rcases hr with rfl | ⟨b, off, ha, _, _, hc, _⟩
  · simp at hj
  · exact ⟨b, off, css[j]'(by omega), ha, (ho j hj (by omega)).is, (ho j hj (by omega)).nil, fun i v hv => (hc j (by omega) i v hv).1⟩
theorem take_ruleNext (rs : List RuleV) (k : Nat) (h : k < rs.length) : rs.take k ++ [rs[k]] = rs.take (k + 1) := (List.take_succ_eq_append_getElem h).symm
/-- A description comes back that reads so. -/
def ReadOut (rs : List RuleV) (w : World) (e : Ending) (w' : World) : Prop := ∃ a cap, e = .returned (.agg #[.slice a rs.length cap]) ∧ RdC a rs w' ∧ Below w.heap.size w w'
set_option maxRecDepth 100000 in
set_option maxHeartbeats 4000000 in
theorem copy_spec (a : Option Addr) (rs : List RuleV) (cap : Nat) (w : World) (hl : rs.length ≤ 1048576) (hs : ∀ r ∈ rs, Short r) (h : RdN a rs w) :
    Calls Try.prog 35 #[.agg #[.slice a rs.length cap]] w (ReadOut rs w) := by
  have HS := Lib.hid hs
  have H := Lib.hid h
  obtain ⟨w0, hw0⟩ : ∃ w0, w0 = ((w.alloc (.cells #[.slice a rs.length cap] 29)).alloc (.cells #[.slice none 0 0] 29)).alloc (.cells #[.slice none 0 0] 29) := ⟨_, rfl⟩
  have hz0 : Hid (w0.heap.size = w.heap.size + 3) := by subst hw0; show _ = _; simp
  have hB0 : Below w.heap.size w w0 := by
    subst hw0
    exact (((Below.refl _ w).alloc (Nat.le_refl _) _).alloc (by simp) _).alloc (by simp; omega) _
  have hX0 : CellsAt w.heap.size [.slice a rs.length cap] w0 := by subst hw0; exact ((CellsAt.new w _ _).below ((Below.refl _ _).alloc (Nat.le_refl _) _)).below ((Below.refl _ _).alloc (Nat.le_refl _) _)
  have Z0 : CellsAt (w.heap.size + 1) [.slice none 0 0] w0 := by
    subst hw0
    have h1 := CellsAt.new (w.alloc (.cells #[.slice a rs.length cap] 29)) [.slice none 0 0] 29
    simp only [World.size_alloc] at h1
    exact h1.below ((Below.refl _ _).alloc (Nat.le_refl _) _)
  have O0 : CellsAt (w.heap.size + 2) [.slice none 0 0] w0 := by
    subst hw0
    have h1 := CellsAt.new ((w.alloc (.cells #[.slice a rs.length cap] 29)).alloc (.cells #[.slice none 0 0] 29)) [.slice none 0 0] 29
    simp only [World.size_alloc] at h1
    exact h1
  have HB0 := Lib.hid hB0
  have HX0 := Lib.hid hX0
  have HZ0 := Lib.hid Z0
  have HO0 := Lib.hid O0
  have hW := Lib.hid hw0
  clear hB0 Z0 O0 hX0 h hs hw0
  go_enter Try.func35, Try.ntmps35
  go_wp2
  rw [← hW.out]
  go_loopw [4] (fun i W => ∃ (k : Nat) (v : Value), k ≤ rs.length ∧ i = .int .i64 k ∧ Hid (CellsAt w.heap.size [.slice a rs.length cap] W) ∧ Hid (CellsAt (w.heap.size + 1) [.slice none 0 0] W) ∧ Hid (CellsAt (w.heap.size + 2) [v] W) ∧ Hid (RowR w0.heap.size v (rs.take k) W) ∧ Hid (Below w.heap.size w W) ∧ Hid (w0.heap.size ≤ W.heap.size)) (fun i _ => rs.length - (intOf i).toNat)
  case atStart => exact ⟨0, .slice none 0 0, Nat.zero_le _, rfl, HX0, HZ0, HO0, RowR.start _ _, HB0, Nat.le_refl _⟩
  case round =>
    obtain ⟨k, v, hk, rfl, HX, HZ, HO, HR, HB, HSZ⟩ := hrel
    have k0 : (0 : Int) ≤ (k : Int) := by omega
    have bx := (HX.out 0 _ rfl).1
    have bo := (HO.out 0 _ rfl).1
    by_cases hlt : k < rs.length
    · have k1 : (k : Int) < (rs.length : Int) := by omega
      have hsh := Lib.hid (HS.out _ (List.getElem_mem hlt))
      have htk := Lib.hid (take_ruleNext rs k hlt)
      obtain ⟨b, off, cs0, ha, ⟨a4, c4, a5, c5, a6, c6, a7, c7, rfl, h4, h5, h6, h7⟩, hnil, hc⟩ := (H.out.below HB.out) k hlt
      subst ha
      have d0 := hc 0 _ rfl
      have d1 := hc 1 _ rfl
      have d2 := hc 2 _ rfl
      have d3 := hc 3 _ rfl
      have d4 := hc 4 _ rfl
      have d5 := hc 5 _ rfl
      have d6 := hc 6 _ rfl
      have d7 := hc 7 _ rfl
      rw [Nat.add_zero] at d0
      have HQ : Hid (IsRule rs[k] [.string rs[k].name, .int .i64 rs[k].kind, .int .i64 rs[k].size, .bool rs[k].little, .slice a4 rs[k].bytes.length c4, .slice a5 rs[k].names.length c5, .slice a6 rs[k].tags.length c6, .slice a7 rs[k].kids.length c7] wr.drew) := ⟨a4, c4, a5, c5, a6, c6, a7, c7, rfl, h4, h5, h6, h7⟩
      have HN := Lib.hid hnil
      clear h4 h5 h6 h7 hc hnil
      have hlk : (rs.take k).length ≤ 1048576 := by simp; omega
      generalize rs[k] = r at d0 d1 d2 d3 d4 d5 d6 d7 HQ HN hsh htk
      go_wp2
      replace HX : Hid (CellsAt w.heap.size [.slice (some ⟨b, off, none⟩) rs.length cap] wr.drew) := HX.out
      replace HZ : Hid (CellsAt (w.heap.size + 1) [.slice none 0 0] wr.drew) := HZ.out
      replace HO : Hid (CellsAt (w.heap.size + 2) [v] wr.drew) := HO.out
      replace HR : Hid (RowR w0.heap.size v (rs.take k) wr.drew) := HR.out.below (below_drewN (Below.refl _ _) 1)
      replace HB : Hid (Below w.heap.size w wr.drew) := below_drewN HB.out 1
      replace HSZ : Hid (w0.heap.size ≤ wr.drew.heap.size) := HSZ.out
      go_region_law (first
        | (refine step_pushR rfl (.tmp 14) (.tmp 21) rfl w0.heap.size v (rs.take k) r _ w1 (by simp [Act.eval]) (by simp [Act.eval]) HR.out HI.out HCP.out HNE.out hlk HSZ.out ?_; intro v' w2 hrow hg; have HR2 := Lib.hid hrow; have hw2 := Lib.hid hg.size; have HX2 := Lib.hid (HX.out.grown hg (by intro e; have := HR.out.own _ e.symm; have := hz0.out; omega)); have HZ2 := Lib.hid (HZ.out.grown hg (by intro e; have := HR.out.own _ e.symm; have := hz0.out; omega)); have HO2 := Lib.hid (HO.out.grown hg (by intro e; have := HR.out.own _ e.symm; have := hz0.out; omega)); obtain ⟨bo2, bf2⟩ := HO2.out 0 _ rfl; have HB2 := Lib.hid (HB.out.grown hg HB.out.size (fun g e => by have := HR.out.own _ e; have := hz0.out; omega)); obtain ⟨x', c', rfl, -⟩ := hrow.rdc; clear hrow hg)
        | (go_simp; go_at_call 58; refine (l4rule_spec r _ _ hsh.out HN.out HQ.out).mono ?_; rintro e w1 ⟨cs, rfl, hown, hb1⟩; have HI := Lib.hid hown.is; have HCP := Lib.hid hown.cap; have HNE : Hid (∀ b ∈ cs.flatMap sliceBlk, w0.heap.size ≤ b ∧ some b ≠ v.ownBlock) := (fun b hb => by have q := hown; obtain ⟨_, _, _, _, _, _, _, _, _, _, _, _, _, _, hrange⟩ := q; have h1 := (hrange b hb).1; have h2 := HSZ.out; exact ⟨by omega, fun e => by have := HR.out.own b e.symm; omega⟩); have bo := (HO.out.below hb1 0 _ rfl).1; replace HX := Lib.hid (HX.out.below hb1); replace HZ := Lib.hid (HZ.out.below hb1); replace HO := Lib.hid (HO.out.below hb1); replace HR := Lib.hid (HR.out.below hb1); replace HB := Lib.hid (HB.out.trans (hb1.mono HB.out.size)); replace HSZ : Hid (w0.heap.size ≤ w1.heap.size) := Nat.le_trans HSZ.out hb1.size; clear hb1; obtain ⟨x4, y4, x5, y5, x6, y6, x7, y7, rfl, -⟩ := hown; have bo3 := (HO.out.below ((Below.refl w1.heap.size w1).alloc (Nat.le_refl _) (.cells #[.string r.name, .int .i64 r.kind, .int .i64 r.size, .bool r.little, .slice x4 r.bytes.length y4, .slice x5 r.names.length y5, .slice x6 r.tags.length y6, .slice x7 r.kids.length y7] 38)) 0 _ rfl).1))
      all_goals
        (have hlen2 : (rs.take (k + 1)).length = k + 1 := by simp; omega
         rw [htk.out, hlen2] at HR2
         go_wp2
         go_roundw
         case rel => exact ⟨k + 1, _, by omega, by go_num, HX2.out.far (by omega), HZ2.out.far (by omega), HO2.out.set 0 _ (by simp), HR2.out.grown (grown_set (grown_refl _ _) 0 _) (by have := hz0.out; omega), HB2.out.setCell (p := ⟨w.heap.size + 2, 0, none⟩) (by simp) _, by show _ ≤ _; have := hw2.out; have := HSZ.out; simp; omega⟩
         case measure => simp [intOf]; omega)
    · have k1 : ¬ (k : Int) < (rs.length : Int) := by omega
      obtain rfl : k = rs.length := by omega
      obtain ⟨z0, t0⟩ := HZ.out 0 _ rfl
      have hrow := HR.out
      rw [List.take_length] at hrow
      obtain ⟨x, c, rfl, -⟩ := hrow.rdc
      obtain ⟨x2, c2, e2, hrd, _⟩ := (hrow.grown (grown_set (grown_refl wr (w.heap.size + 1)) 0 (.slice x rs.length c)) (by have := hz0.out; omega)).rdc
      injection e2 with e2 _ e3
      subst e2 e3
      have HRD := Lib.hid hrd
      clear hrow hrd HR
      go_wp2
      (try simp only [Exit.inBlock, Exit.then])
      refine bodyPost_ret (v := .agg #[.slice x rs.length c]) ?_ rfl ?_
      · simp [results, Try.results35, go_sem, z0]
      · exact ⟨x, c, rfl, HRD.out, HB.out.setCell (p := ⟨w.heap.size + 1, 0, none⟩) (by simp) _⟩
end Go.Proofs.Ytdhfcopfoknokaa
