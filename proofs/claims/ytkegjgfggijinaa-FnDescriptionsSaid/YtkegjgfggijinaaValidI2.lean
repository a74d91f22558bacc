/- Contracts of the program's meetsSequence and meetsChoice. -/
import Derived.Test.YtkegjgfggijinaaValidI1
import Derived.StillTailTactics
namespace Go.Proofs.Ytkegjgfggijinaa
open Go Go.RowKit
/-- The conditions of a sequence. -/
noncomputable def seqB (r : RuleV) : Bool := decide (r.names.length = r.kids.length) && namesB r.names
open Classical in
theorem seqB_len {r : RuleV} (h : ¬ (1 ≤ (r.kids.length : Int) ∧ (r.kids.length : Int) ≤ 8)) : seqB r = false := by
  unfold seqB
  by_cases he : r.names.length = r.kids.length
  · have : namesB r.names = false := by
      unfold namesB
      exact decide_eq_false fun h' => h (by have := h'.2; omega)
    rw [this, Bool.and_false]
  · rw [decide_eq_false he, Bool.false_and]
set_option maxRecDepth 100000 in
set_option maxHeartbeats 1000000 in
theorem seq_impl (r : RuleV) (cs : List Value) (w : World) (hs : Short r) (hp : Spelt r) (hcap : Cap5 cs) (h : IsRule r cs w) :
    Calls Try.prog 53 #[.agg cs.toArray] w fun e w' => e = .returned (.bool (seqB r)) ∧ Below w.heap.size w w' := by
  obtain ⟨a4, c4, a5, c5, a6, c6, a7, c7, rfl, h4, h5, h6, h7⟩ := h
  have hc5 : r.names.length ≤ c5 := hcap a5 _ c5 rfl
  obtain ⟨s4, s5, s6, s7⟩ := hs
  obtain ⟨w0, hw0⟩ : ∃ w0, w0 = w.alloc (.cells #[.string r.name, .int .i64 r.kind, .int .i64 r.size, .bool r.little, .slice a4 r.bytes.length c4, .slice a5 r.names.length c5, .slice a6 r.tags.length c6, .slice a7 r.kids.length c7] 35) := ⟨_, rfl⟩
  have hB0 : Below w.heap.size w w0 := by subst hw0; exact (Below.refl _ _).alloc (Nat.le_refl _) _
  have hX0 : CellsAt w.heap.size [.string r.name, .int .i64 r.kind, .int .i64 r.size, .bool r.little, .slice a4 r.bytes.length c4, .slice a5 r.names.length c5, .slice a6 r.tags.length c6, .slice a7 r.kids.length c7] w0 := by subst hw0; exact CellsAt.new w _ _
  have H5 := Lib.hid (h5.below hB0)
  have HB0 := Lib.hid hB0
  have HX0 := Lib.hid hX0
  have HP := Lib.hid hp.2
  have hW := Lib.hid hw0
  clear h4 h5 h6 h7 hB0 hX0 hw0 hp hcap s4 s6
  by_cases g1 : 1 ≤ (r.kids.length : Int) ∧ (r.kids.length : Int) ≤ 8
  case neg =>
    have hr := Lib.hid (seqB_len g1)
    have hd := decide_eq_false g1
    go_enter Try.func53, Try.ntmps53
    go_wp2_with fail
    refine (inI_any _ _ _ false _ hd).mono ?_
    rintro e w1 ⟨rfl, rfl⟩
    go_wp2
    rw [← hW.out]
    go_ret
    exact ⟨ret_bool hr.out.symm, HB0.out⟩
  have hd := decide_eq_true g1
  by_cases g2 : r.names.length = r.kids.length
  case neg =>
    have hr : Hid (seqB r = false) := by
      show _ = _
      unfold seqB
      rw [decide_eq_false g2, Bool.false_and]
    have e1 : ((r.names.length : Int) != (r.kids.length : Int)) = true := by simp; omega
    go_enter Try.func53, Try.ntmps53
    go_wp2_with fail
    refine (inI_any _ _ _ true _ hd).mono ?_
    rintro e w1 ⟨rfl, rfl⟩
    go_wp2
    rw [← hW.out]
    go_ret
    exact ⟨ret_bool hr.out.symm, HB0.out⟩
  have hr : Hid (seqB r = namesB r.names) := by
    show _ = _
    unfold seqB
    rw [decide_eq_true g2, Bool.true_and]
  have hlen : Hid (1 ≤ r.names.length ∧ r.names.length ≤ 8) := ⟨by omega, by omega⟩
  have e1 : ((r.names.length : Int) != (r.kids.length : Int)) = false := by simp; omega
  clear g1 g2
  generalize r.names = ss at *
  go_enter Try.func53, Try.ntmps53
  go_wp2_with fail
  refine (inI_any _ _ _ true _ hd).mono ?_
  rintro e w1 ⟨rfl, rfl⟩
  clear hd
  go_wp2
  clear e1
  go_loopw [22] (fun i W => ∃ k : Nat, k ≤ ss.length ∧ i = .int .i64 k ∧ Hid (Below w0.heap.size w0 W) ∧ Hid (namesTo ss k)) (fun i _ => ss.length - (intOf i).toNat)
  case atStart => exact ⟨0, Nat.zero_le _, rfl, by rw [← hW.out]; exact Below.refl _ _, fun i _ h => by omega⟩
  case round =>
    obtain ⟨k, hk, rfl, hbw, hn⟩ := hrel
    have k0 : (0 : Int) ≤ (k : Int) := by omega
    have HBW := Lib.hid (HB0.out.trans (hbw.out.mono HB0.out.size))
    by_cases hlt : k < ss.length
    · have k1 : (k : Int) < (ss.length : Int) := by omega
      have k2 : (k : Int) ≤ (c5 : Int) := by omega
      have hsz := HP.out _ (List.getElem_mem hlt)
      have hbad := fun h => Lib.hid (namesB_bad hlt h)
      have hgood := fun h1 h2 => Lib.hid (hn.out.next hlt h1 h2)
      obtain ⟨b, off, rfl, hc⟩ := (H5.out.below hbw.out) k hlt
      have HQ1 := Lib.hid (name_impl ss[k] wr (by omega))
      have HQ2 : Hid (∀ W, Below wr.heap.size wr W → Calls Try.prog 74 #[.slice (some ⟨b, off, none⟩) k c5, .string ss[k]] W fun e w' => e = .returned (.bool (hasS (ss.take k) ss[k])) ∧ W = w') := fun W hb => hasT_impl _ ss k c5 ss[k] W (by omega) hk ((H5.out.below hbw.out).below hb)
      generalize nameB ss[k] = b1 at HQ1 hbad hgood
      generalize hasS (ss.take k) ss[k] = b2 at HQ2 hbad hgood
      generalize ss[k] = x at HQ1 HQ2 hc hsz
      cases b1 with
      | false =>
        have hrr := hbad (by simp)
        clear hbad hgood
        go_wp2_with fail
        refine HQ1.out.mono ?_
        rintro e w2 ⟨rfl, hb2⟩
        have HB2 := Lib.hid (HBW.out.trans (hb2.mono HBW.out.size))
        clear hb2
        go_wp2
        go_ret
        exact ⟨ret_bool (by rw [hr.out, hrr.out]), HB2.out⟩
      | true =>
        cases b2 with
        | true =>
          have hrr := hbad (by simp)
          clear hbad hgood
          go_wp2_with fail
          refine HQ1.out.mono ?_
          rintro e w2 ⟨rfl, hb2⟩
          have HB2 := Lib.hid (HBW.out.trans (hb2.mono HBW.out.size))
          have bx := ((HX0.out.below hbw.out).below hb2 5 _ rfl).1
          have HQ3 := Lib.hid (HQ2.out _ hb2)
          clear hb2
          go_wp2_with fail
          refine HQ3.out.mono ?_
          rintro e w3 ⟨rfl, rfl⟩
          go_wp2
          go_ret
          exact ⟨ret_bool (by rw [hr.out, hrr.out]), HB2.out⟩
        | false =>
          have hrr := hgood rfl rfl
          clear hbad hgood
          go_wp2_with fail
          refine HQ1.out.mono ?_
          rintro e w2 ⟨rfl, hb2⟩
          have HB2 := Lib.hid (hbw.out.trans (hb2.mono hbw.out.size))
          have bx := ((HX0.out.below hbw.out).below hb2 5 _ rfl).1
          have HQ3 := Lib.hid (HQ2.out _ hb2)
          clear hb2
          go_wp2_with fail
          refine HQ3.out.mono ?_
          rintro e w3 ⟨rfl, rfl⟩
          go_wp2
          go_roundw
          case rel => exact ⟨k + 1, by omega, by go_num, HB2, hrr⟩
          case measure => simp [intOf]; omega
    · have k1 : ¬ (k : Int) < (ss.length : Int) := by omega
      obtain rfl : k = ss.length := by omega
      have hrr := Lib.hid (namesB_end hn.out)
      go_wp2
      go_ret
      exact ⟨ret_bool (by rw [hr.out, hrr.out]; exact (decide_eq_true hlen.out).symm), HBW.out⟩
theorem limitAt_le (rs : List RuleV) (k : Int) : limitAt rs k ≤ 4294967295 := by
  unfold limitAt
  split
  · dsimp only
    split
    · have := (pow256_bounds (rs[k.toNat]'(by omega)).size).2
      omega
    · omega
  · omega
theorem tagsOk_yes {lim lo : Int} {ts : List Int} {j : Nat} (hj : j < ts.length) (h : lo ≤ ts[j] ∧ ts[j] ≤ lim) : tagsOk lim lo (ts.drop j) = tagsOk lim (ts[j] + 1) (ts.drop (j + 1)) := by
  rw [List.drop_eq_getElem_cons hj]
  simp only [tagsOk, decide_eq_true h, Bool.true_and]
theorem tagsOk_no {lim lo : Int} {ts : List Int} {j : Nat} (hj : j < ts.length) (h : ¬ (lo ≤ ts[j] ∧ ts[j] ≤ lim)) : tagsOk lim lo (ts.drop j) = false := by
  rw [List.drop_eq_getElem_cons hj]
  simp only [tagsOk, decide_eq_false h, Bool.false_and]
set_option maxRecDepth 100000 in
set_option maxHeartbeats 1000000 in
theorem choice_impl (a : Option Addr) (rs : List RuleV) (cap : Nat) (r : RuleV) (cs : List Value) (w : World) (hl : rs.length ≤ 1048576) (hs : Short r) (hrd : RdR a rs w) (h : IsRule r cs w) :
    Calls Try.prog 54 #[.agg #[.slice a rs.length cap], .agg cs.toArray] w fun e w' => e = .returned (.bool (tagsB rs r)) ∧ Below w.heap.size w w' := by
  obtain ⟨a4, c4, a5, c5, a6, c6, a7, c7, rfl, h4, h5, h6, h7⟩ := h
  obtain ⟨s4, s5, s6, s7⟩ := hs
  obtain ⟨w0, hw0⟩ : ∃ w0, w0 = (w.alloc (.cells #[.slice a rs.length cap] 26)).alloc (.cells #[.string r.name, .int .i64 r.kind, .int .i64 r.size, .bool r.little, .slice a4 r.bytes.length c4, .slice a5 r.names.length c5, .slice a6 r.tags.length c6, .slice a7 r.kids.length c7] 35) := ⟨_, rfl⟩
  have hB0 : Below w.heap.size w w0 := by subst hw0; exact ((Below.refl _ _).alloc (Nat.le_refl _) _).alloc (by simp) _
  have hX0 : CellsAt w.heap.size [.slice a rs.length cap] w0 := by subst hw0; exact (CellsAt.new w _ _).below ((Below.refl _ _).alloc (Nat.le_refl _) _)
  have hY0 : CellsAt (w.heap.size + 1) [.string r.name, .int .i64 r.kind, .int .i64 r.size, .bool r.little, .slice a4 r.bytes.length c4, .slice a5 r.names.length c5, .slice a6 r.tags.length c6, .slice a7 r.kids.length c7] w0 := by
    subst hw0
    have h1 := CellsAt.new (w.alloc (.cells #[.slice a rs.length cap] 26)) [.string r.name, .int .i64 r.kind, .int .i64 r.size, .bool r.little, .slice a4 r.bytes.length c4, .slice a5 r.names.length c5, .slice a6 r.tags.length c6, .slice a7 r.kids.length c7] 35
    simpa using h1
  have HR := Lib.hid (hrd.below hB0)
  have H6 := Lib.hid (h6.below hB0)
  have H7 := Lib.hid (h7.below hB0)
  have HB0 := Lib.hid hB0
  have HX0 := Lib.hid hX0
  have HY0 := Lib.hid hY0
  have hW := Lib.hid hw0
  clear h4 h5 h6 h7 hB0 hX0 hY0 hw0 hrd s4 s5
  by_cases g1 : 1 ≤ (r.tags.length : Int) ∧ (r.tags.length : Int) ≤ 8
  case neg =>
    have hr : Hid (tagsB rs r = false) := by
      show _ = _
      unfold tagsB
      rw [decide_eq_false (by omega), Bool.false_and]
    have hd := decide_eq_false g1
    go_enter Try.func54, Try.ntmps54
    go_wp2_with fail
    refine (inI_any _ _ _ false _ hd).mono ?_
    rintro e w1 ⟨rfl, rfl⟩
    go_wp2
    rw [← hW.out]
    go_ret
    exact ⟨ret_bool hr.out.symm, HB0.out⟩
  have hd := decide_eq_true g1
  by_cases g2 : r.kids.length = r.tags.length + 1
  case neg =>
    have hr : Hid (tagsB rs r = false) := by
      show _ = _
      unfold tagsB
      rw [decide_eq_false (by omega), Bool.false_and]
    have e1 : ((r.kids.length : Int) != (r.tags.length : Int) + 1) = true := by simp; omega
    go_enter Try.func54, Try.ntmps54
    go_wp2_with fail
    refine (inI_any _ _ _ true _ hd).mono ?_
    rintro e w1 ⟨rfl, rfl⟩
    go_wp2
    rw [← hW.out]
    go_ret
    exact ⟨ret_bool hr.out.symm, HB0.out⟩
  have hk : 0 < r.kids.length := by omega
  have hr : Hid (tagsB rs r = tagsOk (limitAt rs r.kids[0]) 0 r.tags) := by
    show _ = _
    unfold tagsB
    rw [decide_eq_true (by omega), Bool.true_and, headD_at hk]
  have e1 : ((r.kids.length : Int) != (r.tags.length : Int) + 1) = false := by simp; omega
  obtain ⟨b7, o7, rfl, hc7⟩ := H7.out 0 hk
  have k1 : (0 : Int) < (r.kids.length : Int) := by omega
  have hlim := limitAt_le rs r.kids[0]
  clear g2
  generalize r.kids[0] = kid at hc7 hr hlim
  simp only [Nat.add_zero] at hc7
  go_enter Try.func54, Try.ntmps54
  go_wp2_with fail
  refine (inI_any _ _ _ true _ hd).mono ?_
  rintro e w1 ⟨rfl, rfl⟩
  clear hd
  go_wp2
  clear e1
  rw [← hW.out]
  have bx0 := (HX0.out 0 _ rfl).1
  have by0 := (HY0.out 7 _ rfl).1
  go_still_tail 5, (by kernel_rfl)
  change wpList _ _ _ _ _ w0.drew
  have hbd : Below w.heap.size w w0.drew := ⟨HB0.out.os, HB0.out.tape, HB0.out.output, HB0.out.size, HB0.out.block⟩
  have HBD := Lib.hid hbd
  have HR2 : Hid (RdR a rs w0.drew) := HR.out
  have H62 : Hid (RdI a6 r.tags w0.drew) := H6.out
  have HY2 : Hid (CellsAt _ _ w0.drew) := HY0.out
  clear hbd HR H6 HX0 HY0 HB0 hW hc7 H7 bx0 by0
  generalize w0.drew = w2 at HBD HR2 H62 HY2 ⊢
  go_wp2_with fail
  refine (limit_impl a rs cap kid _ (by omega) HR2.out).mono ?_
  rintro e w3 ⟨rfl, hb3⟩
  have HB3 := Lib.hid (HBD.out.trans (hb3.mono HBD.out.size))
  have H63 := Lib.hid (H62.out.below hb3)
  have by3 := (HY2.out.below hb3 6 _ rfl).1
  clear hb3 HBD H62 HY2 HR2
  generalize limitAt rs kid = lim at hr hlim
  generalize r.tags = ts at *
  go_wp2
  go_loop [6, 33] (fun lo i => ∃ (j : Nat) (l : Int), j ≤ ts.length ∧ i = .int .i64 j ∧ lo = .int .i64 l ∧ l ≤ 4294967296 ∧ -9223372036854775808 ≤ l ∧ Hid (tagsOk lim 0 ts = tagsOk lim l (ts.drop j))) (fun _ i => ts.length - (intOf i).toNat)
  case atStart => exact ⟨0, 0, Nat.zero_le _, rfl, rfl, by omega, by omega, rfl⟩
  case round =>
    obtain ⟨j, l, hj, rfl, rfl, hl1, hl2, hf⟩ := hrel
    have j0 : (0 : Int) ≤ (j : Int) := by omega
    by_cases hlt : j < ts.length
    · have j1 : (j : Int) < (ts.length : Int) := by omega
      obtain ⟨b, off, rfl, hc⟩ := H63.out j hlt
      by_cases hx : l ≤ ts[j] ∧ ts[j] ≤ lim
      · have hrr : Hid (tagsOk lim 0 ts = tagsOk lim (ts[j] + 1) (ts.drop (j + 1))) := hf.out.trans (tagsOk_yes hlt hx)
        have hdd : decide (l ≤ ts[j] ∧ ts[j] ≤ lim) = true := decide_eq_true hx
        generalize ts[j] = x at hc hx hdd hrr
        have x1 : x ≤ 4294967295 := by omega
        have x2 : -9223372036854775808 ≤ x := by omega
        go_wp2_with fail
        refine (inI_any _ _ _ true _ hdd).mono ?_
        rintro e w4 ⟨rfl, rfl⟩
        go_wp2
        go_round
        case rel => exact ⟨j + 1, x + 1, by omega, by go_num, rfl, by omega, by omega, hrr⟩
        case measure => simp [intOf]; omega
      · have hrr : Hid (tagsOk lim 0 ts = false) := hf.out.trans (tagsOk_no hlt hx)
        have hdd : decide (l ≤ ts[j] ∧ ts[j] ≤ lim) = false := decide_eq_false hx
        generalize ts[j] = x at hc hx hdd
        clear hx
        go_wp2_with fail
        refine (inI_any _ _ _ false _ hdd).mono ?_
        rintro e w4 ⟨rfl, rfl⟩
        go_wp2
        go_ret
        exact ⟨ret_bool (by rw [hr.out, hrr.out]), HB3.out⟩
    · have j1 : ¬ (j : Int) < (ts.length : Int) := by omega
      have hrr : Hid (tagsOk lim 0 ts = true) := by
        have := hf.out
        rw [List.drop_of_length_le (by omega)] at this
        exact this
      go_wp2
      go_ret
      exact ⟨ret_bool (by rw [hr.out, hrr.out]), HB3.out⟩
end Go.Proofs.Ytkegjgfggijinaa
