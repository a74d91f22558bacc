/- Contracts of the program's areEarlierRules, startsWithInteger, ContainsText, meetsSequence. Contracts of the program's meetsSequence and meetsChoice. The contract of the program's meetsKind. The contract of the program's onlyMentioned. The contract of the program's IsValidRule. The contract of the program's IsValidDescription. -/
import Derived.Test.YtefkhknfjohnaaaGRul
import Derived.Test.YtefkhknfjohnaaaGDI
import Derived.Test.YtefkhknfjohnaaaShelf
import Derived.BigQuiet
import Derived.StillTailTactics
import Derived.Deep.RegionHeld3
import Derived.Deep.RegionWith
namespace Go.Proofs.Ytefkhknfjohnaaa
open Go Go.RowKit
theorem hasS_contains (ss : List ByteArray) (x : ByteArray) : Lib.containsS ss x = hasS ss x := by
  have h := Lib.containsS_iff ss x
  by_cases hm : x ∈ ss
  · rw [hasS_true hm, h.2 hm]
  · rw [hasS_false hm, Bool.eq_false_iff]
    exact fun e => hm (h.1 e)
theorem has_impl (a : Option Addr) (ss : List ByteArray) (cap : Nat) (x : ByteArray) (w : World) (hl : ss.length ≤ 1073741824) (h : RdS a ss w) :
    Calls Try.prog 119 #[.slice a ss.length cap, .string x] w fun e w' => e = .returned (.bool (hasS ss x)) ∧ w = w' := by
  have H := Lib.hid h
  clear h
  have hc : Calls Try.prog 120 #[.slice a ss.length cap, .string x] w fun e w' => e = .returned (.bool (hasS ss x)) ∧ w = w' := by
    cases ss with
    | nil =>
      refine (Try.slices_Contains_string_empty a cap x w).mono ?_
      rintro e w' ⟨rfl, rfl⟩
      exact ⟨rfl, rfl⟩
    | cons y r =>
      obtain ⟨b, off, rfl, hc0⟩ := H.out 0 (by simp)
      refine (Try.slices_Contains_string b off (y :: r).length cap (y :: r) x w (Nat.le_refl _) (by omega) (fun j hj => ?_)).mono ?_
      · obtain ⟨b', off', e, hcj⟩ := H.out j hj
        injection e with e
        injection e with e1 e2
        subst e1 e2
        rw [hcj, List.getD_eq_getElem?_getD, List.getElem?_eq_getElem hj]
        rfl
      · rintro e w' ⟨rfl, rfl⟩
        rw [List.take_length, hasS_contains]
        exact ⟨rfl, rfl⟩
  go_enter Try.func119, Try.ntmps119
  go_wp2_with fail
  refine hc.mono ?_
  rintro e w1 ⟨rfl, rfl⟩
  go_wp2
  go_ret
  exact ⟨rfl, rfl⟩
theorem kidsB_yes {ks : List Int} {k : Int} {j : Nat} (hj : j < ks.length) (h : 0 ≤ ks[j] ∧ ks[j] ≤ k - 1) : kidsB (ks.drop j) k = kidsB (ks.drop (j + 1)) k := by
  rw [List.drop_eq_getElem_cons hj]
  simp only [kidsB, List.all_cons, decide_eq_true h, Bool.true_and]
theorem kidsB_no {ks : List Int} {k : Int} {j : Nat} (hj : j < ks.length) (h : ¬ (0 ≤ ks[j] ∧ ks[j] ≤ k - 1)) : kidsB (ks.drop j) k = false := by
  rw [List.drop_eq_getElem_cons hj]
  simp only [kidsB, List.all_cons, decide_eq_false h, Bool.false_and]
set_option maxRecDepth 100000 in
theorem kids_impl (a : Option Addr) (ks : List Int) (cap : Nat) (k : Int) (w : World) (hl : ks.length ≤ 1048576) (hk0 : 0 ≤ k) (hk1 : k ≤ 1073741824) (h : RdI a ks w) :
    Calls Try.prog 102 #[.slice a ks.length cap, .int .i64 k] w fun e w' => e = .returned (.bool (kidsB ks k)) ∧ w = w' := by
  have H := Lib.hid h
  clear h
  go_enter Try.func102, Try.ntmps102
  go_wp2
  go_loop [9] (fun i => ∃ j : Nat, j ≤ ks.length ∧ i = .int .i64 j ∧ Hid (kidsB ks k = kidsB (ks.drop j) k)) (fun i => ks.length - (intOf i).toNat)
  case atStart => exact ⟨0, Nat.zero_le _, rfl, rfl⟩
  case round =>
    obtain ⟨j, hj, rfl, hf⟩ := hrel
    have j0 : (0 : Int) ≤ (j : Int) := by omega
    by_cases hlt : j < ks.length
    · have j1 : (j : Int) < (ks.length : Int) := by omega
      obtain ⟨b, off, rfl, hc⟩ := H.out j hlt
      by_cases hx : 0 ≤ ks[j] ∧ ks[j] ≤ k - 1
      · have hr : Hid (kidsB ks k = kidsB (ks.drop (j + 1)) k) := hf.out.trans (kidsB_yes hlt hx)
        have hd : decide (0 ≤ ks[j] ∧ ks[j] ≤ k - 1) = true := decide_eq_true hx
        generalize ks[j] = x at hc hx hd
        go_wp2_with fail
        refine (inI_any _ _ _ true _ hd).mono ?_
        rintro e w1 ⟨rfl, rfl⟩
        go_wp2
        go_round
        case rel => exact ⟨j + 1, by omega, by go_num, hr⟩
        case measure => simp [intOf]; omega
      · have hr : Hid (kidsB ks k = false) := hf.out.trans (kidsB_no hlt hx)
        have hd : decide (0 ≤ ks[j] ∧ ks[j] ≤ k - 1) = false := decide_eq_false hx
        generalize ks[j] = x at hc hx hd
        clear hx
        go_wp2_with fail
        refine (inI_any _ _ _ false _ hd).mono ?_
        rintro e w1 ⟨rfl, rfl⟩
        go_wp2
        go_ret
        exact ⟨ret_bool hr.out.symm, rfl⟩
    · have j1 : ¬ (j : Int) < (ks.length : Int) := by omega
      have hr : Hid (kidsB ks k = true) := by
        have := hf.out
        rw [List.drop_of_length_le (by omega)] at this
        exact this
      go_wp2
      go_ret
      exact ⟨ret_bool hr.out.symm, rfl⟩
theorem headD_at {ks : List Int} (h : 0 < ks.length) : ks.headD 0 = ks[0] := by
  cases ks with
  | nil => simp at h
  | cons x r => rfl
theorem kindAtB_in {rs : List RuleV} {k : Nat} (h : k < rs.length) : kindAtB rs (k : Int) = decide (rs[k].kind = 1) := by
  unfold kindAtB
  rw [dif_pos (by omega)]
  simp only [Int.toNat_natCast]
set_option maxRecDepth 100000 in
theorem starts_impl (a : Option Addr) (rs : List RuleV) (cap : Nat) (r : RuleV) (cs : List Value) (w : World) (h : RdR a rs w) (hr : IsRule r cs w) (hk : 0 < r.kids.length) (hin : 0 ≤ r.kids.headD 0 ∧ r.kids.headD 0 < rs.length) :
    Calls Try.prog 113 #[.agg #[.slice a rs.length cap], .agg cs.toArray] w fun e w' => e = .returned (.bool (kindAtB rs (r.kids.headD 0))) ∧ Below w.heap.size w w' := by
  obtain ⟨a4, c4, a5, c5, a6, c6, a7, c7, rfl, h4, h5, h6, h7⟩ := hr
  have hB : Below w.heap.size w ((w.alloc (.cells #[.slice a rs.length cap] 38)).alloc (.cells #[.string r.name, .int .i64 r.kind, .int .i64 r.size, .bool r.little, .slice a4 r.bytes.length c4, .slice a5 r.names.length c5, .slice a6 r.tags.length c6, .slice a7 r.kids.length c7] 76)) := ((Below.refl _ _).alloc (Nat.le_refl _) _).alloc (by simp) _
  obtain ⟨n, hn⟩ : ∃ n : Nat, r.kids.headD 0 = (n : Int) := ⟨(r.kids.headD 0).toNat, by omega⟩
  rw [hn] at hin
  have hlt : n < rs.length := by omega
  have hres := Lib.hid (kindAtB_in hlt)
  rw [hn]
  rw [headD_at hk] at hn
  obtain ⟨b7, o7, rfl, hc7⟩ := (h7.below hB) 0 hk
  rw [hn] at hc7
  obtain ⟨b, off, _, _, _, _, _, _, _, _, rfl, ⟨-, d1, -⟩, -⟩ := (h.below hB).at n hlt
  have HB := Lib.hid hB
  have n0 : (0 : Int) ≤ (n : Int) := by omega
  have n1 : (n : Int) < (rs.length : Int) := by omega
  have k1 : (0 : Int) < (r.kids.length : Int) := by omega
  clear h h4 h5 h6 h7 hB hn hin
  generalize rs[n].kind = kd at d1 hres
  simp only [Nat.add_zero] at hc7
  by_cases hkd : kd = 1
  · subst hkd
    go_enter Try.func113, Try.ntmps113
    go_wp2
    go_quiet (fail)
    go_wp2
    go_ret
    exact ⟨ret_bool (by rw [hres.out]; rfl), below_drewN HB.out _⟩
  · have g1 : (kd == 1) = false := by simpa using hkd
    have hd : Hid (kindAtB rs (n : Int) = false) := by
      show _ = _
      rw [hres.out]; exact decide_eq_false hkd
    clear hres hkd
    go_enter Try.func113, Try.ntmps113
    go_wp2
    go_quiet (fail)
    go_wp2
    go_ret
    exact ⟨ret_bool hd.out.symm, below_drewN HB.out _⟩
theorem hasT_impl (a : Option Addr) (ss : List ByteArray) (k cap : Nat) (x : ByteArray) (w : World) (hl : ss.length ≤ 1073741824) (hk : k ≤ ss.length) (h : RdS a ss w) :
    Calls Try.prog 119 #[.slice a k cap, .string x] w fun e w' => e = .returned (.bool (hasS (ss.take k) x)) ∧ w = w' := by
  have e : (ss.take k).length = k := by simp; omega
  have h2 := has_impl a (ss.take k) cap x w (by omega) (h.take k)
  rw [e] at h2
  exact h2
end Go.Proofs.Ytefkhknfjohnaaa
namespace Go.Proofs.Ytefkhknfjohnaaa
open Go Go.RowKit
/-- The conditions of a sequence. -/
noncomputable def seqB (r : RuleV) : Bool := decide (r.names.length = r.kids.length) && namesB r.names
open Classical in
theorem seqB_len {r : RuleV} (h : ¬ (1 ≤ (r.kids.length : Int) ∧ (r.kids.length : Int) ≤ 8)) : seqB r = false := by
  unfold seqB
  by_cases he : r.names.length = r.kids.length
  · have : namesB r.names = false := by
      unfold namesB
      exact decide_eq_false fun h' => h (by have := h'.2; omega)
    rw [this, Bool.and_false]
  · rw [decide_eq_false he, Bool.false_and]
set_option maxRecDepth 100000 in
set_option maxHeartbeats 1000000 in
theorem seq_impl (r : RuleV) (cs : List Value) (w : World) (hs : Short r) (hp : Spelt r) (hcap : Cap5 cs) (h : IsRule r cs w) :
    Calls Try.prog 114 #[.agg cs.toArray] w fun e w' => e = .returned (.bool (seqB r)) ∧ Below w.heap.size w w' := by
  obtain ⟨a4, c4, a5, c5, a6, c6, a7, c7, rfl, h4, h5, h6, h7⟩ := h
  have hc5 : r.names.length ≤ c5 := hcap a5 _ c5 rfl
  obtain ⟨s4, s5, s6, s7⟩ := hs
  obtain ⟨w0, hw0⟩ : ∃ w0, w0 = w.alloc (.cells #[.string r.name, .int .i64 r.kind, .int .i64 r.size, .bool r.little, .slice a4 r.bytes.length c4, .slice a5 r.names.length c5, .slice a6 r.tags.length c6, .slice a7 r.kids.length c7] 76) := ⟨_, rfl⟩
  have hB0 : Below w.heap.size w w0 := by subst hw0; exact (Below.refl _ _).alloc (Nat.le_refl _) _
  have hX0 : CellsAt w.heap.size [.string r.name, .int .i64 r.kind, .int .i64 r.size, .bool r.little, .slice a4 r.bytes.length c4, .slice a5 r.names.length c5, .slice a6 r.tags.length c6, .slice a7 r.kids.length c7] w0 := by subst hw0; exact CellsAt.new w _ _
  have H5 := Lib.hid (h5.below hB0)
  have HB0 := Lib.hid hB0
  have HX0 := Lib.hid hX0
  have HP := Lib.hid hp.2
  have hW := Lib.hid hw0
  clear h4 h5 h6 h7 hB0 hX0 hw0 hp hcap s4 s6
  by_cases g1 : 1 ≤ (r.kids.length : Int) ∧ (r.kids.length : Int) ≤ 8
  case neg =>
    have hr := Lib.hid (seqB_len g1)
    have hd := decide_eq_false g1
    go_enter Try.func114, Try.ntmps114
    go_wp2_with fail
    refine (inI_any _ _ _ false _ hd).mono ?_
    rintro e w1 ⟨rfl, rfl⟩
    go_wp2
    rw [← hW.out]
    go_ret
    exact ⟨ret_bool hr.out.symm, HB0.out⟩
  have hd := decide_eq_true g1
  by_cases g2 : r.names.length = r.kids.length
  case neg =>
    have hr : Hid (seqB r = false) := by
      show _ = _
      unfold seqB
      rw [decide_eq_false g2, Bool.false_and]
    have e1 : ((r.names.length : Int) != (r.kids.length : Int)) = true := by simp; omega
    go_enter Try.func114, Try.ntmps114
    go_wp2_with fail
    refine (inI_any _ _ _ true _ hd).mono ?_
    rintro e w1 ⟨rfl, rfl⟩
    go_wp2
    rw [← hW.out]
    go_ret
    exact ⟨ret_bool hr.out.symm, HB0.out⟩
  have hr : Hid (seqB r = namesB r.names) := by
    show _ = _
    unfold seqB
    rw [decide_eq_true g2, Bool.true_and]
  have hlen : Hid (1 ≤ r.names.length ∧ r.names.length ≤ 8) := ⟨by omega, by omega⟩
  have e1 : ((r.names.length : Int) != (r.kids.length : Int)) = false := by simp; omega
  clear g1 g2
  generalize r.names = ss at *
  go_enter Try.func114, Try.ntmps114
  go_wp2_with fail
  refine (inI_any _ _ _ true _ hd).mono ?_
  rintro e w1 ⟨rfl, rfl⟩
  clear hd
  go_wp2
  clear e1
  go_loopw [22] (fun i W => ∃ k : Nat, k ≤ ss.length ∧ i = .int .i64 k ∧ Hid (Below w0.heap.size w0 W) ∧ Hid (namesTo ss k)) (fun i _ => ss.length - (intOf i).toNat)
  case atStart => exact ⟨0, Nat.zero_le _, rfl, by rw [← hW.out]; exact Below.refl _ _, fun i _ h => by omega⟩
  case round =>
    obtain ⟨k, hk, rfl, hbw, hn⟩ := hrel
    have k0 : (0 : Int) ≤ (k : Int) := by omega
    have HBW := Lib.hid (HB0.out.trans (hbw.out.mono HB0.out.size))
    by_cases hlt : k < ss.length
    · have k1 : (k : Int) < (ss.length : Int) := by omega
      have k2 : (k : Int) ≤ (c5 : Int) := by omega
      have hsz := HP.out _ (List.getElem_mem hlt)
      have hbad := fun h => Lib.hid (namesB_bad hlt h)
      have hgood := fun h1 h2 => Lib.hid (hn.out.next hlt h1 h2)
      obtain ⟨b, off, rfl, hc⟩ := (H5.out.below hbw.out) k hlt
      have HQ1 := Lib.hid (name_impl ss[k] wr (by omega))
      have HQ2 : Hid (∀ W, Below wr.heap.size wr W → Calls Try.prog 119 #[.slice (some ⟨b, off, none⟩) k c5, .string ss[k]] W fun e w' => e = .returned (.bool (hasS (ss.take k) ss[k])) ∧ W = w') := fun W hb => hasT_impl _ ss k c5 ss[k] W (by omega) hk ((H5.out.below hbw.out).below hb)
      generalize nameB ss[k] = b1 at HQ1 hbad hgood
      generalize hasS (ss.take k) ss[k] = b2 at HQ2 hbad hgood
      generalize ss[k] = x at HQ1 HQ2 hc hsz
      cases b1 with
      | false =>
        have hrr := hbad (by simp)
        clear hbad hgood
        go_wp2_with fail
        refine HQ1.out.mono ?_
        rintro e w2 ⟨rfl, hb2⟩
        have HB2 := Lib.hid (HBW.out.trans (hb2.mono HBW.out.size))
        clear hb2
        go_wp2
        go_ret
        exact ⟨ret_bool (by rw [hr.out, hrr.out]), HB2.out⟩
      | true =>
        cases b2 with
        | true =>
          have hrr := hbad (by simp)
          clear hbad hgood
          go_wp2_with fail
          refine HQ1.out.mono ?_
          rintro e w2 ⟨rfl, hb2⟩
          have HB2 := Lib.hid (HBW.out.trans (hb2.mono HBW.out.size))
          have bx := ((HX0.out.below hbw.out).below hb2 5 _ rfl).1
          have HQ3 := Lib.hid (HQ2.out _ hb2)
          clear hb2
          go_wp2_with fail
          refine HQ3.out.mono ?_
          rintro e w3 ⟨rfl, rfl⟩
          go_wp2
          go_ret
          exact ⟨ret_bool (by rw [hr.out, hrr.out]), HB2.out⟩
        | false =>
          have hrr := hgood rfl rfl
          clear hbad hgood
          go_wp2_with fail
          refine HQ1.out.mono ?_
          rintro e w2 ⟨rfl, hb2⟩
          have HB2 := Lib.hid (hbw.out.trans (hb2.mono hbw.out.size))
          have bx := ((HX0.out.below hbw.out).below hb2 5 _ rfl).1
          have HQ3 := Lib.hid (HQ2.out _ hb2)
          clear hb2
          go_wp2_with fail
          refine HQ3.out.mono ?_
          rintro e w3 ⟨rfl, rfl⟩
          go_wp2
          go_roundw
          case rel => exact ⟨k + 1, by omega, by go_num, HB2, hrr⟩
          case measure => simp [intOf]; omega
    · have k1 : ¬ (k : Int) < (ss.length : Int) := by omega
      obtain rfl : k = ss.length := by omega
      have hrr := Lib.hid (namesB_end hn.out)
      go_wp2
      go_ret
      exact ⟨ret_bool (by rw [hr.out, hrr.out]; exact (decide_eq_true hlen.out).symm), HBW.out⟩
theorem limitAt_le (rs : List RuleV) (k : Int) : limitAt rs k ≤ 4294967295 := by
  unfold limitAt
  split
  · dsimp only
    split
    · have := (pow256_bounds (rs[k.toNat]'(by omega)).size).2
      omega
    · omega
  · omega
theorem tagsOk_yes {lim lo : Int} {ts : List Int} {j : Nat} (hj : j < ts.length) (h : lo ≤ ts[j] ∧ ts[j] ≤ lim) : tagsOk lim lo (ts.drop j) = tagsOk lim (ts[j] + 1) (ts.drop (j + 1)) := by
  rw [List.drop_eq_getElem_cons hj]
  simp only [tagsOk, decide_eq_true h, Bool.true_and]
theorem tagsOk_no {lim lo : Int} {ts : List Int} {j : Nat} (hj : j < ts.length) (h : ¬ (lo ≤ ts[j] ∧ ts[j] ≤ lim)) : tagsOk lim lo (ts.drop j) = false := by
  rw [List.drop_eq_getElem_cons hj]
  simp only [tagsOk, decide_eq_false h, Bool.false_and]
set_option maxRecDepth 100000 in
set_option maxHeartbeats 1000000 in
theorem choice_impl (a : Option Addr) (rs : List RuleV) (cap : Nat) (r : RuleV) (cs : List Value) (w : World) (hl : rs.length ≤ 1048576) (hs : Short r) (hrd : RdR a rs w) (h : IsRule r cs w) :
    Calls Try.prog 115 #[.agg #[.slice a rs.length cap], .agg cs.toArray] w fun e w' => e = .returned (.bool (tagsB rs r)) ∧ Below w.heap.size w w' := by
  obtain ⟨a4, c4, a5, c5, a6, c6, a7, c7, rfl, h4, h5, h6, h7⟩ := h
  obtain ⟨s4, s5, s6, s7⟩ := hs
  obtain ⟨w0, hw0⟩ : ∃ w0, w0 = (w.alloc (.cells #[.slice a rs.length cap] 38)).alloc (.cells #[.string r.name, .int .i64 r.kind, .int .i64 r.size, .bool r.little, .slice a4 r.bytes.length c4, .slice a5 r.names.length c5, .slice a6 r.tags.length c6, .slice a7 r.kids.length c7] 76) := ⟨_, rfl⟩
  have hB0 : Below w.heap.size w w0 := by subst hw0; exact ((Below.refl _ _).alloc (Nat.le_refl _) _).alloc (by simp) _
  have hX0 : CellsAt w.heap.size [.slice a rs.length cap] w0 := by subst hw0; exact (CellsAt.new w _ _).below ((Below.refl _ _).alloc (Nat.le_refl _) _)
  have hY0 : CellsAt (w.heap.size + 1) [.string r.name, .int .i64 r.kind, .int .i64 r.size, .bool r.little, .slice a4 r.bytes.length c4, .slice a5 r.names.length c5, .slice a6 r.tags.length c6, .slice a7 r.kids.length c7] w0 := by
    subst hw0
    have h1 := CellsAt.new (w.alloc (.cells #[.slice a rs.length cap] 38)) [.string r.name, .int .i64 r.kind, .int .i64 r.size, .bool r.little, .slice a4 r.bytes.length c4, .slice a5 r.names.length c5, .slice a6 r.tags.length c6, .slice a7 r.kids.length c7] 76
    simpa using h1
  have HR := Lib.hid (hrd.below hB0)
  have H6 := Lib.hid (h6.below hB0)
  have H7 := Lib.hid (h7.below hB0)
  have HB0 := Lib.hid hB0
  have HX0 := Lib.hid hX0
  have HY0 := Lib.hid hY0
  have hW := Lib.hid hw0
  clear h4 h5 h6 h7 hB0 hX0 hY0 hw0 hrd s4 s5
  by_cases g1 : 1 ≤ (r.tags.length : Int) ∧ (r.tags.length : Int) ≤ 8
  case neg =>
    have hr : Hid (tagsB rs r = false) := by
      show _ = _
      unfold tagsB
      rw [decide_eq_false (by omega), Bool.false_and]
    have hd := decide_eq_false g1
    go_enter Try.func115, Try.ntmps115
    go_wp2_with fail
    refine (inI_any _ _ _ false _ hd).mono ?_
    rintro e w1 ⟨rfl, rfl⟩
    go_wp2
    rw [← hW.out]
    go_ret
    exact ⟨ret_bool hr.out.symm, HB0.out⟩
  have hd := decide_eq_true g1
  by_cases g2 : r.kids.length = r.tags.length + 1
  case neg =>
    have hr : Hid (tagsB rs r = false) := by
      show _ = _
      unfold tagsB
      rw [decide_eq_false (by omega), Bool.false_and]
    have e1 : ((r.kids.length : Int) != (r.tags.length : Int) + 1) = true := by simp; omega
    go_enter Try.func115, Try.ntmps115
    go_wp2_with fail
    refine (inI_any _ _ _ true _ hd).mono ?_
    rintro e w1 ⟨rfl, rfl⟩
    go_wp2
    rw [← hW.out]
    go_ret
    exact ⟨ret_bool hr.out.symm, HB0.out⟩
  have hk : 0 < r.kids.length := by omega
  have hr : Hid (tagsB rs r = tagsOk (limitAt rs r.kids[0]) 0 r.tags) := by
    show _ = _
    unfold tagsB
    rw [decide_eq_true (by omega), Bool.true_and, headD_at hk]
  have e1 : ((r.kids.length : Int) != (r.tags.length : Int) + 1) = false := by simp; omega
  obtain ⟨b7, o7, rfl, hc7⟩ := H7.out 0 hk
  have k1 : (0 : Int) < (r.kids.length : Int) := by omega
  have hlim := limitAt_le rs r.kids[0]
  clear g2
  generalize r.kids[0] = kid at hc7 hr hlim
  simp only [Nat.add_zero] at hc7
  go_enter Try.func115, Try.ntmps115
  go_wp2_with fail
  refine (inI_any _ _ _ true _ hd).mono ?_
  rintro e w1 ⟨rfl, rfl⟩
  clear hd
  go_wp2
  clear e1
  rw [← hW.out]
  have bx0 := (HX0.out 0 _ rfl).1
  have by0 := (HY0.out 7 _ rfl).1
  go_still_tail 5, (by kernel_rfl)
  change wpList _ _ _ _ _ w0.drew
  have hbd : Below w.heap.size w w0.drew := ⟨HB0.out.os, HB0.out.tape, HB0.out.output, HB0.out.size, HB0.out.block⟩
  have HBD := Lib.hid hbd
  have HR2 : Hid (RdR a rs w0.drew) := HR.out
  have H62 : Hid (RdI a6 r.tags w0.drew) := H6.out
  have HY2 : Hid (CellsAt _ _ w0.drew) := HY0.out
  clear hbd HR H6 HX0 HY0 HB0 hW hc7 H7 bx0 by0
  generalize w0.drew = w2 at HBD HR2 H62 HY2 ⊢
  go_wp2_with fail
  refine (limit_impl a rs cap kid _ (by omega) HR2.out).mono ?_
  rintro e w3 ⟨rfl, hb3⟩
  have HB3 := Lib.hid (HBD.out.trans (hb3.mono HBD.out.size))
  have H63 := Lib.hid (H62.out.below hb3)
  have by3 := (HY2.out.below hb3 6 _ rfl).1
  clear hb3 HBD H62 HY2 HR2
  generalize limitAt rs kid = lim at hr hlim
  generalize r.tags = ts at *
  go_wp2
  go_loop [6, 33] (fun lo i => ∃ (j : Nat) (l : Int), j ≤ ts.length ∧ i = .int .i64 j ∧ lo = .int .i64 l ∧ l ≤ 4294967296 ∧ -9223372036854775808 ≤ l ∧ Hid (tagsOk lim 0 ts = tagsOk lim l (ts.drop j))) (fun _ i => ts.length - (intOf i).toNat)
  case atStart => exact ⟨0, 0, Nat.zero_le _, rfl, rfl, by omega, by omega, rfl⟩
  case round =>
    obtain ⟨j, l, hj, rfl, rfl, hl1, hl2, hf⟩ := hrel
    have j0 : (0 : Int) ≤ (j : Int) := by omega
    by_cases hlt : j < ts.length
    · have j1 : (j : Int) < (ts.length : Int) := by omega
      obtain ⟨b, off, rfl, hc⟩ := H63.out j hlt
      by_cases hx : l ≤ ts[j] ∧ ts[j] ≤ lim
      · have hrr : Hid (tagsOk lim 0 ts = tagsOk lim (ts[j] + 1) (ts.drop (j + 1))) := hf.out.trans (tagsOk_yes hlt hx)
        have hdd : decide (l ≤ ts[j] ∧ ts[j] ≤ lim) = true := decide_eq_true hx
        generalize ts[j] = x at hc hx hdd hrr
        have x1 : x ≤ 4294967295 := by omega
        have x2 : -9223372036854775808 ≤ x := by omega
        go_wp2_with fail
        refine (inI_any _ _ _ true _ hdd).mono ?_
        rintro e w4 ⟨rfl, rfl⟩
        go_wp2
        go_round
        case rel => exact ⟨j + 1, x + 1, by omega, by go_num, rfl, by omega, by omega, hrr⟩
        case measure => simp [intOf]; omega
      · have hrr : Hid (tagsOk lim 0 ts = false) := hf.out.trans (tagsOk_no hlt hx)
        have hdd : decide (l ≤ ts[j] ∧ ts[j] ≤ lim) = false := decide_eq_false hx
        generalize ts[j] = x at hc hx hdd
        clear hx
        go_wp2_with fail
        refine (inI_any _ _ _ false _ hdd).mono ?_
        rintro e w4 ⟨rfl, rfl⟩
        go_wp2
        go_ret
        exact ⟨ret_bool (by rw [hr.out, hrr.out]), HB3.out⟩
    · have j1 : ¬ (j : Int) < (ts.length : Int) := by omega
      have hrr : Hid (tagsOk lim 0 ts = true) := by
        have := hf.out
        rw [List.drop_of_length_le (by omega)] at this
        exact this
      go_wp2
      go_ret
      exact ⟨ret_bool (by rw [hr.out, hrr.out]), HB3.out⟩
end Go.Proofs.Ytefkhknfjohnaaa
namespace Go.Proofs.Ytefkhknfjohnaaa
open Go Go.RowKit
section
variable (a : Option Addr) (rs : List RuleV) (cap : Nat) (r : RuleV) (cs : List Value) (w : World)
set_option maxRecDepth 100000 in
set_option maxHeartbeats 2000000 in
theorem meets_1 (h : IsRule r cs w) (hk : r.kind = 1) :
    Calls Try.prog 103 #[.agg #[.slice a rs.length cap], .agg cs.toArray] w fun e w' => e = .returned (.bool (meetsB rs r)) ∧ Below w.heap.size w w' := by
  obtain ⟨a4, c4, a5, c5, a6, c6, a7, c7, rfl, -⟩ := h
  obtain ⟨nm, kd, sz, lt, bs, ns, ts, ks⟩ := r
  dsimp only at hk
  subst hk
  have hm : Hid (meetsB rs ⟨nm, 1, sz, lt, bs, ns, ts, ks⟩ = (decide (1 ≤ sz ∧ sz ≤ 4) && (!lt || decide (1 < sz)))) := by
    show _ = _
    simp [meetsB]
  have HB : ∀ o p, Hid (Below w.heap.size w ((w.alloc o).alloc p)) := fun o p => ((Below.refl _ _).alloc (Nat.le_refl _) _).alloc (by simp) _
  by_cases h1 : 1 ≤ sz ∧ sz ≤ 4
  case neg =>
    have hd := decide_eq_false h1
    rw [hd] at hm
    go_enter Try.func103, Try.ntmps103
    go_wp2_with fail
    refine (inI_any _ _ _ false _ hd).mono ?_
    rintro e w1 ⟨rfl, rfl⟩
    go_wp2
    go_ret
    exact ⟨ret_bool (by rw [hm.out]; rfl), (HB _ _).out⟩
  have hd := decide_eq_true h1
  rw [hd] at hm
  cases lt with
  | false =>
    go_enter Try.func103, Try.ntmps103
    go_wp2_with fail
    refine (inI_any _ _ _ true _ hd).mono ?_
    rintro e w1 ⟨rfl, rfl⟩
    go_wp2
    go_ret
    exact ⟨ret_bool (by rw [hm.out]; rfl), (HB _ _).out⟩
  | true =>
    by_cases h2 : 1 < sz
    · have hd2 := decide_eq_true h2
      rw [hd2] at hm
      go_enter Try.func103, Try.ntmps103
      go_wp2_with fail
      refine (inI_any _ _ _ true _ hd).mono ?_
      rintro e w1 ⟨rfl, rfl⟩
      go_wp2
      go_ret
      exact ⟨ret_bool (by rw [hm.out]; rfl), (HB _ _).out⟩
    · have hd2 := decide_eq_false h2
      rw [hd2] at hm
      go_enter Try.func103, Try.ntmps103
      go_wp2_with fail
      refine (inI_any _ _ _ true _ hd).mono ?_
      rintro e w1 ⟨rfl, rfl⟩
      go_wp2
      go_ret
      exact ⟨ret_bool (by rw [hm.out]; rfl), (HB _ _).out⟩
set_option maxRecDepth 100000 in
set_option maxHeartbeats 2000000 in
theorem meets_2 (hs : Short r) (h : IsRule r cs w) (hk : r.kind = 2) :
    Calls Try.prog 103 #[.agg #[.slice a rs.length cap], .agg cs.toArray] w fun e w' => e = .returned (.bool (meetsB rs r)) ∧ Below w.heap.size w w' := by
  obtain ⟨a4, c4, a5, c5, a6, c6, a7, c7, rfl, -⟩ := h
  have s4 := hs.1
  clear hs
  obtain ⟨nm, kd, sz, lt, bs, ns, ts, ks⟩ := r
  dsimp only at hk s4
  subst hk
  have hm : Hid (meetsB rs ⟨nm, 2, sz, lt, bs, ns, ts, ks⟩ = decide (1 ≤ (bs.length : Int) ∧ (bs.length : Int) ≤ 16)) := by
    show _ = _
    simp [meetsB]
  have HB : ∀ o p, Hid (Below w.heap.size w ((w.alloc o).alloc p)) := fun o p => ((Below.refl _ _).alloc (Nat.le_refl _) _).alloc (by simp) _
  go_enter Try.func103, Try.ntmps103
  go_wp2_with fail
  refine (inI_any _ _ _ _ _ hm.out.symm).mono ?_
  rintro e w1 ⟨rfl, rfl⟩
  go_wp2
  go_ret
  exact ⟨rfl, (HB _ _).out⟩
set_option maxRecDepth 100000 in
set_option maxHeartbeats 2000000 in
theorem meets_3 (h : IsRule r cs w) (hk : r.kind = 3) :
    Calls Try.prog 103 #[.agg #[.slice a rs.length cap], .agg cs.toArray] w fun e w' => e = .returned (.bool (meetsB rs r)) ∧ Below w.heap.size w w' := by
  obtain ⟨a4, c4, a5, c5, a6, c6, a7, c7, rfl, -⟩ := h
  obtain ⟨nm, kd, sz, lt, bs, ns, ts, ks⟩ := r
  dsimp only at hk
  subst hk
  have hm : Hid (meetsB rs ⟨nm, 3, sz, lt, bs, ns, ts, ks⟩ = decide (1 ≤ sz ∧ sz ≤ 64)) := by
    show _ = _
    simp [meetsB]
  have HB : ∀ o p, Hid (Below w.heap.size w ((w.alloc o).alloc p)) := fun o p => ((Below.refl _ _).alloc (Nat.le_refl _) _).alloc (by simp) _
  go_enter Try.func103, Try.ntmps103
  go_wp2_with fail
  refine (inI_any _ _ _ _ _ hm.out.symm).mono ?_
  rintro e w1 ⟨rfl, rfl⟩
  go_wp2
  go_ret
  exact ⟨rfl, (HB _ _).out⟩
set_option maxRecDepth 100000 in
set_option maxHeartbeats 2000000 in
theorem meets_4 (hs : Short r) (hrd : RdR a rs w) (h : IsRule r cs w) (hin : ∀ x ∈ r.kids, 0 ≤ x ∧ x < (rs.length : Int)) (hk : r.kind = 4) :
    Calls Try.prog 103 #[.agg #[.slice a rs.length cap], .agg cs.toArray] w fun e w' => e = .returned (.bool (meetsB rs r)) ∧ Below w.heap.size w w' := by
  have hm : Hid (meetsB rs r = (decide (r.kids.length = 1) && kindAtB rs (r.kids.headD 0))) := by
    show _ = _
    simp [meetsB, hk]
  have HB : ∀ o p, Hid (Below w.heap.size w ((w.alloc o).alloc p)) := fun o p => ((Below.refl _ _).alloc (Nat.le_refl _) _).alloc (by simp) _
  have s7 := hs.2.2.2
  by_cases h1 : r.kids.length = 1
  · have HQ : ∀ o p, Hid (Calls Try.prog 113 #[.agg #[.slice a rs.length cap], .agg cs.toArray] ((w.alloc o).alloc p) fun e w' => e = .returned (.bool (kindAtB rs (r.kids.headD 0))) ∧ Below ((w.alloc o).alloc p).heap.size ((w.alloc o).alloc p) w') := fun o p => starts_impl a rs cap r cs _ (hrd.below (HB o p).out) (h.below (HB o p).out) (by omega) (hin _ (by rw [headD_at (by omega)]; exact List.getElem_mem _))
    have e1 : ((r.kids.length : Int) == 1) = true := by simp; omega
    rw [decide_eq_true h1, Bool.true_and] at hm
    clear hs hrd hin h1
    obtain ⟨a4, c4, a5, c5, a6, c6, a7, c7, rfl, -⟩ := h
    generalize kindAtB rs (r.kids.headD 0) = res at *
    rw [hk] at *
    clear hk
    go_enter Try.func103, Try.ntmps103
    go_wp2_with fail
    refine (HQ _ _).out.mono ?_
    rintro e w1 ⟨rfl, hb1⟩
    have HB1 := Lib.hid ((HB _ _).out.trans (hb1.mono (HB _ _).out.size))
    clear hb1
    go_wp2
    go_ret
    exact ⟨ret_bool hm.out.symm, HB1.out⟩
  · have e1 : ((r.kids.length : Int) == 1) = false := by simp; omega
    rw [decide_eq_false h1, Bool.false_and] at hm
    clear hs hrd hin h1
    obtain ⟨a4, c4, a5, c5, a6, c6, a7, c7, rfl, -⟩ := h
    rw [hk] at *
    clear hk
    go_enter Try.func103, Try.ntmps103
    go_wp2
    go_ret
    exact ⟨ret_bool hm.out.symm, (HB _ _).out⟩
set_option maxRecDepth 100000 in
set_option maxHeartbeats 2000000 in
theorem meets_5 (hs : Short r) (hrd : RdR a rs w) (h : IsRule r cs w) (hin : ∀ x ∈ r.kids, 0 ≤ x ∧ x < (rs.length : Int)) (hk : r.kind = 5) :
    Calls Try.prog 103 #[.agg #[.slice a rs.length cap], .agg cs.toArray] w fun e w' => e = .returned (.bool (meetsB rs r)) ∧ Below w.heap.size w w' := by
  have hm : Hid (meetsB rs r = (decide (r.kids.length = 2) && kindAtB rs (r.kids.headD 0))) := by
    show _ = _
    simp [meetsB, hk]
  have HB : ∀ o p, Hid (Below w.heap.size w ((w.alloc o).alloc p)) := fun o p => ((Below.refl _ _).alloc (Nat.le_refl _) _).alloc (by simp) _
  have s7 := hs.2.2.2
  by_cases h1 : r.kids.length = 2
  · have HQ : ∀ o p, Hid (Calls Try.prog 113 #[.agg #[.slice a rs.length cap], .agg cs.toArray] ((w.alloc o).alloc p) fun e w' => e = .returned (.bool (kindAtB rs (r.kids.headD 0))) ∧ Below ((w.alloc o).alloc p).heap.size ((w.alloc o).alloc p) w') := fun o p => starts_impl a rs cap r cs _ (hrd.below (HB o p).out) (h.below (HB o p).out) (by omega) (hin _ (by rw [headD_at (by omega)]; exact List.getElem_mem _))
    have e1 : ((r.kids.length : Int) == 2) = true := by simp; omega
    rw [decide_eq_true h1, Bool.true_and] at hm
    clear hs hrd hin h1
    obtain ⟨a4, c4, a5, c5, a6, c6, a7, c7, rfl, -⟩ := h
    generalize kindAtB rs (r.kids.headD 0) = res at *
    rw [hk] at *
    clear hk
    go_enter Try.func103, Try.ntmps103
    go_wp2_with fail
    refine (HQ _ _).out.mono ?_
    rintro e w1 ⟨rfl, hb1⟩
    have HB1 := Lib.hid ((HB _ _).out.trans (hb1.mono (HB _ _).out.size))
    clear hb1
    go_wp2
    go_ret
    exact ⟨ret_bool hm.out.symm, HB1.out⟩
  · have e1 : ((r.kids.length : Int) == 2) = false := by simp; omega
    rw [decide_eq_false h1, Bool.false_and] at hm
    clear hs hrd hin h1
    obtain ⟨a4, c4, a5, c5, a6, c6, a7, c7, rfl, -⟩ := h
    rw [hk] at *
    clear hk
    go_enter Try.func103, Try.ntmps103
    go_wp2
    go_ret
    exact ⟨ret_bool hm.out.symm, (HB _ _).out⟩
set_option maxRecDepth 100000 in
set_option maxHeartbeats 2000000 in
theorem meets_6 (hs : Short r) (hp : Spelt r) (hcap : Cap5 cs) (h : IsRule r cs w) (hk : r.kind = 6) :
    Calls Try.prog 103 #[.agg #[.slice a rs.length cap], .agg cs.toArray] w fun e w' => e = .returned (.bool (meetsB rs r)) ∧ Below w.heap.size w w' := by
  have hm : Hid (meetsB rs r = seqB r) := by
    show _ = _
    simp [meetsB, hk, seqB]
  have HB : ∀ o p, Hid (Below w.heap.size w ((w.alloc o).alloc p)) := fun o p => ((Below.refl _ _).alloc (Nat.le_refl _) _).alloc (by simp) _
  have HQ : ∀ o p, Hid (Calls Try.prog 114 #[.agg cs.toArray] ((w.alloc o).alloc p) fun e w' => e = .returned (.bool (seqB r)) ∧ Below ((w.alloc o).alloc p).heap.size ((w.alloc o).alloc p) w') := fun o p => seq_impl r cs _ hs hp hcap (h.below (HB o p).out)
  clear hs hp hcap
  obtain ⟨a4, c4, a5, c5, a6, c6, a7, c7, rfl, -⟩ := h
  generalize seqB r = res at *
  rw [hk] at *
  clear hk
  go_enter Try.func103, Try.ntmps103
  go_wp2_with fail
  refine (HQ _ _).out.mono ?_
  rintro e w1 ⟨rfl, hb1⟩
  have HB1 := Lib.hid ((HB _ _).out.trans (hb1.mono (HB _ _).out.size))
  clear hb1
  go_wp2
  go_ret
  exact ⟨ret_bool hm.out.symm, HB1.out⟩
set_option maxRecDepth 100000 in
set_option maxHeartbeats 2000000 in
theorem meets_7 (hl : rs.length ≤ 1048576) (hs : Short r) (hrd : RdR a rs w) (h : IsRule r cs w) (hk : r.kind = 7) :
    Calls Try.prog 103 #[.agg #[.slice a rs.length cap], .agg cs.toArray] w fun e w' => e = .returned (.bool (meetsB rs r)) ∧ Below w.heap.size w w' := by
  have hm : Hid (meetsB rs r = tagsB rs r) := by
    show _ = _
    simp [meetsB, hk]
  have HB : ∀ o p, Hid (Below w.heap.size w ((w.alloc o).alloc p)) := fun o p => ((Below.refl _ _).alloc (Nat.le_refl _) _).alloc (by simp) _
  have HQ : ∀ o p, Hid (Calls Try.prog 115 #[.agg #[.slice a rs.length cap], .agg cs.toArray] ((w.alloc o).alloc p) fun e w' => e = .returned (.bool (tagsB rs r)) ∧ Below ((w.alloc o).alloc p).heap.size ((w.alloc o).alloc p) w') := fun o p => choice_impl a rs cap r cs _ hl hs (hrd.below (HB o p).out) (h.below (HB o p).out)
  clear hs hrd
  obtain ⟨a4, c4, a5, c5, a6, c6, a7, c7, rfl, -⟩ := h
  generalize tagsB rs r = res at *
  rw [hk] at *
  clear hk
  go_enter Try.func103, Try.ntmps103
  go_wp2_with fail
  refine (HQ _ _).out.mono ?_
  rintro e w1 ⟨rfl, hb1⟩
  have HB1 := Lib.hid ((HB _ _).out.trans (hb1.mono (HB _ _).out.size))
  clear hb1
  go_wp2
  go_ret
  exact ⟨ret_bool hm.out.symm, HB1.out⟩
set_option maxRecDepth 100000 in
set_option maxHeartbeats 2000000 in
theorem meets_8 (hs : Short r) (h : IsRule r cs w) (hk : r.kind = 8) :
    Calls Try.prog 103 #[.agg #[.slice a rs.length cap], .agg cs.toArray] w fun e w' => e = .returned (.bool (meetsB rs r)) ∧ Below w.heap.size w w' := by
  have hm : Hid (meetsB rs r = decide (r.kids.length = 1)) := by
    show _ = _
    simp [meetsB, hk]
  have HB : ∀ o p, Hid (Below w.heap.size w ((w.alloc o).alloc p)) := fun o p => ((Below.refl _ _).alloc (Nat.le_refl _) _).alloc (by simp) _
  have s7 := hs.2.2.2
  obtain ⟨a4, c4, a5, c5, a6, c6, a7, c7, rfl, -⟩ := h
  clear hs
  rw [hk] at *
  clear hk
  by_cases h1 : r.kids.length = 1
  · have e1 : ((r.kids.length : Int) == 1) = true := by simp; omega
    rw [decide_eq_true h1] at hm
    clear h1
    go_enter Try.func103, Try.ntmps103
    go_wp2
    go_ret
    exact ⟨ret_bool hm.out.symm, (HB _ _).out⟩
  · have e1 : ((r.kids.length : Int) == 1) = false := by simp; omega
    rw [decide_eq_false h1] at hm
    clear h1
    go_enter Try.func103, Try.ntmps103
    go_wp2
    go_ret
    exact ⟨ret_bool hm.out.symm, (HB _ _).out⟩
set_option maxRecDepth 100000 in
set_option maxHeartbeats 2000000 in
theorem meets_9 (hs : Short r) (h : IsRule r cs w) (hk : r.kind = 9) :
    Calls Try.prog 103 #[.agg #[.slice a rs.length cap], .agg cs.toArray] w fun e w' => e = .returned (.bool (meetsB rs r)) ∧ Below w.heap.size w w' := by
  have hm : Hid (meetsB rs r = decide (r.kids.length = 1)) := by
    show _ = _
    simp [meetsB, hk]
  have HB : ∀ o p, Hid (Below w.heap.size w ((w.alloc o).alloc p)) := fun o p => ((Below.refl _ _).alloc (Nat.le_refl _) _).alloc (by simp) _
  have s7 := hs.2.2.2
  obtain ⟨a4, c4, a5, c5, a6, c6, a7, c7, rfl, -⟩ := h
  clear hs
  rw [hk] at *
  clear hk
  by_cases h1 : r.kids.length = 1
  · have e1 : ((r.kids.length : Int) == 1) = true := by simp; omega
    rw [decide_eq_true h1] at hm
    clear h1
    go_enter Try.func103, Try.ntmps103
    go_wp2
    go_ret
    exact ⟨ret_bool hm.out.symm, (HB _ _).out⟩
  · have e1 : ((r.kids.length : Int) == 1) = false := by simp; omega
    rw [decide_eq_false h1] at hm
    clear h1
    go_enter Try.func103, Try.ntmps103
    go_wp2
    go_ret
    exact ⟨ret_bool hm.out.symm, (HB _ _).out⟩
set_option maxRecDepth 100000 in
set_option maxHeartbeats 2000000 in
theorem meets_10 (hs : Short r) (h : IsRule r cs w) (hk : r.kind = 10) :
    Calls Try.prog 103 #[.agg #[.slice a rs.length cap], .agg cs.toArray] w fun e w' => e = .returned (.bool (meetsB rs r)) ∧ Below w.heap.size w w' := by
  obtain ⟨a4, c4, a5, c5, a6, c6, a7, c7, rfl, h4, -⟩ := h
  have s4 := hs.1
  clear hs
  obtain ⟨nm, kd, sz, lt, bs, ns, ts, ks⟩ := r
  dsimp only at hk s4 h4
  subst hk
  have hm : Hid (meetsB rs ⟨nm, 10, sz, lt, bs, ns, ts, ks⟩ = (decide (bs.length = 1) && decide (bs.headD 0 ≠ 92))) := by
    show _ = _
    simp [meetsB, termB]
  have HB : ∀ o p, Hid (Below w.heap.size w ((w.alloc o).alloc p)) := fun o p => ((Below.refl _ _).alloc (Nat.le_refl _) _).alloc (by simp) _
  by_cases h1 : bs.length = 1
  · have e1 : ((bs.length : Int) == 1) = true := by simp; omega
    match bs, h1 with
    | [c], _ =>
      have H4 := h4.below (HB (.cells #[.slice a rs.length cap] 38) (.cells #[.string nm, .int .i64 10, .int .i64 sz, .bool lt, .slice a4 [c].length c4, .slice a5 ns.length c5, .slice a6 ts.length c6, .slice a7 ks.length c7] 76)).out
      obtain ⟨b, off, rfl, hc⟩ := H4 0 (by simp)
      simp only [Nat.add_zero, List.getElem_cons_zero, List.length_cons, List.length_nil, Nat.zero_add] at hc hm e1 ⊢
      clear H4 h4
      by_cases h2 : c = 92
      · subst h2
        have e2 : (((92 : UInt8).toNat : Int) != 92) = false := by decide
        go_enter Try.func103, Try.ntmps103
        go_wp2
        go_ret
        exact ⟨ret_bool (by rw [hm.out]; rfl), (HB _ _).out⟩
      · have e2 : ((c.toNat : Int) != 92) = true := by
          have : c.toNat ≠ 92 := fun e => h2 (UInt8.toNat_inj.1 (by rw [e]; rfl))
          simp; omega
        have hd : decide (([c] : List UInt8).headD 0 ≠ 92) = true := decide_eq_true h2
        rw [hd] at hm
        clear h2 hd
        go_enter Try.func103, Try.ntmps103
        go_wp2
        go_ret
        exact ⟨ret_bool (by rw [hm.out]; rfl), (HB _ _).out⟩
  · have e1 : ((bs.length : Int) == 1) = false := by simp; omega
    have hd := decide_eq_false h1
    rw [hd] at hm
    go_enter Try.func103, Try.ntmps103
    go_wp2
    go_ret
    exact ⟨ret_bool (by rw [hm.out]; rfl), (HB _ _).out⟩
set_option maxRecDepth 100000 in
set_option maxHeartbeats 2000000 in
theorem meets_0 (h : IsRule r cs w) (k1 : r.kind ≠ 1) (k2 : r.kind ≠ 2) (k3 : r.kind ≠ 3) (k4 : r.kind ≠ 4) (k5 : r.kind ≠ 5) (k6 : r.kind ≠ 6) (k7 : r.kind ≠ 7) (k8 : r.kind ≠ 8) (k9 : r.kind ≠ 9) (k10 : r.kind ≠ 10) :
    Calls Try.prog 103 #[.agg #[.slice a rs.length cap], .agg cs.toArray] w fun e w' => e = .returned (.bool (meetsB rs r)) ∧ Below w.heap.size w w' := by
  obtain ⟨a4, c4, a5, c5, a6, c6, a7, c7, rfl, -⟩ := h
  have hm : Hid (meetsB rs r = false) := by
    show _ = _
    simp [meetsB, k1, k2, k3, k4, k5, k6, k7, k8, k9, k10]
  generalize r.kind = kd at *
  have g1 : (kd == 1) = false := by simpa using k1
  have g2 : (kd == 2) = false := by simpa using k2
  have g3 : (kd == 3) = false := by simpa using k3
  have g4 : (kd == 4) = false := by simpa using k4
  have g5 : (kd == 5) = false := by simpa using k5
  have g6 : (kd == 6) = false := by simpa using k6
  have g7 : (kd == 7) = false := by simpa using k7
  have g8 : (kd == 8) = false := by simpa using k8
  have g9 : (kd == 9) = false := by simpa using k9
  have g10 : (kd == 10) = false := by simpa using k10
  have HB : ∀ o p, Hid (Below w.heap.size w ((w.alloc o).alloc p)) := fun o p => ((Below.refl _ _).alloc (Nat.le_refl _) _).alloc (by simp) _
  go_enter Try.func103, Try.ntmps103
  go_wp2
  go_ret
  exact ⟨ret_bool hm.out.symm, (HB _ _).out⟩
theorem meets_impl (hl : rs.length ≤ 1048576) (hs : Short r) (hp : Spelt r) (hcap : Cap5 cs) (hrd : RdR a rs w) (h : IsRule r cs w) (hin : ∀ x ∈ r.kids, 0 ≤ x ∧ x < (rs.length : Int)) :
    Calls Try.prog 103 #[.agg #[.slice a rs.length cap], .agg cs.toArray] w fun e w' => e = .returned (.bool (meetsB rs r)) ∧ Below w.heap.size w w' := by
  rcases kind_cases r.kind with hk | hk | hk | hk | hk | hk | hk | hk | hk | hk | ⟨k1, k2, k3, k4, k5, k6, k7, k8, k9, k10⟩
  · exact meets_1 a rs cap r cs w h hk
  · exact meets_2 a rs cap r cs w hs h hk
  · exact meets_3 a rs cap r cs w h hk
  · exact meets_4 a rs cap r cs w hs hrd h hin hk
  · exact meets_5 a rs cap r cs w hs hrd h hin hk
  · exact meets_6 a rs cap r cs w hs hp hcap h hk
  · exact meets_7 a rs cap r cs w hl hs hrd h hk
  · exact meets_8 a rs cap r cs w hs h hk
  · exact meets_9 a rs cap r cs w hs h hk
  · exact meets_10 a rs cap r cs w hs h hk
  · exact meets_0 a rs cap r cs w h k1 k2 k3 k4 k5 k6 k7 k8 k9 k10
end
end Go.Proofs.Ytefkhknfjohnaaa
namespace Go.Proofs.Ytefkhknfjohnaaa
open Go Go.RowKit
/-- A rule comes back, in a struct. -/
def RuleBack (r : RuleV) (w : World) (e : Ending) (w' : World) : Prop := ∃ ds : List Value, e = .returned (.agg ds.toArray) ∧ IsRule r ds w' ∧ Below w.heap.size w w'
theorem rdf_none {α : Type} {f : α → Value} (w : World) : RdF f none [] w := fun j hj => by simp at hj
theorem rd_none (w : World) : Rd none [] w := fun j hj => by simp at hj

set_option maxRecDepth 100000 in
set_option maxHeartbeats 2000000 in
theorem only_1 (r : RuleV) (cs : List Value) (w : World) (h : IsRule r cs w) (hk : r.kind = 1) :
    Calls Try.prog 105 #[.agg cs.toArray] w (RuleBack (onlyR r) w) := by
  obtain ⟨a4, c4, a5, c5, a6, c6, a7, c7, rfl, h4, h5, h6, h7⟩ := h
  obtain ⟨nm, kd, sz, lt, bs, ns, ts, ks⟩ := r
  dsimp only at hk h4 h5 h6 h7
  subst hk
  have ho : onlyR ⟨nm, 1, sz, lt, bs, ns, ts, ks⟩ = ⟨nm, 1, sz, lt, [], [], [], []⟩ := by simp [onlyR]
  rw [ho]
  clear ho
  have hB : Below w.heap.size w ((((w.alloc (.cells #[.string nm, .int .i64 1, .int .i64 sz, .bool lt, .slice a4 bs.length c4, .slice a5 ns.length c5, .slice a6 ts.length c6, .slice a7 ks.length c7] 76)).alloc (.cells #[.string nm, .int .i64 1, .int .i64 sz, .bool lt, .slice none 0 0, .slice none 0 0, .slice none 0 0, .slice none 0 0] 76)).alloc (.cells #[.string nm, .int .i64 1, .int .i64 sz, .bool lt, .slice none 0 0, .slice none 0 0, .slice none 0 0, .slice none 0 0] 76)).drew) := below_drewN ((((Below.refl _ _).alloc (Nat.le_refl _) _).alloc (by simp) _).alloc (by simp; omega) _) 1
  clear h4
  clear h5
  clear h6
  clear h7
  have HB := Lib.hid hB
  clear hB
  go_enter Try.func105, Try.ntmps105
  go_wp2
  go_region
  all_goals go_wp2
  (try simp only [Exit.inBlock, Exit.then])
  refine bodyPost_ret (v := .agg #[.string nm, .int .i64 1, .int .i64 sz, .bool lt, .slice none 0 0, .slice none 0 0, .slice none 0 0, .slice none 0 0]) ?_ rfl ?_
  · simp [results, Try.results105, go_sem]
  · exact ⟨[.string nm, .int .i64 1, .int .i64 sz, .bool lt, .slice none 0 0, .slice none 0 0, .slice none 0 0, .slice none 0 0], rfl, ⟨none, 0, none, 0, none, 0, none, 0, rfl, rd_none _, rdf_none _, rdf_none _, rdf_none _⟩, HB.out⟩
set_option maxRecDepth 100000 in
set_option maxHeartbeats 2000000 in
theorem only_2 (r : RuleV) (cs : List Value) (w : World) (h : IsRule r cs w) (hk : r.kind = 2) :
    Calls Try.prog 105 #[.agg cs.toArray] w (RuleBack (onlyR r) w) := by
  obtain ⟨a4, c4, a5, c5, a6, c6, a7, c7, rfl, h4, h5, h6, h7⟩ := h
  obtain ⟨nm, kd, sz, lt, bs, ns, ts, ks⟩ := r
  dsimp only at hk h4 h5 h6 h7
  subst hk
  have ho : onlyR ⟨nm, 2, sz, lt, bs, ns, ts, ks⟩ = ⟨nm, 2, 0, false, bs, [], [], []⟩ := by simp [onlyR]
  rw [ho]
  clear ho
  have hB : Below w.heap.size w ((((w.alloc (.cells #[.string nm, .int .i64 2, .int .i64 sz, .bool lt, .slice a4 bs.length c4, .slice a5 ns.length c5, .slice a6 ts.length c6, .slice a7 ks.length c7] 76)).alloc (.cells #[.string nm, .int .i64 2, .int .i64 0, .bool false, .slice a4 bs.length c4, .slice none 0 0, .slice none 0 0, .slice none 0 0] 76)).alloc (.cells #[.string nm, .int .i64 2, .int .i64 0, .bool false, .slice a4 bs.length c4, .slice none 0 0, .slice none 0 0, .slice none 0 0] 76))) := (((Below.refl _ _).alloc (Nat.le_refl _) _).alloc (by simp) _).alloc (by simp; omega) _
  have H4 := Lib.hid (h4.below hB)
  clear h4
  clear h5
  clear h6
  clear h7
  have HB := Lib.hid hB
  clear hB
  go_enter Try.func105, Try.ntmps105
  go_wp2
  (try simp only [Exit.inBlock, Exit.then])
  refine bodyPost_ret (v := .agg #[.string nm, .int .i64 2, .int .i64 0, .bool false, .slice a4 bs.length c4, .slice none 0 0, .slice none 0 0, .slice none 0 0]) ?_ rfl ?_
  · simp [results, Try.results105, go_sem]
  · exact ⟨[.string nm, .int .i64 2, .int .i64 0, .bool false, .slice a4 bs.length c4, .slice none 0 0, .slice none 0 0, .slice none 0 0], rfl, ⟨a4, c4, none, 0, none, 0, none, 0, rfl, H4.out, rdf_none _, rdf_none _, rdf_none _⟩, HB.out⟩
set_option maxRecDepth 100000 in
set_option maxHeartbeats 2000000 in
theorem only_3 (r : RuleV) (cs : List Value) (w : World) (h : IsRule r cs w) (hk : r.kind = 3) :
    Calls Try.prog 105 #[.agg cs.toArray] w (RuleBack (onlyR r) w) := by
  obtain ⟨a4, c4, a5, c5, a6, c6, a7, c7, rfl, h4, h5, h6, h7⟩ := h
  obtain ⟨nm, kd, sz, lt, bs, ns, ts, ks⟩ := r
  dsimp only at hk h4 h5 h6 h7
  subst hk
  have ho : onlyR ⟨nm, 3, sz, lt, bs, ns, ts, ks⟩ = ⟨nm, 3, sz, false, [], [], [], []⟩ := by simp [onlyR]
  rw [ho]
  clear ho
  have hB : Below w.heap.size w ((((w.alloc (.cells #[.string nm, .int .i64 3, .int .i64 sz, .bool lt, .slice a4 bs.length c4, .slice a5 ns.length c5, .slice a6 ts.length c6, .slice a7 ks.length c7] 76)).alloc (.cells #[.string nm, .int .i64 3, .int .i64 sz, .bool false, .slice none 0 0, .slice none 0 0, .slice none 0 0, .slice none 0 0] 76)).alloc (.cells #[.string nm, .int .i64 3, .int .i64 sz, .bool false, .slice none 0 0, .slice none 0 0, .slice none 0 0, .slice none 0 0] 76))) := (((Below.refl _ _).alloc (Nat.le_refl _) _).alloc (by simp) _).alloc (by simp; omega) _
  clear h4
  clear h5
  clear h6
  clear h7
  have HB := Lib.hid hB
  clear hB
  go_enter Try.func105, Try.ntmps105
  go_wp2
  (try simp only [Exit.inBlock, Exit.then])
  refine bodyPost_ret (v := .agg #[.string nm, .int .i64 3, .int .i64 sz, .bool false, .slice none 0 0, .slice none 0 0, .slice none 0 0, .slice none 0 0]) ?_ rfl ?_
  · simp [results, Try.results105, go_sem]
  · exact ⟨[.string nm, .int .i64 3, .int .i64 sz, .bool false, .slice none 0 0, .slice none 0 0, .slice none 0 0, .slice none 0 0], rfl, ⟨none, 0, none, 0, none, 0, none, 0, rfl, rd_none _, rdf_none _, rdf_none _, rdf_none _⟩, HB.out⟩
set_option maxRecDepth 100000 in
set_option maxHeartbeats 2000000 in
theorem only_4 (r : RuleV) (cs : List Value) (w : World) (h : IsRule r cs w) (hk : r.kind = 4) :
    Calls Try.prog 105 #[.agg cs.toArray] w (RuleBack (onlyR r) w) := by
  obtain ⟨a4, c4, a5, c5, a6, c6, a7, c7, rfl, h4, h5, h6, h7⟩ := h
  obtain ⟨nm, kd, sz, lt, bs, ns, ts, ks⟩ := r
  dsimp only at hk h4 h5 h6 h7
  subst hk
  have ho : onlyR ⟨nm, 4, sz, lt, bs, ns, ts, ks⟩ = ⟨nm, 4, 0, false, [], [], [], ks⟩ := by simp [onlyR]
  rw [ho]
  clear ho
  have hB : Below w.heap.size w ((((w.alloc (.cells #[.string nm, .int .i64 4, .int .i64 sz, .bool lt, .slice a4 bs.length c4, .slice a5 ns.length c5, .slice a6 ts.length c6, .slice a7 ks.length c7] 76)).alloc (.cells #[.string nm, .int .i64 4, .int .i64 0, .bool false, .slice none 0 0, .slice none 0 0, .slice none 0 0, .slice a7 ks.length c7] 76)).alloc (.cells #[.string nm, .int .i64 4, .int .i64 0, .bool false, .slice none 0 0, .slice none 0 0, .slice none 0 0, .slice a7 ks.length c7] 76))) := (((Below.refl _ _).alloc (Nat.le_refl _) _).alloc (by simp) _).alloc (by simp; omega) _
  clear h4
  clear h5
  clear h6
  have H7 := Lib.hid (h7.below hB)
  clear h7
  have HB := Lib.hid hB
  clear hB
  go_enter Try.func105, Try.ntmps105
  go_wp2
  (try simp only [Exit.inBlock, Exit.then])
  refine bodyPost_ret (v := .agg #[.string nm, .int .i64 4, .int .i64 0, .bool false, .slice none 0 0, .slice none 0 0, .slice none 0 0, .slice a7 ks.length c7]) ?_ rfl ?_
  · simp [results, Try.results105, go_sem]
  · exact ⟨[.string nm, .int .i64 4, .int .i64 0, .bool false, .slice none 0 0, .slice none 0 0, .slice none 0 0, .slice a7 ks.length c7], rfl, ⟨none, 0, none, 0, none, 0, a7, c7, rfl, rd_none _, rdf_none _, rdf_none _, H7.out⟩, HB.out⟩
set_option maxRecDepth 100000 in
set_option maxHeartbeats 2000000 in
theorem only_5 (r : RuleV) (cs : List Value) (w : World) (h : IsRule r cs w) (hk : r.kind = 5) :
    Calls Try.prog 105 #[.agg cs.toArray] w (RuleBack (onlyR r) w) := by
  obtain ⟨a4, c4, a5, c5, a6, c6, a7, c7, rfl, h4, h5, h6, h7⟩ := h
  obtain ⟨nm, kd, sz, lt, bs, ns, ts, ks⟩ := r
  dsimp only at hk h4 h5 h6 h7
  subst hk
  have ho : onlyR ⟨nm, 5, sz, lt, bs, ns, ts, ks⟩ = ⟨nm, 5, 0, false, [], [], [], ks⟩ := by simp [onlyR]
  rw [ho]
  clear ho
  have hB : Below w.heap.size w ((((w.alloc (.cells #[.string nm, .int .i64 5, .int .i64 sz, .bool lt, .slice a4 bs.length c4, .slice a5 ns.length c5, .slice a6 ts.length c6, .slice a7 ks.length c7] 76)).alloc (.cells #[.string nm, .int .i64 5, .int .i64 0, .bool false, .slice none 0 0, .slice none 0 0, .slice none 0 0, .slice a7 ks.length c7] 76)).alloc (.cells #[.string nm, .int .i64 5, .int .i64 0, .bool false, .slice none 0 0, .slice none 0 0, .slice none 0 0, .slice a7 ks.length c7] 76))) := (((Below.refl _ _).alloc (Nat.le_refl _) _).alloc (by simp) _).alloc (by simp; omega) _
  clear h4
  clear h5
  clear h6
  have H7 := Lib.hid (h7.below hB)
  clear h7
  have HB := Lib.hid hB
  clear hB
  go_enter Try.func105, Try.ntmps105
  go_wp2
  (try simp only [Exit.inBlock, Exit.then])
  refine bodyPost_ret (v := .agg #[.string nm, .int .i64 5, .int .i64 0, .bool false, .slice none 0 0, .slice none 0 0, .slice none 0 0, .slice a7 ks.length c7]) ?_ rfl ?_
  · simp [results, Try.results105, go_sem]
  · exact ⟨[.string nm, .int .i64 5, .int .i64 0, .bool false, .slice none 0 0, .slice none 0 0, .slice none 0 0, .slice a7 ks.length c7], rfl, ⟨none, 0, none, 0, none, 0, a7, c7, rfl, rd_none _, rdf_none _, rdf_none _, H7.out⟩, HB.out⟩
set_option maxRecDepth 100000 in
set_option maxHeartbeats 2000000 in
theorem only_6 (r : RuleV) (cs : List Value) (w : World) (h : IsRule r cs w) (hk : r.kind = 6) :
    Calls Try.prog 105 #[.agg cs.toArray] w (RuleBack (onlyR r) w) := by
  obtain ⟨a4, c4, a5, c5, a6, c6, a7, c7, rfl, h4, h5, h6, h7⟩ := h
  obtain ⟨nm, kd, sz, lt, bs, ns, ts, ks⟩ := r
  dsimp only at hk h4 h5 h6 h7
  subst hk
  have ho : onlyR ⟨nm, 6, sz, lt, bs, ns, ts, ks⟩ = ⟨nm, 6, 0, false, [], ns, [], ks⟩ := by simp [onlyR]
  rw [ho]
  clear ho
  have hB : Below w.heap.size w ((((w.alloc (.cells #[.string nm, .int .i64 6, .int .i64 sz, .bool lt, .slice a4 bs.length c4, .slice a5 ns.length c5, .slice a6 ts.length c6, .slice a7 ks.length c7] 76)).alloc (.cells #[.string nm, .int .i64 6, .int .i64 0, .bool false, .slice none 0 0, .slice a5 ns.length c5, .slice none 0 0, .slice a7 ks.length c7] 76)).alloc (.cells #[.string nm, .int .i64 6, .int .i64 0, .bool false, .slice none 0 0, .slice a5 ns.length c5, .slice none 0 0, .slice a7 ks.length c7] 76)).drew) := below_drewN ((((Below.refl _ _).alloc (Nat.le_refl _) _).alloc (by simp) _).alloc (by simp; omega) _) 1
  clear h4
  have H5 := Lib.hid (h5.below hB)
  clear h5
  clear h6
  have H7 := Lib.hid (h7.below hB)
  clear h7
  have HB := Lib.hid hB
  clear hB
  go_enter Try.func105, Try.ntmps105
  go_wp2
  go_region
  all_goals go_wp2
  (try simp only [Exit.inBlock, Exit.then])
  refine bodyPost_ret (v := .agg #[.string nm, .int .i64 6, .int .i64 0, .bool false, .slice none 0 0, .slice a5 ns.length c5, .slice none 0 0, .slice a7 ks.length c7]) ?_ rfl ?_
  · simp [results, Try.results105, go_sem]
  · exact ⟨[.string nm, .int .i64 6, .int .i64 0, .bool false, .slice none 0 0, .slice a5 ns.length c5, .slice none 0 0, .slice a7 ks.length c7], rfl, ⟨none, 0, a5, c5, none, 0, a7, c7, rfl, rd_none _, H5.out, rdf_none _, H7.out⟩, HB.out⟩
set_option maxRecDepth 100000 in
set_option maxHeartbeats 2000000 in
theorem only_7 (r : RuleV) (cs : List Value) (w : World) (h : IsRule r cs w) (hk : r.kind = 7) :
    Calls Try.prog 105 #[.agg cs.toArray] w (RuleBack (onlyR r) w) := by
  obtain ⟨a4, c4, a5, c5, a6, c6, a7, c7, rfl, h4, h5, h6, h7⟩ := h
  obtain ⟨nm, kd, sz, lt, bs, ns, ts, ks⟩ := r
  dsimp only at hk h4 h5 h6 h7
  subst hk
  have ho : onlyR ⟨nm, 7, sz, lt, bs, ns, ts, ks⟩ = ⟨nm, 7, 0, false, [], [], ts, ks⟩ := by simp [onlyR]
  rw [ho]
  clear ho
  have hB : Below w.heap.size w ((((w.alloc (.cells #[.string nm, .int .i64 7, .int .i64 sz, .bool lt, .slice a4 bs.length c4, .slice a5 ns.length c5, .slice a6 ts.length c6, .slice a7 ks.length c7] 76)).alloc (.cells #[.string nm, .int .i64 7, .int .i64 0, .bool false, .slice none 0 0, .slice none 0 0, .slice a6 ts.length c6, .slice a7 ks.length c7] 76)).alloc (.cells #[.string nm, .int .i64 7, .int .i64 0, .bool false, .slice none 0 0, .slice none 0 0, .slice a6 ts.length c6, .slice a7 ks.length c7] 76)).drew) := below_drewN ((((Below.refl _ _).alloc (Nat.le_refl _) _).alloc (by simp) _).alloc (by simp; omega) _) 1
  clear h4
  clear h5
  have H6 := Lib.hid (h6.below hB)
  clear h6
  have H7 := Lib.hid (h7.below hB)
  clear h7
  have HB := Lib.hid hB
  clear hB
  go_enter Try.func105, Try.ntmps105
  go_wp2
  go_region
  all_goals go_wp2
  (try simp only [Exit.inBlock, Exit.then])
  refine bodyPost_ret (v := .agg #[.string nm, .int .i64 7, .int .i64 0, .bool false, .slice none 0 0, .slice none 0 0, .slice a6 ts.length c6, .slice a7 ks.length c7]) ?_ rfl ?_
  · simp [results, Try.results105, go_sem]
  · exact ⟨[.string nm, .int .i64 7, .int .i64 0, .bool false, .slice none 0 0, .slice none 0 0, .slice a6 ts.length c6, .slice a7 ks.length c7], rfl, ⟨none, 0, none, 0, a6, c6, a7, c7, rfl, rd_none _, rdf_none _, H6.out, H7.out⟩, HB.out⟩
set_option maxRecDepth 100000 in
set_option maxHeartbeats 2000000 in
theorem only_8 (r : RuleV) (cs : List Value) (w : World) (h : IsRule r cs w) (hk : r.kind = 8) :
    Calls Try.prog 105 #[.agg cs.toArray] w (RuleBack (onlyR r) w) := by
  obtain ⟨a4, c4, a5, c5, a6, c6, a7, c7, rfl, h4, h5, h6, h7⟩ := h
  obtain ⟨nm, kd, sz, lt, bs, ns, ts, ks⟩ := r
  dsimp only at hk h4 h5 h6 h7
  subst hk
  have ho : onlyR ⟨nm, 8, sz, lt, bs, ns, ts, ks⟩ = ⟨nm, 8, 0, false, [], [], [], ks⟩ := by simp [onlyR]
  rw [ho]
  clear ho
  have hB : Below w.heap.size w ((((w.alloc (.cells #[.string nm, .int .i64 8, .int .i64 sz, .bool lt, .slice a4 bs.length c4, .slice a5 ns.length c5, .slice a6 ts.length c6, .slice a7 ks.length c7] 76)).alloc (.cells #[.string nm, .int .i64 8, .int .i64 0, .bool false, .slice none 0 0, .slice none 0 0, .slice none 0 0, .slice a7 ks.length c7] 76)).alloc (.cells #[.string nm, .int .i64 8, .int .i64 0, .bool false, .slice none 0 0, .slice none 0 0, .slice none 0 0, .slice a7 ks.length c7] 76))) := (((Below.refl _ _).alloc (Nat.le_refl _) _).alloc (by simp) _).alloc (by simp; omega) _
  clear h4
  clear h5
  clear h6
  have H7 := Lib.hid (h7.below hB)
  clear h7
  have HB := Lib.hid hB
  clear hB
  go_enter Try.func105, Try.ntmps105
  go_wp2
  (try simp only [Exit.inBlock, Exit.then])
  refine bodyPost_ret (v := .agg #[.string nm, .int .i64 8, .int .i64 0, .bool false, .slice none 0 0, .slice none 0 0, .slice none 0 0, .slice a7 ks.length c7]) ?_ rfl ?_
  · simp [results, Try.results105, go_sem]
  · exact ⟨[.string nm, .int .i64 8, .int .i64 0, .bool false, .slice none 0 0, .slice none 0 0, .slice none 0 0, .slice a7 ks.length c7], rfl, ⟨none, 0, none, 0, none, 0, a7, c7, rfl, rd_none _, rdf_none _, rdf_none _, H7.out⟩, HB.out⟩
set_option maxRecDepth 100000 in
set_option maxHeartbeats 2000000 in
theorem only_9 (r : RuleV) (cs : List Value) (w : World) (h : IsRule r cs w) (hk : r.kind = 9) :
    Calls Try.prog 105 #[.agg cs.toArray] w (RuleBack (onlyR r) w) := by
  obtain ⟨a4, c4, a5, c5, a6, c6, a7, c7, rfl, h4, h5, h6, h7⟩ := h
  obtain ⟨nm, kd, sz, lt, bs, ns, ts, ks⟩ := r
  dsimp only at hk h4 h5 h6 h7
  subst hk
  have ho : onlyR ⟨nm, 9, sz, lt, bs, ns, ts, ks⟩ = ⟨nm, 9, 0, false, [], [], [], ks⟩ := by simp [onlyR]
  rw [ho]
  clear ho
  have hB : Below w.heap.size w ((((w.alloc (.cells #[.string nm, .int .i64 9, .int .i64 sz, .bool lt, .slice a4 bs.length c4, .slice a5 ns.length c5, .slice a6 ts.length c6, .slice a7 ks.length c7] 76)).alloc (.cells #[.string nm, .int .i64 9, .int .i64 0, .bool false, .slice none 0 0, .slice none 0 0, .slice none 0 0, .slice a7 ks.length c7] 76)).alloc (.cells #[.string nm, .int .i64 9, .int .i64 0, .bool false, .slice none 0 0, .slice none 0 0, .slice none 0 0, .slice a7 ks.length c7] 76))) := (((Below.refl _ _).alloc (Nat.le_refl _) _).alloc (by simp) _).alloc (by simp; omega) _
  clear h4
  clear h5
  clear h6
  have H7 := Lib.hid (h7.below hB)
  clear h7
  have HB := Lib.hid hB
  clear hB
  go_enter Try.func105, Try.ntmps105
  go_wp2
  (try simp only [Exit.inBlock, Exit.then])
  refine bodyPost_ret (v := .agg #[.string nm, .int .i64 9, .int .i64 0, .bool false, .slice none 0 0, .slice none 0 0, .slice none 0 0, .slice a7 ks.length c7]) ?_ rfl ?_
  · simp [results, Try.results105, go_sem]
  · exact ⟨[.string nm, .int .i64 9, .int .i64 0, .bool false, .slice none 0 0, .slice none 0 0, .slice none 0 0, .slice a7 ks.length c7], rfl, ⟨none, 0, none, 0, none, 0, a7, c7, rfl, rd_none _, rdf_none _, rdf_none _, H7.out⟩, HB.out⟩
set_option maxRecDepth 100000 in
set_option maxHeartbeats 2000000 in
theorem only_10 (r : RuleV) (cs : List Value) (w : World) (h : IsRule r cs w) (hk : r.kind = 10) :
    Calls Try.prog 105 #[.agg cs.toArray] w (RuleBack (onlyR r) w) := by
  obtain ⟨a4, c4, a5, c5, a6, c6, a7, c7, rfl, h4, h5, h6, h7⟩ := h
  obtain ⟨nm, kd, sz, lt, bs, ns, ts, ks⟩ := r
  dsimp only at hk h4 h5 h6 h7
  subst hk
  have ho : onlyR ⟨nm, 10, sz, lt, bs, ns, ts, ks⟩ = ⟨nm, 10, 0, false, bs, [], [], []⟩ := by simp [onlyR]
  rw [ho]
  clear ho
  have hB : Below w.heap.size w ((((w.alloc (.cells #[.string nm, .int .i64 10, .int .i64 sz, .bool lt, .slice a4 bs.length c4, .slice a5 ns.length c5, .slice a6 ts.length c6, .slice a7 ks.length c7] 76)).alloc (.cells #[.string nm, .int .i64 10, .int .i64 0, .bool false, .slice a4 bs.length c4, .slice none 0 0, .slice none 0 0, .slice none 0 0] 76)).alloc (.cells #[.string nm, .int .i64 10, .int .i64 0, .bool false, .slice a4 bs.length c4, .slice none 0 0, .slice none 0 0, .slice none 0 0] 76))) := (((Below.refl _ _).alloc (Nat.le_refl _) _).alloc (by simp) _).alloc (by simp; omega) _
  have H4 := Lib.hid (h4.below hB)
  clear h4
  clear h5
  clear h6
  clear h7
  have HB := Lib.hid hB
  clear hB
  go_enter Try.func105, Try.ntmps105
  go_wp2
  (try simp only [Exit.inBlock, Exit.then])
  refine bodyPost_ret (v := .agg #[.string nm, .int .i64 10, .int .i64 0, .bool false, .slice a4 bs.length c4, .slice none 0 0, .slice none 0 0, .slice none 0 0]) ?_ rfl ?_
  · simp [results, Try.results105, go_sem]
  · exact ⟨[.string nm, .int .i64 10, .int .i64 0, .bool false, .slice a4 bs.length c4, .slice none 0 0, .slice none 0 0, .slice none 0 0], rfl, ⟨a4, c4, none, 0, none, 0, none, 0, rfl, H4.out, rdf_none _, rdf_none _, rdf_none _⟩, HB.out⟩
set_option maxRecDepth 100000 in
set_option maxHeartbeats 2000000 in
theorem only_0 (r : RuleV) (cs : List Value) (w : World) (h : IsRule r cs w) (k1 : r.kind ≠ 1) (k2 : r.kind ≠ 2) (k3 : r.kind ≠ 3) (k4 : r.kind ≠ 4) (k5 : r.kind ≠ 5) (k6 : r.kind ≠ 6) (k7 : r.kind ≠ 7) (k8 : r.kind ≠ 8) (k9 : r.kind ≠ 9) (k10 : r.kind ≠ 10) :
    Calls Try.prog 105 #[.agg cs.toArray] w (RuleBack (onlyR r) w) := by
  obtain ⟨a4, c4, a5, c5, a6, c6, a7, c7, rfl, h4, h5, h6, h7⟩ := h
  obtain ⟨nm, kd, sz, lt, bs, ns, ts, ks⟩ := r
  dsimp only at k1 k2 k3 k4 k5 k6 k7 k8 k9 k10 h4 h5 h6 h7
  have g1 : (kd == 1) = false := by simpa using k1
  have g2 : (kd == 2) = false := by simpa using k2
  have g3 : (kd == 3) = false := by simpa using k3
  have g4 : (kd == 4) = false := by simpa using k4
  have g5 : (kd == 5) = false := by simpa using k5
  have g6 : (kd == 6) = false := by simpa using k6
  have g7 : (kd == 7) = false := by simpa using k7
  have g8 : (kd == 8) = false := by simpa using k8
  have g9 : (kd == 9) = false := by simpa using k9
  have g10 : (kd == 10) = false := by simpa using k10
  have ho : onlyR ⟨nm, kd, sz, lt, bs, ns, ts, ks⟩ = ⟨nm, kd, 0, false, [], [], [], []⟩ := by simp [onlyR, k1, k2, k3, k4, k5, k6, k7, k8, k9, k10]
  rw [ho]
  clear ho
  have hB : Below w.heap.size w ((((w.alloc (.cells #[.string nm, .int .i64 kd, .int .i64 sz, .bool lt, .slice a4 bs.length c4, .slice a5 ns.length c5, .slice a6 ts.length c6, .slice a7 ks.length c7] 76)).alloc (.cells #[.string nm, .int .i64 kd, .int .i64 0, .bool false, .slice none 0 0, .slice none 0 0, .slice none 0 0, .slice none 0 0] 76)).alloc (.cells #[.string nm, .int .i64 kd, .int .i64 0, .bool false, .slice none 0 0, .slice none 0 0, .slice none 0 0, .slice none 0 0] 76))) := (((Below.refl _ _).alloc (Nat.le_refl _) _).alloc (by simp) _).alloc (by simp; omega) _
  clear h4
  clear h5
  clear h6
  clear h7
  have HB := Lib.hid hB
  clear hB
  go_enter Try.func105, Try.ntmps105
  go_wp2
  (try simp only [Exit.inBlock, Exit.then])
  refine bodyPost_ret (v := .agg #[.string nm, .int .i64 kd, .int .i64 0, .bool false, .slice none 0 0, .slice none 0 0, .slice none 0 0, .slice none 0 0]) ?_ rfl ?_
  · simp [results, Try.results105, go_sem]
  · exact ⟨[.string nm, .int .i64 kd, .int .i64 0, .bool false, .slice none 0 0, .slice none 0 0, .slice none 0 0, .slice none 0 0], rfl, ⟨none, 0, none, 0, none, 0, none, 0, rfl, rd_none _, rdf_none _, rdf_none _, rdf_none _⟩, HB.out⟩
theorem only_impl (r : RuleV) (cs : List Value) (w : World) (h : IsRule r cs w) :
    Calls Try.prog 105 #[.agg cs.toArray] w (RuleBack (onlyR r) w) := by
  rcases kind_cases r.kind with hk | hk | hk | hk | hk | hk | hk | hk | hk | hk | ⟨k1, k2, k3, k4, k5, k6, k7, k8, k9, k10⟩
  · exact only_1 r cs w h hk
  · exact only_2 r cs w h hk
  · exact only_3 r cs w h hk
  · exact only_4 r cs w h hk
  · exact only_5 r cs w h hk
  · exact only_6 r cs w h hk
  · exact only_7 r cs w h hk
  · exact only_8 r cs w h hk
  · exact only_9 r cs w h hk
  · exact only_10 r cs w h hk
  · exact only_0 r cs w h k1 k2 k3 k4 k5 k6 k7 k8 k9 k10
end Go.Proofs.Ytefkhknfjohnaaa
namespace Go.Proofs.Ytefkhknfjohnaaa
open Go Go.RowKit
theorem kidsB_in {ks : List Int} {k : Int} {m : Nat} (h : kidsB ks k = true) (hm : k ≤ (m : Int)) : ∀ x ∈ ks, 0 ≤ x ∧ x < (m : Int) := fun x hx => by
  unfold kidsB at h
  have := of_decide_eq_true (List.all_eq_true.1 h x hx)
  omega
/-- The conditions of a kind give no more than the model's other fields: the rule alone. -/
theorem onlyShort (r : RuleV) (h : Short r) : Short (onlyR r) := by
  obtain ⟨h4, h5, h6, h7⟩ := h
  unfold onlyR
  split
  · exact ⟨by simp, by simp, by simp, by simp⟩
  split
  · exact ⟨by simp, by simp, by simp, by simp⟩
  split
  · exact ⟨h4, by simp, by simp, by simp⟩
  split
  · exact ⟨by simp, by simp, by simp, h7⟩
  split
  · exact ⟨by simp, h5, by simp, h7⟩
  split
  · exact ⟨by simp, by simp, h6, h7⟩
  · exact ⟨by simp, by simp, by simp, by simp⟩
set_option maxRecDepth 100000 in
set_option maxHeartbeats 4000000 in
theorem validr_impl (a : Option Addr) (rs : List RuleV) (cap : Nat) (k : Int) (w : World) (hl : rs.length ≤ 1048576) (hs : ∀ r ∈ rs, Short r) (hp : ∀ r ∈ rs, Spelt r) (h : RdC a rs w) :
    Calls Try.prog 90 #[.agg #[.slice a rs.length cap], .int .i64 k] w fun e w' => e = .returned (.bool (validAt (kindI rs) rs k)) ∧ Below w.heap.size w w' := by
  obtain ⟨w0, hw0⟩ : ∃ w0, w0 = w.alloc (.cells #[.slice a rs.length cap] 38) := ⟨_, rfl⟩
  have hB : Below w.heap.size w w0 := by subst hw0; exact (Below.refl _ _).alloc (Nat.le_refl _) _
  have hX : CellsAt w.heap.size [.slice a rs.length cap] w0 := by subst hw0; exact CellsAt.new w _ _
  have HC := Lib.hid (h.below hB)
  have HB := Lib.hid hB
  have HX := Lib.hid hX
  have HS := Lib.hid hs
  have HP := Lib.hid hp
  clear h hB hX hs hp
  by_cases hk : 0 ≤ k ∧ k < rs.length
  case neg =>
    have hr := Lib.hid (validAt_out (f := kindI rs) hk)
    go_enter Try.func90, Try.ntmps90
    go_wp2_with fail
    rw [← hw0]
    clear hw0
    refine (hasr_impl a rs.length cap k _ (by omega) false (by simpa using hk)).mono ?_
    rintro e w1 ⟨rfl, hb1⟩
    have HB1 := Lib.hid (HB.out.trans (hb1.mono HB.out.size))
    go_wp2
    go_ret
    exact ⟨ret_bool hr.out.symm, HB1.out⟩
  go_enter Try.func90, Try.ntmps90
  go_wp2_with fail
  rw [← hw0]
  clear hw0
  refine (hasr_impl a rs.length cap k _ (by omega) true (by simpa using hk)).mono ?_
  rintro e w1 ⟨rfl, hb1⟩
  have hx1 := (HX.out.below hb1 0 _ rfl).1
  have HX1 := Lib.hid (HX.out.below hb1)
  have HB1 := Lib.hid (HB.out.trans (hb1.mono HB.out.size))
  have HC1 := Lib.hid (HC.out.below hb1)
  clear hb1 HX HB HC
  obtain ⟨n, rfl⟩ : ∃ n : Nat, k = (n : Int) := ⟨k.toNat, by omega⟩
  have hlt : n < rs.length := by omega
  have k0 : (0 : Int) ≤ (n : Int) := by omega
  have k1 : (n : Int) < (rs.length : Int) := by omega
  have hr := Lib.hid (validAt_in (f := kindI rs) hlt)
  have hsr := Lib.hid (HS.out _ (List.getElem_mem hlt))
  have hpr := Lib.hid (HP.out _ (List.getElem_mem hlt))
  obtain ⟨b, off, a4, c4, a5, c5, a6, c6, a7, c7, rfl, ⟨d0, d1, d2, d3, d4, d5, d6, d7⟩, ⟨h4, h5, h6, h7⟩, hc5⟩ := HC1.out.at n hlt
  have HQ : Hid (IsRule rs[n] [.string rs[n].name, .int .i64 rs[n].kind, .int .i64 rs[n].size, .bool rs[n].little, .slice a4 rs[n].bytes.length c4, .slice a5 rs[n].names.length c5, .slice a6 rs[n].tags.length c6, .slice a7 rs[n].kids.length c7] w1) := ⟨a4, c4, a5, c5, a6, c6, a7, c7, rfl, h4, h5, h6, h7⟩
  have HK := Lib.hid h7
  have HP5 : Hid (Cap5 [.string rs[n].name, .int .i64 rs[n].kind, .int .i64 rs[n].size, .bool rs[n].little, .slice a4 rs[n].bytes.length c4, .slice a5 rs[n].names.length c5, .slice a6 rs[n].tags.length c6, .slice a7 rs[n].kids.length c7]) := fun a n c hc => by
    simp at hc
    obtain ⟨_, rfl, rfl⟩ := hc
    exact hc5
  clear h4 h5 h6 h7 hc5 hk HS HP
  generalize rs[n] = r at *
  obtain ⟨w2, hw2⟩ : ∃ w2, w2 = w1.alloc (.cells #[.string r.name, .int .i64 r.kind, .int .i64 r.size, .bool r.little, .slice a4 r.bytes.length c4, .slice a5 r.names.length c5, .slice a6 r.tags.length c6, .slice a7 r.kids.length c7] 76) := ⟨_, rfl⟩
  have hb2 : Below w1.heap.size w1 w2 := by subst hw2; exact (Below.refl _ _).alloc (Nat.le_refl _) _
  have hY2 : CellsAt w1.heap.size [.string r.name, .int .i64 r.kind, .int .i64 r.size, .bool r.little, .slice a4 r.bytes.length c4, .slice a5 r.names.length c5, .slice a6 r.tags.length c6, .slice a7 r.kids.length c7] w2 := by subst hw2; exact CellsAt.new w1 _ _
  have HX := Lib.hid (HX1.out.below hb2)
  have HY := Lib.hid hY2
  have HB := Lib.hid (HB1.out.trans (hb2.mono HB1.out.size))
  have HC := Lib.hid (HC1.out.below hb2)
  replace HQ := Lib.hid (HQ.out.below hb2)
  replace HK := Lib.hid (HK.out.below hb2)
  clear hb2 hY2 HX1 HB1 HC1
  have hsz := hpr.out.1
  go_wp2_with fail
  rw [← hw2]
  clear hw2 d0 d1 d2 d3 d4 d5 d6 d7 hx1
  refine (name_impl r.name _ (by omega)).mono ?_
  rintro e w3 ⟨rfl, hb⟩
  replace HX := Lib.hid (HX.out.below hb)
  replace HY := Lib.hid (HY.out.below hb)
  replace HB := Lib.hid (HB.out.trans (hb.mono HB.out.size))
  replace HC := Lib.hid (HC.out.below hb)
  replace HQ := Lib.hid (HQ.out.below hb)
  replace HK := Lib.hid (HK.out.below hb)
  clear hb
  cases hnm : nameB r.name with
  | false =>
    go_wp2
    go_ret
    exact ⟨ret_bool (by rw [hr.out, hnm]; simp), HB.out⟩
  | true =>
  have bx := (HX.out 0 _ rfl).1
  have y0 := (HY.out 0 _ rfl).1
  have hl2 : rs.length ≤ 1073741824 := by omega
  go_wp2_with fail
  refine (find_impl _ rs cap r.name _ hl2 HC.out.rd).mono ?_
  rintro e w4 ⟨rfl, hb⟩
  replace HX := Lib.hid (HX.out.below hb)
  replace HY := Lib.hid (HY.out.below hb)
  replace HB := Lib.hid (HB.out.trans (hb.mono HB.out.size))
  replace HC := Lib.hid (HC.out.below hb)
  replace HQ := Lib.hid (HQ.out.below hb)
  replace HK := Lib.hid (HK.out.below hb)
  clear hb bx y0
  by_cases hfd : findFrom r.name rs 0 = (n : Int)
  case neg =>
    have g1 : (findFrom r.name rs 0 != (n : Int)) = true := by simpa using hfd
    have hd := decide_eq_false hfd
    generalize findFrom r.name rs 0 = fd at *
    go_wp2
    go_ret
    exact ⟨ret_bool (by rw [hr.out, hd]; rfl), HB.out⟩
  have g1 : (findFrom r.name rs 0 != (n : Int)) = false := by simpa using hfd
  have hd := decide_eq_true hfd
  rw [hd, hnm, Bool.true_and, Bool.true_and] at hr
  clear hd hfd
  generalize findFrom r.name rs 0 = fd at *
  go_wp2
  clear g1
  have s7 := hsr.out.2.2.2
  have HD : Hid (∀ W : World, Below w4.heap.size w4 W → Calls Try.prog 102 #[.slice a7 r.kids.length c7, .int .i64 (n : Int)] W fun e w' => e = .returned (.bool (kidsB r.kids (n : Int))) ∧ W = w') := fun W hb => kids_impl a7 r.kids c7 (n : Int) W s7 k0 (by omega) (HK.out.below hb)
  replace HX : Hid (CellsAt w.heap.size [.slice (some ⟨b, off, none⟩) rs.length cap] w4.drew) := HX.out
  replace HY : Hid (CellsAt w1.heap.size [.string r.name, .int .i64 r.kind, .int .i64 r.size, .bool r.little, .slice a4 r.bytes.length c4, .slice a5 r.names.length c5, .slice a6 r.tags.length c6, .slice a7 r.kids.length c7] w4.drew) := HY.out
  replace HB : Hid (Below w.heap.size w w4.drew) := below_drewN HB.out 1
  replace HC : Hid (RdC (some ⟨b, off, none⟩) rs w4.drew) := HC.out
  replace HQ : Hid (IsRule r [.string r.name, .int .i64 r.kind, .int .i64 r.size, .bool r.little, .slice a4 r.bytes.length c4, .slice a5 r.names.length c5, .slice a6 r.tags.length c6, .slice a7 r.kids.length c7] w4.drew) := HQ.out
  have hd4 : Below w4.heap.size w4 w4.drew := below_drewN (Below.refl _ _) 1
  have HD4 := Lib.hid (HD.out _ hd4)
  clear hd4 HD HK
  cases hkb : kidsB r.kids (n : Int) with
  | false =>
    rw [hkb] at HD4 hr
    have bx : w4.cell? ⟨w.heap.size, 0, none⟩ = some (.slice (some ⟨b, off, none⟩) rs.length cap) := (HX.out 0 _ rfl).1
    have y0 : w4.cell? ⟨w1.heap.size, 0, none⟩ = some (.string r.name) := (HY.out 0 _ rfl).1
    have y1 : w4.cell? ⟨w1.heap.size, 1, none⟩ = some (.int .i64 r.kind) := (HY.out 1 _ rfl).1
    have y2 : w4.cell? ⟨w1.heap.size, 2, none⟩ = some (.int .i64 r.size) := (HY.out 2 _ rfl).1
    have y3 : w4.cell? ⟨w1.heap.size, 3, none⟩ = some (.bool r.little) := (HY.out 3 _ rfl).1
    have y4 : w4.cell? ⟨w1.heap.size, 4, none⟩ = some (.slice a4 r.bytes.length c4) := (HY.out 4 _ rfl).1
    have y5 : w4.cell? ⟨w1.heap.size, 5, none⟩ = some (.slice a5 r.names.length c5) := (HY.out 5 _ rfl).1
    have y6 : w4.cell? ⟨w1.heap.size, 6, none⟩ = some (.slice a6 r.tags.length c6) := (HY.out 6 _ rfl).1
    have y7 : w4.cell? ⟨w1.heap.size, 7, none⟩ = some (.slice a7 r.kids.length c7) := (HY.out 7 _ rfl).1
    go_region_with (first | (go_at_call 102; refine HD4.out.mono ?_; rintro e v ⟨rfl, rfl⟩))
    all_goals (go_wp2; go_ret; exact ⟨ret_bool (by rw [hr.out]; rfl), HB.out⟩)
  | true =>
  rw [hkb, Bool.true_and] at hr
  rw [hkb] at HD4
  have HM := Lib.hid (meets_impl _ rs cap r _ w4.drew hl hsr.out hpr.out HP5.out HC.out.rd HQ.out (kidsB_in hkb (by omega)))
  have hos := Lib.hid (onlyShort r hsr.out)
  replace hr : Hid (validAt (kindI rs) rs (n : Int) = (meetsB rs r && sameR r (onlyR r))) := hr.out
  cases hmb : meetsB rs r with
  | false =>
    rw [hmb] at HM hr
    have bx : w4.cell? ⟨w.heap.size, 0, none⟩ = some (.slice (some ⟨b, off, none⟩) rs.length cap) := (HX.out 0 _ rfl).1
    have y0 : w4.cell? ⟨w1.heap.size, 0, none⟩ = some (.string r.name) := (HY.out 0 _ rfl).1
    have y1 : w4.cell? ⟨w1.heap.size, 1, none⟩ = some (.int .i64 r.kind) := (HY.out 1 _ rfl).1
    have y2 : w4.cell? ⟨w1.heap.size, 2, none⟩ = some (.int .i64 r.size) := (HY.out 2 _ rfl).1
    have y3 : w4.cell? ⟨w1.heap.size, 3, none⟩ = some (.bool r.little) := (HY.out 3 _ rfl).1
    have y4 : w4.cell? ⟨w1.heap.size, 4, none⟩ = some (.slice a4 r.bytes.length c4) := (HY.out 4 _ rfl).1
    have y5 : w4.cell? ⟨w1.heap.size, 5, none⟩ = some (.slice a5 r.names.length c5) := (HY.out 5 _ rfl).1
    have y6 : w4.cell? ⟨w1.heap.size, 6, none⟩ = some (.slice a6 r.tags.length c6) := (HY.out 6 _ rfl).1
    have y7 : w4.cell? ⟨w1.heap.size, 7, none⟩ = some (.slice a7 r.kids.length c7) := (HY.out 7 _ rfl).1
    go_region_with (first | (go_at_call 102; refine HD4.out.mono ?_; rintro e v ⟨rfl, rfl⟩) | (go_at_call 103; refine HM.out.mono ?_; rintro e v ⟨rfl, hb⟩; replace HB := Lib.hid (HB.out.trans (hb.mono HB.out.size)); clear hb))
    all_goals (go_wp2; go_ret; exact ⟨ret_bool (by rw [hr.out]; rfl), HB.out⟩)
  | true =>
    rw [hmb] at HM
    rw [hmb, Bool.true_and] at hr
    go_region_held3 (fun W => W.cell? ⟨w.heap.size, 0, none⟩ = some (.slice (some ⟨b, off, none⟩) rs.length cap) ∧ W.cell? ⟨w1.heap.size, 0, none⟩ = some (.string r.name) ∧ W.cell? ⟨w1.heap.size, 1, none⟩ = some (.int .i64 r.kind) ∧ W.cell? ⟨w1.heap.size, 2, none⟩ = some (.int .i64 r.size) ∧ W.cell? ⟨w1.heap.size, 3, none⟩ = some (.bool r.little) ∧ W.cell? ⟨w1.heap.size, 4, none⟩ = some (.slice a4 r.bytes.length c4) ∧ W.cell? ⟨w1.heap.size, 5, none⟩ = some (.slice a5 r.names.length c5) ∧ W.cell? ⟨w1.heap.size, 6, none⟩ = some (.slice a6 r.tags.length c6) ∧ W.cell? ⟨w1.heap.size, 7, none⟩ = some (.slice a7 r.kids.length c7)) (exact ⟨(HX.out 0 _ rfl).1, (HY.out 0 _ rfl).1, (HY.out 1 _ rfl).1, (HY.out 2 _ rfl).1, (HY.out 3 _ rfl).1, (HY.out 4 _ rfl).1, (HY.out 5 _ rfl).1, (HY.out 6 _ rfl).1, (HY.out 7 _ rfl).1⟩) (first | (go_at_call 102; refine HD4.out.mono ?_; rintro e v ⟨rfl, rfl⟩) | (go_at_call 103; refine HM.out.mono ?_; rintro e v ⟨rfl, hb⟩; replace HX := Lib.hid (HX.out.below hb); replace HY := Lib.hid (HY.out.below hb); replace HB := Lib.hid (HB.out.trans (hb.mono HB.out.size)); replace HC := Lib.hid (HC.out.below hb); replace HQ := Lib.hid (HQ.out.below hb); clear hb) | (go_at_call 105; refine (only_impl r _ _ HQ.out).mono ?_; rintro e v ⟨ds, rfl, hds, hb⟩; have HDS := Lib.hid hds; replace HX := Lib.hid (HX.out.below hb); replace HY := Lib.hid (HY.out.below hb); replace HB := Lib.hid (HB.out.trans (hb.mono HB.out.size)); replace HC := Lib.hid (HC.out.below hb); replace HQ := Lib.hid (HQ.out.below hb); clear hb hds) | (go_at_call 104; refine (eqr_impl r (onlyR r) _ ds _ hsr.out hos.out HQ.out HDS.out).mono ?_; rintro e v ⟨rfl, hb⟩; replace HX := Lib.hid (HX.out.below hb); replace HY := Lib.hid (HY.out.below hb); replace HB := Lib.hid (HB.out.trans (hb.mono HB.out.size)); replace HC := Lib.hid (HC.out.below hb); replace HQ := Lib.hid (HQ.out.below hb); clear hb))
    all_goals (go_wp2; go_ret; exact ⟨ret_bool hr.out.symm, HB.out⟩)
end Go.Proofs.Ytefkhknfjohnaaa
namespace Go.Proofs.Ytefkhknfjohnaaa
open Go Go.RowKit
theorem allV_next {f : RuleV → Bool} {rs : List RuleV} {k : Nat} (h : ∀ i : Nat, i < k → validAt f rs (i : Int) = true) (hk : validAt f rs (k : Int) = true) : ∀ i : Nat, i < k + 1 → validAt f rs (i : Int) = true := fun i hi => by
  by_cases e : i = k
  · subst e; exact hk
  · exact h i (by omega)
set_option maxRecDepth 100000 in
set_option maxHeartbeats 2000000 in
theorem validd_impl (a : Option Addr) (rs : List RuleV) (cap : Nat) (w : World) (hl : rs.length ≤ 1048576) (hs : ∀ r ∈ rs, Short r) (hp : ∀ r ∈ rs, Spelt r) (h : RdC a rs w) :
    Calls Try.prog 64 #[.agg #[.slice a rs.length cap]] w fun e w' => e = .returned (.bool (descrB (kindI rs) rs)) ∧ Below w.heap.size w w' := by
  obtain ⟨w0, hw0⟩ : ∃ w0, w0 = w.alloc (.cells #[.slice a rs.length cap] 38) := ⟨_, rfl⟩
  have hB : Below w.heap.size w w0 := by subst hw0; exact (Below.refl _ _).alloc (Nat.le_refl _) _
  have hX : CellsAt w.heap.size [.slice a rs.length cap] w0 := by subst hw0; exact CellsAt.new w _ _
  have HC := Lib.hid (h.below hB)
  have HB := Lib.hid hB
  have HX := Lib.hid hX
  have HS := Lib.hid hs
  have HP := Lib.hid hp
  have hW := Lib.hid hw0
  clear h hB hX hs hp hw0
  by_cases hn : 1 ≤ (rs.length : Int) ∧ (rs.length : Int) ≤ 24
  case neg =>
    have hr := Lib.hid (descrB_len (f := kindI rs) (rs := rs) (by omega))
    have hd := decide_eq_false hn
    go_enter Try.func64, Try.ntmps64
    go_wp2_with fail
    refine (inI_any _ _ _ false _ hd).mono ?_
    rintro e w1 ⟨rfl, rfl⟩
    go_wp2
    rw [← hW.out]
    go_ret
    exact ⟨ret_bool hr.out.symm, HB.out⟩
  have hd := decide_eq_true hn
  have hn2 : Hid (1 ≤ rs.length ∧ rs.length ≤ 24) := ⟨by omega, by omega⟩
  go_enter Try.func64, Try.ntmps64
  go_wp2_with fail
  refine (inI_any _ _ _ true _ hd).mono ?_
  rintro e w1 ⟨rfl, rfl⟩
  clear hd hn
  go_wp2
  go_loopw [12] (fun i W => ∃ k : Nat, k ≤ rs.length ∧ i = .int .i64 k ∧ Hid (∀ i : Nat, i < k → validAt (kindI rs) rs (i : Int) = true) ∧ Hid (Below w0.heap.size w0 W)) (fun i _ => rs.length - (intOf i).toNat)
  case atStart => exact ⟨0, Nat.zero_le _, rfl, fun i hi => by omega, by rw [← hW.out]; exact Below.refl _ _⟩
  case round =>
    obtain ⟨k, hk, rfl, hv, hbw⟩ := hrel
    have k0 : (0 : Int) ≤ (k : Int) := by omega
    have HBW := Lib.hid (HB.out.trans (hbw.out.mono HB.out.size))
    have bx := (HX.out.below hbw.out 0 _ rfl).1
    by_cases hlt : k < rs.length
    · have k1 : (k : Int) < (rs.length : Int) := by omega
      have HQ := Lib.hid (validr_impl a rs cap (k : Int) wr hl HS.out HP.out (HC.out.below hbw.out))
      cases hb : validAt (kindI rs) rs (k : Int) with
      | false =>
        have hr := Lib.hid (descrB_bad (f := kindI rs) hlt hb)
        rw [hb] at HQ
        clear hb
        go_wp2_with fail
        refine HQ.out.mono ?_
        rintro e w2 ⟨rfl, hb2⟩
        have HB2 := Lib.hid (HBW.out.trans (hb2.mono HBW.out.size))
        clear hb2
        go_wp2
        go_ret
        exact ⟨ret_bool hr.out.symm, HB2.out⟩
      | true =>
        have hv2 := Lib.hid (allV_next hv.out hb)
        rw [hb] at HQ
        clear hb
        go_wp2_with fail
        refine HQ.out.mono ?_
        rintro e w2 ⟨rfl, hb2⟩
        have HB2 := Lib.hid (hbw.out.trans (hb2.mono hbw.out.size))
        clear hb2
        go_wp2
        go_roundw
        case rel => exact ⟨k + 1, by omega, by go_num, hv2, HB2⟩
        case measure => simp [intOf]; omega
    · have k1 : ¬ (k : Int) < (rs.length : Int) := by omega
      obtain rfl : k = rs.length := by omega
      have hr := Lib.hid (descrB_yes (f := kindI rs) hn2.out hv.out)
      go_wp2
      go_ret
      exact ⟨ret_bool hr.out.symm, HBW.out⟩
end Go.Proofs.Ytefkhknfjohnaaa
