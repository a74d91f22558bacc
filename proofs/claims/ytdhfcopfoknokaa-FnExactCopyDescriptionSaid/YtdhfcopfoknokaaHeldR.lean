/- Contracts of the laws' marks of descriptions, and of reading the marks back. -/
import Derived.Test.YtdhfcopfoknokaaMarkR
import Derived.Deep.RegionHeld3
namespace Go.Proofs.Ytdhfcopfoknokaa
open Go Go.RowKit
set_option maxRecDepth 100000 in
set_option maxHeartbeats 4000000 in
theorem held_rules (a : Option Addr) (rs L : List RuleV) (cap k : Nat) (w : World) (hl : rs.length ≤ 1048576) (hs : ∀ r ∈ rs, Short r) (hk0 : 0 < k) (hk : k + sumW rs rs.length ≤ 1073741824) (hm : Mixed k rs rs.length L) (h : RdR a L w) :
    Calls Try.prog 60 #[.slice a rs.length cap, .int .i64 (k : Int)] w fun e w' => e = .returned (.int .i64 ((k + sumW rs rs.length : Nat) : Int)) ∧ Below w.heap.size w w' := by
  have H := Lib.hid h
  have HS := Lib.hid hs
  have hmix := Lib.hid hm
  clear h hs hm
  go_enter Try.func60, Try.ntmps60
  go_wp2
  go_loopw [1, 5] (fun q i W => ∃ (j m : Nat), j ≤ rs.length ∧ i = .int .i64 j ∧ q = .int .i64 (m : Int) ∧ Hid (m = k + sumW rs j) ∧ m ≤ 1073741824 ∧ 0 < m ∧ Hid (Below w.heap.size w W)) (fun _ i _ => rs.length - (intOf i).toNat)
  case atStart => exact ⟨0, k, Nat.zero_le _, rfl, rfl, by unfold Hid sumW; simp, by omega, hk0, Below.refl _ _⟩
  case round =>
    obtain ⟨j, m, hj, rfl, rfl, hm, hm1, hm0, hbw⟩ := hrel
    have j0 : (0 : Int) ≤ (j : Int) := by omega
    by_cases hlt : j < rs.length
    · have j1 : (j : Int) < (rs.length : Int) := by omega
      have il : j < L.length := by have := hmix.out.1; omega
      have hnx := Lib.hid (sumW_next rs j hlt)
      have hle := Lib.hid (sumW_le rs (j + 1))
      have hsh := Lib.hid (HS.out _ (List.getElem_mem hlt))
      have hmix' := hmix.out.2 j hlt il
      rw [if_pos hlt, ← hm.out] at hmix'
      obtain ⟨b, off, a4, c4, a5, c5, a6, c6, a7, c7, rfl, ⟨d0, d1, d2, d3, d4, d5, d6, d7⟩, h4, h5, h6, h7⟩ := (H.out.below hbw.out).at j il
      rw [hmix'] at d0 d1 d2 d3 d4 d5 d6 d7 h4 h5 h6 h7
      unfold markR at d0 d1 d2 d3 d4 d5 d6 d7 h4 h5 h6 h7
      dsimp only at d0 d1 d2 d3 d4 d5 d6 d7 h4 h5 h6 h7
      rw [marks_length] at d4
      rw [marksS_length] at d5
      rw [marksI_length] at d6 d7
      have s4 := hsh.out.1
      have s5 := hsh.out.2.1
      have s6 := hsh.out.2.2.1
      have s7 := hsh.out.2.2.2
      have hwid : Hid (m + 4 + rs[j].bytes.length + rs[j].names.length + rs[j].tags.length + rs[j].kids.length = k + sumW rs (j + 1)) := by
        show _ = _
        rw [hnx.out, hm.out]
        unfold widthR
        omega
      have hwle : m + 4 + rs[j].bytes.length + rs[j].names.length + rs[j].tags.length + rs[j].kids.length ≤ 1073741824 := by rw [hwid.out]; have := hle.out; omega
      have g2 : ((m + 2 : Nat) : Int) = (m : Int) + 1 + 1 := by omega
      rw [g2] at d2
      have g1 : ((m + 1 : Nat) : Int) = (m : Int) + 1 := by omega
      rw [g1] at d1
      have g3 : decide ((m + 3) % 3 = 0) = (((m : Int) + 1 + 1 + 1) % 3 == 0) := by rw [Bool.eq_iff_iff]; simp; omega
      rw [g3] at d3
      clear g1 g2 g3
      generalize rs[j].bytes.length = nb at *
      generalize rs[j].names.length = nn at *
      generalize rs[j].tags.length = nt at *
      generalize rs[j].kids.length = nk at *
      have D1 := Lib.hid d1
      have D2 := Lib.hid d2
      have D3 := Lib.hid d3
      have D4 := Lib.hid d4
      have D5 := Lib.hid d5
      have D6 := Lib.hid d6
      have D7 := Lib.hid d7
      have H4 := Lib.hid h4
      have H5 := Lib.hid h5
      have H6 := Lib.hid h6
      have H7 := Lib.hid h7
      have D0 : Hid (wr.drew.cell? ⟨b, off + j * 8, none⟩ = some (.string (markT m))) := d0
      replace hbw : Hid (Below w.heap.size w wr.drew) := below_drewN hbw.out 1
      have hbr : Hid (Below wr.heap.size wr wr.drew) := below_drewN (Below.refl _ _) 1
      clear d1 d2 d3 d4 d5 d6 d7 h4 h5 h6 h7 hmix'
      have e1 := str_eq (x := markT m) rfl
      go_wp2
      clear d0
      go_region_held3 (fun W => W.cell? ⟨b, off + j * 8, none⟩ = some (.string (markT m))) (exact D0.out) (first | (go_at_call 79; refine (mark_text m _ hm0 (by omega)).mono ?_; rintro e w1 ⟨rfl, hb⟩; replace D0 := Lib.hid ((hb.cell (cell_lt D0.out)).trans D0.out); replace hbw := Lib.hid (hbw.out.trans (hb.mono hbw.out.size)); replace hbr := Lib.hid (hbr.out.trans (hb.mono hbr.out.size)); clear hb))
      have d1 := (hbr.out.cell (cell_lt D1.out)).trans D1.out
      have d2 := (hbr.out.cell (cell_lt D2.out)).trans D2.out
      have d3 := (hbr.out.cell (cell_lt D3.out)).trans D3.out
      have d4 := (hbr.out.cell (cell_lt D4.out)).trans D4.out
      obtain ⟨m4, hm4⟩ : ∃ m4 : Nat, m4 = m + 4 := ⟨_, rfl⟩
      have e4 : (m : Int) + 1 + 1 + 1 + 1 = (m4 : Int) := by omega
      have M4 := Lib.hid hm4
      have m4b : m4 ≤ 1073741824 := by omega
      have m4p : 0 < m4 := by omega
      have hw4 : m4 + nb + nn + nt + nk ≤ 1073741824 := by omega
      rw [← hm4] at H4 H5 H6 H7
      clear hm4 hwle
      have e2 : ((m : Int) + 1 != (m : Int) + 1) = false := by simp
      have e3 : ((m : Int) + 1 + 1 != (m : Int) + 1 + 1) = false := by simp
      have e5 : ((((m : Int) + 1 + 1 + 1) % 3 == 0) != (((m : Int) + 1 + 1 + 1) % 3 == 0)) = false := by simp
      go_upto_region 16 with fail
      clear d1 d2 d3 e1 e2 e3 e4 e5
      go_wp2_with fail
      refine (held_any a4 nb c4 m4 _ (by omega) (by omega) (H4.out.below hbr.out)).mono ?_
      rintro e w14 ⟨rfl, rfl⟩
      obtain ⟨m5, hmm⟩ : ∃ q : Nat, q = m4 + nb := ⟨_, rfl⟩
      rw [← hmm]
      rw [← hmm] at H5
      rw [← hmm] at H6
      rw [← hmm] at H7
      have M5 := Lib.hid hmm
      have m5b : m5 ≤ 1073741824 := by omega
      have m5p : 0 < m5 := by omega
      have m5n : ¬ ((m5 : Int) < 0) := by omega
      have hw5 : m5 + nn + nt + nk ≤ 1073741824 := by omega
      clear hmm hw4 d4
      have d5 := (hbr.out.cell (cell_lt D5.out)).trans D5.out
      go_wp2_with fail
      refine (held_strs a5 nn c5 m5 _ (by omega) (by omega) (by omega) (H5.out.below hbr.out)).mono ?_
      rintro e w2 ⟨rfl, hb⟩
      replace hbw := Lib.hid (hbw.out.trans (hb.mono hbw.out.size))
      replace hbr := Lib.hid (hbr.out.trans (hb.mono hbr.out.size))
      clear hb
      obtain ⟨m6, hmm⟩ : ∃ q : Nat, q = m5 + nn := ⟨_, rfl⟩
      rw [← hmm]
      rw [← hmm] at H6
      rw [← hmm] at H7
      have M6 := Lib.hid hmm
      have m6b : m6 ≤ 1073741824 := by omega
      have m6p : 0 < m6 := by omega
      have m6n : ¬ ((m6 : Int) < 0) := by omega
      have hw6 : m6 + nt + nk ≤ 1073741824 := by omega
      clear hmm hw5 d5
      have d6 := (hbr.out.cell (cell_lt D6.out)).trans D6.out
      go_wp2_with fail
      refine (held_ints a6 nt c6 m6 _ (by omega) (by omega) (H6.out.below hbr.out)).mono ?_
      rintro e w16 ⟨rfl, rfl⟩
      obtain ⟨m7, hmm⟩ : ∃ q : Nat, q = m6 + nt := ⟨_, rfl⟩
      rw [← hmm]
      rw [← hmm] at H7
      have M7 := Lib.hid hmm
      have m7b : m7 ≤ 1073741824 := by omega
      have m7p : 0 < m7 := by omega
      have m7n : ¬ ((m7 : Int) < 0) := by omega
      have hw7 : m7 + nk ≤ 1073741824 := by omega
      clear hmm hw6 d6
      have d7 := (hbr.out.cell (cell_lt D7.out)).trans D7.out
      go_wp2_with fail
      refine (held_ints a7 nk c7 m7 _ (by omega) (by omega) (H7.out.below hbr.out)).mono ?_
      rintro e w17 ⟨rfl, rfl⟩
      obtain ⟨m8, hmm⟩ : ∃ q : Nat, q = m7 + nk := ⟨_, rfl⟩
      rw [← hmm]
      have M8 := Lib.hid hmm
      have m8b : m8 ≤ 1073741824 := by omega
      have m8p : 0 < m8 := by omega
      have m8n : ¬ ((m8 : Int) < 0) := by omega
      clear hmm hw7 d7
      have hm8 : Hid (m8 = k + sumW rs (j + 1)) := by
        show _ = _
        have r8 := M8.out
        have r7 := M7.out
        have r6 := M6.out
        have r5 := M5.out
        have r4 := M4.out
        have := hwid.out
        omega
      go_wp2
      go_roundw
      case rel => exact ⟨j + 1, m8, by omega, by go_num, rfl, hm8, m8b, m8p, hbw⟩
      case measure => simp [intOf]; omega
    · have j1 : ¬ (j : Int) < (rs.length : Int) := by omega
      obtain rfl : j = rs.length := by omega
      go_wp2
      go_ret
      exact ⟨ret_int (by have := hm.out; omega), hbw.out⟩
set_option maxRecDepth 100000 in
theorem held_descr (a : Option Addr) (rs L : List RuleV) (cap k : Nat) (w : World) (hl : rs.length ≤ 1048576) (hs : ∀ r ∈ rs, Short r) (hk0 : 0 < k) (hk : k + sumW rs rs.length ≤ 1073741824) (hm : Mixed k rs rs.length L) (h : RdR a L w) :
    Calls Try.prog 37 #[.agg #[.slice a rs.length cap], .int .i64 (k : Int)] w fun e w' => e = .returned (.int .i64 ((k + sumW rs rs.length : Nat) : Int)) ∧ Below w.heap.size w w' := by
  have hB : ∀ o, Below w.heap.size w (w.alloc o) := fun o => (Below.refl _ _).alloc (Nat.le_refl _) _
  have HB := fun o => Lib.hid (hB o)
  have H := fun o => Lib.hid (h.below (hB o))
  have HS := Lib.hid hs
  have HM := Lib.hid hm
  clear h hs hm hB
  go_enter Try.func37, Try.ntmps37
  go_wp2_with fail
  refine (held_rules a rs L cap k _ hl HS.out hk0 hk HM.out (H _).out).mono ?_
  rintro e w1 ⟨rfl, hb1⟩
  have HB1 := Lib.hid ((HB _).out.trans (hb1.mono (HB _).out.size))
  clear hb1
  obtain ⟨t, hT⟩ : ∃ t, t = k + sumW rs rs.length := ⟨_, rfl⟩
  rw [← hT]
  have HT := Lib.hid hT
  clear hT
  have t0 : ¬ ((t : Int) < 0) := by omega
  have t1 : t ≤ 1073741824 := by rw [HT.out]; exact hk
  go_wp2
  go_ret
  exact ⟨ret_int (by rw [HT.out]), HB1.out⟩
/-- A description in new memory is marked. -/
def MarkOutD (lo hi : Nat) (a : Option Addr) (rs : List RuleV) (cap k : Nat) (w : World) (e : Ending) (w' : World) : Prop :=
  e = .returned (.int .i64 ((k + sumW rs rs.length : Nat) : Int)) ∧ ∃ L, Mixed k rs rs.length L ∧ OwnR lo hi a L cap w' ∧ Apart lo hi w w'
theorem OwnS.to {lo hi b off : Nat} {css : List (List Value)} {L : List RuleV} {cap : Nat} {w : World} (h : OwnS lo hi b off css L w) (hc : L.length ≤ cap) : OwnR lo hi (some ⟨b, off, none⟩) L cap w :=
  ⟨css, h.1, h.2.1, .inr ⟨b, off, rfl, h.2.2.1.1, h.2.2.1.2, h.2.2.2.1, h.2.2.2.2⟩, hc, fun e => by cases e⟩
theorem mark_none' (a : Option Addr) (cap k : Nat) (w : World) :
    Calls Try.prog 59 #[.slice a 0 cap, .int .i64 (k : Int)] w fun e w' => e = .returned (.int .i64 (k : Int)) ∧ w = w' := by
  go_enter Try.func59, Try.ntmps59
  go_wp2
  go_loop [1, 5] (fun q i => q = .int .i64 (k : Int) ∧ i = .int .i64 0) (fun _ _ => 0)
  case atStart => exact ⟨rfl, rfl⟩
  case round =>
    obtain ⟨rfl, rfl⟩ := hrel
    go_wp2
    go_ret
    exact ⟨rfl, rfl⟩
theorem mark_rules (lo hi : Nat) (a : Option Addr) (rs : List RuleV) (cap k : Nat) (w : World) (hl : rs.length ≤ 1048576) (hs : ∀ r ∈ rs, Short r) (hk0 : 0 < k) (hk : k + sumW rs rs.length ≤ 1073741824) (h : OwnR lo hi a rs cap w) :
    Calls Try.prog 59 #[.slice a rs.length cap, .int .i64 (k : Int)] w (MarkOutD lo hi a rs cap k w) := by
  have h0 := h
  obtain ⟨css, h1, h2, h3, h4, h5⟩ := h
  rcases h3 with rfl | ⟨b, off, rfl, h6, h7, h8, h9⟩
  · refine (mark_none' a cap k w).mono ?_
    rintro e w' ⟨rfl, rfl⟩
    exact ⟨by simp [sumW], [], Mixed.start k [], h0, Apart.refl _ _ _⟩
  · refine (markr_some lo hi b off rs css cap k w hl hs hk0 hk ⟨h1, h2, ⟨h6, h7⟩, h8, h9⟩).mono ?_
    rintro e w' ⟨rfl, L, css', hmix, ho, ha⟩
    exact ⟨rfl, L, hmix, ho.to (by rw [hmix.1]; exact h4), ha⟩
set_option maxRecDepth 100000 in
theorem mark_descr (lo hi : Nat) (a : Option Addr) (rs : List RuleV) (cap k : Nat) (w : World) (hl : rs.length ≤ 1048576) (hs : ∀ r ∈ rs, Short r) (hk0 : 0 < k) (hk : k + sumW rs rs.length ≤ 1073741824) (h : OwnR lo hi a rs cap w) :
    Calls Try.prog 36 #[.agg #[.slice a rs.length cap], .int .i64 (k : Int)] w (MarkOutD lo hi a rs cap k w) := by
  have hB : ∀ o, Below w.heap.size w (w.alloc o) := fun o => (Below.refl _ _).alloc (Nat.le_refl _) _
  have HB := fun o => Lib.hid (hB o)
  have H := fun o => Lib.hid (h.below (hB o))
  have HS := Lib.hid hs
  clear h hs hB
  go_enter Try.func36, Try.ntmps36
  go_wp2_with fail
  refine (mark_rules lo hi a rs cap k _ hl HS.out hk0 hk (H _).out).mono ?_
  rintro e w1 ⟨rfl, L, hmix, ho, ha⟩
  have HA := Lib.hid ((Apart.ofBelow (lo := lo) (hi := hi) (HB _).out).trans ha)
  have HO := Lib.hid ho
  have HM := Lib.hid hmix
  clear ha ho hmix
  obtain ⟨t, hT⟩ : ∃ t, t = k + sumW rs rs.length := ⟨_, rfl⟩
  rw [← hT]
  have HT := Lib.hid hT
  clear hT
  go_wp2
  go_ret
  exact ⟨ret_int (by rw [HT.out]), L, HM.out, HO.out, HA.out⟩
end Go.Proofs.Ytdhfcopfoknokaa
