/- Contracts of the laws' helpers on slices of ints: copying, comparing, marking, looking for the marks, the size. -/
import Derived.Test.YtikpbeealeofaaaRowF
namespace Go.Proofs.Ytikpbeealeofaaa
open Go Go.RowKit
theorem infoInt : (Try.prog.info? 3).map (fun i => (i.zero, i.size, i.bytes)) = some (some (.int .i64 0), 1, 8) := by kernel_rfl
theorem infoPartsI : ∃ i, Try.prog.info? 3 = some i ∧ i.zero = some (.int .i64 0) ∧ i.size = 1 ∧ i.bytes = 8 := by
  obtain ⟨i, hi, h⟩ := Option.map_eq_some_iff.1 infoInt
  simp only [Prod.mk.injEq] at h
  exact ⟨i, hi, h.1, h.2.1, h.2.2⟩
abbrev RdI := RdF (Value.int .i64)
abbrev RowI := RowF (Value.int .i64)
abbrev IntsOut := ListOut (Value.int .i64)
theorem make_ints (n : Nat) (hn : n ≤ 1099511627776) (W : World) : (Instr.makeSlice 74 (.int .i64 (n : Int)) (.int .i64 (n : Int))).run Try.prog W = .ok (.slice (some ⟨W.heap.size, 0, none⟩) n n) (W.alloc (.cells (madeCells #[.int .i64 0] n) 3)) := by
  obtain ⟨i0, hi, hz0, hz1, hz2⟩ := infoPartsI
  have hr := run_make (P := Try.prog) W 74 3 i0 (.int .i64 0) Try.underlying74 hi hz0 .i64 .i64 (n : Int) (n : Int) (by omega) (by omega) (by rw [hz2]; omega) (by omega)
  rw [hr, hz1]
  simp [Value.cells]
set_option maxRecDepth 100000 in
theorem to_ints (a : Option Addr) (ss : List Int) (cap : Nat) (w : World) (hl : ss.length ≤ 1099511627776) (h : RdI a ss w) :
    Calls Try.prog 85 #[.slice a ss.length cap] w (IntsOut ss w) := by
  have H := Lib.hid h
  clear h
  have hmk := make_ints ss.length hl
  go_enter Try.func85, Try.ntmps85
  go_wp2
  clear hmk
  go_loopw [4] (fun i W => ∃ k : Nat, k ≤ ss.length ∧ i = .int .i64 k ∧ Hid (HalfF (Value.int .i64) (.int .i64 0) ss k w.heap.size w W)) (fun i _ => ss.length - (intOf i).toNat)
  case atStart => exact ⟨0, Nat.zero_le _, rfl, HalfF.start _ ss _ w⟩
  case round =>
    obtain ⟨k, hk, rfl, hh⟩ := hrel
    by_cases hlt : k < ss.length
    · obtain ⟨b, off, rfl, hc0⟩ := H.out k hlt
      have hc : wr.cell? ⟨b, off + k, none⟩ = some (.int .i64 ss[k]) := (hh.out.1.cell (cell_lt hc0)).trans hc0
      have hbn : b < w.heap.size := cell_lt hc0
      clear hc0
      obtain ⟨hd, hf⟩ := hh.out.2 k hlt
      rw [if_neg (by omega)] at hd
      have hn := Lib.hid (hh.out.next (Nat.le_refl _) hlt)
      have k0 : (0 : Int) ≤ (k : Int) := by omega
      have k1 : (k : Int) < (ss.length : Int) := by omega
      generalize ss[k] = sk at hc hn
      go_wp2
      go_roundw
      case rel => exact ⟨k + 1, by omega, by go_num, hn⟩
      case measure => simp [intOf]; omega
    · have k1 : ¬ (k : Int) < (ss.length : Int) := by omega
      obtain rfl : k = ss.length := by omega
      go_wp2
      go_ret
      exact ⟨_, _, rfl, ⟨hh.out.end, Nat.le_refl _, (fun e => by cases e)⟩, hh.out.1⟩
/-- Whether two slices hold the same ints; only draws. -/
def EqOutI (bs cs : List Int) (w : World) (e : Ending) (w' : World) : Prop := e = .returned (.bool (decide (bs = cs))) ∧ ∃ n, w' = w.drewN n
set_option maxRecDepth 100000 in
theorem eq_ints (a b : Option Addr) (bs cs : List Int) (ca cb : Nat) (w : World) (hl : bs.length ≤ 1099511627776) (ha : RdI a bs w) (hb : RdI b cs w) :
    Calls Try.prog 88 #[.slice a bs.length ca, .slice b cs.length cb] w (EqOutI bs cs w) := by
  have HA := Lib.hid ha
  have HB := Lib.hid hb
  clear ha hb
  by_cases hlen : bs.length = cs.length
  · have h1 : ((bs.length : Int) != (cs.length : Int)) = false := by simp [hlen]
    have HL := Lib.hid hlen
    have hle : cs.length ≤ bs.length := by omega
    have hge : bs.length ≤ cs.length := by omega
    clear hlen
    go_enter Try.func88, Try.ntmps88
    go_wp2
    clear h1
    go_loopw [5] (fun i W => ∃ k n : Nat, k ≤ bs.length ∧ i = .int .i64 k ∧ W = w.drewN n ∧ Hid (bs.take k = cs.take k)) (fun i _ => bs.length - (intOf i).toNat)
    case atStart => exact ⟨0, 0, Nat.zero_le _, rfl, rfl, rfl⟩
    case round =>
      obtain ⟨k, n, hk, rfl, rfl, ht⟩ := hrel
      have k0 : (0 : Int) ≤ (k : Int) := by omega
      by_cases hlt : k < bs.length
      · obtain ⟨b1, o1, rfl, c1⟩ := HA.out k hlt
        obtain ⟨b2, o2, rfl, c2⟩ := HB.out k (by omega)
        have k1 : (k : Int) < (bs.length : Int) := by omega
        have k2 : (k : Int) < (cs.length : Int) := by omega
        by_cases he : bs[k] = cs[k]
        · have ht' := Lib.hid (takeNext ht.out hlt (by omega) he)
          rw [← he] at c2
          clear he
          generalize bs[k] = x at c1 c2
          go_wp2
          go_quiet (fail)
          go_wp2
          go_roundw
          case rel => exact ⟨k + 1, _, by omega, by go_num, rfl, ht'⟩
          case measure => simp [intOf]; omega
        · have hne := Lib.hid (takeNot hlt (by omega) he)
          have he' : Hid (bs[k] ≠ cs[k]) := he
          clear he
          generalize bs[k] = x at c1 he'
          generalize cs[k] = y at c2 he'
          have e1 : (x != y) = true := by simpa using he'.out
          go_wp2
          go_quiet (fail)
          go_wp2
          go_ret
          exact ⟨ret_bool (decide_eq_false hne.out).symm, _, by rw [World.drewN_drewN]⟩
      · have k1 : ¬ (k : Int) < (bs.length : Int) := by omega
        have heq : Hid (bs = cs) := by
          have h2 := ht.out
          rw [List.take_of_length_le (by omega), List.take_of_length_le (by omega)] at h2
          exact h2
        go_wp2
        go_ret
        exact ⟨ret_bool (decide_eq_true heq.out).symm, _, rfl⟩
  · have h1 : ((bs.length : Int) != (cs.length : Int)) = true := by simp; omega
    have hne : Hid (bs ≠ cs) := fun h => hlen (by rw [h])
    clear hlen
    go_enter Try.func88, Try.ntmps88
    go_wp2
    go_ret
    exact ⟨ret_bool (decide_eq_false hne.out).symm, 0, rfl⟩
/-- The marks k, k + 1, .. as ints. -/
def marksI (k n : Nat) : List Int := (List.range n).map fun j => ((k + j : Nat) : Int)
theorem marksI_length (k n : Nat) : (marksI k n).length = n := by simp [marksI]
theorem marksI_at (k n j : Nat) (h : j < (marksI k n).length) : (marksI k n)[j] = ((k + j : Nat) : Int) := by simp [marksI]
/-- The first i cells are marked. -/
def MarkedI (b off n k i : Nat) (w W : World) : Prop :=
  w.grownBy W (some b) ∧ ∀ j, j < n → (∃ x : Int, W.cell? ⟨b, off + j, none⟩ = some (.int .i64 x) ∧ (j < i → x = ((k + j : Nat) : Int))) ∧ W.frozen? ⟨b, off + j, none⟩ = false
theorem MarkedI.next {b off n k i : Nat} {w W : World} (h : MarkedI b off n k i w W) (hi : i < n) : MarkedI b off n k (i + 1) w (W.setCell ⟨b, off + i, none⟩ (.int .i64 ((k + i : Nat) : Int))) := by
  refine ⟨grown_set h.1 (off + i) _, fun j hj => ⟨?_, by simpa using (h.2 j hj).2⟩⟩
  obtain ⟨⟨x, hx, hxi⟩, _⟩ := h.2 j hj
  by_cases e : j = i
  · subst e
    exact ⟨_, World.cell?_setCell_same _ _ _ hx, fun _ => rfl⟩
  · refine ⟨x, (World.cell?_setCell_other _ _ _ _ (fun he => e (by have := congrArg Addr.off he; simp at this; omega))).trans hx, fun hlt => hxi (by omega)⟩
set_option maxRecDepth 100000 in
theorem marksI_some (b off n cap k : Nat) (w : World) (hn : n ≤ 1073741824) (hk : k ≤ 1073741824) (h0 : MarkedI b off n k 0 w w) :
    Calls Try.prog 68 #[.slice (some ⟨b, off, none⟩) n cap, .int .i64 k] w fun e w' => e = .returned (.int .i64 ((k + n : Nat) : Int)) ∧ MarkedI b off n k n w w' := by
  have H0 := Lib.hid h0
  clear h0
  go_enter Try.func68, Try.ntmps68
  go_wp2
  go_loopw [1, 5] (fun q i W => ∃ j : Nat, j ≤ n ∧ i = .int .i64 j ∧ q = .int .i64 ((k + j : Nat) : Int) ∧ Hid (MarkedI b off n k j w W)) (fun _ i _ => n - (intOf i).toNat)
  case atStart => exact ⟨0, Nat.zero_le _, rfl, rfl, H0.out⟩
  case round =>
    obtain ⟨j, hj, rfl, rfl, hm⟩ := hrel
    have k0 : (0 : Int) ≤ (j : Int) := by omega
    by_cases hlt : j < n
    · have k1 : (j : Int) < (n : Int) := by omega
      obtain ⟨⟨x, hc, -⟩, hf⟩ := hm.out.2 j hlt
      have hn' := Lib.hid (hm.out.next hlt)
      go_wp2
      go_roundw
      case rel => exact ⟨j + 1, by omega, by go_num, by go_num, hn'⟩
      case measure => simp [intOf]; omega
    · have k1 : ¬ (j : Int) < (n : Int) := by omega
      obtain rfl : j = n := by omega
      go_wp2
      go_ret
      exact ⟨rfl, hm.out⟩
theorem marksI_none (a : Option Addr) (cap : Nat) (k : Int) (w : World) :
    Calls Try.prog 68 #[.slice a 0 cap, .int .i64 k] w fun e w' => e = .returned (.int .i64 k) ∧ w = w' := by
  go_enter Try.func68, Try.ntmps68
  go_wp2
  go_loop [1, 5] (fun q i => i = .int .i64 0 ∧ q = .int .i64 k) (fun _ _ => 0)
  case atStart => exact ⟨rfl, rfl⟩
  case round =>
    obtain ⟨rfl, rfl⟩ := hrel
    go_wp2
    go_ret
    exact ⟨rfl, rfl⟩
/-- A row is marked: only its block has turned. -/
def MarkOutI (B : Nat) (a : Option Addr) (n cap k : Nat) (w : World) (e : Ending) (w' : World) : Prop :=
  e = .returned (.int .i64 ((k + n : Nat) : Int)) ∧ RowI B a (marksI k n) cap w' ∧ Touch B a n w w'
theorem mark_ints (B : Nat) (a : Option Addr) (ss : List Int) (cap k : Nat) (w : World) (hn : ss.length ≤ 1073741824) (hk : k ≤ 1073741824) (h : RowI B a ss cap w) :
    Calls Try.prog 68 #[.slice a ss.length cap, .int .i64 k] w (MarkOutI B a ss.length cap k w) := by
  have hcap : (marksI k ss.length).length ≤ cap ∧ (a = none → cap = 0) := by rw [marksI_length]; exact h.2
  by_cases hbs : ss = []
  · subst hbs
    refine (marksI_none a cap k w).mono ?_
    rintro e w' ⟨rfl, rfl⟩
    exact ⟨rfl, ⟨.inl rfl, hcap⟩, .inl rfl⟩
  · rcases h.1 with h | ⟨b, off, rfl, hB, hc⟩
    · exact absurd h hbs
    · refine (marksI_some b off ss.length cap k w hn hk ⟨grown_refl w b, fun j hj => ⟨⟨_, (hc j hj).1, fun h => by omega⟩, (hc j hj).2⟩⟩).mono ?_
      rintro e w' ⟨rfl, hg, hm⟩
      refine ⟨rfl, ⟨.inr ⟨b, off, rfl, hB, fun j hj => ?_⟩, hcap⟩, .inr ⟨fun h0 => hbs (List.eq_nil_of_length_eq_zero h0), b, off, rfl, hB, hg⟩⟩
      have hjn : j < ss.length := by rw [marksI_length] at hj; exact hj
      obtain ⟨⟨x, hx, hx'⟩, hf⟩ := hm j hjn
      refine ⟨?_, hf⟩
      rw [hx, hx' hjn, marksI_at]
end Go.Proofs.Ytikpbeealeofaaa
