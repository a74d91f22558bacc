/- Contracts of the laws' helpers on slices of strings: copying, comparing, counting. -/
import Derived.Test.YtkegjgfggijinaaGreatDoorRowF
import Derived.Test.YtkegjgfggijinaaGreatDoorGNum
namespace Go.Proofs.YtkegjgfggijinaaGreatDoor
open Go Go.RowKit
theorem infoStr : (Tryz.prog.info? 9).map (fun i => (i.zero, i.size, i.bytes)) = some (some (.string ⟨#[]⟩), 1, 16) := by kernel_rfl
theorem infoPartsS : ∃ i, Tryz.prog.info? 9 = some i ∧ i.zero = some (.string ⟨#[]⟩) ∧ i.size = 1 ∧ i.bytes = 16 := by
  obtain ⟨i, hi, h⟩ := Option.map_eq_some_iff.1 infoStr
  simp only [Prod.mk.injEq] at h
  exact ⟨i, hi, h.1, h.2.1, h.2.2⟩
abbrev RdS := RdF Value.string
abbrev RowS := RowF Value.string
abbrev StrsOut := ListOut Value.string
theorem make_strs (n : Nat) (hn : n ≤ 1099511627776) (W : World) : (Instr.makeSlice 36 (.int .i64 (n : Int)) (.int .i64 (n : Int))).run Tryz.prog W = .ok (.slice (some ⟨W.heap.size, 0, none⟩) n n) (W.alloc (.cells (madeCells #[.string ⟨#[]⟩] n) 9)) := by
  obtain ⟨i0, hi, hz0, hz1, hz2⟩ := infoPartsS
  have hr := run_make (P := Tryz.prog) W 36 9 i0 (.string ⟨#[]⟩) Tryz.underlying36 hi hz0 .i64 .i64 (n : Int) (n : Int) (by omega) (by omega) (by rw [hz2]; omega) (by omega)
  rw [hr, hz1]
  simp [Value.cells]
set_option maxRecDepth 100000 in
theorem to_strs (a : Option Addr) (ss : List ByteArray) (cap : Nat) (w : World) (hl : ss.length ≤ 1099511627776) (h : RdS a ss w) :
    Calls Tryz.prog 163 #[.slice a ss.length cap] w (StrsOut ss w) := by
  have H := Lib.hid h
  clear h
  have hmk := make_strs ss.length hl
  go_enter Tryz.func163, Tryz.ntmps163
  go_wp2
  clear hmk
  go_loopw [4] (fun i W => ∃ k : Nat, k ≤ ss.length ∧ i = .int .i64 k ∧ Hid (HalfF Value.string (.string ⟨#[]⟩) ss k w.heap.size w W)) (fun i _ => ss.length - (intOf i).toNat)
  case atStart => exact ⟨0, Nat.zero_le _, rfl, HalfF.start _ ss _ w⟩
  case round =>
    obtain ⟨k, hk, rfl, hh⟩ := hrel
    by_cases hlt : k < ss.length
    · obtain ⟨b, off, rfl, hc0⟩ := H.out k hlt
      have hc : wr.cell? ⟨b, off + k, none⟩ = some (.string ss[k]) := (hh.out.1.cell (cell_lt hc0)).trans hc0
      have hbn : b < w.heap.size := cell_lt hc0
      clear hc0
      obtain ⟨hd, hf⟩ := hh.out.2 k hlt
      rw [if_neg (by omega)] at hd
      have hn := Lib.hid (hh.out.next (Nat.le_refl _) hlt)
      have k0 : (0 : Int) ≤ (k : Int) := by omega
      have k1 : (k : Int) < (ss.length : Int) := by omega
      generalize ss[k] = sk at hc hn
      go_wp2
      go_roundw
      case rel => exact ⟨k + 1, by omega, by go_num, hn⟩
      case measure => simp [intOf]; omega
    · have k1 : ¬ (k : Int) < (ss.length : Int) := by omega
      obtain rfl : k = ss.length := by omega
      go_wp2
      go_ret
      exact ⟨_, _, rfl, ⟨hh.out.end, Nat.le_refl _, (fun e => by cases e)⟩, hh.out.1⟩
/-- Whether two slices hold the same strings; only draws. -/
def EqOutS (bs cs : List ByteArray) (w : World) (e : Ending) (w' : World) : Prop := e = .returned (.bool (decide (bs = cs))) ∧ ∃ n, w' = w.drewN n
set_option maxRecDepth 100000 in
theorem eq_strs (a b : Option Addr) (bs cs : List ByteArray) (ca cb : Nat) (w : World) (hl : bs.length ≤ 1099511627776) (ha : RdS a bs w) (hb : RdS b cs w) :
    Calls Tryz.prog 71 #[.slice a bs.length ca, .slice b cs.length cb] w (EqOutS bs cs w) := by
  have HA := Lib.hid ha
  have HB := Lib.hid hb
  clear ha hb
  by_cases hlen : bs.length = cs.length
  · have h1 : ((bs.length : Int) != (cs.length : Int)) = false := by simp [hlen]
    have HL := Lib.hid hlen
    have hle : cs.length ≤ bs.length := by omega
    have hge : bs.length ≤ cs.length := by omega
    clear hlen
    go_enter Tryz.func71, Tryz.ntmps71
    go_wp2
    clear h1
    go_loopw [5] (fun i W => ∃ k n : Nat, k ≤ bs.length ∧ i = .int .i64 k ∧ W = w.drewN n ∧ Hid (bs.take k = cs.take k)) (fun i _ => bs.length - (intOf i).toNat)
    case atStart => exact ⟨0, 0, Nat.zero_le _, rfl, rfl, rfl⟩
    case round =>
      obtain ⟨k, n, hk, rfl, rfl, ht⟩ := hrel
      have k0 : (0 : Int) ≤ (k : Int) := by omega
      by_cases hlt : k < bs.length
      · obtain ⟨b1, o1, rfl, c1⟩ := HA.out k hlt
        obtain ⟨b2, o2, rfl, c2⟩ := HB.out k (by omega)
        have k1 : (k : Int) < (bs.length : Int) := by omega
        have k2 : (k : Int) < (cs.length : Int) := by omega
        by_cases he : bs[k] = cs[k]
        · have ht' := Lib.hid (takeNext ht.out hlt (by omega) he)
          rw [← he] at c2
          clear he
          generalize bs[k] = x at c1 c2
          go_wp2
          go_quiet (fail)
          go_wp2
          go_roundw
          case rel => exact ⟨k + 1, _, by omega, by go_num, rfl, ht'⟩
          case measure => simp [intOf]; omega
        · have hne := Lib.hid (takeNot hlt (by omega) he)
          have he' : Hid (bs[k] ≠ cs[k]) := he
          clear he
          generalize bs[k] = x at c1 he'
          generalize cs[k] = y at c2 he'
          have e1 := str_ne he'.out
          go_wp2
          go_quiet (fail)
          go_wp2
          go_ret
          exact ⟨ret_bool (decide_eq_false hne.out).symm, _, by rw [World.drewN_drewN]⟩
      · have k1 : ¬ (k : Int) < (bs.length : Int) := by omega
        have heq : Hid (bs = cs) := by
          have h2 := ht.out
          rw [List.take_of_length_le (by omega), List.take_of_length_le (by omega)] at h2
          exact h2
        go_wp2
        go_ret
        exact ⟨ret_bool (decide_eq_true heq.out).symm, _, rfl⟩
  · have h1 : ((bs.length : Int) != (cs.length : Int)) = true := by simp; omega
    have hne : Hid (bs ≠ cs) := fun h => hlen (by rw [h])
    clear hlen
    go_enter Tryz.func71, Tryz.ntmps71
    go_wp2
    go_ret
    exact ⟨ret_bool (decide_eq_false hne.out).symm, 0, rfl⟩
end Go.Proofs.YtkegjgfggijinaaGreatDoor
