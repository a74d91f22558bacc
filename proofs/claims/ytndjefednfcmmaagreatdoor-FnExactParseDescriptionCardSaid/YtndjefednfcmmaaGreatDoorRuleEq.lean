/- Contracts of the laws' comparison of rules and descriptions, where both read the same. -/
import Derived.Test.YtndjefednfcmmaaGreatDoorGBase
import Derived.Test.YtndjefednfcmmaaGreatDoorRuleTo
import Derived.Deep.RegionWith
import Derived.StillTailTactics
namespace Go.Proofs.YtndjefednfcmmaaGreatDoor
open Go Go.RowKit


set_option maxRecDepth 100000 in
set_option maxHeartbeats 1000000 in
theorem eq_rule (r : RuleV) (cs ds : List Value) (w : World) (hr : Short r) (h : IsRule r cs w) (k : IsRule r ds w) :
    Calls Tryz.prog 62 #[.agg cs.toArray, .agg ds.toArray] w fun e w' => e = .returned (.bool true) ∧ Below w.heap.size w w' := by
  obtain ⟨a4, c4, a5, c5, a6, c6, a7, c7, rfl, h4, h5, h6, h7⟩ := h
  obtain ⟨e4, f4, e5, f5, e6, f6, e7, f7, rfl, k4, k5, k6, k7⟩ := k
  obtain ⟨s4, s5, s6, s7⟩ := hr
  have hB : ∀ o p, Below w.heap.size w ((w.alloc o).alloc p) := fun o p => ((Below.refl _ _).alloc (Nat.le_refl _) _).alloc (by simp) _
  have H4 := fun o p => Lib.hid (h4.below (hB o p))
  have H5 := fun o p n => Lib.hid (show RdF Value.string a5 r.names (((w.alloc o).alloc p).drewN n) from h5.below (below_drewN (hB o p) n))
  have H6 := fun o p n => Lib.hid (show RdF (Value.int .i64) a6 r.tags (((w.alloc o).alloc p).drewN n) from h6.below (below_drewN (hB o p) n))
  have H7 := fun o p n => Lib.hid (show RdF (Value.int .i64) a7 r.kids (((w.alloc o).alloc p).drewN n) from h7.below (below_drewN (hB o p) n))
  have K4 := fun o p => Lib.hid (k4.below (hB o p))
  have K5 := fun o p n => Lib.hid (show RdF Value.string e5 r.names (((w.alloc o).alloc p).drewN n) from k5.below (below_drewN (hB o p) n))
  have K6 := fun o p n => Lib.hid (show RdF (Value.int .i64) e6 r.tags (((w.alloc o).alloc p).drewN n) from k6.below (below_drewN (hB o p) n))
  have K7 := fun o p n => Lib.hid (show RdF (Value.int .i64) e7 r.kids (((w.alloc o).alloc p).drewN n) from k7.below (below_drewN (hB o p) n))
  have HB := fun o p => Lib.hid (hB o p)
  clear h4 h5 h6 h7 k4 k5 k6 k7 hB
  have t4 : decide (r.bytes = r.bytes) = true := by simp
  have t5 : decide (r.names = r.names) = true := by simp
  have t6 : decide (r.tags = r.tags) = true := by simp
  have t7 : decide (r.kids = r.kids) = true := by simp
  go_enter Tryz.func62, Tryz.ntmps62
  go_wp2_with fail
  refine (eq_any a4 e4 r.bytes r.bytes c4 f4 _ (by omega) (H4 _ _).out (K4 _ _).out).mono ?_
  rintro e w1 ⟨rfl, n1, rfl⟩
  go_wp2_with fail
  refine (eq_strs a5 e5 r.names r.names c5 f5 _ (by omega) (H5 _ _ _).out (K5 _ _ _).out).mono ?_
  rintro e w1 ⟨rfl, n2, rfl⟩
  go_wp2_with fail
  refine (eq_ints a6 e6 r.tags r.tags c6 f6 _ (by omega) (H6 _ _ _).out (K6 _ _ _).out).mono ?_
  rintro e w1 ⟨rfl, n3, rfl⟩
  go_wp2_with fail
  refine (eq_ints a7 e7 r.kids r.kids c7 f7 _ (by omega) (H7 _ _ _).out (K7 _ _ _).out).mono ?_
  rintro e w1 ⟨rfl, n4, rfl⟩
  go_wp2_with fail
  go_ret
  exact ⟨rfl, below_drewN (HB _ _).out _⟩
set_option maxRecDepth 100000 in
set_option maxHeartbeats 1000000 in
theorem eq_rules (a b : Option Addr) (rs : List RuleV) (ca cb : Nat) (w : World) (hl : rs.length ≤ 1048576) (hs : ∀ r ∈ rs, Short r) (ha : RdR a rs w) (hb : RdR b rs w) :
    Calls Tryz.prog 35 #[.slice a rs.length ca, .slice b rs.length cb] w fun e w' => e = .returned (.bool true) ∧ Below w.heap.size w w' := by
  have HA := Lib.hid ha
  have HC := Lib.hid hb
  have HS := Lib.hid hs
  clear ha hb hs
  go_enter Tryz.func35, Tryz.ntmps35
  go_wp2
  go_loopw [5] (fun i W => ∃ k : Nat, k ≤ rs.length ∧ i = .int .i64 k ∧ Hid (Below w.heap.size w W)) (fun i _ => rs.length - (intOf i).toNat)
  case atStart => exact ⟨0, Nat.zero_le _, rfl, Below.refl _ _⟩
  case round =>
    obtain ⟨k, hk, rfl, hbw⟩ := hrel
    have k0 : (0 : Int) ≤ (k : Int) := by omega
    by_cases hlt : k < rs.length
    · have k1 : (k : Int) < (rs.length : Int) := by omega
      have hsh := Lib.hid (HS.out _ (List.getElem_mem hlt))
      obtain ⟨b1, o1, a4, c4, a5, c5, a6, c6, a7, c7, rfl, ⟨d0, d1, d2, d3, d4, d5, d6, d7⟩, h4, h5, h6, h7⟩ := (HA.out.below hbw.out).at k hlt
      obtain ⟨b2, o2, x4, y4, x5, y5, x6, y6, x7, y7, rfl, ⟨m0, m1, m2, m3, m4, m5, m6, m7⟩, j4, j5, j6, j7⟩ := (HC.out.below hbw.out).at k hlt
      have HR : Hid (IsRule rs[k] _ wr) := ⟨a4, c4, a5, c5, a6, c6, a7, c7, rfl, h4, h5, h6, h7⟩
      have HQ : Hid (IsRule rs[k] _ wr) := ⟨x4, y4, x5, y5, x6, y6, x7, y7, rfl, j4, j5, j6, j7⟩
      clear h4 h5 h6 h7 j4 j5 j6 j7
      generalize rs[k] = r at d0 d1 d2 d3 d4 d5 d6 d7 m0 m1 m2 m3 m4 m5 m6 m7 HR HQ hsh
      go_wp2
      go_still_tail 8, (by kernel_rfl)
      change wpList _ _ _ _ _ wr.drew
      have hbd : Below w.heap.size w wr.drew := ⟨hbw.out.os, hbw.out.tape, hbw.out.output, hbw.out.size, hbw.out.block⟩
      have HR2 : Hid (IsRule r _ wr.drew) := HR.out
      have HQ2 : Hid (IsRule r _ wr.drew) := HQ.out
      have HBD := Lib.hid hbd
      clear HR HQ hbd d0 d1 d2 d3 d4 d5 d6 d7 m0 m1 m2 m3 m4 m5 m6 m7
      generalize wr.drew = w2 at HR2 HQ2 HBD ⊢
      go_wp2_with fail
      refine (eq_rule r _ _ _ hsh.out HR2.out HQ2.out).mono ?_
      rintro e w3 ⟨rfl, hb3⟩
      have HB3 := Lib.hid (HBD.out.trans (hb3.mono HBD.out.size))
      clear hb3
      go_wp2
      go_roundw
      case rel => exact ⟨k + 1, by omega, by go_num, HB3⟩
      case measure => simp [intOf]; omega
    · have k1 : ¬ (k : Int) < (rs.length : Int) := by omega
      go_wp2
      go_ret
      exact ⟨rfl, hbw.out⟩
theorem eq_descr (a b : Option Addr) (rs : List RuleV) (ca cb : Nat) (w : World) (hl : rs.length ≤ 1048576) (hs : ∀ r ∈ rs, Short r) (ha : RdR a rs w) (hb : RdR b rs w) :
    Calls Tryz.prog 15 #[.agg #[.slice a rs.length ca], .agg #[.slice b rs.length cb]] w fun e w' => e = .returned (.bool true) ∧ Below w.heap.size w w' := by
  have hB : ∀ o p, Below w.heap.size w ((w.alloc o).alloc p) := fun o p => ((Below.refl _ _).alloc (Nat.le_refl _) _).alloc (by simp) _
  have HA := fun o p => Lib.hid (ha.below (hB o p))
  have HC := fun o p => Lib.hid (hb.below (hB o p))
  have HB := fun o p => Lib.hid (hB o p)
  have HS := Lib.hid hs
  clear ha hb hB hs
  go_enter Tryz.func15, Tryz.ntmps15
  go_wp2_with fail
  refine (eq_rules a b rs ca cb _ hl HS.out (HA _ _).out (HC _ _).out).mono ?_
  rintro e w1 ⟨rfl, hb1⟩
  have HB1 := Lib.hid ((HB _ _).out.trans (hb1.mono (HB _ _).out.size))
  clear hb1
  go_wp2
  go_ret
  exact ⟨rfl, HB1.out⟩
end Go.Proofs.YtndjefednfcmmaaGreatDoor
