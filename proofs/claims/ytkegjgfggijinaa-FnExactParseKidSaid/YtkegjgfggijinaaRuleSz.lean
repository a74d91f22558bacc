/- Contracts of the laws' sizes of rules and descriptions. -/
import Derived.Test.YtkegjgfggijinaaRules
import Derived.Test.YtkegjgfggijinaaStrMarks
namespace Go.Proofs.Ytkegjgfggijinaa
open Go Go.RowKit
theorem leftN_no {L n : Nat} (h : L < n) : leftN L n = -1 := by unfold leftN; rw [if_neg (by omega)]
theorem leftN_yes {L n : Nat} (h : n ≤ L) : leftN L n = ((L - n : Nat) : Int) := by unfold leftN; rw [if_pos h]; omega
theorem sz_bytes (a : Option Addr) (n cap L : Nat) (w : World) (hL : L ≤ 1048576) (hn : n ≤ 9223372036854775807) :
    Calls Try.prog 76 #[.slice a n cap, .int .i64 (L : Int)] w fun e w' => e = .returned (.int .i64 (leftN L n)) ∧ w = w' := by
  by_cases h : L < n
  · have g : (L : Int) - (n : Int) < 0 := by omega
    go_enter Try.func76, Try.ntmps76
    go_wp2
    go_ret
    exact ⟨ret_int (leftN_no h).symm, rfl⟩
  · have g : ¬ ((L : Int) - (n : Int) < 0) := by omega
    go_enter Try.func76, Try.ntmps76
    go_wp2
    go_ret
    exact ⟨ret_int (by rw [leftN_yes (by omega)]; omega), rfl⟩
theorem sz_ints (a : Option Addr) (n cap L : Nat) (w : World) (hL : L ≤ 1048576) (hn : n ≤ 9223372036854775807) :
    Calls Try.prog 78 #[.slice a n cap, .int .i64 (L : Int)] w fun e w' => e = .returned (.int .i64 (leftN L n)) ∧ w = w' := by
  by_cases h : L < n
  · have g : (L : Int) - (n : Int) < 0 := by omega
    go_enter Try.func78, Try.ntmps78
    go_wp2
    go_ret
    exact ⟨ret_int (leftN_no h).symm, rfl⟩
  · have g : ¬ ((L : Int) - (n : Int) < 0) := by omega
    go_enter Try.func78, Try.ntmps78
    go_wp2
    go_ret
    exact ⟨ret_int (by rw [leftN_yes (by omega)]; omega), rfl⟩
/-- The size of a rule. -/
def ruleSize (r : RuleV) : Nat := r.name.size + r.bytes.length + sizeS r.names + r.tags.length + r.kids.length
/-- The lengths in a rule are ints. -/
def Fits (r : RuleV) : Prop := r.name.size ≤ 9223372036854775807 ∧ r.bytes.length ≤ 9223372036854775807 ∧ r.names.length ≤ 9223372036854775807 ∧ (∀ s ∈ r.names, s.size ≤ 9223372036854775807) ∧ r.tags.length ≤ 9223372036854775807 ∧ r.kids.length ≤ 9223372036854775807
set_option maxRecDepth 100000 in
set_option maxHeartbeats 1000000 in
theorem sz_rule (r : RuleV) (cs : List Value) (L : Nat) (w : World) (hL : L ≤ 1048576) (hf : Fits r) (h : IsRule r cs w) :
    Calls Try.prog 61 #[.agg cs.toArray, .int .i64 (L : Int)] w fun e w' => e = .returned (.int .i64 (leftN L (ruleSize r))) ∧ Below w.heap.size w w' := by
  obtain ⟨a4, c4, a5, c5, a6, c6, a7, c7, rfl, h4, h5, h6, h7⟩ := h
  obtain ⟨f0, f4, f5, f5', f6, f7⟩ := hf
  have HF := Lib.hid f5'
  have hB : ∀ o, Below w.heap.size w (w.alloc o) := fun o => (Below.refl _ _).alloc (Nat.le_refl _) _
  have H5 := fun o => Lib.hid (h5.below (hB o))
  have HB := fun o => Lib.hid (hB o)
  have hs : Hid (ruleSize r = r.name.size + r.bytes.length + sizeS r.names + r.tags.length + r.kids.length) := rfl
  clear f5' h4 h5 h6 h7 hB
  by_cases g0 : L < r.name.size
  · have q0 : (L : Int) - (r.name.size : Int) < 0 := by omega
    go_enter Try.func61, Try.ntmps61
    go_wp2
    go_ret
    exact ⟨ret_int (leftN_no (by have := hs.out; skip; omega)).symm, (HB _).out⟩
  obtain ⟨L1, e1⟩ : ∃ L1, L1 = L - r.name.size := ⟨_, rfl⟩
  have q0 : ¬ ((L : Int) - (r.name.size : Int) < 0) := by omega
  have q1 : (L : Int) - (r.name.size : Int) = (L1 : Int) := by omega
  have b1 : L1 ≤ L := by omega
  have E1 := Lib.hid e1
  clear e1
  go_enter Try.func61, Try.ntmps61
  go_wp2_with fail
  refine (sz_bytes a4 r.bytes.length c4 L1 _ (by omega) f4).mono ?_
  rintro e w1 ⟨rfl, rfl⟩
  by_cases g1 : L1 < r.bytes.length
  · rw [leftN_no g1]
    go_wp2
    go_ret
    exact ⟨ret_int (leftN_no (by have := hs.out; have x1 := E1.out; omega)).symm, (HB _).out⟩
  rw [leftN_yes (by omega)]
  obtain ⟨L2, e2⟩ : ∃ x, x = L1 - r.bytes.length := ⟨_, rfl⟩
  rw [← e2]
  have b2 : L2 ≤ L := by omega
  have E2 := Lib.hid e2
  clear e2
  go_wp2_with fail
  refine (sz_strsL a5 r.names c5 L2 _ (by omega) f5 HF.out (H5 _).out).mono ?_
  rintro e w1 ⟨rfl, rfl⟩
  by_cases g2 : L2 < sizeS r.names
  · rw [leftN_no g2]
    go_wp2
    go_ret
    exact ⟨ret_int (leftN_no (by have := hs.out; have x1 := E1.out; have x2 := E2.out; omega)).symm, (HB _).out⟩
  rw [leftN_yes (by omega)]
  obtain ⟨L3, e3⟩ : ∃ x, x = L2 - sizeS r.names := ⟨_, rfl⟩
  rw [← e3]
  have b3 : L3 ≤ L := by omega
  have E3 := Lib.hid e3
  clear e3
  go_wp2_with fail
  refine (sz_ints a6 r.tags.length c6 L3 _ (by omega) f6).mono ?_
  rintro e w1 ⟨rfl, rfl⟩
  by_cases g3 : L3 < r.tags.length
  · rw [leftN_no g3]
    go_wp2
    go_ret
    exact ⟨ret_int (leftN_no (by have := hs.out; have x1 := E1.out; have x2 := E2.out; have x3 := E3.out; omega)).symm, (HB _).out⟩
  rw [leftN_yes (by omega)]
  obtain ⟨L4, e4⟩ : ∃ x, x = L3 - r.tags.length := ⟨_, rfl⟩
  rw [← e4]
  have b4 : L4 ≤ L := by omega
  have E4 := Lib.hid e4
  clear e4
  go_wp2_with fail
  refine (sz_ints a7 r.kids.length c7 L4 _ (by omega) f7).mono ?_
  rintro e w1 ⟨rfl, rfl⟩
  by_cases g4 : L4 < r.kids.length
  · rw [leftN_no g4]
    go_wp2
    go_ret
    exact ⟨ret_int (leftN_no (by have := hs.out; have x1 := E1.out; have x2 := E2.out; have x3 := E3.out; have x4 := E4.out; omega)).symm, (HB _).out⟩
  rw [leftN_yes (by omega)]
  obtain ⟨L5, e5⟩ : ∃ x, x = L4 - r.kids.length := ⟨_, rfl⟩
  rw [← e5]
  have b5 : L5 ≤ L := by omega
  have E5 := Lib.hid e5
  clear e5
  go_wp2
  go_ret
  have hN : ruleSize r ≤ L ∧ L5 = L - ruleSize r := by
    have := hs.out; have x1 := E1.out; have x2 := E2.out; have x3 := E3.out; have x4 := E4.out; have x5 := E5.out
    omega
  exact ⟨ret_int (by rw [leftN_yes hN.1, hN.2]), (HB _).out⟩
/-- The sizes of the first k rules. -/
def sumR (rs : List RuleV) (k : Nat) : Nat := ((rs.take k).map ruleSize).sum
theorem sumR_next (rs : List RuleV) (k : Nat) (h : k < rs.length) : sumR rs (k + 1) = sumR rs k + ruleSize rs[k] := by
  unfold sumR
  rw [List.take_succ_eq_append_getElem h, List.map_append, List.sum_append]
  simp only [List.map_cons, List.map_nil, List.sum_cons, List.sum_nil, Nat.add_zero]
theorem sumR_le (rs : List RuleV) (k : Nat) : sumR rs k ≤ sumR rs rs.length := by
  unfold sumR
  have e : (rs.map ruleSize).sum = ((rs.take k).map ruleSize).sum + ((rs.drop k).map ruleSize).sum := by
    rw [← List.sum_append, ← List.map_append, List.take_append_drop]
  rw [List.take_length, e]
  exact Nat.le_add_right _ _
/-- The size of a description. -/
def sizeR (rs : List RuleV) : Nat := rs.length + sumR rs rs.length
theorem ruleSize_le (rs : List RuleV) (j : Nat) (h : j < rs.length) : ruleSize rs[j] ≤ sizeR rs := by
  have h1 := sumR_next rs j h
  have h2 := sumR_le rs (j + 1)
  unfold sizeR
  omega
set_option maxRecDepth 100000 in
set_option maxHeartbeats 1000000 in
theorem sz_rules (a : Option Addr) (rs : List RuleV) (cap L : Nat) (w : World) (hL : L ≤ 1048576) (hl : rs.length ≤ 9223372036854775807) (hf : ∀ r ∈ rs, Fits r) (h : RdR a rs w) :
    Calls Try.prog 36 #[.slice a rs.length cap, .int .i64 (L : Int)] w fun e w' => e = .returned (.int .i64 (leftN L (sizeR rs))) ∧ Below w.heap.size w w' := by
  have H := Lib.hid h
  have HF := Lib.hid hf
  clear h hf
  by_cases hbig : L < rs.length
  · have g1 : (L : Int) - (rs.length : Int) < 0 := by omega
    have hr : Hid (leftN L (sizeR rs) = -1) := leftN_no (by unfold sizeR; omega)
    go_enter Try.func36, Try.ntmps36
    go_wp2
    go_ret
    exact ⟨ret_int hr.out.symm, Below.refl _ _⟩
  · have g1 : ¬ ((L : Int) - (rs.length : Int) < 0) := by omega
    go_enter Try.func36, Try.ntmps36
    go_wp2
    clear g1
    go_loopw [1, 5] (fun q i W => ∃ k x : Nat, k ≤ rs.length ∧ i = .int .i64 k ∧ q = .int .i64 (x : Int) ∧ x ≤ L ∧ Hid (x + rs.length + sumR rs k = L) ∧ Hid (Below w.heap.size w W)) (fun _ i _ => rs.length - (intOf i).toNat)
    case atStart => exact ⟨0, L - rs.length, Nat.zero_le _, rfl, by congr 1; omega, by omega, by unfold Hid sumR; simp; omega, Below.refl _ _⟩
    case round =>
      obtain ⟨k, x, hk, rfl, rfl, hx, hsum, hb⟩ := hrel
      have k0 : (0 : Int) ≤ (k : Int) := by omega
      by_cases hlt : k < rs.length
      · have k1 : (k : Int) < (rs.length : Int) := by omega
        have hfit := Lib.hid (HF.out _ (List.getElem_mem hlt))
        have hnx := Lib.hid (sumR_next rs k hlt)
        have hto := Lib.hid (sumR_le rs (k + 1))
        obtain ⟨b, off, a4, c4, a5, c5, a6, c6, a7, c7, rfl, ⟨d0, d1, d2, d3, d4, d5, d6, d7⟩, h4, h5, h6, h7⟩ := (H.out.below hb.out).at k hlt
        have HR : Hid (IsRule rs[k] _ wr) := ⟨a4, c4, a5, c5, a6, c6, a7, c7, rfl, h4, h5, h6, h7⟩
        clear h4 h5 h6 h7
        generalize rs[k] = r at d0 d1 d2 d3 d4 d5 d6 d7 HR hfit hnx
        go_wp2_with fail
        refine (sz_rule r _ x _ (by omega) hfit.out HR.out).mono ?_
        rintro e w1 ⟨rfl, hb1⟩
        have HB1 := Lib.hid (hb.out.trans (hb1.mono hb.out.size))
        clear hb1 d0 d1 d2 d3 d4 d5 d6 d7 HR
        by_cases hle : ruleSize r ≤ x
        · obtain ⟨y, hy⟩ : ∃ y, y = x - ruleSize r := ⟨_, rfl⟩
          have hsum' : Hid (y + rs.length + sumR rs (k + 1) = L) := by
            have h1 := hsum.out
            have h2 := hnx.out
            show _ = _
            omega
          have hyL : y ≤ L := by omega
          rw [leftN_yes hle, ← hy]
          clear hy hle
          go_wp2
          go_roundw
          case rel => exact ⟨k + 1, y, by omega, by go_num, rfl, hyL, hsum', HB1⟩
          case measure => simp [intOf]; omega
        · have hres : Hid (leftN L (sizeR rs) = -1) := by
            have h1 := hsum.out
            have h2 := hnx.out
            have h3 := hto.out
            exact leftN_no (by unfold sizeR; omega)
          rw [leftN_no (by omega)]
          go_wp2
          go_ret
          exact ⟨ret_int hres.out.symm, HB1.out⟩
      · have k1 : ¬ (k : Int) < (rs.length : Int) := by omega
        obtain rfl : k = rs.length := by omega
        have hres : Hid (leftN L (sizeR rs) = (x : Int)) := by
          have h1 := hsum.out
          show leftN L (sizeR rs) = (x : Int)
          rw [leftN_yes (by unfold sizeR; omega)]
          unfold sizeR
          omega
        go_wp2
        go_ret
        exact ⟨ret_int hres.out.symm, hb.out⟩
theorem sz_descr (a : Option Addr) (rs : List RuleV) (cap L : Nat) (w : World) (hL : L ≤ 1048576) (hl : rs.length ≤ 9223372036854775807) (hf : ∀ r ∈ rs, Fits r) (h : RdR a rs w) :
    Calls Try.prog 16 #[.agg #[.slice a rs.length cap], .int .i64 (L : Int)] w fun e w' => e = .returned (.int .i64 (leftN L (sizeR rs))) ∧ Below w.heap.size w w' := by
  have hB : ∀ o, Below w.heap.size w (w.alloc o) := fun o => (Below.refl _ _).alloc (Nat.le_refl _) _
  have H := fun o => Lib.hid (h.below (hB o))
  have HB := fun o => Lib.hid (hB o)
  have HF := Lib.hid hf
  clear h hB hf
  go_enter Try.func16, Try.ntmps16
  go_wp2_with fail
  refine (sz_rules a rs cap L _ hL hl HF.out (H _).out).mono ?_
  rintro e w1 ⟨rfl, hb1⟩
  have HB1 := Lib.hid ((HB _).out.trans (hb1.mono (HB _).out.size))
  clear hb1
  by_cases g : sizeR rs ≤ L
  · rw [leftN_yes g]
    go_wp2
    go_ret
    exact ⟨ret_int (leftN_yes g).symm, HB1.out⟩
  · rw [leftN_no (by omega)]
    go_wp2
    go_ret
    exact ⟨ret_int (leftN_no (by omega)).symm, HB1.out⟩
end Go.Proofs.Ytkegjgfggijinaa
