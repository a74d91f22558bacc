/- The contract of the laws' markText: the letter m and the decimal digits of a number above 0; only new memory is written. Contracts of the laws' helpers on slices of strings: marking, looking for the marks, the size. Contracts of the laws' sizes of rules and descriptions. The strings in a description that is not too large are not too long. Arguments as a row reads them: bytes, ints. Arguments as a row reads them: descriptions. Contracts of the laws' comparison of rules and descriptions, where both read the same. -/
import Derived.Test.YtefkhknfjohnaaaGBase
import Derived.Laws.BytesArg
import Derived.Deep.RegionWith
import Derived.Test.YtefkhknfjohnaaaGRul
import Derived.Test.YtefkhknfjohnaaaRows
import Derived.ProofKit
import Derived.OpenShut
import Derived.SliceStrings
import Derived.Carry
import Derived.Deep.Slices
import Derived.StillTailTactics
namespace Go.Proofs.Ytefkhknfjohnaaa
open Go Go.RowKit
theorem cons_bytes (c : UInt8) (l : List UInt8) : (⟨#[c]⟩ : ByteArray) ++ ⟨l.toArray⟩ = ⟨(c :: l).toArray⟩ := by
  rw [show (⟨#[c]⟩ : ByteArray) = ⟨[c].toArray⟩ from rfl, ByteArray.mk_append_mk]; rfl
theorem bytes_size (l : List UInt8) : (⟨l.toArray⟩ : ByteArray).size = l.length := by simp [ByteArray.size]
/-- The byte of the digit k. -/
def dgt (k : Int) : UInt8 := UInt8.ofNat (48 + k).toNat
theorem conv_one (W : World) (k : Int) :
    (convert 22 9 (.slice (some ⟨W.heap.size, 0, none⟩) 1 1)).run Try.prog (W.alloc (.cells #[.int .u8 (48 + k)] 5)) = .ok (.string ⟨#[dgt k]⟩) (W.alloc (.cells #[.int .u8 (48 + k)] 5)) := by
  have h := run_convert_bytes_arg (P := Try.prog) (W.alloc (.cells #[.int .u8 (48 + k)] 5)) 22 5 Try.underlying22 Try.underlying5 W.heap.size 0 1 1 [48 + k] rfl
    (fun i hi => by obtain rfl : i = 0 := by omega
                    simp) 9 Try.underlying9
  exact h
theorem add_one (W : World) (c : UInt8) (l : List UInt8) (h : l.length ≤ 20) :
    (Op.stringOp .add ⟨#[c]⟩ ⟨l.toArray⟩).run Try.prog W = .ok (.string ⟨(c :: l).toArray⟩) W := by
  rw [run_string_add_sum W _ _ (by have e1 := bytes_size l; have e2 : (⟨#[c]⟩ : ByteArray).size = 1 := rfl; omega), cons_bytes]
theorem digs_next {m : Int} {l : List UInt8} {u : Nat} (h0 : 0 < m) (h : Hid (digs m.natAbs ++ l = digs u)) : Hid (digs (m / 10).natAbs ++ dgt (m % 10) :: l = digs u) := by
  have h' := h.out
  rw [digs_step (by omega), show m.natAbs / 10 = (m / 10).natAbs by omega, show 48 + m.natAbs % 10 = (48 + m % 10).toNat by omega, List.append_assoc] at h'
  exact h'
/-- The mark of k. -/
def markT (k : Nat) : ByteArray := ⟨(109 :: digs k).toArray⟩
end Go.Proofs.Ytefkhknfjohnaaa
namespace Go.Proofs.Ytefkhknfjohnaaa
open Go Go.RowKit
/-- The marks k, k + 1, .. as strings. -/
def marksS (k n : Nat) : List ByteArray := (List.range n).map fun j => markT (k + j)
theorem marksS_length (k n : Nat) : (marksS k n).length = n := by simp [marksS]
theorem marksS_at (k n j : Nat) (h : j < (marksS k n).length) : (marksS k n)[j] = markT (k + j) := by simp [marksS]
/-- The first i cells are marked. -/
def MarkedS (b off n k i : Nat) (w W : World) : Prop :=
  w.grownBy W (some b) ∧ ∀ j, j < n → (∃ x : ByteArray, W.cell? ⟨b, off + j, none⟩ = some (.string x) ∧ (j < i → x = markT (k + j))) ∧ W.frozen? ⟨b, off + j, none⟩ = false
theorem MarkedS.below {b off n k i : Nat} {w W W' : World} (h : MarkedS b off n k i w W) (hb : Below W.heap.size W W') : MarkedS b off n k i w W' := by
  refine ⟨grown_below h.1 hb, fun j hj => ?_⟩
  obtain ⟨⟨x, hx, hxi⟩, hf⟩ := h.2 j hj
  exact ⟨⟨x, (hb.cell (cell_lt hx)).trans hx, hxi⟩, (hb.frozen (p := ⟨b, off + j, none⟩) (cell_lt hx)).trans hf⟩
theorem MarkedS.next {b off n k i : Nat} {w W : World} (h : MarkedS b off n k i w W) (hi : i < n) : MarkedS b off n k (i + 1) w (W.setCell ⟨b, off + i, none⟩ (.string (markT (k + i)))) := by
  refine ⟨grown_set h.1 (off + i) _, fun j hj => ⟨?_, by simpa using (h.2 j hj).2⟩⟩
  obtain ⟨⟨x, hx, hxi⟩, _⟩ := h.2 j hj
  by_cases e : j = i
  · subst e
    exact ⟨_, World.cell?_setCell_same _ _ _ hx, fun _ => rfl⟩
  · refine ⟨x, (World.cell?_setCell_other _ _ _ _ (fun he => e (by have := congrArg Addr.off he; simp at this; omega))).trans hx, fun hlt => hxi (by omega)⟩
/-- A row is marked: only its block has turned. -/
def MarkOutS (B : Nat) (a : Option Addr) (n cap k : Nat) (w : World) (e : Ending) (w' : World) : Prop :=
  e = .returned (.int .i64 ((k + n : Nat) : Int)) ∧ RowS B a (marksS k n) cap w' ∧ Touch B a n w w'
/-- The sizes of the first k strings. -/
def sumTo (ss : List ByteArray) (k : Nat) : Nat := ((ss.take k).map ByteArray.size).sum
theorem sumTo_next (ss : List ByteArray) (k : Nat) (h : k < ss.length) : sumTo ss (k + 1) = sumTo ss k + ss[k].size := by
  unfold sumTo
  rw [List.take_succ_eq_append_getElem h, List.map_append, List.sum_append]
  simp only [List.map_cons, List.map_nil, List.sum_cons, List.sum_nil, Nat.add_zero]
theorem sumTo_le (ss : List ByteArray) (k : Nat) : sumTo ss k ≤ sumTo ss ss.length := by
  unfold sumTo
  have e : (ss.map ByteArray.size).sum = ((ss.take k).map ByteArray.size).sum + ((ss.drop k).map ByteArray.size).sum := by
    rw [← List.sum_append, ← List.map_append, List.take_append_drop]
  rw [List.take_length, e]
  exact Nat.le_add_right _ _
theorem size_le (ss : List ByteArray) (j : Nat) (h : j < ss.length) : ss[j].size ≤ sumTo ss ss.length := by
  have h1 := sumTo_next ss j h
  have h2 := sumTo_le ss (j + 1)
  omega
/-- The size of a list of strings: its length and its strings' lengths. -/
def sizeS (ss : List ByteArray) : Nat := ss.length + sumTo ss ss.length
/-- What is left of L behind n, or -1. -/
def leftN (L n : Nat) : Int := if n ≤ L then (L : Int) - (n : Int) else -1
/-- What is left of a million behind a list of strings, or -1. -/
def leftS (ss : List ByteArray) : Int := leftN 1048576 (sizeS ss)
set_option maxRecDepth 100000 in
theorem sz_strsL (a : Option Addr) (ss : List ByteArray) (cap L : Nat) (w : World) (hL : L ≤ 1048576) (hl : ss.length ≤ 9223372036854775807) (hs : ∀ s ∈ ss, s.size ≤ 9223372036854775807) (h : RdS a ss w) :
    Calls Try.prog 81 #[.slice a ss.length cap, .int .i64 (L : Int)] w fun e w' => e = .returned (.int .i64 (leftN L (sizeS ss))) ∧ w = w' := by
  have H := Lib.hid h
  have HS := Lib.hid hs
  clear h hs
  by_cases hbig : L < ss.length
  · have g1 : (L : Int) - (ss.length : Int) < 0 := by omega
    have hr : Hid (leftN L (sizeS ss) = -1) := by unfold Hid leftN; rw [if_neg (by unfold sizeS; omega)]
    go_enter Try.func81, Try.ntmps81
    go_wp2
    go_ret
    exact ⟨ret_int hr.out.symm, rfl⟩
  · have g1 : ¬ ((L : Int) - (ss.length : Int) < 0) := by omega
    go_enter Try.func81, Try.ntmps81
    go_wp2
    clear g1
    go_loop [1, 5] (fun q i => ∃ k r : Nat, k ≤ ss.length ∧ i = .int .i64 k ∧ q = .int .i64 (r : Int) ∧ r ≤ L ∧ Hid (r + ss.length + sumTo ss k = L)) (fun _ i => ss.length - (intOf i).toNat)
    case atStart => exact ⟨0, L - ss.length, Nat.zero_le _, rfl, by congr 1; omega, by omega, by unfold Hid sumTo; simp; omega⟩
    case round =>
      obtain ⟨k, r, hk, rfl, rfl, hr, hsum⟩ := hrel
      have k0 : (0 : Int) ≤ (k : Int) := by omega
      by_cases hlt : k < ss.length
      · obtain ⟨b, off, rfl, hc⟩ := H.out k hlt
        have k1 : (k : Int) < (ss.length : Int) := by omega
        have hsz := HS.out _ (List.getElem_mem hlt)
        have hnx := Lib.hid (sumTo_next ss k hlt)
        have hto := Lib.hid (sumTo_le ss (k + 1))
        generalize ss[k] = x at hc hsz hnx
        by_cases hle : x.size ≤ r
        · have g2 : ¬ ((r : Int) - (x.size : Int) < 0) := by omega
          have hsum' : Hid (r - x.size + ss.length + sumTo ss (k + 1) = L) := by
            have h1 := hsum.out
            have h2 := hnx.out
            show _ = _
            omega
          go_wp2
          go_round
          case rel => exact ⟨k + 1, r - x.size, by omega, by go_num, by congr 1; omega, by omega, hsum'⟩
          case measure => simp [intOf]; omega
        · have g2 : (r : Int) - (x.size : Int) < 0 := by omega
          have hres : Hid (leftN L (sizeS ss) = -1) := by
            have h1 := hsum.out
            have h2 := hnx.out
            have h3 := hto.out
            unfold Hid leftN
            rw [if_neg (by unfold sizeS; omega)]
          go_wp2
          go_ret
          exact ⟨ret_int hres.out.symm, rfl⟩
      · have k1 : ¬ (k : Int) < (ss.length : Int) := by omega
        obtain rfl : k = ss.length := by omega
        have hres : Hid (leftN L (sizeS ss) = (r : Int)) := by
          have h1 := hsum.out
          unfold Hid leftN
          rw [if_pos (by unfold sizeS; omega)]
          unfold sizeS
          omega
        go_wp2
        go_ret
        exact ⟨ret_int hres.out.symm, rfl⟩
theorem sz_strs (a : Option Addr) (ss : List ByteArray) (cap : Nat) (w : World) (hl : ss.length ≤ 9223372036854775807) (hs : ∀ s ∈ ss, s.size ≤ 9223372036854775807) (h : RdS a ss w) :
    Calls Try.prog 81 #[.slice a ss.length cap, .int .i64 1048576] w fun e w' => e = .returned (.int .i64 (leftS ss)) ∧ w = w' := sz_strsL a ss cap 1048576 w (Nat.le_refl _) hl hs h
end Go.Proofs.Ytefkhknfjohnaaa
namespace Go.Proofs.Ytefkhknfjohnaaa
open Go Go.RowKit
theorem leftN_no {L n : Nat} (h : L < n) : leftN L n = -1 := by unfold leftN; rw [if_neg (by omega)]
theorem leftN_yes {L n : Nat} (h : n ≤ L) : leftN L n = ((L - n : Nat) : Int) := by unfold leftN; rw [if_pos h]; omega
theorem sz_bytes (a : Option Addr) (n cap L : Nat) (w : World) (hL : L ≤ 1048576) (hn : n ≤ 9223372036854775807) :
    Calls Try.prog 80 #[.slice a n cap, .int .i64 (L : Int)] w fun e w' => e = .returned (.int .i64 (leftN L n)) ∧ w = w' := by
  by_cases h : L < n
  · have g : (L : Int) - (n : Int) < 0 := by omega
    go_enter Try.func80, Try.ntmps80
    go_wp2
    go_ret
    exact ⟨ret_int (leftN_no h).symm, rfl⟩
  · have g : ¬ ((L : Int) - (n : Int) < 0) := by omega
    go_enter Try.func80, Try.ntmps80
    go_wp2
    go_ret
    exact ⟨ret_int (by rw [leftN_yes (by omega)]; omega), rfl⟩
theorem sz_ints (a : Option Addr) (n cap L : Nat) (w : World) (hL : L ≤ 1048576) (hn : n ≤ 9223372036854775807) :
    Calls Try.prog 82 #[.slice a n cap, .int .i64 (L : Int)] w fun e w' => e = .returned (.int .i64 (leftN L n)) ∧ w = w' := by
  by_cases h : L < n
  · have g : (L : Int) - (n : Int) < 0 := by omega
    go_enter Try.func82, Try.ntmps82
    go_wp2
    go_ret
    exact ⟨ret_int (leftN_no h).symm, rfl⟩
  · have g : ¬ ((L : Int) - (n : Int) < 0) := by omega
    go_enter Try.func82, Try.ntmps82
    go_wp2
    go_ret
    exact ⟨ret_int (by rw [leftN_yes (by omega)]; omega), rfl⟩
/-- The size of a rule. -/
def ruleSize (r : RuleV) : Nat := r.name.size + r.bytes.length + sizeS r.names + r.tags.length + r.kids.length
/-- The lengths in a rule are ints. -/
def Fits (r : RuleV) : Prop := r.name.size ≤ 9223372036854775807 ∧ r.bytes.length ≤ 9223372036854775807 ∧ r.names.length ≤ 9223372036854775807 ∧ (∀ s ∈ r.names, s.size ≤ 9223372036854775807) ∧ r.tags.length ≤ 9223372036854775807 ∧ r.kids.length ≤ 9223372036854775807
set_option maxRecDepth 100000 in
set_option maxHeartbeats 1000000 in
theorem sz_rule (r : RuleV) (cs : List Value) (L : Nat) (w : World) (hL : L ≤ 1048576) (hf : Fits r) (h : IsRule r cs w) :
    Calls Try.prog 57 #[.agg cs.toArray, .int .i64 (L : Int)] w fun e w' => e = .returned (.int .i64 (leftN L (ruleSize r))) ∧ Below w.heap.size w w' := by
  obtain ⟨a4, c4, a5, c5, a6, c6, a7, c7, rfl, h4, h5, h6, h7⟩ := h
  obtain ⟨f0, f4, f5, f5', f6, f7⟩ := hf
  have HF := Lib.hid f5'
  have hB : ∀ o, Below w.heap.size w (w.alloc o) := fun o => (Below.refl _ _).alloc (Nat.le_refl _) _
  have H5 := fun o => Lib.hid (h5.below (hB o))
  have HB := fun o => Lib.hid (hB o)
  have hs : Hid (ruleSize r = r.name.size + r.bytes.length + sizeS r.names + r.tags.length + r.kids.length) := rfl
  clear f5' h4 h5 h6 h7 hB
  by_cases g0 : L < r.name.size
  · have q0 : (L : Int) - (r.name.size : Int) < 0 := by omega
    go_enter Try.func57, Try.ntmps57
    go_wp2
    go_ret
    exact ⟨ret_int (leftN_no (by have := hs.out; skip; omega)).symm, (HB _).out⟩
  obtain ⟨L1, e1⟩ : ∃ L1, L1 = L - r.name.size := ⟨_, rfl⟩
  have q0 : ¬ ((L : Int) - (r.name.size : Int) < 0) := by omega
  have q1 : (L : Int) - (r.name.size : Int) = (L1 : Int) := by omega
  have b1 : L1 ≤ L := by omega
  have E1 := Lib.hid e1
  clear e1
  go_enter Try.func57, Try.ntmps57
  go_wp2_with fail
  refine (sz_bytes a4 r.bytes.length c4 L1 _ (by omega) f4).mono ?_
  rintro e w1 ⟨rfl, rfl⟩
  by_cases g1 : L1 < r.bytes.length
  · rw [leftN_no g1]
    go_wp2
    go_ret
    exact ⟨ret_int (leftN_no (by have := hs.out; have x1 := E1.out; omega)).symm, (HB _).out⟩
  rw [leftN_yes (by omega)]
  obtain ⟨L2, e2⟩ : ∃ x, x = L1 - r.bytes.length := ⟨_, rfl⟩
  rw [← e2]
  have b2 : L2 ≤ L := by omega
  have E2 := Lib.hid e2
  clear e2
  go_wp2_with fail
  refine (sz_strsL a5 r.names c5 L2 _ (by omega) f5 HF.out (H5 _).out).mono ?_
  rintro e w1 ⟨rfl, rfl⟩
  by_cases g2 : L2 < sizeS r.names
  · rw [leftN_no g2]
    go_wp2
    go_ret
    exact ⟨ret_int (leftN_no (by have := hs.out; have x1 := E1.out; have x2 := E2.out; omega)).symm, (HB _).out⟩
  rw [leftN_yes (by omega)]
  obtain ⟨L3, e3⟩ : ∃ x, x = L2 - sizeS r.names := ⟨_, rfl⟩
  rw [← e3]
  have b3 : L3 ≤ L := by omega
  have E3 := Lib.hid e3
  clear e3
  go_wp2_with fail
  refine (sz_ints a6 r.tags.length c6 L3 _ (by omega) f6).mono ?_
  rintro e w1 ⟨rfl, rfl⟩
  by_cases g3 : L3 < r.tags.length
  · rw [leftN_no g3]
    go_wp2
    go_ret
    exact ⟨ret_int (leftN_no (by have := hs.out; have x1 := E1.out; have x2 := E2.out; have x3 := E3.out; omega)).symm, (HB _).out⟩
  rw [leftN_yes (by omega)]
  obtain ⟨L4, e4⟩ : ∃ x, x = L3 - r.tags.length := ⟨_, rfl⟩
  rw [← e4]
  have b4 : L4 ≤ L := by omega
  have E4 := Lib.hid e4
  clear e4
  go_wp2_with fail
  refine (sz_ints a7 r.kids.length c7 L4 _ (by omega) f7).mono ?_
  rintro e w1 ⟨rfl, rfl⟩
  by_cases g4 : L4 < r.kids.length
  · rw [leftN_no g4]
    go_wp2
    go_ret
    exact ⟨ret_int (leftN_no (by have := hs.out; have x1 := E1.out; have x2 := E2.out; have x3 := E3.out; have x4 := E4.out; omega)).symm, (HB _).out⟩
  rw [leftN_yes (by omega)]
  obtain ⟨L5, e5⟩ : ∃ x, x = L4 - r.kids.length := ⟨_, rfl⟩
  rw [← e5]
  have b5 : L5 ≤ L := by omega
  have E5 := Lib.hid e5
  clear e5
  go_wp2
  go_ret
  have hN : ruleSize r ≤ L ∧ L5 = L - ruleSize r := by
    have := hs.out; have x1 := E1.out; have x2 := E2.out; have x3 := E3.out; have x4 := E4.out; have x5 := E5.out
    omega
  exact ⟨ret_int (by rw [leftN_yes hN.1, hN.2]), (HB _).out⟩
/-- The sizes of the first k rules. -/
def sumR (rs : List RuleV) (k : Nat) : Nat := ((rs.take k).map ruleSize).sum
theorem sumR_next (rs : List RuleV) (k : Nat) (h : k < rs.length) : sumR rs (k + 1) = sumR rs k + ruleSize rs[k] := by
  unfold sumR
  rw [List.take_succ_eq_append_getElem h, List.map_append, List.sum_append]
  simp only [List.map_cons, List.map_nil, List.sum_cons, List.sum_nil, Nat.add_zero]
theorem sumR_le (rs : List RuleV) (k : Nat) : sumR rs k ≤ sumR rs rs.length := by
  unfold sumR
  have e : (rs.map ruleSize).sum = ((rs.take k).map ruleSize).sum + ((rs.drop k).map ruleSize).sum := by
    rw [← List.sum_append, ← List.map_append, List.take_append_drop]
  rw [List.take_length, e]
  exact Nat.le_add_right _ _
/-- The size of a description. -/
def sizeR (rs : List RuleV) : Nat := rs.length + sumR rs rs.length
theorem ruleSize_le (rs : List RuleV) (j : Nat) (h : j < rs.length) : ruleSize rs[j] ≤ sizeR rs := by
  have h1 := sumR_next rs j h
  have h2 := sumR_le rs (j + 1)
  unfold sizeR
  omega
set_option maxRecDepth 100000 in
set_option maxHeartbeats 1000000 in
theorem sz_rules (a : Option Addr) (rs : List RuleV) (cap L : Nat) (w : World) (hL : L ≤ 1048576) (hl : rs.length ≤ 9223372036854775807) (hf : ∀ r ∈ rs, Fits r) (h : RdR a rs w) :
    Calls Try.prog 35 #[.slice a rs.length cap, .int .i64 (L : Int)] w fun e w' => e = .returned (.int .i64 (leftN L (sizeR rs))) ∧ Below w.heap.size w w' := by
  have H := Lib.hid h
  have HF := Lib.hid hf
  clear h hf
  by_cases hbig : L < rs.length
  · have g1 : (L : Int) - (rs.length : Int) < 0 := by omega
    have hr : Hid (leftN L (sizeR rs) = -1) := leftN_no (by unfold sizeR; omega)
    go_enter Try.func35, Try.ntmps35
    go_wp2
    go_ret
    exact ⟨ret_int hr.out.symm, Below.refl _ _⟩
  · have g1 : ¬ ((L : Int) - (rs.length : Int) < 0) := by omega
    go_enter Try.func35, Try.ntmps35
    go_wp2
    clear g1
    go_loopw [1, 5] (fun q i W => ∃ k x : Nat, k ≤ rs.length ∧ i = .int .i64 k ∧ q = .int .i64 (x : Int) ∧ x ≤ L ∧ Hid (x + rs.length + sumR rs k = L) ∧ Hid (Below w.heap.size w W)) (fun _ i _ => rs.length - (intOf i).toNat)
    case atStart => exact ⟨0, L - rs.length, Nat.zero_le _, rfl, by congr 1; omega, by omega, by unfold Hid sumR; simp; omega, Below.refl _ _⟩
    case round =>
      obtain ⟨k, x, hk, rfl, rfl, hx, hsum, hb⟩ := hrel
      have k0 : (0 : Int) ≤ (k : Int) := by omega
      by_cases hlt : k < rs.length
      · have k1 : (k : Int) < (rs.length : Int) := by omega
        have hfit := Lib.hid (HF.out _ (List.getElem_mem hlt))
        have hnx := Lib.hid (sumR_next rs k hlt)
        have hto := Lib.hid (sumR_le rs (k + 1))
        obtain ⟨b, off, a4, c4, a5, c5, a6, c6, a7, c7, rfl, ⟨d0, d1, d2, d3, d4, d5, d6, d7⟩, h4, h5, h6, h7⟩ := (H.out.below hb.out).at k hlt
        have HR : Hid (IsRule rs[k] _ wr) := ⟨a4, c4, a5, c5, a6, c6, a7, c7, rfl, h4, h5, h6, h7⟩
        clear h4 h5 h6 h7
        generalize rs[k] = r at d0 d1 d2 d3 d4 d5 d6 d7 HR hfit hnx
        go_wp2_with fail
        refine (sz_rule r _ x _ (by omega) hfit.out HR.out).mono ?_
        rintro e w1 ⟨rfl, hb1⟩
        have HB1 := Lib.hid (hb.out.trans (hb1.mono hb.out.size))
        clear hb1 d0 d1 d2 d3 d4 d5 d6 d7 HR
        by_cases hle : ruleSize r ≤ x
        · obtain ⟨y, hy⟩ : ∃ y, y = x - ruleSize r := ⟨_, rfl⟩
          have hsum' : Hid (y + rs.length + sumR rs (k + 1) = L) := by
            have h1 := hsum.out
            have h2 := hnx.out
            show _ = _
            omega
          have hyL : y ≤ L := by omega
          rw [leftN_yes hle, ← hy]
          clear hy hle
          go_wp2
          go_roundw
          case rel => exact ⟨k + 1, y, by omega, by go_num, rfl, hyL, hsum', HB1⟩
          case measure => simp [intOf]; omega
        · have hres : Hid (leftN L (sizeR rs) = -1) := by
            have h1 := hsum.out
            have h2 := hnx.out
            have h3 := hto.out
            exact leftN_no (by unfold sizeR; omega)
          rw [leftN_no (by omega)]
          go_wp2
          go_ret
          exact ⟨ret_int hres.out.symm, HB1.out⟩
      · have k1 : ¬ (k : Int) < (rs.length : Int) := by omega
        obtain rfl : k = rs.length := by omega
        have hres : Hid (leftN L (sizeR rs) = (x : Int)) := by
          have h1 := hsum.out
          show leftN L (sizeR rs) = (x : Int)
          rw [leftN_yes (by unfold sizeR; omega)]
          unfold sizeR
          omega
        go_wp2
        go_ret
        exact ⟨ret_int hres.out.symm, hb.out⟩
theorem sz_descr (a : Option Addr) (rs : List RuleV) (cap L : Nat) (w : World) (hL : L ≤ 1048576) (hl : rs.length ≤ 9223372036854775807) (hf : ∀ r ∈ rs, Fits r) (h : RdR a rs w) :
    Calls Try.prog 14 #[.agg #[.slice a rs.length cap], .int .i64 (L : Int)] w fun e w' => e = .returned (.int .i64 (leftN L (sizeR rs))) ∧ Below w.heap.size w w' := by
  have hB : ∀ o, Below w.heap.size w (w.alloc o) := fun o => (Below.refl _ _).alloc (Nat.le_refl _) _
  have H := fun o => Lib.hid (h.below (hB o))
  have HB := fun o => Lib.hid (hB o)
  have HF := Lib.hid hf
  clear h hB hf
  go_enter Try.func14, Try.ntmps14
  go_wp2_with fail
  refine (sz_rules a rs cap L _ hL hl HF.out (H _).out).mono ?_
  rintro e w1 ⟨rfl, hb1⟩
  have HB1 := Lib.hid ((HB _).out.trans (hb1.mono (HB _).out.size))
  clear hb1
  by_cases g : sizeR rs ≤ L
  · rw [leftN_yes g]
    go_wp2
    go_ret
    exact ⟨ret_int (leftN_yes g).symm, HB1.out⟩
  · rw [leftN_no (by omega)]
    go_wp2
    go_ret
    exact ⟨ret_int (leftN_no (by omega)).symm, HB1.out⟩
end Go.Proofs.Ytefkhknfjohnaaa
namespace Go.Proofs.Ytefkhknfjohnaaa
open Go Go.RowKit
theorem size_in {ss : List ByteArray} {s : ByteArray} (h : s ∈ ss) : s.size ≤ sizeS ss := by
  obtain ⟨j, hj, rfl⟩ := List.getElem_of_mem h
  have h1 := sumTo_next ss j hj
  have h2 := sumTo_le ss (j + 1)
  unfold sizeS
  omega
theorem spelt_of {rs : List RuleV} (h : sizeR rs ≤ 1048576) : ∀ r ∈ rs, Spelt r := fun r hr => by
  obtain ⟨j, hj, rfl⟩ := List.getElem_of_mem hr
  have h1 := ruleSize_le rs j hj
  unfold ruleSize at h1
  exact ⟨by omega, fun s hs => by have := size_in hs; omega⟩
end Go.Proofs.Ytefkhknfjohnaaa
namespace Go.Proofs.Ytefkhknfjohnaaa
open Go Go.ChangeShapes Go.WideShapes Go.ChangeAt Go.RowKit
theorem own : ownKnob Try.prog.godebug = none := by kernel_rfl
theorem laidOut : laidOutB Try.prog = true := by kernel_rfl
theorem cellsU8 : Try.prog.cellsOf 5 = 1 := by kernel_rfl
/-- A slice of bytes that came in. -/
def Arg (a : Option Addr) (bs : List UInt8) (cap : Nat) (w : World) : Prop := Rd a bs w ∧ bs.length ≤ cap ∧ (a = none → cap = 0) ∧ cap ≤ 9223372036854775807
theorem bytes_arg {H : Type} {enc : TypeId × Value → H} {W : World} {a : Option Addr} {len cap : Nat} {d : DataW H} {p : List MemPlace}
    (h : DataW.Trod enc Try.prog W 0 (fun _ => true) true 22 (.slice a len cap) d p) : ∃ bs : List UInt8, len = bs.length ∧ Arg a bs cap W := by
  obtain ⟨fuel, hf⟩ := h
  rcases open_ints Try.underlying22 Try.underlying5 cellsU8 hf with ⟨hcs, hx⟩ | ⟨ad, len', cap', zs, hcs, _, hl, hm, hz, hx, hcell, hwz⟩
  · simp [Value.cells] at hcs
    obtain ⟨rfl, rfl, rfl⟩ := hcs
    exact ⟨[], rfl, fun j hj => by simp at hj, by simp, fun _ => rfl, by omega⟩
  · simp [Value.cells] at hcs
    obtain ⟨rfl, rfl, rfl⟩ := hcs
    simp only [if_true] at hz
    have hlen : ((zs.take len).map fun z => UInt8.ofNat z.toNat).length = len := by simp; omega
    refine ⟨(zs.take len).map fun z => UInt8.ofNat z.toNat, hlen.symm, fun j hj => ?_, by omega, (fun e => by cases e), by unfold maxLen at hm; omega⟩
    have hj2 : j < len := by omega
    obtain ⟨b, off, rfl, hc⟩ := ints_at hcell (by omega)
    refine ⟨b, off, rfl, ?_⟩
    have hjz : j < zs.length := by omega
    have hmem : zs[j] ∈ zs := List.getElem_mem hjz
    have h0 := hwz _ hmem
    have e1 : IntKind.u8.min = 0 := rfl
    have e2 : IntKind.u8.max = 255 := rfl
    simp only [Lit.wf, e1, e2, Bool.and_eq_true, decide_eq_true_eq] at h0
    rw [hc j hjz]
    simp only [List.getElem_map, List.getElem_take]
    rw [UInt8.toNat_ofNat', Nat.mod_eq_of_lt (by omega)]
    simp [List.getD, List.getElem?_eq_getElem hjz]
    omega
theorem i64_arg {n : Int} (h : (Lit.int .i64 n).wf = true) : I64 n := by
  have e1 : IntKind.i64.min = -9223372036854775808 := rfl
  have e2 : IntKind.i64.max = 9223372036854775807 := rfl
  simp only [Lit.wf, e1, e2, Bool.and_eq_true, decide_eq_true_eq] at h
  exact h
theorem u8_arg {n : Int} (h : (Lit.int .u8 n).wf = true) : 0 ≤ n ∧ n ≤ 255 := by
  have e1 : IntKind.u8.min = 0 := rfl
  have e2 : IntKind.u8.max = 255 := rfl
  simp only [Lit.wf, e1, e2, Bool.and_eq_true, decide_eq_true_eq] at h
  exact h
theorem u8_byte {n : Int} (h : (Lit.int .u8 n).wf = true) : ∃ c : UInt8, n = (c.toNat : Int) := by
  obtain ⟨h0, h1⟩ := u8_arg h
  exact ⟨UInt8.ofNat n.toNat, by rw [UInt8.toNat_ofNat', Nat.mod_eq_of_lt (by omega)]; omega⟩
/-- A slice of strings that came in. -/
def ArgS (a : Option Addr) (ss : List ByteArray) (cap : Nat) (w : World) : Prop := RdF Value.string a ss w ∧ ss.length ≤ cap ∧ (a = none → cap = 0) ∧ cap ≤ 9223372036854775807 ∧ ∀ s ∈ ss, s.size ≤ 9223372036854775807
theorem strings_arg {H : Type} {enc : TypeId × Value → H} {W : World} {a : Option Addr} {len cap : Nat} {d : DataW H} {p : List MemPlace} {t e : TypeId} (ht : Try.prog.underlying t = some (.slice e)) (he : Try.prog.underlying e = some .string) (hce : Try.prog.cellsOf e = 1)
    (h : DataW.Trod enc Try.prog W 0 (fun _ => true) true t (.slice a len cap) d p) : ∃ ss : List ByteArray, len = ss.length ∧ ArgS a ss cap W := by
  obtain ⟨fuel, hf⟩ := h
  rcases open_strings ht he hce hf with ⟨hcs, hx⟩ | ⟨ad, len', cap', ss, hcs, _, hl, hm, hz, hx, hcell, hwz⟩
  · simp [Value.cells] at hcs
    obtain ⟨rfl, rfl, rfl⟩ := hcs
    exact ⟨[], rfl, fun j hj => by simp at hj, by simp, fun _ => rfl, by omega, fun s hs => by simp at hs⟩
  · simp [Value.cells] at hcs
    obtain ⟨rfl, rfl, rfl⟩ := hcs
    simp only [if_true] at hz
    have hlen : (ss.take len).length = len := by simp; omega
    refine ⟨ss.take len, hlen.symm, fun j hj => ?_, by omega, (fun e => by cases e), by unfold maxLen at hm; omega, fun s hs => by have := hwz s (List.mem_of_mem_take hs); unfold maxLen at this; omega⟩
    have hj2 : j < len := by omega
    obtain ⟨b, off, spot⟩ := ad
    have hspot : spot = none := by simpa [Addr.add] using World.cell?_spot (hcell 0 (by omega))
    subst hspot
    refine ⟨b, off, rfl, ?_⟩
    have hjz : j < ss.length := by omega
    rw [← Go.WideShapes.add_plain, hcell j hjz, List.getElem_take]
    simp [List.getD, List.getElem?_eq_getElem hjz]
theorem Arg.code {a : Option Addr} {bs : List UInt8} {cap : Nat} {w : World} (h : Arg a bs cap w) : Code a bs.length w := fun j hj => by
  obtain ⟨b, off, ha, hc⟩ := h.1 j hj
  exact ⟨b, off, bs[j].toNat, ha, bs[j].toNat_lt, hc⟩
end Go.Proofs.Ytefkhknfjohnaaa
namespace Go.Proofs.Ytefkhknfjohnaaa
open Go Go.ChangeShapes Go.WideShapes Go.ChangeAt Go.RowKit Go.Deep
set_option maxRecDepth 100000 in
theorem cellsOne : Try.prog.cellsOf 9 = 1 ∧ Try.prog.cellsOf 3 = 1 ∧ Try.prog.cellsOf 4 = 1 ∧ Try.prog.cellsOf 22 = 1 ∧ Try.prog.cellsOf 73 = 1 ∧ Try.prog.cellsOf 74 = 1 := ⟨by kernel_rfl, by kernel_rfl, by kernel_rfl, by kernel_rfl, by kernel_rfl, by kernel_rfl⟩
set_option maxRecDepth 100000 in
theorem cellsRule : Try.prog.cellsOf 83 = 8 := by kernel_rfl
set_option maxRecDepth 100000 in
theorem cellsDescr : Try.prog.cellsOf 33 = 1 := by kernel_rfl
set_option maxRecDepth 100000 in
theorem cellsRuleS : Try.prog.cellsOf 31 = 1 := by kernel_rfl
/-- The numbers in a rule are ints. -/
def Ranged (r : RuleV) : Prop := I64 r.kind ∧ I64 r.size ∧ (∀ x ∈ r.tags, I64 x) ∧ (∀ x ∈ r.kids, I64 x)
section
variable {H : Type} {enc : TypeId × Value → H} {W : World}
set_option maxRecDepth 100000 in
theorem bytes_open {n : Nat} {v : Value} {y : DataW H × List MemPlace} (h : DataW.trod enc Try.prog W 0 (fun _ => true) true n 22 [v] = some y) : ∃ a bs cap, v = .slice a bs.length cap ∧ Arg a bs cap W := by
  have h0 := h
  rcases open_ints Try.underlying22 Try.underlying5 cellsU8 h0 with ⟨hcs, _⟩ | ⟨ad, len, cap, zs, hcs, _⟩
  · simp at hcs
    subst hcs
    obtain ⟨bs, hb, ha⟩ := bytes_arg (a := none) (len := 0) (cap := 0) (p := y.2) (d := y.1) ⟨n, h⟩
    exact ⟨none, bs, 0, by rw [← hb], ha⟩
  · simp at hcs
    subst hcs
    obtain ⟨bs, hb, ha⟩ := bytes_arg (a := some ad) (len := len) (cap := cap) (p := y.2) (d := y.1) ⟨n, h⟩
    exact ⟨some ad, bs, cap, by rw [← hb], ha⟩
set_option maxRecDepth 100000 in
theorem strs_open {n : Nat} {v : Value} {y : DataW H × List MemPlace} (h : DataW.trod enc Try.prog W 0 (fun _ => true) true n 73 [v] = some y) : ∃ a ss cap, v = .slice a ss.length cap ∧ ArgS a ss cap W := by
  have h0 := h
  rcases open_strings Try.underlying73 Try.underlying9 cellsOne.1 h0 with ⟨hcs, _⟩ | ⟨ad, len, cap, zs, hcs, _⟩
  · simp at hcs
    subst hcs
    obtain ⟨bs, hb, ha⟩ := strings_arg Try.underlying73 Try.underlying9 cellsOne.1 (a := none) (len := 0) (cap := 0) (p := y.2) (d := y.1) ⟨n, h⟩
    exact ⟨none, bs, 0, by rw [← hb], ha⟩
  · simp at hcs
    subst hcs
    obtain ⟨bs, hb, ha⟩ := strings_arg Try.underlying73 Try.underlying9 cellsOne.1 (a := some ad) (len := len) (cap := cap) (p := y.2) (d := y.1) ⟨n, h⟩
    exact ⟨some ad, bs, cap, by rw [← hb], ha⟩
/-- A slice of ints that came in. -/
def ArgI (a : Option Addr) (zs : List Int) (cap : Nat) (w : World) : Prop := RdI a zs w ∧ zs.length ≤ cap ∧ (a = none → cap = 0) ∧ cap ≤ 9223372036854775807 ∧ ∀ x ∈ zs, I64 x
set_option maxRecDepth 100000 in
theorem ints_open {n : Nat} {v : Value} {y : DataW H × List MemPlace} (h : DataW.trod enc Try.prog W 0 (fun _ => true) true n 74 [v] = some y) : ∃ a zs cap, v = .slice a zs.length cap ∧ ArgI a zs cap W := by
  rcases open_ints Try.underlying74 Try.underlying3 cellsOne.2.1 h with ⟨hcs, _⟩ | ⟨ad, len, cap, zs, hcs, _, hl, hm, hz, hx, hcell, hwz⟩
  · simp at hcs
    subst hcs
    exact ⟨none, [], 0, rfl, fun j hj => by simp at hj, Nat.le_refl _, fun _ => rfl, by omega, fun x hx => by simp at hx⟩
  · simp at hcs
    subst hcs
    simp only [if_true] at hz
    have hlen : (zs.take len).length = len := by simp; omega
    refine ⟨some ad, zs.take len, cap, by rw [hlen], fun j hj => ?_, by omega, (fun e => by cases e), by unfold maxLen at hm; omega, fun x hx => i64_arg (hwz x (List.mem_of_mem_take hx))⟩
    have hj2 : j < len := by omega
    obtain ⟨b, off, rfl, hc⟩ := ints_at hcell (by omega)
    refine ⟨b, off, rfl, ?_⟩
    have hjz : j < zs.length := by omega
    rw [hc j hjz, List.getElem_take]
    simp [List.getD, List.getElem?_eq_getElem hjz]
set_option maxRecDepth 100000 in
theorem rule_open {n : Nat} {cs : List Value} {x : DataW H × List MemPlace} (h : DataW.trod enc Try.prog W 0 (fun _ => true) true n 83 cs = some x) : ∃ r : RuleV, IsRule r cs W ∧ Fits r ∧ Ranged r := by
  obtain ⟨e1, e2, e3, -⟩ := cellsOne
  obtain ⟨xs, m, _, _, hlen, hxl, hf⟩ := DataW.trod_struct Try.underlying83 h
  rw [cellsRule] at hlen
  match cs, hlen with
  | [v0, v1, v2, v3, v4, v5, v6, v7], _ =>
    match xs, hxl with
    | [y0, y1, y2, y3, y4, y5, y6, y7], _ =>
      have h0 := hf 0 _ rfl
      have h1 := hf 1 _ rfl
      have h2 := hf 2 _ rfl
      have h3 := hf 3 _ rfl
      have h4 := hf 4 _ rfl
      have h5 := hf 5 _ rfl
      have h6 := hf 6 _ rfl
      have h7 := hf 7 _ rfl
      simp only [List.getElem?_cons_zero, List.getElem?_cons_succ] at h0 h1 h2 h3 h4 h5 h6 h7
      obtain ⟨s, q0, -, z0⟩ := DataW.trod_string Try.underlying9 h0
      obtain ⟨i1, q1, -, z1⟩ := DataW.trod_int Try.underlying3 h1
      obtain ⟨i2, q2, -, z2⟩ := DataW.trod_int Try.underlying3 h2
      obtain ⟨b3, q3, -⟩ := DataW.trod_bool Try.underlying4 h3
      obtain ⟨a4, bs, c4, rfl, r4⟩ := bytes_open h4
      obtain ⟨a5, ss, c5, rfl, r5⟩ := strs_open h5
      obtain ⟨a6, ts, c6, rfl, r6⟩ := ints_open h6
      obtain ⟨a7, ks, c7, rfl, r7⟩ := ints_open h7
      simp [e1] at q0
      simp [e2] at q1
      simp [e2] at q2
      simp [e3] at q3
      subst q0 q1 q2 q3
      refine ⟨⟨s, i1, i2, b3, bs, ss, ts, ks⟩, ⟨a4, c4, a5, c5, a6, c6, a7, c7, rfl, r4.1, r5.1, r6.1, r7.1⟩, ⟨by unfold maxLen at z0; show s.size ≤ _; omega, ?_, ?_, r5.2.2.2.2, ?_, ?_⟩, i64_arg z1, i64_arg z2, r6.2.2.2.2, r7.2.2.2.2⟩
      · exact Nat.le_trans r4.2.1 r4.2.2.2
      · exact Nat.le_trans r5.2.1 r5.2.2.2.1
      · exact Nat.le_trans r6.2.1 r6.2.2.2.1
      · exact Nat.le_trans r7.2.1 r7.2.2.2.1
/-- A description that came in. -/
def ArgD (a : Option Addr) (rs : List RuleV) (cap : Nat) (w : World) : Prop := RdR a rs w ∧ (rs.length ≤ cap ∧ cap ≤ 9223372036854775807) ∧ (∀ r ∈ rs, Fits r) ∧ (∀ r ∈ rs, Ranged r)
set_option maxRecDepth 100000 in
theorem rules_open {n : Nat} {v : Value} {y : DataW H × List MemPlace} (h : DataW.trod enc Try.prog W 0 (fun _ => true) true n 31 [v] = some y) : ∃ a rs cap, v = .slice a rs.length cap ∧ ArgD a rs cap W := by
  rcases open_slice Try.underlying31 h with ⟨hcs, _⟩ | ⟨ad, len, cap, m, n', D, Pl, hcs, _, hl, hm, hmm, _, hi⟩
  · simp at hcs
    subst hcs
    exact ⟨none, [], 0, rfl, fun j hj => by simp at hj, ⟨Nat.le_refl _, by omega⟩, fun r hr => by simp at hr, fun r hr => by simp at hr⟩
  · simp at hcs
    subst hcs
    simp only [if_true] at hmm
    rw [cellsRule] at hi
    have hr : ∀ i : Fin len, ∃ r : RuleV, (∃ cs, IsRule r cs W ∧ ∀ j u, cs[j]? = some u → W.cell? (ad.add (i.val * 8 + j)) = some u) ∧ Fits r ∧ Ranged r := fun i => by
      obtain ⟨cs, hc, ht⟩ := hi i.val (by have := i.isLt; omega)
      obtain ⟨_, hcl, hat⟩ := World.cells?_some hc
      obtain ⟨r, h1, h2, h3⟩ := rule_open ht
      refine ⟨r, ⟨cs, h1, fun j u hu => ?_⟩, h2, h3⟩
      have hj : j < 8 := by
        rcases Nat.lt_or_ge j 8 with h | h
        · exact h
        · rw [List.getElem?_eq_none (by omega)] at hu; cases hu
      have := hat j hj
      rw [← Go.Deep.add_add, this, hu]
    have hch : ∃ R : Fin len → RuleV, ∀ i, (∃ cs, IsRule (R i) cs W ∧ ∀ j u, cs[j]? = some u → W.cell? (ad.add (i.val * 8 + j)) = some u) ∧ Fits (R i) ∧ Ranged (R i) := ⟨fun i => Classical.choose (hr i), fun i => Classical.choose_spec (hr i)⟩
    obtain ⟨R, hR⟩ := hch
    have hlen : (List.ofFn R).length = len := by simp
    refine ⟨some ad, List.ofFn R, cap, by rw [hlen], fun j hj => ?_, ⟨by rw [hlen]; exact hl, by unfold maxLen at hm; omega⟩, ?_, ?_⟩
    · have hjl : j < len := by omega
      obtain ⟨⟨cs, h1, h2⟩, _⟩ := hR ⟨j, hjl⟩
      obtain ⟨b, off, spot⟩ := ad
      have hspot : spot = none := by
        obtain ⟨⟨cs', g1, g2⟩, _⟩ := hR ⟨0, by omega⟩
        obtain ⟨_, _, _, _, _, _, _, _, e, _⟩ := g1
        have h0 := g2 0 _ (by rw [e]; rfl)
        simpa [Addr.add] using World.cell?_spot h0
      subst hspot
      refine ⟨b, off, cs, rfl, by simpa using h1, fun i v hv => ?_⟩
      have := h2 i v hv
      rw [Go.WideShapes.add_plain] at this
      rw [Nat.add_assoc]
      exact this
    · intro r hr
      obtain ⟨i, rfl⟩ := (List.mem_ofFn).1 hr
      exact (hR i).2.1
    · intro r hr
      obtain ⟨i, rfl⟩ := (List.mem_ofFn).1 hr
      exact (hR i).2.2
set_option maxRecDepth 100000 in
theorem descr_arg {v : Value} {d : DataW H} {p : List MemPlace} {r : Reach} {b0 : Nat} (hv : Value.okWide Try.prog W r b0 33 v) (h : DataW.Trod enc Try.prog W 0 (fun _ => true) true 33 v d p) : ∃ a rs cap, v = .agg #[.slice a rs.length cap] ∧ ArgD a rs cap W := by
  obtain ⟨cs, rfl, hsz⟩ := okWide_struct Try.underlying33 hv
  rw [cellsDescr] at hsz
  obtain ⟨l⟩ := cs
  match l, hsz with
  | [c0], _ =>
    obtain ⟨fuel, hf⟩ := h
    obtain ⟨xs, n, _, hx, _, hlen, hg⟩ := DataW.trod_struct Try.underlying33 hf
    match xs, hlen with
    | [y0], _ =>
      have h0 := hg 0 _ rfl
      simp [Value.cells, cellsRuleS] at h0
      obtain ⟨a, rs, cap, rfl, ha⟩ := rules_open (v := c0) h0
      exact ⟨a, rs, cap, rfl, ha⟩
end
set_option maxRecDepth 100000 in
theorem short_of {rs : List RuleV} (h : sizeR rs ≤ 1048576) : ∀ r ∈ rs, Short r := fun r hr => by
  obtain ⟨j, hj, rfl⟩ := List.getElem_of_mem hr
  have h1 := ruleSize_le rs j hj
  unfold ruleSize sizeS at h1
  exact ⟨by omega, by omega, by omega, by omega⟩
set_option maxRecDepth 100000 in
theorem sz_descr0 (a : Option Addr) (rs : List RuleV) (cap : Nat) (w : World) (hl : rs.length ≤ 9223372036854775807) (hf : ∀ r ∈ rs, Fits r) (h : RdR a rs w) :
    Calls Try.prog 14 #[.agg #[.slice a rs.length cap], .int .i64 1048576] w fun e w' => e = .returned (.int .i64 (leftN 1048576 (sizeR rs))) ∧ Below w.heap.size w w' := sz_descr a rs cap 1048576 w (Nat.le_refl _) hl hf h
end Go.Proofs.Ytefkhknfjohnaaa
namespace Go.Proofs.Ytefkhknfjohnaaa
open Go Go.RowKit


set_option maxRecDepth 100000 in
set_option maxHeartbeats 1000000 in
theorem eq_rule (r : RuleV) (cs ds : List Value) (w : World) (hr : Short r) (h : IsRule r cs w) (k : IsRule r ds w) :
    Calls Try.prog 65 #[.agg cs.toArray, .agg ds.toArray] w fun e w' => e = .returned (.bool true) ∧ Below w.heap.size w w' := by
  obtain ⟨a4, c4, a5, c5, a6, c6, a7, c7, rfl, h4, h5, h6, h7⟩ := h
  obtain ⟨e4, f4, e5, f5, e6, f6, e7, f7, rfl, k4, k5, k6, k7⟩ := k
  obtain ⟨s4, s5, s6, s7⟩ := hr
  have hB : ∀ o p, Below w.heap.size w ((w.alloc o).alloc p) := fun o p => ((Below.refl _ _).alloc (Nat.le_refl _) _).alloc (by simp) _
  have H4 := fun o p => Lib.hid (h4.below (hB o p))
  have H5 := fun o p n => Lib.hid (show RdF Value.string a5 r.names (((w.alloc o).alloc p).drewN n) from h5.below (below_drewN (hB o p) n))
  have H6 := fun o p n => Lib.hid (show RdF (Value.int .i64) a6 r.tags (((w.alloc o).alloc p).drewN n) from h6.below (below_drewN (hB o p) n))
  have H7 := fun o p n => Lib.hid (show RdF (Value.int .i64) a7 r.kids (((w.alloc o).alloc p).drewN n) from h7.below (below_drewN (hB o p) n))
  have K4 := fun o p => Lib.hid (k4.below (hB o p))
  have K5 := fun o p n => Lib.hid (show RdF Value.string e5 r.names (((w.alloc o).alloc p).drewN n) from k5.below (below_drewN (hB o p) n))
  have K6 := fun o p n => Lib.hid (show RdF (Value.int .i64) e6 r.tags (((w.alloc o).alloc p).drewN n) from k6.below (below_drewN (hB o p) n))
  have K7 := fun o p n => Lib.hid (show RdF (Value.int .i64) e7 r.kids (((w.alloc o).alloc p).drewN n) from k7.below (below_drewN (hB o p) n))
  have HB := fun o p => Lib.hid (hB o p)
  clear h4 h5 h6 h7 k4 k5 k6 k7 hB
  have t4 : decide (r.bytes = r.bytes) = true := by simp
  have t5 : decide (r.names = r.names) = true := by simp
  have t6 : decide (r.tags = r.tags) = true := by simp
  have t7 : decide (r.kids = r.kids) = true := by simp
  go_enter Try.func65, Try.ntmps65
  go_wp2_with fail
  refine (eq_any a4 e4 r.bytes r.bytes c4 f4 _ (by omega) (H4 _ _).out (K4 _ _).out).mono ?_
  rintro e w1 ⟨rfl, n1, rfl⟩
  go_wp2_with fail
  refine (eq_strs a5 e5 r.names r.names c5 f5 _ (by omega) (H5 _ _ _).out (K5 _ _ _).out).mono ?_
  rintro e w1 ⟨rfl, n2, rfl⟩
  go_wp2_with fail
  refine (eq_ints a6 e6 r.tags r.tags c6 f6 _ (by omega) (H6 _ _ _).out (K6 _ _ _).out).mono ?_
  rintro e w1 ⟨rfl, n3, rfl⟩
  go_wp2_with fail
  refine (eq_ints a7 e7 r.kids r.kids c7 f7 _ (by omega) (H7 _ _ _).out (K7 _ _ _).out).mono ?_
  rintro e w1 ⟨rfl, n4, rfl⟩
  go_wp2_with fail
  go_ret
  exact ⟨rfl, below_drewN (HB _ _).out _⟩
set_option maxRecDepth 100000 in
set_option maxHeartbeats 1000000 in
theorem eq_rules (a b : Option Addr) (rs : List RuleV) (ca cb : Nat) (w : World) (hl : rs.length ≤ 1048576) (hs : ∀ r ∈ rs, Short r) (ha : RdR a rs w) (hb : RdR b rs w) :
    Calls Try.prog 39 #[.slice a rs.length ca, .slice b rs.length cb] w fun e w' => e = .returned (.bool true) ∧ Below w.heap.size w w' := by
  have HA := Lib.hid ha
  have HC := Lib.hid hb
  have HS := Lib.hid hs
  clear ha hb hs
  go_enter Try.func39, Try.ntmps39
  go_wp2
  go_loopw [5] (fun i W => ∃ k : Nat, k ≤ rs.length ∧ i = .int .i64 k ∧ Hid (Below w.heap.size w W)) (fun i _ => rs.length - (intOf i).toNat)
  case atStart => exact ⟨0, Nat.zero_le _, rfl, Below.refl _ _⟩
  case round =>
    obtain ⟨k, hk, rfl, hbw⟩ := hrel
    have k0 : (0 : Int) ≤ (k : Int) := by omega
    by_cases hlt : k < rs.length
    · have k1 : (k : Int) < (rs.length : Int) := by omega
      have hsh := Lib.hid (HS.out _ (List.getElem_mem hlt))
      obtain ⟨b1, o1, a4, c4, a5, c5, a6, c6, a7, c7, rfl, ⟨d0, d1, d2, d3, d4, d5, d6, d7⟩, h4, h5, h6, h7⟩ := (HA.out.below hbw.out).at k hlt
      obtain ⟨b2, o2, x4, y4, x5, y5, x6, y6, x7, y7, rfl, ⟨m0, m1, m2, m3, m4, m5, m6, m7⟩, j4, j5, j6, j7⟩ := (HC.out.below hbw.out).at k hlt
      have HR : Hid (IsRule rs[k] _ wr) := ⟨a4, c4, a5, c5, a6, c6, a7, c7, rfl, h4, h5, h6, h7⟩
      have HQ : Hid (IsRule rs[k] _ wr) := ⟨x4, y4, x5, y5, x6, y6, x7, y7, rfl, j4, j5, j6, j7⟩
      clear h4 h5 h6 h7 j4 j5 j6 j7
      generalize rs[k] = r at d0 d1 d2 d3 d4 d5 d6 d7 m0 m1 m2 m3 m4 m5 m6 m7 HR HQ hsh
      go_wp2
      go_still_tail 8, (by kernel_rfl)
      change wpList _ _ _ _ _ wr.drew
      have hbd : Below w.heap.size w wr.drew := ⟨hbw.out.os, hbw.out.tape, hbw.out.output, hbw.out.size, hbw.out.block⟩
      have HR2 : Hid (IsRule r _ wr.drew) := HR.out
      have HQ2 : Hid (IsRule r _ wr.drew) := HQ.out
      have HBD := Lib.hid hbd
      clear HR HQ hbd d0 d1 d2 d3 d4 d5 d6 d7 m0 m1 m2 m3 m4 m5 m6 m7
      generalize wr.drew = w2 at HR2 HQ2 HBD ⊢
      go_wp2_with fail
      refine (eq_rule r _ _ _ hsh.out HR2.out HQ2.out).mono ?_
      rintro e w3 ⟨rfl, hb3⟩
      have HB3 := Lib.hid (HBD.out.trans (hb3.mono HBD.out.size))
      clear hb3
      go_wp2
      go_roundw
      case rel => exact ⟨k + 1, by omega, by go_num, HB3⟩
      case measure => simp [intOf]; omega
    · have k1 : ¬ (k : Int) < (rs.length : Int) := by omega
      go_wp2
      go_ret
      exact ⟨rfl, hbw.out⟩
theorem eq_descr (a b : Option Addr) (rs : List RuleV) (ca cb : Nat) (w : World) (hl : rs.length ≤ 1048576) (hs : ∀ r ∈ rs, Short r) (ha : RdR a rs w) (hb : RdR b rs w) :
    Calls Try.prog 18 #[.agg #[.slice a rs.length ca], .agg #[.slice b rs.length cb]] w fun e w' => e = .returned (.bool true) ∧ Below w.heap.size w w' := by
  have hB : ∀ o p, Below w.heap.size w ((w.alloc o).alloc p) := fun o p => ((Below.refl _ _).alloc (Nat.le_refl _) _).alloc (by simp) _
  have HA := fun o p => Lib.hid (ha.below (hB o p))
  have HC := fun o p => Lib.hid (hb.below (hB o p))
  have HB := fun o p => Lib.hid (hB o p)
  have HS := Lib.hid hs
  clear ha hb hB hs
  go_enter Try.func18, Try.ntmps18
  go_wp2_with fail
  refine (eq_rules a b rs ca cb _ hl HS.out (HA _ _).out (HC _ _).out).mono ?_
  rintro e w1 ⟨rfl, hb1⟩
  have HB1 := Lib.hid ((HB _ _).out.trans (hb1.mono (HB _ _).out.size))
  clear hb1
  go_wp2
  go_ret
  exact ⟨rfl, HB1.out⟩
end Go.Proofs.Ytefkhknfjohnaaa
