/- Contracts of CountKind and KidName, of the model and of the program. -/
import Derived.Test.YtpeldhediaodjaaDescrImpl
import Derived.BigQuiet
namespace Go.Proofs.Ytpeldhediaodjaa
open Go Go.RowKit
/-- How many of the rules are of a kind. -/
def countK (k : Int) : List RuleV → Nat
  | [] => 0
  | r :: rs => (if r.kind = k then 1 else 0) + countK k rs
theorem countK_take {k : Int} {rs : List RuleV} {j : Nat} (h : j < rs.length) : countK k (rs.take (j + 1)) = countK k (rs.take j) + (if rs[j].kind = k then 1 else 0) := by
  induction rs generalizing j with
  | nil => simp at h
  | cons r rs ih =>
    cases j with
    | zero => simp [countK]
    | succ j =>
      have := ih (j := j) (by simpa using h)
      simp only [List.take_succ_cons, countK, List.getElem_cons_succ]
      omega
theorem countK_le (k : Int) (rs : List RuleV) : countK k rs ≤ rs.length := by
  induction rs with
  | nil => simp [countK]
  | cons r rs ih => simp only [countK, List.length_cons]; split <;> omega
set_option maxRecDepth 100000 in
theorem count_spec (a : Option Addr) (rs : List RuleV) (cap : Nat) (x : Int) (w : World) (hl : rs.length ≤ 1073741824) (h : RdR a rs w) :
    Calls Try.prog 27 #[.agg #[.slice a rs.length cap], .int .i64 x] w fun e w' => e = .returned (.int .i64 ((countK x rs : Nat) : Int)) ∧ Below w.heap.size w w' := by
  have hB : Below w.heap.size w (w.alloc (.cells #[.slice a rs.length cap] 26)) := (Below.refl _ _).alloc (Nat.le_refl _) _
  have H := Lib.hid (h.below hB)
  have HB := Lib.hid hB
  clear h hB
  go_enter Try.func27, Try.ntmps27
  go_wp2
  go_loop [5, 6] (fun q i => ∃ k n : Nat, k ≤ rs.length ∧ n ≤ k ∧ i = .int .i64 k ∧ q = .int .i64 (n : Int) ∧ Hid (n = countK x (rs.take k))) (fun _ i => rs.length - (intOf i).toNat)
  case atStart => exact ⟨0, 0, Nat.zero_le _, Nat.le_refl _, rfl, rfl, rfl⟩
  case round =>
    obtain ⟨k, n, hk, hn, rfl, rfl, hf⟩ := hrel
    have k0 : (0 : Int) ≤ (k : Int) := by omega
    by_cases hlt : k < rs.length
    · have k1 : (k : Int) < (rs.length : Int) := by omega
      obtain ⟨b, off, a4, c4, a5, c5, a6, c6, a7, c7, rfl, ⟨d0, d1, -⟩, -⟩ := H.out.at k hlt
      have hc := Lib.hid (countK_take (k := x) hlt)
      by_cases hx : rs[k].kind = x
      · have hr : Hid (n + 1 = countK x (rs.take (k + 1))) := by show _ = _; rw [hc.out, hf.out, if_pos hx]
        have g1 : (rs[k].kind == x) = true := by simpa using hx
        generalize rs[k].kind = y at d1 g1
        clear hx hc
        go_wp2
        go_round
        case rel => exact ⟨k + 1, n + 1, by omega, by omega, by go_num, by go_num, hr⟩
        case measure => simp [intOf]; omega
      · have hr : Hid (n = countK x (rs.take (k + 1))) := by show _ = _; rw [hc.out, hf.out, if_neg hx]; simp
        have g1 : (rs[k].kind == x) = false := by simpa using hx
        generalize rs[k].kind = y at d1 g1
        clear hx hc
        go_wp2
        go_round
        case rel => exact ⟨k + 1, n, by omega, by omega, by go_num, rfl, hr⟩
        case measure => simp [intOf]; omega
    · have k1 : ¬ (k : Int) < (rs.length : Int) := by omega
      have hr : Hid (n = countK x rs) := by
        have := hf.out
        rw [List.take_of_length_le (by omega)] at this
        exact this
      go_wp2
      go_ret
      exact ⟨ret_int (by rw [hr.out]), HB.out⟩
set_option maxRecDepth 100000 in
theorem count_impl (a : Option Addr) (rs : List RuleV) (cap : Nat) (x : Int) (w : World) (hl : rs.length ≤ 1073741824) (h : RdR a rs w) :
    Calls Try.prog 28 #[.agg #[.slice a rs.length cap], .int .i64 x] w fun e w' => e = .returned (.int .i64 ((countK x rs : Nat) : Int)) ∧ Below w.heap.size w w' := by
  have hB : Below w.heap.size w (w.alloc (.cells #[.slice a rs.length cap] 26)) := (Below.refl _ _).alloc (Nat.le_refl _) _
  have H := Lib.hid h
  have HB := Lib.hid hB
  clear h hB
  go_enter Try.func28, Try.ntmps28
  go_wp2
  go_loopw [5, 11] (fun q i W => ∃ k n : Nat, k ≤ rs.length ∧ n ≤ k ∧ i = .int .i64 k ∧ q = .int .i64 (n : Int) ∧ Hid (n = countK x (rs.take k)) ∧ Hid (Below w.heap.size w W)) (fun _ i _ => rs.length - (intOf i).toNat)
  case atStart => exact ⟨0, 0, Nat.zero_le _, Nat.le_refl _, rfl, rfl, rfl, HB⟩
  case round =>
    obtain ⟨k, n, hk, hn, rfl, rfl, hf, hb⟩ := hrel
    have k0 : (0 : Int) ≤ (k : Int) := by omega
    by_cases hlt : k < rs.length
    · have k1 : (k : Int) < (rs.length : Int) := by omega
      obtain ⟨b, off, a4, c4, a5, c5, a6, c6, a7, c7, rfl, ⟨d0, d1, d2, d3, d4, d5, d6, d7⟩, -⟩ := (H.out.below hb.out).at k hlt
      have hc := Lib.hid (countK_take (k := x) hlt)
      by_cases hx : rs[k].kind = x
      · have hr : Hid (n + 1 = countK x (rs.take (k + 1))) := by show _ = _; rw [hc.out, hf.out, if_pos hx]
        have g1 : (rs[k].kind == x) = true := by simpa using hx
        generalize rs[k].kind = y at d1 g1
        clear hx hc
        go_wp2
        go_roundw
        case rel => exact ⟨k + 1, n + 1, by omega, by omega, by go_num, by go_num, hr, hb.out.alloc hb.out.size _⟩
        case measure => simp [intOf]; omega
      · have hr : Hid (n = countK x (rs.take (k + 1))) := by show _ = _; rw [hc.out, hf.out, if_neg hx]; simp
        have g1 : (rs[k].kind == x) = false := by simpa using hx
        generalize rs[k].kind = y at d1 g1
        clear hx hc
        go_wp2
        go_roundw
        case rel => exact ⟨k + 1, n, by omega, by omega, by go_num, rfl, hr, hb.out.alloc hb.out.size _⟩
        case measure => simp [intOf]; omega
    · have k1 : ¬ (k : Int) < (rs.length : Int) := by omega
      have hr : Hid (n = countK x rs) := by
        have := hf.out
        rw [List.take_of_length_le (by omega)] at this
        exact this
      go_wp2
      go_ret
      exact ⟨ret_int (by rw [hr.out]), hb.out⟩
end Go.Proofs.Ytpeldhediaodjaa
