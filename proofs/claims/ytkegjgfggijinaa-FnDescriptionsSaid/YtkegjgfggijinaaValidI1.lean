/- Contracts of the program's areEarlierRules, startsWithInteger, ContainsText, meetsSequence. -/
import Derived.Test.YtkegjgfggijinaaValidD
import Derived.Test.YtkegjgfggijinaaFindImpl
import Derived.Test.YtkegjgfggijinaaShelf
import Derived.BigQuiet
namespace Go.Proofs.Ytkegjgfggijinaa
open Go Go.RowKit
theorem hasS_contains (ss : List ByteArray) (x : ByteArray) : Lib.containsS ss x = hasS ss x := by
  have h := Lib.containsS_iff ss x
  by_cases hm : x ∈ ss
  · rw [hasS_true hm, h.2 hm]
  · rw [hasS_false hm, Bool.eq_false_iff]
    exact fun e => hm (h.1 e)
theorem has_impl (a : Option Addr) (ss : List ByteArray) (cap : Nat) (x : ByteArray) (w : World) (hl : ss.length ≤ 1073741824) (h : RdS a ss w) :
    Calls Try.prog 74 #[.slice a ss.length cap, .string x] w fun e w' => e = .returned (.bool (hasS ss x)) ∧ w = w' := by
  have H := Lib.hid h
  clear h
  have hc : Calls Try.prog 86 #[.slice a ss.length cap, .string x] w fun e w' => e = .returned (.bool (hasS ss x)) ∧ w = w' := by
    cases ss with
    | nil =>
      refine (Try.slices_Contains_string_empty a cap x w).mono ?_
      rintro e w' ⟨rfl, rfl⟩
      exact ⟨rfl, rfl⟩
    | cons y r =>
      obtain ⟨b, off, rfl, hc0⟩ := H.out 0 (by simp)
      refine (Try.slices_Contains_string b off (y :: r).length cap (y :: r) x w (Nat.le_refl _) (by omega) (fun j hj => ?_)).mono ?_
      · obtain ⟨b', off', e, hcj⟩ := H.out j hj
        injection e with e
        injection e with e1 e2
        subst e1 e2
        rw [hcj, List.getD_eq_getElem?_getD, List.getElem?_eq_getElem hj]
        rfl
      · rintro e w' ⟨rfl, rfl⟩
        rw [List.take_length, hasS_contains]
        exact ⟨rfl, rfl⟩
  go_enter Try.func74, Try.ntmps74
  go_wp2_with fail
  refine hc.mono ?_
  rintro e w1 ⟨rfl, rfl⟩
  go_wp2
  go_ret
  exact ⟨rfl, rfl⟩
theorem kidsB_yes {ks : List Int} {k : Int} {j : Nat} (hj : j < ks.length) (h : 0 ≤ ks[j] ∧ ks[j] ≤ k - 1) : kidsB (ks.drop j) k = kidsB (ks.drop (j + 1)) k := by
  rw [List.drop_eq_getElem_cons hj]
  simp only [kidsB, List.all_cons, decide_eq_true h, Bool.true_and]
theorem kidsB_no {ks : List Int} {k : Int} {j : Nat} (hj : j < ks.length) (h : ¬ (0 ≤ ks[j] ∧ ks[j] ≤ k - 1)) : kidsB (ks.drop j) k = false := by
  rw [List.drop_eq_getElem_cons hj]
  simp only [kidsB, List.all_cons, decide_eq_false h, Bool.false_and]
set_option maxRecDepth 100000 in
theorem kids_impl (a : Option Addr) (ks : List Int) (cap : Nat) (k : Int) (w : World) (hl : ks.length ≤ 1048576) (hk0 : 0 ≤ k) (hk1 : k ≤ 1073741824) (h : RdI a ks w) :
    Calls Try.prog 30 #[.slice a ks.length cap, .int .i64 k] w fun e w' => e = .returned (.bool (kidsB ks k)) ∧ w = w' := by
  have H := Lib.hid h
  clear h
  go_enter Try.func30, Try.ntmps30
  go_wp2
  go_loop [9] (fun i => ∃ j : Nat, j ≤ ks.length ∧ i = .int .i64 j ∧ Hid (kidsB ks k = kidsB (ks.drop j) k)) (fun i => ks.length - (intOf i).toNat)
  case atStart => exact ⟨0, Nat.zero_le _, rfl, rfl⟩
  case round =>
    obtain ⟨j, hj, rfl, hf⟩ := hrel
    have j0 : (0 : Int) ≤ (j : Int) := by omega
    by_cases hlt : j < ks.length
    · have j1 : (j : Int) < (ks.length : Int) := by omega
      obtain ⟨b, off, rfl, hc⟩ := H.out j hlt
      by_cases hx : 0 ≤ ks[j] ∧ ks[j] ≤ k - 1
      · have hr : Hid (kidsB ks k = kidsB (ks.drop (j + 1)) k) := hf.out.trans (kidsB_yes hlt hx)
        have hd : decide (0 ≤ ks[j] ∧ ks[j] ≤ k - 1) = true := decide_eq_true hx
        generalize ks[j] = x at hc hx hd
        go_wp2_with fail
        refine (inI_any _ _ _ true _ hd).mono ?_
        rintro e w1 ⟨rfl, rfl⟩
        go_wp2
        go_round
        case rel => exact ⟨j + 1, by omega, by go_num, hr⟩
        case measure => simp [intOf]; omega
      · have hr : Hid (kidsB ks k = false) := hf.out.trans (kidsB_no hlt hx)
        have hd : decide (0 ≤ ks[j] ∧ ks[j] ≤ k - 1) = false := decide_eq_false hx
        generalize ks[j] = x at hc hx hd
        clear hx
        go_wp2_with fail
        refine (inI_any _ _ _ false _ hd).mono ?_
        rintro e w1 ⟨rfl, rfl⟩
        go_wp2
        go_ret
        exact ⟨ret_bool hr.out.symm, rfl⟩
    · have j1 : ¬ (j : Int) < (ks.length : Int) := by omega
      have hr : Hid (kidsB ks k = true) := by
        have := hf.out
        rw [List.drop_of_length_le (by omega)] at this
        exact this
      go_wp2
      go_ret
      exact ⟨ret_bool hr.out.symm, rfl⟩
theorem headD_at {ks : List Int} (h : 0 < ks.length) : ks.headD 0 = ks[0] := by
  cases ks with
  | nil => simp at h
  | cons x r => rfl
theorem kindAtB_in {rs : List RuleV} {k : Nat} (h : k < rs.length) : kindAtB rs (k : Int) = decide (rs[k].kind = 1) := by
  unfold kindAtB
  rw [dif_pos (by omega)]
  simp only [Int.toNat_natCast]
set_option maxRecDepth 100000 in
theorem starts_impl (a : Option Addr) (rs : List RuleV) (cap : Nat) (r : RuleV) (cs : List Value) (w : World) (h : RdR a rs w) (hr : IsRule r cs w) (hk : 0 < r.kids.length) (hin : 0 ≤ r.kids.headD 0 ∧ r.kids.headD 0 < rs.length) :
    Calls Try.prog 52 #[.agg #[.slice a rs.length cap], .agg cs.toArray] w fun e w' => e = .returned (.bool (kindAtB rs (r.kids.headD 0))) ∧ Below w.heap.size w w' := by
  obtain ⟨a4, c4, a5, c5, a6, c6, a7, c7, rfl, h4, h5, h6, h7⟩ := hr
  have hB : Below w.heap.size w ((w.alloc (.cells #[.slice a rs.length cap] 26)).alloc (.cells #[.string r.name, .int .i64 r.kind, .int .i64 r.size, .bool r.little, .slice a4 r.bytes.length c4, .slice a5 r.names.length c5, .slice a6 r.tags.length c6, .slice a7 r.kids.length c7] 35)) := ((Below.refl _ _).alloc (Nat.le_refl _) _).alloc (by simp) _
  obtain ⟨n, hn⟩ : ∃ n : Nat, r.kids.headD 0 = (n : Int) := ⟨(r.kids.headD 0).toNat, by omega⟩
  rw [hn] at hin
  have hlt : n < rs.length := by omega
  have hres := Lib.hid (kindAtB_in hlt)
  rw [hn]
  rw [headD_at hk] at hn
  obtain ⟨b7, o7, rfl, hc7⟩ := (h7.below hB) 0 hk
  rw [hn] at hc7
  obtain ⟨b, off, _, _, _, _, _, _, _, _, rfl, ⟨-, d1, -⟩, -⟩ := (h.below hB).at n hlt
  have HB := Lib.hid hB
  have n0 : (0 : Int) ≤ (n : Int) := by omega
  have n1 : (n : Int) < (rs.length : Int) := by omega
  have k1 : (0 : Int) < (r.kids.length : Int) := by omega
  clear h h4 h5 h6 h7 hB hn hin
  generalize rs[n].kind = kd at d1 hres
  simp only [Nat.add_zero] at hc7
  by_cases hkd : kd = 1
  · subst hkd
    go_enter Try.func52, Try.ntmps52
    go_wp2
    go_quiet (fail)
    go_wp2
    go_ret
    exact ⟨ret_bool (by rw [hres.out]; rfl), below_drewN HB.out _⟩
  · have g1 : (kd == 1) = false := by simpa using hkd
    have hd : Hid (kindAtB rs (n : Int) = false) := by
      show _ = _
      rw [hres.out]; exact decide_eq_false hkd
    clear hres hkd
    go_enter Try.func52, Try.ntmps52
    go_wp2
    go_quiet (fail)
    go_wp2
    go_ret
    exact ⟨ret_bool hd.out.symm, below_drewN HB.out _⟩
theorem hasT_impl (a : Option Addr) (ss : List ByteArray) (k cap : Nat) (x : ByteArray) (w : World) (hl : ss.length ≤ 1073741824) (hk : k ≤ ss.length) (h : RdS a ss w) :
    Calls Try.prog 74 #[.slice a k cap, .string x] w fun e w' => e = .returned (.bool (hasS (ss.take k) x)) ∧ w = w' := by
  have e : (ss.take k).length = k := by simp; omega
  have h2 := has_impl a (ss.take k) cap x w (by omega) (h.take k)
  rw [e] at h2
  exact h2
end Go.Proofs.Ytkegjgfggijinaa
