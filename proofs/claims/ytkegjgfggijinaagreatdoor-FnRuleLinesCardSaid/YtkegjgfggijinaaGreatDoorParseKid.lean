/- Contracts of ParseKid, of the model and of the program. -/
import Derived.Test.YtkegjgfggijinaaGreatDoorFindImpl
namespace Go.Proofs.YtkegjgfggijinaaGreatDoor
open Go Go.RowKit
/-- What ParseKid returns beside its bool: the index, or 0. -/
def kidI (x : ByteArray) (rs : List RuleV) : Int := if 0 ≤ findFrom x rs 0 then findFrom x rs 0 else 0
def kidB (x : ByteArray) (rs : List RuleV) : Bool := decide (0 ≤ findFrom x rs 0)
theorem findFrom_cases (x : ByteArray) : ∀ (rs : List RuleV) (n : Nat), (findFrom x rs n = -1 ∧ ∀ r ∈ rs, r.name ≠ x) ∨ ∃ k, ∃ h : k < rs.length, findFrom x rs n = ((n + k : Nat) : Int) ∧ rs[k].name = x ∧ ∀ j (hj : j < k), (rs[j]'(by omega)).name ≠ x
  | [], n => .inl ⟨rfl, by simp⟩
  | r :: rs, n => by
    by_cases hx : r.name = x
    · exact .inr ⟨0, by simp, by simp [findFrom, hx], by simpa using hx, fun j hj => by omega⟩
    · rcases findFrom_cases x rs (n + 1) with ⟨h1, h2⟩ | ⟨k, hk, h1, h2, h3⟩
      · refine .inl ⟨by simp only [findFrom, if_neg hx]; exact h1, fun q hq => ?_⟩
        rcases List.mem_cons.1 hq with rfl | hq
        · exact hx
        · exact h2 q hq
      · refine .inr ⟨k + 1, by simpa using hk, ?_, by simpa using h2, fun j hj => ?_⟩
        · simp only [findFrom, if_neg hx]; rw [h1]; congr 1; omega
        · cases j with
          | zero => simpa using hx
          | succ j => simpa using h3 j (by omega)
theorem maxs (k : Int) (w : World) : Calls Tryz.prog 177 #[.int .i64 0, .int .i64 k] w fun e w' => e = .returned (.int .i64 (if 0 ≤ k then k else 0)) ∧ w = w' := by
  by_cases h : 0 ≤ k
  · by_cases h0 : k = 0
    · subst h0
      go_enter Tryz.func177, Tryz.ntmps177
      go_wp2
      go_ret
      exact ⟨rfl, rfl⟩
    · have g : 0 < k := by omega
      have g1 : ¬ k < 0 := by omega
      have g2 : ¬ k ≤ 0 := by omega
      rw [if_pos h]
      go_enter Tryz.func177, Tryz.ntmps177
      go_wp2
      go_ret
      exact ⟨rfl, rfl⟩
  · have g : ¬ 0 < k := by omega
    have g1 : k < 0 := by omega
    have g2 : k ≤ 0 := by omega
    rw [if_neg h]
    go_enter Tryz.func177, Tryz.ntmps177
    go_wp2
    go_ret
    exact ⟨rfl, rfl⟩
set_option maxRecDepth 100000 in
theorem pkid_spec (a : Option Addr) (rs : List RuleV) (cap : Nat) (x : ByteArray) (w : World) (hl : rs.length ≤ 1073741824) (h : RdR a rs w) :
    Calls Tryz.prog 159 #[.agg #[.slice a rs.length cap], .string x] w fun e w' => e = .returned (.tuple #[.int .i64 (kidI x rs), .bool (kidB x rs)]) ∧ Below w.heap.size w w' := by
  have e1 := Lib.hid (show kidI x rs = if 0 ≤ findFrom x rs 0 then findFrom x rs 0 else 0 from rfl)
  have e2 := Lib.hid (show kidB x rs = decide (0 ≤ findFrom x rs 0) from rfl)
  generalize kidI x rs = ki at *
  generalize kidB x rs = kb at *
  have hB : Below w.heap.size w (w.alloc (.cells #[.slice a rs.length cap] 26)) := (Below.refl _ _).alloc (Nat.le_refl _) _
  have H := Lib.hid (h.below hB)
  have HB := Lib.hid hB
  clear h hB
  go_enter Tryz.func159, Tryz.ntmps159
  go_wp2_with fail
  refine (find_spec a rs cap x _ hl H.out).mono ?_
  rintro e w1 ⟨rfl, hb1⟩
  have HB1 := Lib.hid (HB.out.trans (hb1.mono HB.out.size))
  clear hb1
  generalize findFrom x rs 0 = k at *
  go_wp2_with fail
  refine (maxs k _).mono ?_
  rintro e w2 ⟨rfl, rfl⟩
  rw [← e1.out]
  by_cases hk : 0 ≤ k
  · obtain rfl : kb = true := by rw [e2.out]; exact decide_eq_true hk
    clear e1 e2
    go_wp2
    go_ret2
    exact ⟨rfl, HB1.out⟩
  · obtain rfl : kb = false := by rw [e2.out]; exact decide_eq_false hk
    have g9 : decide (0 ≤ k) = false := decide_eq_false hk
    clear e1 e2
    go_wp2
    go_ret2
    exact ⟨rfl, HB1.out⟩
theorem nameOf (r : RuleV) (v1 v2 v3 v4 v5 v6 v7 : Value) (w : World) :
    Calls Tryz.prog 192 #[.agg #[.string r.name, v1, v2, v3, v4, v5, v6, v7]] w fun e w' => e = .returned (.string r.name) ∧ w' = w.alloc (.cells #[.string r.name, v1, v2, v3, v4, v5, v6, v7] 39) := by
  go_enter Tryz.func192, Tryz.ntmps192
  go_wp2
  go_ret
  exact ⟨rfl, rfl⟩
set_option maxRecDepth 100000 in
set_option maxHeartbeats 1000000 in
theorem findname_rule (a : Option Addr) (rs : List RuleV) (cap : Nat) (x : ByteArray) (w : World) (hl : rs.length ≤ 1073741824) (h : RdR a rs w) :
    Calls Tryz.prog 191 #[.slice a rs.length cap, .func (.func 192) #[] #[], .string x] w fun e w' => e = .returned (.tuple #[.int .i64 (kidI x rs), .bool (kidB x rs)]) ∧ Below w.heap.size w w' := by
  have e1 := Lib.hid (show kidI x rs = if 0 ≤ findFrom x rs 0 then findFrom x rs 0 else 0 from rfl)
  have e2 := Lib.hid (show kidB x rs = decide (0 ≤ findFrom x rs 0) from rfl)
  generalize kidI x rs = ki at *
  generalize kidB x rs = kb at *
  have H := Lib.hid h
  clear h
  go_enter Tryz.func191, Tryz.ntmps191
  go_wp2
  go_loopw [12] (fun i W => ∃ k : Nat, k ≤ rs.length ∧ i = .int .i64 k ∧ Hid (findFrom x rs 0 = findFrom x (rs.drop k) k) ∧ Hid (Below w.heap.size w W)) (fun i _ => rs.length - (intOf i).toNat)
  case atStart => exact ⟨0, Nat.zero_le _, rfl, rfl, Below.refl _ _⟩
  case round =>
    obtain ⟨k, hk, rfl, hf, hb⟩ := hrel
    have k0 : (0 : Int) ≤ (k : Int) := by omega
    by_cases hlt : k < rs.length
    · have k1 : (k : Int) < (rs.length : Int) := by omega
      obtain ⟨b, off, a4, c4, a5, c5, a6, c6, a7, c7, rfl, ⟨d0, d1, d2, d3, d4, d5, d6, d7⟩, -⟩ := (H.out.below hb.out).at k hlt
      have hyes := fun hx => Lib.hid (hf.out.trans (findFrom_yes hlt hx))
      have hno := fun hx => Lib.hid (hf.out.trans (findFrom_no hlt hx))
      generalize rs[k] = r at d0 d1 d2 d3 d4 d5 d6 d7 hyes hno
      go_wp2_with fail
      refine (nameOf r _ _ _ _ _ _ _ _).mono ?_
      rintro e w2 ⟨rfl, hw2⟩
      have hb2 : Hid (Below w.heap.size w w2) := by
        subst hw2
        exact (hb.out.alloc hb.out.size _).alloc (by have := hb.out.size; simp; omega) _
      clear hw2 d0 d1 d2 d3 d4 d5 d6 d7
      by_cases hx : r.name = x
      · have hr := hyes hx
        have g1 := str_eq hx
        obtain rfl : ki = (k : Int) := by rw [e1.out, hr.out, if_pos (by omega)]
        obtain rfl : kb = true := by rw [e2.out, hr.out]; exact decide_eq_true (by omega)
        generalize r.name = y at g1
        clear hx hyes hno hr e1 e2
        go_wp2
        go_ret2
        exact ⟨rfl, hb2.out⟩
      · have hr := hno hx
        have g1 := str_ne hx
        generalize r.name = y at g1
        clear hx hyes hno
        go_wp2
        go_roundw
        case rel => exact ⟨k + 1, by omega, by go_num, hr, hb2⟩
        case measure => simp [intOf]; omega
    · have k1 : ¬ (k : Int) < (rs.length : Int) := by omega
      have hr : findFrom x rs 0 = -1 := by
        have := hf.out
        rw [List.drop_of_length_le (by omega)] at this
        exact this
      obtain rfl : ki = 0 := by rw [e1.out, hr]; rfl
      obtain rfl : kb = false := by rw [e2.out, hr]; rfl
      clear hr e1 e2
      go_wp2
      go_ret2
      exact ⟨rfl, hb.out⟩
set_option maxRecDepth 100000 in
theorem pkid_impl (a : Option Addr) (rs : List RuleV) (cap : Nat) (x : ByteArray) (w : World) (hl : rs.length ≤ 1073741824) (h : RdR a rs w) :
    Calls Tryz.prog 174 #[.agg #[.slice a rs.length cap], .string x] w fun e w' => e = .returned (.tuple #[.int .i64 (kidI x rs), .bool (kidB x rs)]) ∧ Below w.heap.size w w' := by
  have hB : Below w.heap.size w (w.alloc (.cells #[.slice a rs.length cap] 26)) := (Below.refl _ _).alloc (Nat.le_refl _) _
  have H := Lib.hid (h.below hB)
  have HB := Lib.hid hB
  clear h hB
  go_enter Tryz.func174, Tryz.ntmps174
  go_wp2_with fail
  refine (findname_rule a rs cap x _ hl H.out).mono ?_
  rintro e w1 ⟨rfl, hb1⟩
  have HB1 := Lib.hid (HB.out.trans (hb1.mono HB.out.size))
  clear hb1
  go_wp2
  go_ret2
  exact ⟨rfl, HB1.out⟩
end Go.Proofs.YtkegjgfggijinaaGreatDoor
