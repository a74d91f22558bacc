/- The walk of the law FnIntegers, out of contracts. -/
import Derived.Test.YtgmbkmjheaijnaaDoorDrawInt
import Derived.Test.YtgmbkmjheaijnaaDoorTabs
namespace Go.Proofs.YtgmbkmjheaijnaaDoor
open Go Go.RowKit
/-- ParseInt, whatever the text. -/
def ParseOut (s : ByteArray) (w : World) (e : Ending) (w' : World) : Prop :=
  ∃ (n : Nat) (ok : Bool), (ok = true → Spells s n) ∧ (ok = false → n = 0 ∧ NoSpell s) ∧ e = .returned (.tuple #[.int .i64 n, .bool ok]) ∧ Below w.heap.size w w'
theorem parse_impl (s : ByteArray) (w : World) (ht : Tabs w) (hs : s.size ≤ 281474976710656) : Calls Tryd.prog 8 #[.string s] w (ParseOut s w) := by
  by_cases hsp : NoSpell s
  · refine (parse_impl_no s w hsp ht hs).mono ?_
    rintro e w1 ⟨rfl, b⟩
    exact ⟨0, false, fun h => by simp at h, fun _ => ⟨rfl, hsp⟩, rfl, b⟩
  · obtain ⟨n, hn⟩ := Classical.not_forall.1 hsp
    have hn := Classical.not_not.1 hn
    refine (parse_impl_yes s n w hn ht).mono ?_
    rintro e w1 ⟨rfl, b⟩
    exact ⟨n, true, fun _ => hn, fun h => by simp at h, rfl, b⟩
def CeilIn (a b : Int) : Prop := 0 ≤ a ∧ a ≤ 1000000000000 ∧ 1 ≤ b ∧ b ≤ 1000000000000
def CeilOut (a b : Int) (w : World) (e : Ending) (w' : World) : Prop :=
  ∃ q : Int, (CeilIn a b → 0 ≤ q ∧ a ≤ q * b ∧ q * b < a + b) ∧ (¬ CeilIn a b → q = 0) ∧ e = .returned (.int .i64 q) ∧ w = w'
theorem ceil_mul {a b : Int} (h : CeilIn a b) : 0 ≤ (a + b - 1) / b ∧ a ≤ (a + b - 1) / b * b ∧ (a + b - 1) / b * b < a + b := by
  obtain ⟨h1, h2, h3, h4⟩ := h
  have e := Int.mul_ediv_add_emod (a + b - 1) b
  have m0 := Int.emod_nonneg (a + b - 1) (show b ≠ 0 by omega)
  have m1 := Int.emod_lt_of_pos (a + b - 1) (show 0 < b by omega)
  rw [Int.mul_comm] at e
  refine ⟨Int.ediv_nonneg (by omega) (by omega), by omega, by omega⟩
theorem ceil_impl (a b : Int) (w : World) : Calls Tryd.prog 12 #[.int .i64 a, .int .i64 b] w (CeilOut a b w) := by
  by_cases h1 : 0 ≤ a
  · by_cases h2 : a ≤ 1000000000000
    · by_cases h3 : 1 ≤ b
      · by_cases h4 : b ≤ 1000000000000
        · go_enter Tryd.func12, Tryd.ntmps12
          go_wp2
          go_ret
          exact ⟨_, fun h => ceil_mul h, fun h => absurd ⟨h1, h2, h3, h4⟩ h, rfl, rfl⟩
        · go_enter Tryd.func12, Tryd.ntmps12
          go_wp2
          go_ret
          exact ⟨_, fun h => by unfold CeilIn at h; omega, fun _ => rfl, rfl, rfl⟩
      · go_enter Tryd.func12, Tryd.ntmps12
        go_wp2
        go_ret
        exact ⟨_, fun h => by unfold CeilIn at h; omega, fun _ => rfl, rfl, rfl⟩
    · go_enter Tryd.func12, Tryd.ntmps12
      go_wp2
      go_ret
      exact ⟨_, fun h => by unfold CeilIn at h; omega, fun _ => rfl, rfl, rfl⟩
  · go_enter Tryd.func12, Tryd.ntmps12
    go_wp2
    go_ret
    exact ⟨_, fun h => by unfold CeilIn at h; omega, fun _ => rfl, rfl, rfl⟩
def ModIn (b : Int) : Prop := 1 ≤ b ∧ b ≤ 1000000000000
def ModOut (a b : Int) (w : World) (e : Ending) (w' : World) : Prop :=
  ∃ r : Int, (ModIn b → r = a % b) ∧ (¬ ModIn b → r = 0) ∧ e = .returned (.int .i64 r) ∧ w = w'
theorem tm_range (a : Int) {b : Int} (h : 1 ≤ b) : -b < a.tmod b ∧ a.tmod b < b := by
  have := Int.lt_tmod_of_pos a (show 0 < b by omega)
  exact ⟨by omega, Int.tmod_lt_of_pos a (by omega)⟩
theorem tm_emod (a b : Int) : a.tmod b % b = a % b := by
  rw [Int.tmod_def]
  simp
theorem tm_neg {a b : Int} (h : 1 ≤ b) (h1 : a.tmod b < 0) : a.tmod b + b = a % b := by
  have h2 := tm_range a h
  rw [← tm_emod a b, ← Int.add_emod_right, Int.emod_eq_of_lt (by omega) (by omega)]
theorem tm_pos {a b : Int} (h : 1 ≤ b) (h1 : ¬ a.tmod b < 0) : a.tmod b = a % b := by
  have h2 := tm_range a h
  rw [← tm_emod a b, Int.emod_eq_of_lt (by omega) (by omega)]
theorem mod_impl (a b : Int) (w : World) : Calls Tryd.prog 13 #[.int .i64 a, .int .i64 b] w (ModOut a b w) := by
  by_cases h1 : 1 ≤ b
  · by_cases h2 : b ≤ 1000000000000
    · obtain ⟨t1, t2⟩ := tm_range a h1
      by_cases h3 : a.tmod b < 0
      · go_enter Tryd.func13, Tryd.ntmps13
        go_wp2
        go_ret
        exact ⟨_, fun _ => tm_neg h1 h3, fun h => absurd ⟨h1, h2⟩ h, rfl, rfl⟩
      · go_enter Tryd.func13, Tryd.ntmps13
        go_wp2
        go_ret
        exact ⟨_, fun _ => tm_pos h1 (by omega), fun h => absurd ⟨h1, h2⟩ h, rfl, rfl⟩
    · go_enter Tryd.func13, Tryd.ntmps13
      go_wp2
      go_ret
      exact ⟨_, fun h => by unfold ModIn at h; omega, fun _ => rfl, rfl, rfl⟩
  · go_enter Tryd.func13, Tryd.ntmps13
    go_wp2
    go_ret
    exact ⟨_, fun h => by unfold ModIn at h; omega, fun _ => rfl, rfl, rfl⟩
/-- What is known of m and the two results of parsing its text. -/
theorem spells_itoa {m : Int} {n : Nat} (h : Spells ⟨(Lib.itoa m).toArray⟩ n) : m = (n : Int) ∧ 0 ≤ m ∧ m ≤ 1000000000000 := by
  have h2 : Lib.itoa m = Lib.decDigits n := h.2
  by_cases hm : m < 0
  · exfalso
    rw [itoa_neg hm] at h2
    have hd := decFrom_digits n
    rw [← h2] at hd
    simp [Lib.decFrom, Lib.digitVal] at hd
  · obtain ⟨k, rfl⟩ : ∃ k : Nat, m = (k : Int) := ⟨m.toNat, by omega⟩
    rw [itoa_nat] at h2
    have h3 := decFrom_digits k
    rw [h2, decFrom_digits] at h3
    injection h3 with h3
    subst h3
    exact ⟨rfl, by omega, by have := h.1; omega⟩
theorem nospell_itoa {m : Int} (h : NoSpell ⟨(Lib.itoa m).toArray⟩) : m < 0 ∨ 1000000000000 < m := by
  by_cases h0 : m < 0
  · exact .inl h0
  · by_cases h1 : 1000000000000 < m
    · exact .inr h1
    · exfalso
      obtain ⟨k, rfl⟩ : ∃ k : Nat, m = (k : Int) := ⟨m.toNat, by omega⟩
      exact h k ⟨by omega, by rw [itoa_nat]⟩
theorem itoa_size {m : Int} (h : I64 m) : (⟨(Lib.itoa m).toArray⟩ : ByteArray).size ≤ 21 := by
  obtain ⟨h0, h1⟩ := h
  rw [bytes_size]
  rcases Int.lt_trichotomy m 0 with hm | rfl | hm
  · rw [itoa_neg hm]
    have := digs_length m.natAbs (by omega)
    simp; omega
  · rw [itoa_zero]; simp
  · rw [itoa_pos hm]
    have := digs_length m.natAbs (by omega)
    omega
/-- What the law asks of x, y and the two answers q, r. -/
def Rest (x y q r : Int) : Prop :=
  (y < 1 ∧ q = 0 ∧ r = 0) ∨ (1000000000000 < y ∧ 1 ≤ y ∧ q = 0 ∧ r = 0)
  ∨ (x < 0 ∧ 1 ≤ y ∧ y ≤ 1000000000000 ∧ q = 0 ∧ 0 ≤ r ∧ r < y ∧ -y < x.tmod y ∧ x.tmod y < y ∧ ((x.tmod y - r).tmod y != 0) = false)
  ∨ (1000000000000 < x ∧ 0 ≤ x ∧ 1 ≤ y ∧ y ≤ 1000000000000 ∧ q = 0 ∧ r = x % y ∧ 0 ≤ x % y ∧ x % y < y)
  ∨ (x ≤ 1000000000000 ∧ 0 ≤ x ∧ 1 ≤ y ∧ y ≤ 1000000000000 ∧ r = x % y ∧ 0 ≤ x % y ∧ x % y < y ∧ 0 ≤ q ∧ 0 ≤ q * y ∧ q * y ≤ 4000000000000 ∧ x ≤ q * y ∧ q * y - x < y)
theorem rest_of {x y q r : Int} (hq : CeilIn x y → 0 ≤ q ∧ x ≤ q * y ∧ q * y < x + y) (hq0 : ¬ CeilIn x y → q = 0) (hr : ModIn y → r = x % y) (hr0 : ¬ ModIn y → r = 0) : Rest x y q r := by
  unfold CeilIn at hq hq0
  unfold ModIn at hr hr0
  by_cases h1 : y < 1
  · exact .inl ⟨h1, hq0 (by omega), hr0 (by omega)⟩
  · by_cases h2 : 1000000000000 < y
    · exact .inr (.inl ⟨h2, by omega, hq0 (by omega), hr0 (by omega)⟩)
    · have hr := hr (by omega)
      have m0 := Int.emod_nonneg x (show y ≠ 0 by omega)
      have m1 := Int.emod_lt_of_pos x (show 0 < y by omega)
      by_cases h3 : x < 0
      · obtain ⟨t1, t2⟩ := tm_range x (show 1 ≤ y by omega)
        refine .inr (.inr (.inl ⟨h3, by omega, by omega, hq0 (by omega), by omega, by omega, t1, t2, ?_⟩))
        by_cases h4 : x.tmod y < 0
        · rw [show x.tmod y - r = -y by have := tm_neg (show 1 ≤ y by omega) h4; omega]
          simp
        · rw [show x.tmod y - r = 0 by have := tm_pos (show 1 ≤ y by omega) h4; omega]
          simp
      · by_cases h4 : 1000000000000 < x
        · exact .inr (.inr (.inr (.inl ⟨h4, by omega, by omega, by omega, hq0 (by omega), hr, m0, m1⟩)))
        · obtain ⟨q0, q1, q2⟩ := hq (by omega)
          exact .inr (.inr (.inr (.inr ⟨by omega, by omega, by omega, by omega, hr, m0, m1, q0, by omega, by omega, q1, by omega⟩)))
/-- The rest of the law behind the draws and the calls. -/
def Fine (m : Int) (k : Nat) (fine : Bool) : Prop := (fine = true ∧ m = (k : Int) ∧ 0 ≤ m ∧ m ≤ 1000000000000) ∨ (fine = false ∧ m < 0) ∨ (fine = false ∧ 1000000000000 < m)
set_option maxRecDepth 100000 in
set_option maxHeartbeats 4000000 in
theorem integers_walk (a : Option Addr) (len cap : Nat) (w : World) (hl : len ≤ 1048576) (hs : Code a len w) (ht : Tabs w) :
    Calls Tryd.prog 3 #[.slice a len cap] w fun e w' => e = .returned (.bool true) ∧ Below w.heap.size w w' := by
  have HS := Lib.hid hs
  have HT := Lib.hid ht
  clear hs ht
  have hl1 : ¬ (1048576 : Int) < (len : Int) := by omega
  go_enter Tryd.func3, Tryd.ntmps3
  go_wp2_with (go_at_call 6; go_in)
  refine (drawParseInt a len cap _ (by omega) HS.out).mono ?_
  rintro e w1 ⟨s, hss, rfl, hb1⟩
  have HB1 := Lib.hid hb1
  clear hb1
  go_wp2_with fail
  refine (parse_impl s _ (HT.out.below HB1.out) (by omega)).mono ?_
  rintro e w2 ⟨n, ok, hy, hn, rfl, hb2⟩
  have HY := Lib.hid hy
  have HN := Lib.hid hn
  have HB2 := Lib.hid (HB1.out.trans (hb2.mono HB1.out.size))
  clear hb2 hy hn
  go_wp2_with fail
  refine (drawFormatInt a len cap _ (by omega) (HS.out.below HB2.out)).mono ?_
  rintro e w3 ⟨m, hm, rfl, hb3⟩
  have HM := Lib.hid hm
  have HB3 := Lib.hid (HB2.out.trans (hb3.mono HB2.out.size))
  clear hb3 hm
  go_wp2_with fail
  refine (fmt_impl m _ HM.out.1 HM.out.2 (HT.out.below HB3.out).pow).mono ?_
  rintro e w4 ⟨rfl, hb4⟩
  have HB4 := Lib.hid (HB3.out.trans (hb4.mono HB3.out.size))
  clear hb4
  go_wp2_with fail
  refine (parse_impl _ _ (HT.out.below HB4.out) (by have := itoa_size HM.out; omega)).mono ?_
  rintro e w5 ⟨k, fine, hy5, hn5, rfl, hb5⟩
  have HF : Hid (Fine m k fine) := by
    cases fine
    · rcases nospell_itoa (hn5 rfl).2 with h | h
      · exact .inr (.inl ⟨rfl, h⟩)
      · exact .inr (.inr ⟨rfl, h⟩)
    · exact .inl ⟨rfl, spells_itoa (hy5 rfl)⟩
  have HB5 := Lib.hid (HB4.out.trans (hb5.mono HB4.out.size))
  clear hb5 hy5 hn5
  go_wp2_with fail
  refine (drawCeilDiv a len cap _ (by omega) (HS.out.below HB5.out)).mono ?_
  rintro e w6 ⟨x, y, hx, hy, rfl, hb6⟩
  have HX := Lib.hid hx
  have HYY := Lib.hid hy
  have HB6 := Lib.hid (HB5.out.trans (hb6.mono HB5.out.size))
  clear hb6 hx hy
  go_wp2_with fail
  refine (ceil_impl x y _).mono ?_
  rintro e w7 ⟨q, hq, hq0, rfl, rfl⟩
  have HQ := Lib.hid hq
  have HQ0 := Lib.hid hq0
  clear hq hq0
  go_wp2_with fail
  refine (mod_impl x y _).mono ?_
  rintro e w8 ⟨r, hr, hr0, rfl, rfl⟩
  have HR := Lib.hid (rest_of HQ.out HQ0.out hr hr0)
  clear hr hr0 HQ HQ0 HX HYY
  cases ok
  · clear HY HN
    rcases HF.out with ⟨rfl, rfl, f1, f2⟩ | ⟨rfl, f1⟩ | ⟨rfl, f1⟩
    all_goals
      clear HF HM
      rcases HR.out with ⟨g1, rfl, rfl⟩ | ⟨g1, g2, rfl, rfl⟩ | ⟨g1, g2, g3, rfl, g4, g5, g6, g7, g8⟩ | ⟨g1, g2, g3, g4, rfl, rfl, g5, g6⟩ | ⟨g1, g2, g3, g4, rfl, g5, g6, g7, g8, g9, g10, g11⟩
      all_goals
        clear HR
        go_wp2_with fail
        go_ret
        exact ⟨rfl, HB6.out⟩
  · have hq : (Lib.itoa (n : Int) == s.toList) = true := by rw [toList_data, (HY.out rfl).2, itoa_nat]; simp
    have hn : n ≤ 1000000000000 := (HY.out rfl).1
    clear HY HN
    rcases HF.out with ⟨rfl, rfl, f1, f2⟩ | ⟨rfl, f1⟩ | ⟨rfl, f1⟩
    all_goals
      clear HF HM
      go_wp2_with fail
      refine (fmt_impl n _ (by omega) (by omega) (HT.out.below HB6.out).pow).mono ?_
      rintro e w9 ⟨rfl, hb9⟩
      have HB9 := Lib.hid (HB6.out.trans (hb9.mono HB6.out.size))
      clear hb9
      rcases HR.out with ⟨g1, rfl, rfl⟩ | ⟨g1, g2, rfl, rfl⟩ | ⟨g1, g2, g3, rfl, g4, g5, g6, g7, g8⟩ | ⟨g1, g2, g3, g4, rfl, rfl, g5, g6⟩ | ⟨g1, g2, g3, g4, rfl, g5, g6, g7, g8, g9, g10, g11⟩
      all_goals
        clear HR
        go_wp2_with fail
        go_ret
        exact ⟨rfl, HB9.out⟩
end Go.Proofs.YtgmbkmjheaijnaaDoor
