/- Contracts of the program's RootOf, FindRule, KindName, IntegerLimit (chapter 4), InRange, hasRule. Contracts of the program's FindRule and IntegerLimit. Contracts of KidName, of the model and of the program. -/
import Derived.Test.YtefkhknfjohnaaaGNam
import Derived.Test.YtefkhknfjohnaaaGRul
import Derived.BigQuiet
import Derived.Deep.RegionWith
import Derived.IntWalk
namespace Go.Proofs.Ytefkhknfjohnaaa
open Go Go.RowKit
theorem inI_any (x lo hi : Int) (b : Bool) (w : World) (hb : decide (lo ≤ x ∧ x ≤ hi) = b) :
    Calls Try.prog 34 #[.int .i64 x, .int .i64 lo, .int .i64 hi] w fun e w' => e = .returned (.bool b) ∧ w = w' := by
  subst hb
  by_cases ha : lo ≤ x
  · by_cases hc : x ≤ hi
    · go_enter Try.func34, Try.ntmps34
      go_wp2
      go_ret
      exact ⟨ret_bool (decide_eq_true ⟨ha, hc⟩).symm, rfl⟩
    · have hd : decide (x ≤ hi) = false := by simp [hc]
      go_enter Try.func34, Try.ntmps34
      go_wp2
      go_ret
      first | exact ⟨rfl, rfl⟩ | exact ⟨ret_bool (decide_eq_false (by omega)).symm, rfl⟩ | exact ⟨ret_bool (by simp; omega), rfl⟩
  · have hd : decide (lo ≤ x) = false := by simp [ha]
    go_enter Try.func34, Try.ntmps34
    go_wp2
    go_ret
    first | exact ⟨rfl, rfl⟩ | exact ⟨ret_bool (decide_eq_false (by omega)).symm, rfl⟩ | exact ⟨ret_bool (by simp; omega), rfl⟩
theorem root_impl (a : Option Addr) (rs : List RuleV) (cap : Nat) (w : World) (hl : rs.length ≤ 1073741824) (_h : RdR a rs w) :
    Calls Try.prog 63 #[.agg #[.slice a rs.length cap]] w fun e w' => e = .returned (.int .i64 ((rs.length : Int) - 1)) ∧ Below w.heap.size w w' := by
  go_enter Try.func63, Try.ntmps63
  go_wp2
  go_ret
  exact ⟨rfl, (Below.refl _ _).alloc (Nat.le_refl _) _⟩
theorem hasr_impl (a : Option Addr) (n cap : Nat) (k : Int) (w : World) (hl : n ≤ 1073741824) (b : Bool) (hb : decide (0 ≤ k ∧ k < (n : Int)) = b) :
    Calls Try.prog 71 #[.agg #[.slice a n cap], .int .i64 k] w fun e w' => e = .returned (.bool b) ∧ Below w.heap.size w w' := by
  have hb2 : decide (0 ≤ k ∧ k ≤ (n : Int) - 1) = b := by
    rw [← hb]
    by_cases h : 0 ≤ k ∧ k < (n : Int)
    · rw [decide_eq_true h, decide_eq_true (by omega)]
    · rw [decide_eq_false h, decide_eq_false (by omega)]
  clear hb
  go_enter Try.func71, Try.ntmps71
  go_wp2_with fail
  refine (inI_any _ _ _ b _ hb2).mono ?_
  rintro e w1 ⟨rfl, rfl⟩
  go_wp2
  go_ret
  exact ⟨rfl, (Below.refl _ _).alloc (Nat.le_refl _) _⟩
end Go.Proofs.Ytefkhknfjohnaaa
namespace Go.Proofs.Ytefkhknfjohnaaa
open Go Go.RowKit
set_option maxRecDepth 100000 in
theorem find_impl (a : Option Addr) (rs : List RuleV) (cap : Nat) (x : ByteArray) (w : World) (hl : rs.length ≤ 1073741824) (h : RdR a rs w) :
    Calls Try.prog 101 #[.agg #[.slice a rs.length cap], .string x] w fun e w' => e = .returned (.int .i64 (findFrom x rs 0)) ∧ Below w.heap.size w w' := by
  have hB : Below w.heap.size w (w.alloc (.cells #[.slice a rs.length cap] 38)) := (Below.refl _ _).alloc (Nat.le_refl _) _
  have H := Lib.hid h
  have HB := Lib.hid hB
  clear h hB
  go_enter Try.func101, Try.ntmps101
  go_wp2
  go_loopw [10] (fun i W => ∃ k : Nat, k ≤ rs.length ∧ i = .int .i64 k ∧ Hid (findFrom x rs 0 = findFrom x (rs.drop k) k) ∧ Hid (Below w.heap.size w W)) (fun i _ => rs.length - (intOf i).toNat)
  case atStart => exact ⟨0, Nat.zero_le _, rfl, rfl, HB⟩
  case round =>
    obtain ⟨k, hk, rfl, hf, hb⟩ := hrel
    have k0 : (0 : Int) ≤ (k : Int) := by omega
    by_cases hlt : k < rs.length
    · have k1 : (k : Int) < (rs.length : Int) := by omega
      obtain ⟨b, off, a4, c4, a5, c5, a6, c6, a7, c7, rfl, ⟨d0, d1, d2, d3, d4, d5, d6, d7⟩, -⟩ := (H.out.below hb.out).at k hlt
      by_cases hx : rs[k].name = x
      · have hr : Hid (findFrom x rs 0 = (k : Int)) := hf.out.trans (findFrom_yes hlt hx)
        have g1 := str_eq hx
        generalize rs[k].name = y at d0 g1
        clear hx
        go_wp2
        go_ret
        exact ⟨ret_int hr.out.symm, hb.out.alloc hb.out.size _⟩
      · have hr : Hid (findFrom x rs 0 = findFrom x (rs.drop (k + 1)) (k + 1)) := hf.out.trans (findFrom_no hlt hx)
        have g1 := str_ne hx
        generalize rs[k].name = y at d0 g1
        clear hx
        go_wp2
        go_roundw
        case rel => exact ⟨k + 1, by omega, by go_num, hr, hb.out.alloc hb.out.size _⟩
        case measure => simp [intOf]; omega
    · have k1 : ¬ (k : Int) < (rs.length : Int) := by omega
      have hr : Hid (findFrom x rs 0 = -1) := by
        have := hf.out
        rw [List.drop_of_length_le (by omega)] at this
        exact this
      go_wp2
      go_ret
      exact ⟨ret_int hr.out.symm, hb.out⟩
set_option maxRecDepth 100000 in
set_option maxHeartbeats 1000000 in
theorem limit_impl (a : Option Addr) (rs : List RuleV) (cap : Nat) (k : Int) (w : World) (hl : rs.length ≤ 1073741824) (h : RdR a rs w) :
    Calls Try.prog 96 #[.agg #[.slice a rs.length cap], .int .i64 k] w fun e w' => e = .returned (.int .i64 (limitAt rs k)) ∧ Below w.heap.size w w' := by
  obtain ⟨w0, hw0⟩ : ∃ w0, w0 = w.alloc (.cells #[.slice a rs.length cap] 38) := ⟨_, rfl⟩
  have hB : Below w.heap.size w w0 := by subst hw0; exact (Below.refl _ _).alloc (Nat.le_refl _) _
  have hX : CellsAt w.heap.size [.slice a rs.length cap] w0 := by subst hw0; exact CellsAt.new w _ _
  have H := Lib.hid (h.below hB)
  have HB := Lib.hid hB
  have HX := Lib.hid hX
  have hx0 := (hX 0 _ rfl).1
  clear h hB hX
  by_cases hk : 0 ≤ k ∧ k < rs.length
  · go_enter Try.func96, Try.ntmps96
    go_wp2_with fail
    rw [← hw0]
    clear hw0
    refine (hasr_impl a rs.length cap k _ hl true (by simpa using hk)).mono ?_
    rintro e w1 ⟨rfl, hb1⟩
    have hx1 := (HX.out.below hb1 0 _ rfl).1
    have HB1 := Lib.hid (HB.out.trans (hb1.mono HB.out.size))
    have H1 := Lib.hid (H.out.below hb1)
    clear hb1 HX HB H hx0
    obtain ⟨n, rfl⟩ : ∃ n : Nat, k = (n : Int) := ⟨k.toNat, by omega⟩
    have hlt : n < rs.length := by omega
    have k0 : (0 : Int) ≤ (n : Int) := by omega
    have k1 : (n : Int) < (rs.length : Int) := by omega
    have hr := Lib.hid (limitAt_in hlt)
    obtain ⟨b, off, a4, c4, a5, c5, a6, c6, a7, c7, rfl, ⟨d0, d1, d2, d3, d4, d5, d6, d7⟩, -⟩ := H1.out.at n hlt
    generalize rs[n] = r at d0 d1 d2 d3 d4 d5 d6 d7 hr
    by_cases hkd : r.kind = 1
    · rw [hkd] at d1
      by_cases hsz : 1 ≤ r.size ∧ r.size ≤ 4
      · have hres : Hid (limitAt rs (n : Int) = pow256 r.size - 1) := by
          show _ = _
          rw [hr.out, if_pos ⟨hkd, hsz⟩]
        clear hr
        go_wp2_with fail
        refine (inI_any _ _ _ true _ (by simp; omega)).mono ?_
        rintro e w2 ⟨rfl, rfl⟩
        generalize r.size = sz at hsz d2 hres
        rcases (by omega : sz = 1 ∨ sz = 2 ∨ sz = 3 ∨ sz = 4) with rfl | rfl | rfl | rfl <;>
        · go_wp2
          go_ret
          exact ⟨ret_int (by rw [hres.out]; rfl), HB1.out.alloc HB1.out.size _⟩
      · go_wp2_with fail
        refine (inI_any _ _ _ false _ (by simp; omega)).mono ?_
        rintro e w2 ⟨rfl, rfl⟩
        go_wp2
        go_ret
        exact ⟨ret_int (by rw [hr.out, if_neg (fun h => hsz h.2)]), HB1.out.alloc HB1.out.size _⟩
    · have g1 : (r.kind != 1) = true := by simpa using hkd
      go_wp2
      go_ret
      exact ⟨ret_int (by rw [hr.out, if_neg (fun h => hkd h.1)]), HB1.out.alloc HB1.out.size _⟩
  · have hr := Lib.hid (limitAt_out hk)
    go_enter Try.func96, Try.ntmps96
    go_wp2_with fail
    rw [← hw0]
    clear hw0
    refine (hasr_impl a rs.length cap k _ hl false (by simpa using hk)).mono ?_
    rintro e w1 ⟨rfl, hb1⟩
    have HB1 := Lib.hid (HB.out.trans (hb1.mono HB.out.size))
    go_wp2
    go_ret
    exact ⟨ret_int hr.out.symm, HB1.out⟩
end Go.Proofs.Ytefkhknfjohnaaa
namespace Go.Proofs.Ytefkhknfjohnaaa
open Go Go.RowKit
/-- The name of the rule that a kid refers to. -/
def kidName (rs : List RuleV) (i k : Int) : ByteArray :=
  if h : 0 ≤ i ∧ i < (rs.length : Int) then
    if g : 0 ≤ k ∧ k < ((rs[i.toNat]'(by omega)).kids.length : Int) then
      if f : 0 ≤ ((rs[i.toNat]'(by omega)).kids[k.toNat]'(by omega)) ∧ ((rs[i.toNat]'(by omega)).kids[k.toNat]'(by omega)) < (rs.length : Int) then (rs[((rs[i.toNat]'(by omega)).kids[k.toNat]'(by omega)).toNat]'(by omega)).name else ⟨#[]⟩
    else ⟨#[]⟩
  else ⟨#[]⟩
theorem kidName_no1 {rs : List RuleV} {i k : Int} (h : ¬ (0 ≤ i ∧ i < (rs.length : Int))) : kidName rs i k = ⟨#[]⟩ := by unfold kidName; rw [dif_neg h]
theorem kidName_no2 {rs : List RuleV} {n : Nat} {k : Int} (h : n < rs.length) (g : ¬ (0 ≤ k ∧ k < (rs[n].kids.length : Int))) : kidName rs (n : Int) k = ⟨#[]⟩ := by
  unfold kidName; rw [dif_pos (by omega), dif_neg (by simpa using g)]
theorem kidName_no3 {rs : List RuleV} {n m : Nat} (h : n < rs.length) (g : m < rs[n].kids.length) (f : ¬ (0 ≤ rs[n].kids[m] ∧ rs[n].kids[m] < (rs.length : Int))) : kidName rs (n : Int) (m : Int) = ⟨#[]⟩ := by
  unfold kidName; rw [dif_pos (by omega), dif_pos (by simpa using g), dif_neg (by simpa using f)]
theorem kidName_yes {rs : List RuleV} {n m q : Nat} (h : n < rs.length) (g : m < rs[n].kids.length) (e : rs[n].kids[m] = (q : Int)) (hq : q < rs.length) : kidName rs (n : Int) (m : Int) = rs[q].name := by
  unfold kidName
  rw [dif_pos (by omega), dif_pos (by simpa using g), dif_pos (by simp only [Int.toNat_natCast, e]; omega)]
  simp only [Int.toNat_natCast, e]
theorem cell_keep {w w' : World} {p : Addr} {v : Value} (hb : Below w.heap.size w w') (h : w.cell? p = some v) : w'.cell? p = some v := (hb.cell (cell_lt h)).trans h
theorem in_same (x lo hi : Int) (b : Bool) (w : World) (hb : decide (lo ≤ x ∧ x ≤ hi) = b) :
    Calls Try.prog 85 #[.int .i64 x, .int .i64 lo, .int .i64 hi] w fun e w' => e = .returned (.bool b) ∧ w' = w := (in_any x lo hi b w hb).mono fun _ _ ⟨h3, h4⟩ => ⟨h3, h4.symm⟩
theorem inI_same (x lo hi : Int) (b : Bool) (w : World) (hb : decide (lo ≤ x ∧ x ≤ hi) = b) :
    Calls Try.prog 34 #[.int .i64 x, .int .i64 lo, .int .i64 hi] w fun e w' => e = .returned (.bool b) ∧ w' = w := (inI_any x lo hi b w hb).mono fun _ _ ⟨h3, h4⟩ => ⟨h3, h4.symm⟩
end Go.Proofs.Ytefkhknfjohnaaa
