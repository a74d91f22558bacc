/- Contracts of the program's RootOf, FindRule, KindName, IntegerLimit (chapter 4), InRange, hasRule. Contracts of KidName, of the model and of the program. Contracts of the program's FindRule and IntegerLimit. Contracts of ParseKid, of the model and of the program. -/
import Derived.Test.YtndjefednfcmmaaGreatDoorLimit
import Derived.Test.YtndjefednfcmmaaGreatDoorRuleTo
import Derived.BigQuiet
import Derived.Deep.RegionWith
import Derived.IntWalk
set_option maxRecDepth 100000
namespace Go.Proofs.YtndjefednfcmmaaGreatDoor
open Go Go.RowKit
theorem inI_any (x lo hi : Int) (b : Bool) (w : World) (hb : decide (lo ≤ x ∧ x ≤ hi) = b) :
  Calls Tryz.prog 41 #[.int .i64 x, .int .i64 lo, .int .i64 hi] w fun e w' => e = .returned (.bool b) ∧ w = w' := by
 subst hb
 by_cases ha : lo ≤ x
 ·by_cases hc : x ≤ hi
  ·go_enter Tryz.func41, Tryz.ntmps41
   go_wp2
   go_ret
   exact ⟨ret_bool (decide_eq_true ⟨ha, hc⟩).symm, rfl⟩
  ·have hd : decide (x ≤ hi) = false := by simp [hc]
   go_enter Tryz.func41, Tryz.ntmps41
   go_wp2
   go_ret
   first | exact ⟨rfl, rfl⟩ | exact ⟨ret_bool (decide_eq_false (by omega)).symm, rfl⟩ | exact ⟨ret_bool (by simp; omega), rfl⟩
 ·have hd : decide (lo ≤ x) = false := by simp [ha]
  go_enter Tryz.func41, Tryz.ntmps41
  go_wp2
  go_ret
  first | exact ⟨rfl, rfl⟩ | exact ⟨ret_bool (decide_eq_false (by omega)).symm, rfl⟩ | exact ⟨ret_bool (by simp; omega), rfl⟩
theorem hasr_impl (a : Option Addr) (n cap : Nat) (k : Int) (w : World) (hl : n ≤ 1073741824) (b : Bool) (hb : decide (0 ≤ k ∧ k < (n : Int)) = b) :
  Calls Tryz.prog 78 #[.agg #[.slice a n cap], .int .i64 k] w fun e w' => e = .returned (.bool b) ∧ Below w.heap.size w w' := by
 have hb2 : decide (0 ≤ k ∧ k ≤ (n : Int) - 1) = b := by
  rw [← hb]
  by_cases h : 0 ≤ k ∧ k < (n : Int)
  ·rw [decide_eq_true h, decide_eq_true (by omega)]
  ·rw [decide_eq_false h, decide_eq_false (by omega)]
 clear hb
 go_enter Tryz.func78, Tryz.ntmps78
 go_wp2_with fail
 refine (inI_any _ _ _ b _ hb2).mono ?_
 rintro e w1 ⟨rfl, rfl⟩
 go_wp2
 go_ret
 exact ⟨rfl, (Below.refl _ _).alloc (Nat.le_refl _) _⟩
theorem kind_impl (k : Int) (w : World) :
  Calls Tryz.prog 45 #[.int .i64 k] w fun e w' => e = .returned (.string (kindName k)) ∧ Below w.heap.size w w' := by
 by_cases hk : 1 ≤ k ∧ k ≤ 10
 ·rcases (by omega : k = 1 ∨ k = 2 ∨ k = 3 ∨ k = 4 ∨ k = 5 ∨ k = 6 ∨ k = 7 ∨ k = 8 ∨ k = 9 ∨ k = 10) with rfl | rfl | rfl | rfl | rfl | rfl | rfl | rfl | rfl | rfl <;>
  ·go_enter Tryz.func45, Tryz.ntmps45
   go_wp2
   go_ret
   exact ⟨rfl, Below.refl _ _⟩
 ·have hr : Hid (kindName k = ⟨#[]⟩) := by
   show _ = _
   unfold kindName
   rw [if_neg hk]
  have g1 : (k == 1) = false := by simp; omega
  have g2 : (k == 2) = false := by simp; omega
  have g3 : (k == 3) = false := by simp; omega
  have g4 : (k == 4) = false := by simp; omega
  have g5 : (k == 5) = false := by simp; omega
  have g6 : (k == 6) = false := by simp; omega
  have g7 : (k == 7) = false := by simp; omega
  have g8 : (k == 8) = false := by simp; omega
  have g9 : (k == 9) = false := by simp; omega
  have g10 : (k == 10) = false := by simp; omega
  go_enter Tryz.func45, Tryz.ntmps45
  go_wp2
  go_ret
  exact ⟨ret_str hr.out.symm, Below.refl _ _⟩
def kidName (rs : List RuleV) (i k : Int) : ByteArray :=
 if h : 0 ≤ i ∧ i < (rs.length : Int) then
  if g : 0 ≤ k ∧ k < ((rs[i.toNat]'(by omega)).kids.length : Int) then
   if f : 0 ≤ ((rs[i.toNat]'(by omega)).kids[k.toNat]'(by omega)) ∧ ((rs[i.toNat]'(by omega)).kids[k.toNat]'(by omega)) < (rs.length : Int) then (rs[((rs[i.toNat]'(by omega)).kids[k.toNat]'(by omega)).toNat]'(by omega)).name else ⟨#[]⟩
  else ⟨#[]⟩
 else ⟨#[]⟩
theorem kidName_no1 {rs : List RuleV} {i k : Int} (h : ¬ (0 ≤ i ∧ i < (rs.length : Int))) : kidName rs i k = ⟨#[]⟩ := by unfold kidName; rw [dif_neg h]
theorem kidName_no2 {rs : List RuleV} {n : Nat} {k : Int} (h : n < rs.length) (g : ¬ (0 ≤ k ∧ k < (rs[n].kids.length : Int))) : kidName rs (n : Int) k = ⟨#[]⟩ := by
 unfold kidName; rw [dif_pos (by omega), dif_neg (by simpa using g)]
theorem kidName_no3 {rs : List RuleV} {n m : Nat} (h : n < rs.length) (g : m < rs[n].kids.length) (f : ¬ (0 ≤ rs[n].kids[m] ∧ rs[n].kids[m] < (rs.length : Int))) : kidName rs (n : Int) (m : Int) = ⟨#[]⟩ := by
 unfold kidName; rw [dif_pos (by omega), dif_pos (by simpa using g), dif_neg (by simpa using f)]
theorem kidName_yes {rs : List RuleV} {n m q : Nat} (h : n < rs.length) (g : m < rs[n].kids.length) (e : rs[n].kids[m] = (q : Int)) (hq : q < rs.length) : kidName rs (n : Int) (m : Int) = rs[q].name := by
 unfold kidName
 rw [dif_pos (by omega), dif_pos (by simpa using g), dif_pos (by simp only [Int.toNat_natCast, e]; omega)]
 simp only [Int.toNat_natCast, e]
theorem cell_keep {w w' : World} {p : Addr} {v : Value} (hb : Below w.heap.size w w') (h : w.cell? p = some v) : w'.cell? p = some v := (hb.cell (cell_lt h)).trans h
theorem in_same (x lo hi : Int) (b : Bool) (w : World) (hb : decide (lo ≤ x ∧ x ≤ hi) = b) :
  Calls Tryz.prog 104 #[.int .i64 x, .int .i64 lo, .int .i64 hi] w fun e w' => e = .returned (.bool b) ∧ w' = w := (in_any x lo hi b w hb).mono fun _ _ ⟨h3, h4⟩ => ⟨h3, h4.symm⟩
theorem inI_same (x lo hi : Int) (b : Bool) (w : World) (hb : decide (lo ≤ x ∧ x ≤ hi) = b) :
  Calls Tryz.prog 41 #[.int .i64 x, .int .i64 lo, .int .i64 hi] w fun e w' => e = .returned (.bool b) ∧ w' = w := (inI_any x lo hi b w hb).mono fun _ _ ⟨h3, h4⟩ => ⟨h3, h4.symm⟩
set_option maxHeartbeats 1000000 in
theorem kid_spec (a : Option Addr) (rs : List RuleV) (cap : Nat) (i k : Int) (w : World) (hl : rs.length ≤ 1073741824) (hkl : ∀ r ∈ rs, Short r) (h : RdR a rs w) :
  Calls Tryz.prog 106 #[.agg #[.slice a rs.length cap], .int .i64 i, .int .i64 k] w fun e w' => e = .returned (.string (kidName rs i k)) ∧ Below w.heap.size w w' := by
 have hB : Below w.heap.size w (w.alloc (.cells #[.slice a rs.length cap] 26)) := (Below.refl _ _).alloc (Nat.le_refl _) _
 have H := Lib.hid (h.below hB)
 have HB := Lib.hid hB
 have HK := Lib.hid hkl
 clear h hB hkl
 by_cases hk : 0 ≤ i ∧ i < rs.length
 ·obtain ⟨n, rfl⟩ : ∃ n : Nat, i = (n : Int) := ⟨i.toNat, by omega⟩
  have hlt : n < rs.length := by omega
  have k0 : (0 : Int) ≤ (n : Int) := by omega
  have k1 : (n : Int) < (rs.length : Int) := by omega
  have hkn : rs[n].kids.length ≤ 1048576 := (HK.out _ (List.getElem_mem hlt)).2.2.2
  obtain ⟨b, off, a4, c4, a5, c5, a6, c6, a7, c7, rfl, ⟨-, -, -, -, -, -, -, d7⟩, -, -, -, r7⟩ := H.out.at n hlt
  by_cases hj : 0 ≤ k ∧ k < (rs[n].kids.length : Int)
  ·obtain ⟨m, rfl⟩ : ∃ m : Nat, k = (m : Int) := ⟨k.toNat, by omega⟩
   have hm : m < rs[n].kids.length := by omega
   have m0 : (0 : Int) ≤ (m : Int) := by omega
   have m1 : (m : Int) < (rs[n].kids.length : Int) := by omega
   obtain ⟨b7, o7, rfl, e7⟩ := r7 m hm
   by_cases hq : 0 ≤ rs[n].kids[m] ∧ rs[n].kids[m] < (rs.length : Int)
   ·obtain ⟨q, hqe⟩ : ∃ q : Nat, rs[n].kids[m] = (q : Int) := ⟨rs[n].kids[m].toNat, by omega⟩
    have hql : q < rs.length := by omega
    have q0 : (0 : Int) ≤ (q : Int) := by omega
    have q1 : (q : Int) < (rs.length : Int) := by omega
    have hr := Lib.hid (kidName_yes hlt hm hqe hql)
    rw [hqe] at e7
    obtain ⟨b', off', _, _, _, _, _, _, _, _, he, ⟨s0, -⟩, -⟩ := H.out.at q hql
    obtain ⟨rfl, rfl⟩ : b = b' ∧ off = off' := by simpa using he
    generalize rs[q].name = nm at s0 hr
    clear hqe hq he r7 hj hk
    generalize rs[n].kids.length = kl at *
    go_enter Tryz.func106, Tryz.ntmps106
    go_wp2
    go_quiet ((go_at_call 104; exact Calls.quiet_of_same (in_same _ _ _ true _ (by simp; omega))))
    go_wp2
    go_quiet (fail)
    go_wp2
    go_ret
    exact ⟨ret_str hr.out.symm, below_drewN (below_drewN HB.out _) _⟩
   ·have hr := Lib.hid (kidName_no3 hlt hm hq)
    generalize rs[n].kids[m] = q at e7 hq
    clear r7 hj hk
    generalize rs[n].kids.length = kl at *
    go_enter Tryz.func106, Tryz.ntmps106
    go_wp2
    go_quiet (first | (go_at_call 104; exact Calls.quiet_of_same (in_same _ _ _ true _ (by simp; omega))) | (go_at_call 104; exact Calls.quiet_of_same (in_same _ _ _ false _ (by simp; omega))))
    go_wp2
    go_ret
    exact ⟨ret_str hr.out.symm, below_drewN HB.out _⟩
  ·have hr := Lib.hid (kidName_no2 hlt hj)
   generalize rs[n].kids.length = kl at d7 hj hkn
   clear r7 hk
   go_enter Tryz.func106, Tryz.ntmps106
   go_wp2
   go_quiet (first | (go_at_call 104; exact Calls.quiet_of_same (in_same _ _ _ true _ (by simp; omega))) | (go_at_call 104; exact Calls.quiet_of_same (in_same _ _ _ false _ (by simp; omega))))
   go_wp2
   go_ret
   exact ⟨ret_str hr.out.symm, below_drewN HB.out _⟩
 ·have hr := Lib.hid (kidName_no1 (k := k) hk)
  go_enter Tryz.func106, Tryz.ntmps106
  go_wp2
  go_quiet ((go_at_call 104; exact Calls.quiet_of_same (in_same _ _ _ false _ (by simp; omega))))
  go_wp2
  go_ret
  exact ⟨ret_str hr.out.symm, below_drewN HB.out _⟩
set_option maxHeartbeats 1000000 in
theorem kid_impl (a : Option Addr) (rs : List RuleV) (cap : Nat) (i k : Int) (w : World) (hl : rs.length ≤ 1073741824) (hkl : ∀ r ∈ rs, Short r) (h : RdR a rs w) :
  Calls Tryz.prog 87 #[.agg #[.slice a rs.length cap], .int .i64 i, .int .i64 k] w fun e w' => e = .returned (.string (kidName rs i k)) ∧ Below w.heap.size w w' := by
 obtain ⟨w0, hw0⟩ : ∃ w0, w0 = w.alloc (.cells #[.slice a rs.length cap] 26) := ⟨_, rfl⟩
 have hB : Below w.heap.size w w0 := by subst hw0; exact (Below.refl _ _).alloc (Nat.le_refl _) _
 have hX : CellsAt w.heap.size [.slice a rs.length cap] w0 := by subst hw0; exact CellsAt.new w _ _
 have H := Lib.hid (h.below hB)
 have HB := Lib.hid hB
 have HX := Lib.hid hX
 have HK := Lib.hid hkl
 have hx0 := (hX 0 _ rfl).1
 clear h hB hX hkl
 by_cases hk : 0 ≤ i ∧ i < rs.length
 ·go_enter Tryz.func87, Tryz.ntmps87
  go_wp2_with fail
  rw [← hw0]
  clear hw0
  refine (hasr_impl a rs.length cap i _ hl true (by simpa using hk)).mono ?_
  rintro e w1 ⟨rfl, hb1⟩
  have hx1 := (HX.out.below hb1 0 _ rfl).1
  have HX1 := Lib.hid (HX.out.below hb1)
  have HB1 := Lib.hid (HB.out.trans (hb1.mono HB.out.size))
  have H1 := Lib.hid (H.out.below hb1)
  clear hb1 HX HB H hx0
  obtain ⟨n, rfl⟩ : ∃ n : Nat, i = (n : Int) := ⟨i.toNat, by omega⟩
  have hlt : n < rs.length := by omega
  have k0 : (0 : Int) ≤ (n : Int) := by omega
  have k1 : (n : Int) < (rs.length : Int) := by omega
  have hkn : rs[n].kids.length ≤ 1048576 := (HK.out _ (List.getElem_mem hlt)).2.2.2
  obtain ⟨b, off, a4, c4, a5, c5, a6, c6, a7, c7, rfl, ⟨-, -, -, -, -, -, -, d7⟩, -, -, -, r7⟩ := H1.out.at n hlt
  by_cases hj : 0 ≤ k ∧ k < (rs[n].kids.length : Int)
  ·obtain ⟨m, rfl⟩ : ∃ m : Nat, k = (m : Int) := ⟨k.toNat, by omega⟩
   have hm : m < rs[n].kids.length := by omega
   have m0 : (0 : Int) ≤ (m : Int) := by omega
   have m1 : (m : Int) < (rs[n].kids.length : Int) := by omega
   obtain ⟨b7, o7, rfl, e7⟩ := r7 m hm
   by_cases hq : 0 ≤ rs[n].kids[m] ∧ rs[n].kids[m] < (rs.length : Int)
   ·obtain ⟨q, hqe⟩ : ∃ q : Nat, rs[n].kids[m] = (q : Int) := ⟨rs[n].kids[m].toNat, by omega⟩
    have hql : q < rs.length := by omega
    have q0 : (0 : Int) ≤ (q : Int) := by omega
    have q1 : (q : Int) < (rs.length : Int) := by omega
    have hr := Lib.hid (kidName_yes hlt hm hqe hql)
    rw [hqe] at e7
    obtain ⟨b', off', _, _, _, _, _, _, _, _, he, ⟨s0, -⟩, -⟩ := H1.out.at q hql
    obtain ⟨rfl, rfl⟩ : b = b' ∧ off = off' := by simpa using he
    generalize rs[q].name = nm at s0 hr
    clear hqe hq he r7 hj hk
    generalize rs[n].kids.length = kl at d7 hkn hm m1
    go_wp2
    have hw : IntKind.i64.wrap ((kl : Int) - 1) = (kl : Int) - 1 := IntWalk.i64_in _ (by omega)
    have HBd : Hid (Below w.heap.size w w1.drew) := below_drewN HB1.out 1
    go_region_with (first | (go_at_call 41; refine (inI_any _ _ _ true _ (by simp; omega)).mono ?_; rintro e v ⟨rfl, rfl⟩) | (go_at_call 78; refine (hasr_impl (some ⟨b, off, none⟩) rs.length cap (q : Int) _ hl true (by simp; omega)).mono ?_; rintro e v ⟨rfl, hb⟩; replace HBd := Lib.hid (HBd.out.trans (hb.mono HBd.out.size)); have x2 := cell_keep (w := w1.drew) hb hx1; have x3 := cell_keep (w := w1.drew) hb e7; have x4 := cell_keep (w := w1.drew) hb s0; clear hb))
    all_goals (go_wp2; go_quiet (fail); go_wp2; go_ret; exact ⟨ret_str hr.out.symm, below_drewN HBd.out _⟩)
   ·have hr := Lib.hid (kidName_no3 hlt hm hq)
    generalize rs[n].kids[m] = q at e7 hq
    clear r7 hj hk
    generalize rs[n].kids.length = kl at d7 hkn hm m1
    go_wp2
    have hw : IntKind.i64.wrap ((kl : Int) - 1) = (kl : Int) - 1 := IntWalk.i64_in _ (by omega)
    have HBd : Hid (Below w.heap.size w w1.drew) := below_drewN HB1.out 1
    go_region_with (first | (go_at_call 41; refine (inI_any _ _ _ true _ (by simp; omega)).mono ?_; rintro e v ⟨rfl, rfl⟩) | (go_at_call 78; refine (hasr_impl (some ⟨b, off, none⟩) rs.length cap q _ hl false (by simp; omega)).mono ?_; rintro e v ⟨rfl, hb⟩; replace HBd := Lib.hid (HBd.out.trans (hb.mono HBd.out.size)); clear hb))
    all_goals (go_wp2; go_ret; exact ⟨ret_str hr.out.symm, HBd.out⟩)
  ·have hr := Lib.hid (kidName_no2 hlt hj)
   generalize rs[n].kids.length = kl at d7 hj hkn
   clear r7 hk
   go_wp2
   go_quiet ((go_at_call 41; exact Calls.quiet_of_same (inI_same _ _ _ false _ (by simp; omega))))
   go_wp2
   go_ret
   exact ⟨ret_str hr.out.symm, below_drewN HB1.out _⟩
 ·have hr := Lib.hid (kidName_no1 (k := k) hk)
  go_enter Tryz.func87, Tryz.ntmps87
  go_wp2_with fail
  rw [← hw0]
  clear hw0
  refine (hasr_impl a rs.length cap i _ hl false (by simpa using hk)).mono ?_
  rintro e w1 ⟨rfl, hb1⟩
  have HB1 := Lib.hid (HB.out.trans (hb1.mono HB.out.size))
  go_wp2
  go_ret
  exact ⟨ret_str hr.out.symm, HB1.out⟩
theorem find_impl (a : Option Addr) (rs : List RuleV) (cap : Nat) (x : ByteArray) (w : World) (hl : rs.length ≤ 1073741824) (h : RdR a rs w) :
  Calls Tryz.prog 80 #[.agg #[.slice a rs.length cap], .string x] w fun e w' => e = .returned (.int .i64 (findFrom x rs 0)) ∧ Below w.heap.size w w' := by
 have hB : Below w.heap.size w (w.alloc (.cells #[.slice a rs.length cap] 26)) := (Below.refl _ _).alloc (Nat.le_refl _) _
 have H := Lib.hid h
 have HB := Lib.hid hB
 clear h hB
 go_enter Tryz.func80, Tryz.ntmps80
 go_wp2
 go_loopw [10] (fun i W => ∃ k : Nat, k ≤ rs.length ∧ i = .int .i64 k ∧ Hid (findFrom x rs 0 = findFrom x (rs.drop k) k) ∧ Hid (Below w.heap.size w W)) (fun i _ => rs.length - (intOf i).toNat)
 case atStart => exact ⟨0, Nat.zero_le _, rfl, rfl, HB⟩
 case round =>
  obtain ⟨k, hk, rfl, hf, hb⟩ := hrel
  have k0 : (0 : Int) ≤ (k : Int) := by omega
  by_cases hlt : k < rs.length
  ·have k1 : (k : Int) < (rs.length : Int) := by omega
   obtain ⟨b, off, a4, c4, a5, c5, a6, c6, a7, c7, rfl, ⟨d0, d1, d2, d3, d4, d5, d6, d7⟩, -⟩ := (H.out.below hb.out).at k hlt
   by_cases hx : rs[k].name = x
   ·have hr : Hid (findFrom x rs 0 = (k : Int)) := hf.out.trans (findFrom_yes hlt hx)
    have g1 := str_eq hx
    generalize rs[k].name = y at d0 g1
    clear hx
    go_wp2
    go_ret
    exact ⟨ret_int hr.out.symm, hb.out.alloc hb.out.size _⟩
   ·have hr : Hid (findFrom x rs 0 = findFrom x (rs.drop (k + 1)) (k + 1)) := hf.out.trans (findFrom_no hlt hx)
    have g1 := str_ne hx
    generalize rs[k].name = y at d0 g1
    clear hx
    go_wp2
    go_roundw
    case rel => exact ⟨k + 1, by omega, by go_num, hr, hb.out.alloc hb.out.size _⟩
    case measure => simp [intOf]; omega
  ·have k1 : ¬ (k : Int) < (rs.length : Int) := by omega
   have hr : Hid (findFrom x rs 0 = -1) := by
    have := hf.out
    rw [List.drop_of_length_le (by omega)] at this
    exact this
   go_wp2
   go_ret
   exact ⟨ret_int hr.out.symm, hb.out⟩
set_option maxHeartbeats 1000000 in
theorem limit_impl (a : Option Addr) (rs : List RuleV) (cap : Nat) (k : Int) (w : World) (hl : rs.length ≤ 1073741824) (h : RdR a rs w) :
  Calls Tryz.prog 132 #[.agg #[.slice a rs.length cap], .int .i64 k] w fun e w' => e = .returned (.int .i64 (limitAt rs k)) ∧ Below w.heap.size w w' := by
 obtain ⟨w0, hw0⟩ : ∃ w0, w0 = w.alloc (.cells #[.slice a rs.length cap] 26) := ⟨_, rfl⟩
 have hB : Below w.heap.size w w0 := by subst hw0; exact (Below.refl _ _).alloc (Nat.le_refl _) _
 have hX : CellsAt w.heap.size [.slice a rs.length cap] w0 := by subst hw0; exact CellsAt.new w _ _
 have H := Lib.hid (h.below hB)
 have HB := Lib.hid hB
 have HX := Lib.hid hX
 have hx0 := (hX 0 _ rfl).1
 clear h hB hX
 by_cases hk : 0 ≤ k ∧ k < rs.length
 ·go_enter Tryz.func132, Tryz.ntmps132
  go_wp2_with fail
  rw [← hw0]
  clear hw0
  refine (hasr_impl a rs.length cap k _ hl true (by simpa using hk)).mono ?_
  rintro e w1 ⟨rfl, hb1⟩
  have hx1 := (HX.out.below hb1 0 _ rfl).1
  have HB1 := Lib.hid (HB.out.trans (hb1.mono HB.out.size))
  have H1 := Lib.hid (H.out.below hb1)
  clear hb1 HX HB H hx0
  obtain ⟨n, rfl⟩ : ∃ n : Nat, k = (n : Int) := ⟨k.toNat, by omega⟩
  have hlt : n < rs.length := by omega
  have k0 : (0 : Int) ≤ (n : Int) := by omega
  have k1 : (n : Int) < (rs.length : Int) := by omega
  have hr := Lib.hid (limitAt_in hlt)
  obtain ⟨b, off, a4, c4, a5, c5, a6, c6, a7, c7, rfl, ⟨d0, d1, d2, d3, d4, d5, d6, d7⟩, -⟩ := H1.out.at n hlt
  generalize rs[n] = r at d0 d1 d2 d3 d4 d5 d6 d7 hr
  by_cases hkd : r.kind = 1
  ·rw [hkd] at d1
   by_cases hsz : 1 ≤ r.size ∧ r.size ≤ 4
   ·have hres : Hid (limitAt rs (n : Int) = pow256 r.size - 1) := by
     show _ = _
     rw [hr.out, if_pos ⟨hkd, hsz⟩]
    clear hr
    go_wp2_with fail
    refine (inI_any _ _ _ true _ (by simp; omega)).mono ?_
    rintro e w2 ⟨rfl, rfl⟩
    generalize r.size = sz at hsz d2 hres
    rcases (by omega : sz = 1 ∨ sz = 2 ∨ sz = 3 ∨ sz = 4) with rfl | rfl | rfl | rfl <;>
    ·go_wp2
     go_ret
     exact ⟨ret_int (by rw [hres.out]; rfl), HB1.out.alloc HB1.out.size _⟩
   ·go_wp2_with fail
    refine (inI_any _ _ _ false _ (by simp; omega)).mono ?_
    rintro e w2 ⟨rfl, rfl⟩
    go_wp2
    go_ret
    exact ⟨ret_int (by rw [hr.out, if_neg (fun h => hsz h.2)]), HB1.out.alloc HB1.out.size _⟩
  ·have g1 : (r.kind != 1) = true := by simpa using hkd
   go_wp2
   go_ret
   exact ⟨ret_int (by rw [hr.out, if_neg (fun h => hkd h.1)]), HB1.out.alloc HB1.out.size _⟩
 ·have hr := Lib.hid (limitAt_out hk)
  go_enter Tryz.func132, Tryz.ntmps132
  go_wp2_with fail
  rw [← hw0]
  clear hw0
  refine (hasr_impl a rs.length cap k _ hl false (by simpa using hk)).mono ?_
  rintro e w1 ⟨rfl, hb1⟩
  have HB1 := Lib.hid (HB.out.trans (hb1.mono HB.out.size))
  go_wp2
  go_ret
  exact ⟨ret_int hr.out.symm, HB1.out⟩
def kidI (x : ByteArray) (rs : List RuleV) : Int := if 0 ≤ findFrom x rs 0 then findFrom x rs 0 else 0
def kidB (x : ByteArray) (rs : List RuleV) : Bool := decide (0 ≤ findFrom x rs 0)
theorem findFrom_cases (x : ByteArray) : ∀ (rs : List RuleV) (n : Nat), (findFrom x rs n = -1 ∧ ∀ r ∈ rs, r.name ≠ x) ∨ ∃ k, ∃ h : k < rs.length, findFrom x rs n = ((n + k : Nat) : Int) ∧ rs[k].name = x ∧ ∀ j (hj : j < k), (rs[j]'(by omega)).name ≠ x
 | [], n => .inl ⟨rfl, by simp⟩
 | r :: rs, n => by
  by_cases hx : r.name = x
  ·exact .inr ⟨0, by simp, by simp [findFrom, hx], by simpa using hx, fun j hj => by omega⟩
  ·rcases findFrom_cases x rs (n + 1) with ⟨h1, h2⟩ | ⟨k, hk, h1, h2, h3⟩
   ·refine .inl ⟨by simp only [findFrom, if_neg hx]; exact h1, fun q hq => ?_⟩
    rcases List.mem_cons.1 hq with rfl | hq
    ·exact hx
    ·exact h2 q hq
   ·refine .inr ⟨k + 1, by simpa using hk, ?_, by simpa using h2, fun j hj => ?_⟩
    ·simp only [findFrom, if_neg hx]; rw [h1]; congr 1; omega
    ·cases j with
     | zero => simpa using hx
     | succ j => simpa using h3 j (by omega)
theorem maxs (k : Int) (w : World) : Calls Tryz.prog 160 #[.int .i64 0, .int .i64 k] w fun e w' => e = .returned (.int .i64 (if 0 ≤ k then k else 0)) ∧ w = w' := by
 by_cases h : 0 ≤ k
 ·by_cases h0 : k = 0
  ·subst h0
   go_enter Tryz.func160, Tryz.ntmps160
   go_wp2
   go_ret
   exact ⟨rfl, rfl⟩
  ·have g : 0 < k := by omega
   have g1 : ¬ k < 0 := by omega
   have g2 : ¬ k ≤ 0 := by omega
   rw [if_pos h]
   go_enter Tryz.func160, Tryz.ntmps160
   go_wp2
   go_ret
   exact ⟨rfl, rfl⟩
 ·have g : ¬ 0 < k := by omega
  have g1 : k < 0 := by omega
  have g2 : k ≤ 0 := by omega
  rw [if_neg h]
  go_enter Tryz.func160, Tryz.ntmps160
  go_wp2
  go_ret
  exact ⟨rfl, rfl⟩
theorem pkid_spec (a : Option Addr) (rs : List RuleV) (cap : Nat) (x : ByteArray) (w : World) (hl : rs.length ≤ 1073741824) (h : RdR a rs w) :
  Calls Tryz.prog 144 #[.agg #[.slice a rs.length cap], .string x] w fun e w' => e = .returned (.tuple #[.int .i64 (kidI x rs), .bool (kidB x rs)]) ∧ Below w.heap.size w w' := by
 have e1 := Lib.hid (show kidI x rs = if 0 ≤ findFrom x rs 0 then findFrom x rs 0 else 0 from rfl)
 have e2 := Lib.hid (show kidB x rs = decide (0 ≤ findFrom x rs 0) from rfl)
 generalize kidI x rs = ki at *
 generalize kidB x rs = kb at *
 have hB : Below w.heap.size w (w.alloc (.cells #[.slice a rs.length cap] 26)) := (Below.refl _ _).alloc (Nat.le_refl _) _
 have H := Lib.hid (h.below hB)
 have HB := Lib.hid hB
 clear h hB
 go_enter Tryz.func144, Tryz.ntmps144
 go_wp2_with fail
 refine (find_spec a rs cap x _ hl H.out).mono ?_
 rintro e w1 ⟨rfl, hb1⟩
 have HB1 := Lib.hid (HB.out.trans (hb1.mono HB.out.size))
 clear hb1
 generalize findFrom x rs 0 = k at *
 go_wp2_with fail
 refine (maxs k _).mono ?_
 rintro e w2 ⟨rfl, rfl⟩
 rw [← e1.out]
 by_cases hk : 0 ≤ k
 ·obtain rfl : kb = true := by rw [e2.out]; exact decide_eq_true hk
  clear e1 e2
  go_wp2
  go_ret2
  exact ⟨rfl, HB1.out⟩
 ·obtain rfl : kb = false := by rw [e2.out]; exact decide_eq_false hk
  have g9 : decide (0 ≤ k) = false := decide_eq_false hk
  clear e1 e2
  go_wp2
  go_ret2
  exact ⟨rfl, HB1.out⟩
theorem nameOf (r : RuleV) (v1 v2 v3 v4 v5 v6 v7 : Value) (w : World) :
  Calls Tryz.prog 176 #[.agg #[.string r.name, v1, v2, v3, v4, v5, v6, v7]] w fun e w' => e = .returned (.string r.name) ∧ w' = w.alloc (.cells #[.string r.name, v1, v2, v3, v4, v5, v6, v7] 59) := by
 go_enter Tryz.func176, Tryz.ntmps176
 go_wp2
 go_ret
 exact ⟨rfl, rfl⟩
set_option maxHeartbeats 1000000 in
theorem findname_rule (a : Option Addr) (rs : List RuleV) (cap : Nat) (x : ByteArray) (w : World) (hl : rs.length ≤ 1073741824) (h : RdR a rs w) :
  Calls Tryz.prog 175 #[.slice a rs.length cap, .func (.func 176) #[] #[], .string x] w fun e w' => e = .returned (.tuple #[.int .i64 (kidI x rs), .bool (kidB x rs)]) ∧ Below w.heap.size w w' := by
 have e1 := Lib.hid (show kidI x rs = if 0 ≤ findFrom x rs 0 then findFrom x rs 0 else 0 from rfl)
 have e2 := Lib.hid (show kidB x rs = decide (0 ≤ findFrom x rs 0) from rfl)
 generalize kidI x rs = ki at *
 generalize kidB x rs = kb at *
 have H := Lib.hid h
 clear h
 go_enter Tryz.func175, Tryz.ntmps175
 go_wp2
 go_loopw [12] (fun i W => ∃ k : Nat, k ≤ rs.length ∧ i = .int .i64 k ∧ Hid (findFrom x rs 0 = findFrom x (rs.drop k) k) ∧ Hid (Below w.heap.size w W)) (fun i _ => rs.length - (intOf i).toNat)
 case atStart => exact ⟨0, Nat.zero_le _, rfl, rfl, Below.refl _ _⟩
 case round =>
  obtain ⟨k, hk, rfl, hf, hb⟩ := hrel
  have k0 : (0 : Int) ≤ (k : Int) := by omega
  by_cases hlt : k < rs.length
  ·have k1 : (k : Int) < (rs.length : Int) := by omega
   obtain ⟨b, off, a4, c4, a5, c5, a6, c6, a7, c7, rfl, ⟨d0, d1, d2, d3, d4, d5, d6, d7⟩, -⟩ := (H.out.below hb.out).at k hlt
   have hyes := fun hx => Lib.hid (hf.out.trans (findFrom_yes hlt hx))
   have hno := fun hx => Lib.hid (hf.out.trans (findFrom_no hlt hx))
   generalize rs[k] = r at d0 d1 d2 d3 d4 d5 d6 d7 hyes hno
   go_wp2_with fail
   refine (nameOf r _ _ _ _ _ _ _ _).mono ?_
   rintro e w2 ⟨rfl, hw2⟩
   have hb2 : Hid (Below w.heap.size w w2) := by
    subst hw2
    exact (hb.out.alloc hb.out.size _).alloc (by have := hb.out.size; simp; omega) _
   clear hw2 d0 d1 d2 d3 d4 d5 d6 d7
   by_cases hx : r.name = x
   ·have hr := hyes hx
    have g1 := str_eq hx
    obtain rfl : ki = (k : Int) := by rw [e1.out, hr.out, if_pos (by omega)]
    obtain rfl : kb = true := by rw [e2.out, hr.out]; exact decide_eq_true (by omega)
    generalize r.name = y at g1
    clear hx hyes hno hr e1 e2
    go_wp2
    go_ret2
    exact ⟨rfl, hb2.out⟩
   ·have hr := hno hx
    have g1 := str_ne hx
    generalize r.name = y at g1
    clear hx hyes hno
    go_wp2
    go_roundw
    case rel => exact ⟨k + 1, by omega, by go_num, hr, hb2⟩
    case measure => simp [intOf]; omega
  ·have k1 : ¬ (k : Int) < (rs.length : Int) := by omega
   have hr : findFrom x rs 0 = -1 := by
    have := hf.out
    rw [List.drop_of_length_le (by omega)] at this
    exact this
   obtain rfl : ki = 0 := by rw [e1.out, hr]; rfl
   obtain rfl : kb = false := by rw [e2.out, hr]; rfl
   clear hr e1 e2
   go_wp2
   go_ret2
   exact ⟨rfl, hb.out⟩
theorem pkid_impl (a : Option Addr) (rs : List RuleV) (cap : Nat) (x : ByteArray) (w : World) (hl : rs.length ≤ 1073741824) (h : RdR a rs w) :
  Calls Tryz.prog 157 #[.agg #[.slice a rs.length cap], .string x] w fun e w' => e = .returned (.tuple #[.int .i64 (kidI x rs), .bool (kidB x rs)]) ∧ Below w.heap.size w w' := by
 have hB : Below w.heap.size w (w.alloc (.cells #[.slice a rs.length cap] 26)) := (Below.refl _ _).alloc (Nat.le_refl _) _
 have H := Lib.hid (h.below hB)
 have HB := Lib.hid hB
 clear h hB
 go_enter Tryz.func157, Tryz.ntmps157
 go_wp2_with fail
 refine (findname_rule a rs cap x _ hl H.out).mono ?_
 rintro e w1 ⟨rfl, hb1⟩
 have HB1 := Lib.hid (HB.out.trans (hb1.mono HB.out.size))
 clear hb1
 go_wp2
 go_ret2
 exact ⟨rfl, HB1.out⟩
end Go.Proofs.YtndjefednfcmmaaGreatDoor
