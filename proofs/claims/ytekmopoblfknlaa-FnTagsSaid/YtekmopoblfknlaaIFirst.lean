/- The contracts of the program's CanStart, CountFirstBytes, CommonStart, AreDisjoint, OnlyStart, TagBytes. -/
import Derived.Test.YtekmopoblfknlaaIStarts
import Derived.Test.YtekmopoblfknlaaTagP
import Derived.Deep.RegionHeld3
import Derived.StillTailTactics
namespace Go.Proofs.Ytekmopoblfknlaa
open Go Go.RowKit
set_option maxRecDepth 100000 in
set_option maxHeartbeats 4000000 in
theorem cans_impl (a : Option Addr) (rs : List RuleV) (cap : Nat) (k b : Int) (w : World) (hl : rs.length ≤ 1048576) (hs : ∀ r ∈ rs, Short r) (hp : ∀ r ∈ rs, Spelt r) (h : RdC a rs w) :
    Calls Try.prog 13 #[.agg #[.slice a rs.length cap], .int .i64 k, .int .i64 b] w fun e w' => e = .returned (.bool (canB rs k b)) ∧ Below w.heap.size w w' := by
  obtain ⟨w0, hw0⟩ : ∃ w0, w0 = w.alloc (.cells #[.slice a rs.length cap] 26) := ⟨_, rfl⟩
  have hB0 : Below w.heap.size w w0 := by subst hw0; exact (Below.refl _ _).alloc (Nat.le_refl _) _
  have hX0 : CellsAt w.heap.size [.slice a rs.length cap] w0 := by subst hw0; exact CellsAt.new w _ _
  have bx := (hX0 0 _ rfl).1
  have HX := Lib.hid hX0
  have HB := Lib.hid hB0
  have HCW := Lib.hid h
  have HS := Lib.hid hs
  have HP := Lib.hid hp
  have hW := Lib.hid hw0
  clear h hB0 hX0 hs hp hw0
  obtain ⟨ans, hans⟩ : ∃ z0, z0 = canB rs k b := ⟨_, rfl⟩
  rw [← hans]
  have HAN := Lib.hid hans
  clear hans
  obtain ⟨ib, hib⟩ : ∃ x, x = decide (0 ≤ b ∧ b ≤ 255) := ⟨_, rfl⟩
  have HIB := Lib.hid hib
  clear hib
  go_enter Try.func13, Try.ntmps13
  go_upto_region 1 with fail
  rw [← hW.out]
  clear hW
  go_wp2_with fail
  refine (inI_any b 0 255 ib _ HIB.out.symm).mono ?_
  rintro e w2 ⟨rfl, rfl⟩
  cases ib with
  | false =>
    obtain rfl : ans = false := by rw [HAN.out]; unfold canB; rw [← HIB.out, Bool.false_and, Bool.and_false]
    go_wp2
    go_ret
    exact ⟨rfl, HB.out⟩
  | true =>
    obtain ⟨hb0, hb1⟩ := of_decide_eq_true HIB.out.symm
    obtain ⟨bb, rfl⟩ : ∃ n : Nat, b = (n : Int) := ⟨b.toNat, by omega⟩
    have hbb : bb < 256 := by omega
    have HAN2 : Hid (ans = startK rs k bb) := by show _ = _; rw [HAN.out]; exact canB_byte rs k hbb
    have HST := Lib.hid (startset_impl a rs cap k w0 hl HS.out HP.out (HCW.out.below HB.out))
    obtain ⟨f, hf⟩ : ∃ f, f = startK rs k := ⟨_, rfl⟩
    rw [← hf] at HAN2 HST
    have hix : ∀ W, (Instr.index 63 (.agg (arrB f 256).toArray) (.int .i64 (bb : Int))).run Try.prog W = .ok (.bool ans) W := fun W => by rw [HAN2.out]; exact index256 f bb hbb W
    generalize (arrB f 256).toArray = z at HST hix
    clear hf HAN HIB
    go_wp2_with fail
    refine HST.out.mono ?_
    rintro e w3 ⟨rfl, hb3⟩
    replace HB := Lib.hid (HB.out.trans (hb3.mono HB.out.size))
    clear hb3 bx
    go_wp2
    go_ret
    exact ⟨rfl, HB.out⟩
set_option maxRecDepth 100000 in
set_option maxHeartbeats 4000000 in
theorem countf_impl (a : Option Addr) (rs : List RuleV) (cap : Nat) (k : Int) (w : World) (hl : rs.length ≤ 1048576) (hs : ∀ r ∈ rs, Short r) (hp : ∀ r ∈ rs, Spelt r) (h : RdC a rs w) :
    Calls Try.prog 14 #[.agg #[.slice a rs.length cap], .int .i64 k] w fun e w' => e = .returned (.int .i64 (countD rs k)) ∧ Below w.heap.size w w' := by
  obtain ⟨w0, hw0⟩ : ∃ w0, w0 = w.alloc (.cells #[.slice a rs.length cap] 26) := ⟨_, rfl⟩
  have hB0 : Below w.heap.size w w0 := by subst hw0; exact (Below.refl _ _).alloc (Nat.le_refl _) _
  have hX0 : CellsAt w.heap.size [.slice a rs.length cap] w0 := by subst hw0; exact CellsAt.new w _ _
  have bx := (hX0 0 _ rfl).1
  have HX := Lib.hid hX0
  have HB := Lib.hid hB0
  have HCW := Lib.hid h
  have HS := Lib.hid hs
  have HP := Lib.hid hp
  have hW := Lib.hid hw0
  clear h hB0 hX0 hs hp hw0
  obtain ⟨ans, hans⟩ : ∃ z0, z0 = countD rs k := ⟨_, rfl⟩
  rw [← hans]
  have HAN := Lib.hid hans
  clear hans
  have HST := Lib.hid (startset_impl a rs cap k w0 hl HS.out HP.out (HCW.out.below HB.out))
  obtain ⟨f, hf⟩ : ∃ f, f = startK rs k := ⟨_, rfl⟩
  have HAN2 : Hid (ans = (countS f 256 : Nat)) := by show _ = _; rw [HAN.out, hf]; rfl
  rw [← hf] at HST
  have HIX : Hid (∀ (j : Nat), j < 256 → ∀ W, (Instr.index 63 (.agg (arrB f 256).toArray) (.int .i64 (j : Int))).run Try.prog W = .ok (.bool (f j)) W) := fun j hj W => index256 f j hj W
  generalize (arrB f 256).toArray = z at HST HIX
  clear hf HAN
  go_enter Try.func14, Try.ntmps14
  go_upto_region 1 with fail
  rw [← hW.out]
  clear hW
  go_wp2_with fail
  refine HST.out.mono ?_
  rintro e w3 ⟨rfl, hb3⟩
  replace HB := Lib.hid (HB.out.trans (hb3.mono HB.out.size))
  clear hb3 bx HST
  go_wp2
  go_loop [5, 11] (fun n i => ∃ j : Nat, j ≤ 256 ∧ i = .int .i64 j ∧ n = .int .i64 ((countS f j : Nat) : Int)) (fun _ i => 256 - (intOf i).toNat)
  case atStart => exact ⟨0, Nat.zero_le _, rfl, rfl⟩
  case round =>
    obtain ⟨j, hj, rfl, rfl⟩ := hrel
    have j0 : (0 : Int) ≤ (j : Int) := by omega
    have hcl := countS_le f j
    by_cases hlt : j < 256
    · have j1 : (j : Int) < 256 := by omega
      have hnx : Hid (countS f (j + 1) = countS f j + if f j = true then 1 else 0) := rfl
      have hix := HIX.out j hlt
      generalize f j = fj at hnx hix
      obtain ⟨cn, hcn⟩ : ∃ c, c = countS f j := ⟨_, rfl⟩
      rw [← hcn] at hnx hcl ⊢
      clear hcn
      cases fj with
      | false =>
        go_wp2
        go_round
        case rel => exact ⟨j + 1, by omega, by go_num, by rw [hnx.out]; rfl⟩
        case measure => simp [intOf]; omega
      | true =>
        go_wp2
        go_round
        case rel => exact ⟨j + 1, by omega, by go_num, by rw [hnx.out]; go_num⟩
        case measure => simp [intOf]; omega
    · have j1 : ¬ (j : Int) < 256 := by omega
      obtain rfl : j = 256 := by omega
      rw [← HAN2.out]
      go_wp2
      go_ret
      exact ⟨rfl, HB.out⟩
set_option maxRecDepth 100000 in
set_option maxHeartbeats 4000000 in
theorem least_impl (f g : Nat → Bool) (w : World) :
    Calls Try.prog 42 #[.agg (arrB f 256).toArray, .agg (arrB g 256).toArray] w fun e w' => e = .returned (.int .i64 (leastS (fun z => f z && g z) 0 256)) ∧ Below w.heap.size w w' := by
  obtain ⟨ans, hans⟩ : ∃ z0, z0 = leastS (fun z => f z && g z) 0 256 := ⟨_, rfl⟩
  rw [← hans]
  have HAN := Lib.hid hans
  clear hans
  obtain ⟨y, hy⟩ : ∃ y, y = (arrB f 256).toArray := ⟨_, rfl⟩
  obtain ⟨z, hz⟩ : ∃ z, z = (arrB g 256).toArray := ⟨_, rfl⟩
  obtain ⟨w0, hw0⟩ : ∃ w0, w0 = (w.alloc (.cells y 63)).alloc (.cells z 63) := ⟨_, rfl⟩
  have hB : Below w.heap.size w w0 := by subst hw0; exact ((Below.refl _ _).alloc (Nat.le_refl _) _).alloc (by simp) _
  have HF : Hid (CellsAt w.heap.size (arrB f 256) w0) := by subst hw0; subst hy; exact (CellsAt.new w _ _).below ((Below.refl _ _).alloc (Nat.le_refl _) _)
  have HG : Hid (CellsAt (w.heap.size + 1) (arrB g 256) w0) := by subst hw0; subst hz; have h1 := CellsAt.new (w.alloc (.cells y 63)) (arrB g 256) 63; rw [World.size_alloc] at h1; exact h1
  rw [← hy, ← hz]
  have HB := Lib.hid hB
  have hW := Lib.hid hw0
  clear hy hz hw0 hB
  go_enter Try.func42, Try.ntmps42
  go_upto_region 1 with fail
  rw [← hW.out]
  clear hW
  go_wp2
  go_loop [6] (fun i => ∃ j : Nat, j ≤ 256 ∧ i = .int .i64 j ∧ Hid (ans = leastS (fun z => f z && g z) j (256 - j))) (fun i => 256 - (intOf i).toNat)
  case atStart => exact ⟨0, Nat.zero_le _, rfl, HAN⟩
  case round =>
    clear HAN
    obtain ⟨j, hj, rfl, HAN⟩ := hrel
    have j0 : (0 : Int) ≤ (j : Int) := by omega
    by_cases hlt : j < 256
    · have j1 : (j : Int) < 256 := by omega
      have hnx : Hid (ans = if (f j && g j) = true then (j : Int) else leastS (fun z => f z && g z) (j + 1) (256 - (j + 1))) := by show _ = _; rw [HAN.out, show 256 - j = (256 - (j + 1)) + 1 from by omega]; rfl
      have q1 := (HF.out j _ (arrB_at f hlt)).1
      have q2 := (HG.out j _ (arrB_at g hlt)).1
      generalize f j = fj at hnx q1
      generalize g j = gj at hnx q2
      cases fj with
      | false =>
        replace hnx : Hid (ans = leastS (fun z => f z && g z) (j + 1) (256 - (j + 1))) := hnx.out
        go_wp2
        go_round
        case rel => exact ⟨j + 1, by omega, by go_num, hnx⟩
        case measure => simp [intOf]; omega
      | true =>
        cases gj with
        | false =>
          replace hnx : Hid (ans = leastS (fun z => f z && g z) (j + 1) (256 - (j + 1))) := hnx.out
          go_wp2
          go_round
          case rel => exact ⟨j + 1, by omega, by go_num, hnx⟩
          case measure => simp [intOf]; omega
        | true =>
          obtain rfl : ans = (j : Int) := hnx.out
          go_wp2
          go_ret
          exact ⟨rfl, HB.out⟩
    · have j1 : ¬ (j : Int) < 256 := by omega
      obtain rfl : j = 256 := by omega
      obtain rfl : ans = -1 := HAN.out
      go_wp2
      go_ret
      exact ⟨rfl, HB.out⟩
set_option maxRecDepth 100000 in
set_option maxHeartbeats 4000000 in
theorem common_impl (a : Option Addr) (rs : List RuleV) (cap : Nat) (x y : Int) (w : World) (hl : rs.length ≤ 1048576) (hs : ∀ r ∈ rs, Short r) (hp : ∀ r ∈ rs, Spelt r) (h : RdC a rs w) :
    Calls Try.prog 16 #[.agg #[.slice a rs.length cap], .int .i64 x, .int .i64 y] w fun e w' => e = .returned (.int .i64 (commonD rs x y)) ∧ Below w.heap.size w w' := by
  obtain ⟨w0, hw0⟩ : ∃ w0, w0 = w.alloc (.cells #[.slice a rs.length cap] 26) := ⟨_, rfl⟩
  have hB0 : Below w.heap.size w w0 := by subst hw0; exact (Below.refl _ _).alloc (Nat.le_refl _) _
  have hX0 : CellsAt w.heap.size [.slice a rs.length cap] w0 := by subst hw0; exact CellsAt.new w _ _
  have bx := (hX0 0 _ rfl).1
  have HX := Lib.hid hX0
  have HB := Lib.hid hB0
  have HCW := Lib.hid h
  have HS := Lib.hid hs
  have HP := Lib.hid hp
  have hW := Lib.hid hw0
  clear h hB0 hX0 hs hp hw0
  obtain ⟨ans, hans⟩ : ∃ z0, z0 = commonD rs x y := ⟨_, rfl⟩
  rw [← hans]
  have HAN := Lib.hid hans
  clear hans
  have HST : Hid (∀ (q : Int) (W : World), Below w.heap.size w W → Calls Try.prog 41 #[.agg #[.slice a rs.length cap], .int .i64 q] W fun e w' => e = .returned (.agg (arrB (startK rs q) 256).toArray) ∧ Below W.heap.size W w') := fun q W hW => startset_impl a rs cap q W hl HS.out HP.out (HCW.out.below hW)
  have HLC : Hid (∀ W, Calls Try.prog 42 #[.agg (arrB (startK rs x) 256).toArray, .agg (arrB (startK rs y) 256).toArray] W fun e w' => e = .returned (.int .i64 ans) ∧ Below W.heap.size W w') := fun W => by rw [HAN.out]; exact least_impl _ _ W
  generalize hz : (fun q : Int => (arrB (startK rs q) 256).toArray) = zs at *
  have HST2 : Hid (∀ (q : Int) (W : World), Below w.heap.size w W → Calls Try.prog 41 #[.agg #[.slice a rs.length cap], .int .i64 q] W fun e w' => e = .returned (.agg (zs q)) ∧ Below W.heap.size W w') := fun q W hW => by rw [← hz]; exact HST.out q W hW
  have HLC2 : Hid (∀ W, Calls Try.prog 42 #[.agg (zs x), .agg (zs y)] W fun e w' => e = .returned (.int .i64 ans) ∧ Below W.heap.size W w') := fun W => by rw [← hz]; exact HLC.out W
  clear hz HST HLC
  go_enter Try.func16, Try.ntmps16
  go_upto_region 1 with fail
  rw [← hW.out]
  clear hW bx
  replace HX : Hid (CellsAt w.heap.size [.slice a rs.length cap] w0.drew) := HX.out
  replace HB : Hid (Below w.heap.size w w0.drew) := below_drewN HB.out 1
  go_region_held3 (fun W => W.cell? ⟨w.heap.size, 0, none⟩ = some (.slice a rs.length cap)) (exact (HX.out 0 _ rfl).1) (first | (go_at_call 41; refine (HST2.out _ _ HB.out).mono ?_; rintro e w3 ⟨rfl, hb3⟩; replace HX := Lib.hid (HX.out.below hb3); replace HB := Lib.hid (HB.out.trans (hb3.mono HB.out.size)); clear hb3) | (go_at_call 42; refine (HLC2.out _).mono ?_; rintro e w4 ⟨rfl, hb4⟩; replace HX := Lib.hid (HX.out.below hb4); replace HB := Lib.hid (HB.out.trans (hb4.mono HB.out.size)); clear hb4))
  all_goals (go_wp2; go_ret; exact ⟨rfl, HB.out⟩)
/-- The answer of AreDisjoint. -/
noncomputable def disjD (rs : List RuleV) (x y : Int) : Bool := okAt rs x && (decide (0 ≤ y ∧ y < (rs.length : Int)) && decide (commonD rs x y < 0))
set_option maxRecDepth 100000 in
set_option maxHeartbeats 4000000 in
theorem disj_impl (a : Option Addr) (rs : List RuleV) (cap : Nat) (x y : Int) (w : World) (hl : rs.length ≤ 1048576) (hs : ∀ r ∈ rs, Short r) (hp : ∀ r ∈ rs, Spelt r) (h : RdC a rs w) :
    Calls Try.prog 17 #[.agg #[.slice a rs.length cap], .int .i64 x, .int .i64 y] w fun e w' => e = .returned (.bool (disjD rs x y)) ∧ Below w.heap.size w w' := by
  obtain ⟨w0, hw0⟩ : ∃ w0, w0 = w.alloc (.cells #[.slice a rs.length cap] 26) := ⟨_, rfl⟩
  have hB0 : Below w.heap.size w w0 := by subst hw0; exact (Below.refl _ _).alloc (Nat.le_refl _) _
  have hX0 : CellsAt w.heap.size [.slice a rs.length cap] w0 := by subst hw0; exact CellsAt.new w _ _
  have bx := (hX0 0 _ rfl).1
  have HX := Lib.hid hX0
  have HB := Lib.hid hB0
  have HCW := Lib.hid h
  have HS := Lib.hid hs
  have HP := Lib.hid hp
  have hW := Lib.hid hw0
  clear h hB0 hX0 hs hp hw0
  obtain ⟨ans, hans⟩ : ∃ z0, z0 = disjD rs x y := ⟨_, rfl⟩
  rw [← hans]
  have HAN := Lib.hid hans
  clear hans
  obtain ⟨ok, hok⟩ : ∃ z, z = okAt rs x := ⟨_, rfl⟩
  obtain ⟨ib, hib⟩ : ∃ z, z = decide (0 ≤ y ∧ y < (rs.length : Int)) := ⟨_, rfl⟩
  obtain ⟨c, hc⟩ : ∃ z, z = commonD rs x y := ⟨_, rfl⟩
  have HAN2 : Hid (ans = (ok && (ib && decide (c < 0)))) := by show _ = _; rw [HAN.out, hok, hib, hc]; rfl
  have HOK := Lib.hid hok
  have HIB := Lib.hid hib
  have HCM := Lib.hid hc
  clear hok hib hc HAN
  go_enter Try.func17, Try.ntmps17
  go_upto_region 1 with fail
  rw [← hW.out]
  clear hW
  go_wp2_with fail
  refine (isdescr_impl a rs cap x _ hl HS.out HP.out (HCW.out.below HB.out)).mono ?_
  rintro e w1 ⟨rfl, hb1⟩
  rw [← HOK.out]
  replace HX := Lib.hid (HX.out.below hb1)
  replace HB := Lib.hid (HB.out.trans (hb1.mono HB.out.size))
  clear hb1 bx
  have bx := (HX.out 0 _ rfl).1
  cases ok with
  | false =>
    obtain rfl : ans = false := HAN2.out
    go_wp2
    go_ret
    exact ⟨rfl, HB.out⟩
  | true =>
    go_wp2_with fail
    refine (hasr_impl a rs.length cap y _ (by omega) ib HIB.out.symm).mono ?_
    rintro e w2 ⟨rfl, hb2⟩
    replace HX := Lib.hid (HX.out.below hb2)
    replace HB := Lib.hid (HB.out.trans (hb2.mono HB.out.size))
    clear hb2 bx
    have bx := (HX.out 0 _ rfl).1
    cases ib with
    | false =>
      obtain rfl : ans = false := HAN2.out
      go_wp2
      go_ret
      exact ⟨rfl, HB.out⟩
    | true =>
      go_wp2_with fail
      refine (common_impl a rs cap x y _ hl HS.out HP.out (HCW.out.below HB.out)).mono ?_
      rintro e w3 ⟨rfl, hb3⟩
      rw [← HCM.out]
      replace HB := Lib.hid (HB.out.trans (hb3.mono HB.out.size))
      clear hb3 bx
      by_cases hc0 : c < 0
      · obtain rfl : ans = true := by rw [HAN2.out, decide_eq_true hc0]; rfl
        have hd : decide (c < 0) = true := decide_eq_true hc0
        go_wp2
        go_ret
        exact ⟨rfl, HB.out⟩
      · obtain rfl : ans = false := by rw [HAN2.out, decide_eq_false hc0]; rfl
        have hd : decide (c < 0) = false := decide_eq_false hc0
        go_wp2
        go_ret
        exact ⟨rfl, HB.out⟩
set_option maxRecDepth 100000 in
set_option maxHeartbeats 4000000 in
theorem only_impl8 (a : Option Addr) (rs : List RuleV) (cap : Nat) (k : Int) (w : World) (hl : rs.length ≤ 1048576) (hs : ∀ r ∈ rs, Short r) (hp : ∀ r ∈ rs, Spelt r) (h : RdC a rs w) :
    Calls Try.prog 15 #[.agg #[.slice a rs.length cap], .int .i64 k] w fun e w' => e = .returned (.int .i64 (onlyD rs k)) ∧ Below w.heap.size w w' := by
  obtain ⟨w0, hw0⟩ : ∃ w0, w0 = w.alloc (.cells #[.slice a rs.length cap] 26) := ⟨_, rfl⟩
  have hB0 : Below w.heap.size w w0 := by subst hw0; exact (Below.refl _ _).alloc (Nat.le_refl _) _
  have hX0 : CellsAt w.heap.size [.slice a rs.length cap] w0 := by subst hw0; exact CellsAt.new w _ _
  have bx := (hX0 0 _ rfl).1
  have HX := Lib.hid hX0
  have HB := Lib.hid hB0
  have HCW := Lib.hid h
  have HS := Lib.hid hs
  have HP := Lib.hid hp
  have hW := Lib.hid hw0
  clear h hB0 hX0 hs hp hw0
  obtain ⟨ans, hans⟩ : ∃ z0, z0 = onlyD rs k := ⟨_, rfl⟩
  rw [← hans]
  have HAN := Lib.hid hans
  clear hans
  obtain ⟨n, hn⟩ : ∃ n, n = countD rs k := ⟨_, rfl⟩
  have HN := Lib.hid hn
  have HAN2 : Hid (ans = if n = 1 then commonD rs k k else -1) := by show _ = _; rw [HAN.out, hn]; rfl
  clear hn HAN
  go_enter Try.func15, Try.ntmps15
  go_wp2_with fail
  rw [← hW.out]
  clear hW
  refine (countf_impl a rs cap k _ hl HS.out HP.out (HCW.out.below HB.out)).mono ?_
  rintro e w1 ⟨rfl, hb1⟩
  rw [← HN.out]
  replace HX := Lib.hid (HX.out.below hb1)
  replace HB := Lib.hid (HB.out.trans (hb1.mono HB.out.size))
  clear hb1 bx
  by_cases h1 : n = 1
  · have hr : Hid (ans = commonD rs k k) := by show _ = _; rw [HAN2.out, if_pos h1]
    subst h1
    have bx := (HX.out 0 _ rfl).1
    go_wp2_with fail
    refine (common_impl a rs cap k k _ hl HS.out HP.out (HCW.out.below HB.out)).mono ?_
    rintro e w2 ⟨rfl, hb2⟩
    rw [← hr.out]
    have HBE := Lib.hid (HB.out.trans (hb2.mono HB.out.size))
    clear hb2 bx
    go_wp2
    go_ret
    exact ⟨rfl, HBE.out⟩
  · obtain rfl : ans = -1 := by rw [HAN2.out, if_neg h1]
    have e1 : (n != 1) = true := by simpa using h1
    go_wp2
    go_ret
    exact ⟨rfl, HB.out⟩
theorem kindI_tags {rs : List RuleV} {r : RuleV} (h : kindI rs r = true) (hk : ¬ r.kind = 7) : r.tags = [] := by
  unfold kindI at h
  rw [Bool.and_eq_true] at h
  have h2 := h.2
  have h3 : (onlyR r).tags = [] := by
    unfold onlyR
    split
    · rfl
    · split
      · rfl
      · split
        · rfl
        · split
          · rfl
          · split
            · rfl
            · first | rfl | rw [if_neg hk]
  have e := congrArg RuleV.tags ((sameR_iff _ _).1 h2)
  rw [h3] at e
  exact e
set_option maxRecDepth 100000 in
set_option maxHeartbeats 8000000 in
theorem tags8_impl (a : Option Addr) (rs : List RuleV) (cap : Nat) (k j : Int) (w : World) (hl : rs.length ≤ 1048576) (hs : ∀ r ∈ rs, Short r) (hp : ∀ r ∈ rs, Spelt r) (h : RdC a rs w) :
    Calls Try.prog 19 #[.agg #[.slice a rs.length cap], .int .i64 k, .int .i64 j] w (BytesOut (tagD rs k j) w) := by
  obtain ⟨w0, hw0⟩ : ∃ w0, w0 = w.alloc (.cells #[.slice a rs.length cap] 26) := ⟨_, rfl⟩
  have hB0 : Below w.heap.size w w0 := by subst hw0; exact (Below.refl _ _).alloc (Nat.le_refl _) _
  have hX0 : CellsAt w.heap.size [.slice a rs.length cap] w0 := by subst hw0; exact CellsAt.new w _ _
  have bx := (hX0 0 _ rfl).1
  have HX := Lib.hid hX0
  have HB := Lib.hid hB0
  have HCW := Lib.hid h
  have HS := Lib.hid hs
  have HP := Lib.hid hp
  have hW := Lib.hid hw0
  clear h hB0 hX0 hs hp hw0
  obtain ⟨ans, hans⟩ : ∃ z0, z0 = tagD rs k j := ⟨_, rfl⟩
  rw [← hans]
  have HAN := Lib.hid hans
  clear hans
  obtain ⟨ok, hok⟩ : ∃ x, x = okAt rs k := ⟨_, rfl⟩
  have HOK := Lib.hid hok
  clear hok
  go_enter Try.func19, Try.ntmps19
  go_wp2_with fail
  rw [← hW.out]
  clear hW
  refine (isdescr_impl a rs cap k _ hl HS.out HP.out (HCW.out.below HB.out)).mono ?_
  rintro e w1 ⟨rfl, hb1⟩
  rw [← HOK.out]
  replace HX := Lib.hid (HX.out.below hb1)
  replace HB := Lib.hid (HB.out.trans (hb1.mono HB.out.size))
  clear hb1 bx
  have bx := (HX.out 0 _ rfl).1
  cases ok with
  | false =>
    obtain rfl : ans = [] := by rw [HAN.out]; exact tagD_no (fun h => by have := h.1; rw [← HOK.out] at this; cases this)
    go_wp2
    go_ret
    exact bytesOut_below HB.out (empty_out _)
  | true =>
    obtain ⟨⟨hk0, hk1⟩, hn, hall⟩ := okAt_yes HOK.out.symm
    obtain ⟨m, rfl⟩ : ∃ m : Nat, k = (m : Int) := ⟨k.toNat, by omega⟩
    have hm : m < rs.length := by omega
    obtain ⟨b0, off, a4, c4, a5, c5, a6, c6, a7, c7, hx, ⟨u0, u1, u2, u3, u4, u5, u6, u7⟩, r4, r5, r6, r7⟩ := HCW.out.rd.at m hm
    subst hx
    have HIS : Hid (IsRule rs[m] [.string rs[m].name, .int .i64 rs[m].kind, .int .i64 rs[m].size, .bool rs[m].little, .slice a4 rs[m].bytes.length c4, .slice a5 rs[m].names.length c5, .slice a6 rs[m].tags.length c6, .slice a7 rs[m].kids.length c7] w) := ⟨a4, c4, a5, c5, a6, c6, a7, c7, rfl, r4, r5, r6, r7⟩
    obtain ⟨ib, hib⟩ : ∃ x, x = decide (0 ≤ j ∧ j ≤ (rs[m].tags.length : Int) - 1) := ⟨_, rfl⟩
    have HIB := Lib.hid hib
    clear hib
    have HSM := Lib.hid (HS.out _ (List.getElem_mem hm))
    have htl : rs[m].tags.length ≤ 1048576 := HSM.out.2.2.1
    have HALL := Lib.hid hall
    have HK7 : Hid (ib = true → rs[m].kind = 7) := fun h => by
      by_cases c : rs[m].kind = 7
      · exact c
      · have h1 := kindI_tags (allV_kind HALL.out hm) c
        rw [h] at HIB
        have h2 := of_decide_eq_true HIB.out.symm
        rw [h1] at h2
        simp at h2
        omega
    have H6 : Hid (RdI a6 rs[m].tags w) := r6
    have HKD := fun h => Lib.hid (choice_facts HALL.out hm h)
    clear r4 r5 r6 r7 hall hn
    obtain ⟨r, hr⟩ : ∃ r, r = rs[m] := ⟨_, rfl⟩
    rw [← hr] at u0 u1 u2 u3 u4 u5 u6 u7 htl HIB HSM HK7 H6 HIS HKD
    have HR := Lib.hid hr
    clear hr
    have d0 := cell_keep HB.out u0
    have d1 := cell_keep HB.out u1
    have d2 := cell_keep HB.out u2
    have d3 := cell_keep HB.out u3
    have d4 := cell_keep HB.out u4
    have d5 := cell_keep HB.out u5
    have d6 := cell_keep HB.out u6
    have d7 := cell_keep HB.out u7
    clear u0 u1 u2 u3 u4 u5 u6 u7
    go_wp2_with fail
    refine (inI_any _ _ _ ib _ HIB.out.symm).mono ?_
    rintro e w2 ⟨rfl, rfl⟩
    cases ib with
    | false =>
      obtain rfl : ans = [] := by
        rw [HAN.out]
        refine tagD_no (fun h => ?_)
        have h3 := of_decide_eq_false HIB.out.symm
        have h4 := h.2.2
        rw [ruleAt_at hm, ← HR.out] at h4
        omega
      go_wp2
      go_ret
      exact bytesOut_below HB.out (empty_out _)
    | true =>
      obtain ⟨hj0, hj1⟩ := of_decide_eq_true HIB.out.symm
      obtain ⟨t, rfl⟩ : ∃ t : Nat, j = (t : Int) := ⟨j.toNat, by omega⟩
      have ht : t < r.tags.length := by omega
      have hk7 := HK7.out rfl
      obtain ⟨q, hq, -, hqr, hkl, -, -⟩ := (HKD hk7).out
      have HA2 : Hid (ans = tagB rs r r.tags[t]) := by
        show _ = _
        rw [HAN.out]
        have e1 := tagD_yes (t := t) HOK.out.symm hm (by rw [← HR.out]; exact hk7) (by rw [← HR.out]; exact ht)
        rw [e1]
        simp only [← HR.out]
      obtain ⟨b6, o6, h6, hc6⟩ := H6.out.cellAt (j := t) ht
      subst h6
      obtain ⟨tg, htg⟩ : ∃ tg, tg = r.tags[t] := ⟨_, rfl⟩
      rw [← htg] at hc6 HA2
      have hc6w := cell_keep HB.out hc6
      have HCALL : Hid (∀ W, Below w.heap.size w W → Calls Try.prog 48 #[.agg #[.slice (some ⟨b0, off, none⟩) rs.length cap], .agg #[.string r.name, .int .i64 r.kind, .int .i64 r.size, .bool r.little, .slice a4 r.bytes.length c4, .slice a5 r.names.length c5, .slice (some ⟨b6, o6, none⟩) r.tags.length c6, .slice a7 r.kids.length c7], .int .i64 tg] W (BytesOut ans W)) := fun W h1 => by rw [HA2.out]; exact enct_impl _ rs cap r _ tg q W hl hq hqr hkl (HCW.out.below h1) (HIS.out.below h1)
      clear htg hq hqr hkl hk7 HKD HK7 HIB HR hc6 HALL
      have ht0 : (0 : Int) ≤ (t : Int) := by omega
      have ht1 : (t : Int) < (r.tags.length : Int) := by omega
      obtain ⟨w4, hw4⟩ : ∃ w4, w4 = w1.alloc (.cells #[.string r.name, .int .i64 r.kind, .int .i64 r.size, .bool r.little, .slice a4 r.bytes.length c4, .slice a5 r.names.length c5, .slice (some ⟨b6, o6, none⟩) r.tags.length c6, .slice a7 r.kids.length c7] 44) := ⟨_, rfl⟩
      have hb4 : Below w1.heap.size w1 w4 := by subst hw4; exact (Below.refl _ _).alloc (Nat.le_refl _) _
      have HRC : Hid (CellsAt w1.heap.size [.string r.name, .int .i64 r.kind, .int .i64 r.size, .bool r.little, .slice a4 r.bytes.length c4, .slice a5 r.names.length c5, .slice (some ⟨b6, o6, none⟩) r.tags.length c6, .slice a7 r.kids.length c7] w4) := by subst hw4; exact CellsAt.new w1 _ _
      have HB4 := Lib.hid hb4
      have hW4 := Lib.hid hw4
      clear hb4 hw4
      go_upto_region 4 with fail
      rw [← hW4.out]
      clear hW4 d0 d1 d2 d3 d4 d5 d6 d7 bx
      have bx := (HX.out.below HB4.out 0 _ rfl).1
      have g6 := cell_keep HB4.out hc6w
      have z0 := (HRC.out 0 _ rfl).1
      have z1 := (HRC.out 1 _ rfl).1
      have z2 := (HRC.out 2 _ rfl).1
      have z3 := (HRC.out 3 _ rfl).1
      have z4 := (HRC.out 4 _ rfl).1
      have z5 := (HRC.out 5 _ rfl).1
      have z6 := (HRC.out 6 _ rfl).1
      have z7 := (HRC.out 7 _ rfl).1
      replace HB := Lib.hid (HB.out.trans (HB4.out.mono HB.out.size))
      generalize w1.heap.size = N at HRC z0 z1 z2 z3 z4 z5 z6 z7 ⊢
      clear HB4 HX HRC hc6w
      go_still_tail 7, (by kernel_rfl)
      change wpList _ _ _ _ _ w4.drew
      replace HB : Hid (Below w.heap.size w w4.drew) := below_drewN HB.out 1
      clear bx z0 z1 z2 z3 z4 z5 z6 z7 g6
      generalize w4.drew = w5 at HB ⊢
      go_wp2_with fail
      refine (HCALL.out _ HB.out).mono ?_
      rintro e w6 ⟨az, cz, rfl, hrow, hb6⟩
      have HRW := Lib.hid (hrow.more HB.out.size)
      replace HB := Lib.hid (HB.out.trans (hb6.mono HB.out.size))
      clear hrow hb6
      go_wp2
      go_ret
      exact ⟨az, cz, rfl, HRW.out, HB.out⟩
end Go.Proofs.Ytekmopoblfknlaa
