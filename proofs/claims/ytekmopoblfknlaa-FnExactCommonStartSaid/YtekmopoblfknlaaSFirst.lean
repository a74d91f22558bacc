/- The contracts of the model's CountFirstBytes, CommonStart, OnlyStart. -/
import Derived.Test.YtekmopoblfknlaaSCan
namespace Go.Proofs.Ytekmopoblfknlaa
open Go Go.RowKit
set_option maxRecDepth 100000 in
set_option maxHeartbeats 4000000 in
theorem countf_spec (a : Option Addr) (rs : List RuleV) (cap : Nat) (k : Int) (w : World) (hl : rs.length ≤ 1048576) (hs : ∀ r ∈ rs, Short r) (hp : ∀ r ∈ rs, Spelt r) (h : RdC a rs w) :
    Calls Try.prog 27 #[.agg #[.slice a rs.length cap], .int .i64 k] w fun e w' => e = .returned (.int .i64 (countD rs k)) ∧ Below w.heap.size w w' := by
  obtain ⟨w0, hw0⟩ : ∃ w0, w0 = w.alloc (.cells #[.slice a rs.length cap] 26) := ⟨_, rfl⟩
  have hB0 : Below w.heap.size w w0 := by subst hw0; exact (Below.refl _ _).alloc (Nat.le_refl _) _
  have hX0 : CellsAt w.heap.size [.slice a rs.length cap] w0 := by subst hw0; exact CellsAt.new w _ _
  have bx := (hX0 0 _ rfl).1
  have HX := Lib.hid hX0
  have HB := Lib.hid hB0
  have HC := Lib.hid (h.below hB0)
  have HS := Lib.hid hs
  have HP := Lib.hid hp
  have hW := Lib.hid hw0
  clear h hB0 hX0 hs hp hw0
  obtain ⟨ans, hans⟩ : ∃ z0, z0 = countD rs k := ⟨_, rfl⟩
  rw [← hans]
  have HAN := Lib.hid hans
  clear hans
  replace HAN : Hid (ans = (countS (startK rs k) 256 : Nat)) := HAN.out
  generalize hf : startK rs k = f at HAN
  have HF := Lib.hid hf
  clear hf
  have HB0 := Lib.hid (Below.refl w0.heap.size w0)
  go_enter Try.func27, Try.ntmps27
  go_upto_region 1 with fail
  rw [← hW.out]
  clear hW bx
  go_wp2
  go_loopw [5, 6] (fun n i W => ∃ j : Nat, j ≤ 256 ∧ i = .int .i64 j ∧ n = .int .i64 ((countS f j : Nat) : Int) ∧ Hid (Below w0.heap.size w0 W)) (fun _ i _ => 256 - (intOf i).toNat)
  case atStart => exact ⟨0, Nat.zero_le _, rfl, rfl, HB0⟩
  case round =>
    clear HB0
    obtain ⟨j, hj, rfl, rfl, hb⟩ := hrel
    have j0 : (0 : Int) ≤ (j : Int) := by omega
    have bx := (HX.out.below hb.out 0 _ rfl).1
    have hcl := countS_le f j
    by_cases hlt : j < 256
    · have j1 : (j : Int) < 256 := by omega
      have hnx : Hid (countS f (j + 1) = countS f j + if f j = true then 1 else 0) := rfl
      have hcb : Hid (canB rs k (j : Int) = f j) := by show _ = _; rw [canB_byte rs k hlt, HF.out]
      generalize f j = fj at hnx hcb
      obtain ⟨cn, hcn⟩ : ∃ c, c = countS f j := ⟨_, rfl⟩
      rw [← hcn] at hnx hcl ⊢
      clear hcn
      go_wp2_with fail
      refine (cans_spec a rs cap k (j : Int) _ hl HS.out HP.out (HC.out.below hb.out)).mono ?_
      rintro e w3 ⟨rfl, hb3⟩
      rw [hcb.out]
      have HBN := Lib.hid (hb.out.trans (hb3.mono hb.out.size))
      clear hb3 bx hb
      cases fj with
      | false =>
        go_wp2
        go_roundw
        case rel => exact ⟨j + 1, by omega, by go_num, by rw [hnx.out]; rfl, HBN⟩
        case measure => simp [intOf]; omega
      | true =>
        go_wp2
        go_roundw
        case rel => exact ⟨j + 1, by omega, by go_num, by rw [hnx.out]; go_num, HBN⟩
        case measure => simp [intOf]; omega
    · have j1 : ¬ (j : Int) < 256 := by omega
      obtain rfl : j = 256 := by omega
      have HBN := Lib.hid (HB.out.trans (hb.out.mono HB.out.size))
      rw [← HAN.out]
      clear bx hb
      go_wp2
      go_ret
      exact ⟨rfl, HBN.out⟩
set_option maxRecDepth 100000 in
set_option maxHeartbeats 4000000 in
theorem common_spec (a : Option Addr) (rs : List RuleV) (cap : Nat) (x y : Int) (w : World) (hl : rs.length ≤ 1048576) (hs : ∀ r ∈ rs, Short r) (hp : ∀ r ∈ rs, Spelt r) (h : RdC a rs w) :
    Calls Try.prog 28 #[.agg #[.slice a rs.length cap], .int .i64 x, .int .i64 y] w fun e w' => e = .returned (.int .i64 (commonD rs x y)) ∧ Below w.heap.size w w' := by
  obtain ⟨w0, hw0⟩ : ∃ w0, w0 = w.alloc (.cells #[.slice a rs.length cap] 26) := ⟨_, rfl⟩
  have hB0 : Below w.heap.size w w0 := by subst hw0; exact (Below.refl _ _).alloc (Nat.le_refl _) _
  have hX0 : CellsAt w.heap.size [.slice a rs.length cap] w0 := by subst hw0; exact CellsAt.new w _ _
  have bx := (hX0 0 _ rfl).1
  have HX := Lib.hid hX0
  have HB := Lib.hid hB0
  have HC := Lib.hid (h.below hB0)
  have HS := Lib.hid hs
  have HP := Lib.hid hp
  have hW := Lib.hid hw0
  clear h hB0 hX0 hs hp hw0
  obtain ⟨ans, hans⟩ : ∃ z0, z0 = commonD rs x y := ⟨_, rfl⟩
  rw [← hans]
  have HAN := Lib.hid hans
  clear hans
  obtain ⟨f, hf⟩ : ∃ f, f = startK rs x := ⟨_, rfl⟩
  obtain ⟨g, hg⟩ : ∃ g, g = startK rs y := ⟨_, rfl⟩
  replace HAN : Hid (ans = leastS (fun z => f z && g z) 0 256) := by show _ = _; rw [HAN.out, hf, hg]; rfl
  have HF := Lib.hid hf
  have HG := Lib.hid hg
  clear hf hg
  have HB0 := Lib.hid (Below.refl w0.heap.size w0)
  go_enter Try.func28, Try.ntmps28
  go_upto_region 1 with fail
  rw [← hW.out]
  clear hW bx
  go_wp2
  go_loopw [7] (fun i W => ∃ j : Nat, j ≤ 256 ∧ i = .int .i64 j ∧ Hid (ans = leastS (fun z => f z && g z) j (256 - j)) ∧ Hid (Below w0.heap.size w0 W)) (fun i _ => 256 - (intOf i).toNat)
  case atStart => exact ⟨0, Nat.zero_le _, rfl, HAN, HB0⟩
  case round =>
    clear HB0 HAN
    obtain ⟨j, hj, rfl, HAN, hb⟩ := hrel
    have j0 : (0 : Int) ≤ (j : Int) := by omega
    have bx := (HX.out.below hb.out 0 _ rfl).1
    by_cases hlt : j < 256
    · have j1 : (j : Int) < 256 := by omega
      have hnx : Hid (ans = if (f j && g j) = true then (j : Int) else leastS (fun z => f z && g z) (j + 1) (256 - (j + 1))) := by show _ = _; rw [HAN.out, show 256 - j = (256 - (j + 1)) + 1 from by omega]; rfl
      have hcf : Hid (canB rs x (j : Int) = f j) := by show _ = _; rw [canB_byte rs x hlt, HF.out]
      have hcg : Hid (canB rs y (j : Int) = g j) := by show _ = _; rw [canB_byte rs y hlt, HG.out]
      generalize f j = fj at hnx hcf
      generalize g j = gj at hnx hcg
      go_wp2_with fail
      refine (cans_spec a rs cap x (j : Int) _ hl HS.out HP.out (HC.out.below hb.out)).mono ?_
      rintro e w3 ⟨rfl, hb3⟩
      rw [hcf.out]
      have HBN := Lib.hid (hb.out.trans (hb3.mono hb.out.size))
      clear hb3 bx hb
      cases fj with
      | false =>
        replace hnx : Hid (ans = leastS (fun z => f z && g z) (j + 1) (256 - (j + 1))) := hnx.out
        go_wp2
        go_roundw
        case rel => exact ⟨j + 1, by omega, by go_num, hnx, HBN⟩
        case measure => simp [intOf]; omega
      | true =>
        have bx := (HX.out.below HBN.out 0 _ rfl).1
        go_wp2_with fail
        refine (cans_spec a rs cap y (j : Int) _ hl HS.out HP.out (HC.out.below HBN.out)).mono ?_
        rintro e w4 ⟨rfl, hb4⟩
        rw [hcg.out]
        replace HBN := Lib.hid (HBN.out.trans (hb4.mono HBN.out.size))
        clear hb4 bx
        cases gj with
        | false =>
          replace hnx : Hid (ans = leastS (fun z => f z && g z) (j + 1) (256 - (j + 1))) := hnx.out
          go_wp2
          go_roundw
          case rel => exact ⟨j + 1, by omega, by go_num, hnx, HBN⟩
          case measure => simp [intOf]; omega
        | true =>
          obtain rfl : ans = (j : Int) := hnx.out
          have HBE := Lib.hid (HB.out.trans (HBN.out.mono HB.out.size))
          go_wp2
          go_ret
          exact ⟨rfl, HBE.out⟩
    · have j1 : ¬ (j : Int) < 256 := by omega
      obtain rfl : j = 256 := by omega
      obtain rfl : ans = -1 := HAN.out
      have HBN := Lib.hid (HB.out.trans (hb.out.mono HB.out.size))
      clear bx hb
      go_wp2
      go_ret
      exact ⟨rfl, HBN.out⟩
set_option maxRecDepth 100000 in
set_option maxHeartbeats 4000000 in
theorem only_spec8 (a : Option Addr) (rs : List RuleV) (cap : Nat) (k : Int) (w : World) (hl : rs.length ≤ 1048576) (hs : ∀ r ∈ rs, Short r) (hp : ∀ r ∈ rs, Spelt r) (h : RdC a rs w) :
    Calls Try.prog 33 #[.agg #[.slice a rs.length cap], .int .i64 k] w fun e w' => e = .returned (.int .i64 (onlyD rs k)) ∧ Below w.heap.size w w' := by
  obtain ⟨w0, hw0⟩ : ∃ w0, w0 = w.alloc (.cells #[.slice a rs.length cap] 26) := ⟨_, rfl⟩
  have hB0 : Below w.heap.size w w0 := by subst hw0; exact (Below.refl _ _).alloc (Nat.le_refl _) _
  have hX0 : CellsAt w.heap.size [.slice a rs.length cap] w0 := by subst hw0; exact CellsAt.new w _ _
  have bx := (hX0 0 _ rfl).1
  have HX := Lib.hid hX0
  have HB := Lib.hid hB0
  have HC := Lib.hid (h.below hB0)
  have HS := Lib.hid hs
  have HP := Lib.hid hp
  have hW := Lib.hid hw0
  clear h hB0 hX0 hs hp hw0
  obtain ⟨ans, hans⟩ : ∃ z0, z0 = onlyD rs k := ⟨_, rfl⟩
  rw [← hans]
  have HAN := Lib.hid hans
  clear hans
  obtain ⟨n, hn⟩ : ∃ n, n = countD rs k := ⟨_, rfl⟩
  have HN := Lib.hid hn
  replace HAN : Hid (ans = if n = 1 then commonD rs k k else -1) := by show _ = _; rw [HAN.out, hn]; rfl
  clear hn
  go_enter Try.func33, Try.ntmps33
  go_wp2_with fail
  rw [← hW.out]
  clear hW
  refine (countf_spec a rs cap k _ hl HS.out HP.out HC.out).mono ?_
  rintro e w1 ⟨rfl, hb1⟩
  rw [← HN.out]
  replace HX := Lib.hid (HX.out.below hb1)
  replace HC := Lib.hid (HC.out.below hb1)
  replace HB := Lib.hid (HB.out.trans (hb1.mono HB.out.size))
  clear hb1 bx
  by_cases h1 : n = 1
  · have hr : Hid (ans = commonD rs k k) := by show _ = _; rw [HAN.out, if_pos h1]
    subst h1
    have bx := (HX.out 0 _ rfl).1
    go_wp2_with fail
    refine (common_spec a rs cap k k _ hl HS.out HP.out HC.out).mono ?_
    rintro e w2 ⟨rfl, hb2⟩
    rw [← hr.out]
    have HBE := Lib.hid (HB.out.trans (hb2.mono HB.out.size))
    clear hb2 bx
    go_wp2
    go_ret
    exact ⟨rfl, HBE.out⟩
  · obtain rfl : ans = -1 := by rw [HAN.out, if_neg h1]
    have e1 : (n != 1) = true := by simpa using h1
    go_wp2
    go_ret
    exact ⟨rfl, HB.out⟩
end Go.Proofs.Ytekmopoblfknlaa
