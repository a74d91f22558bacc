/- The contract of the model's DepthOf. -/
import Derived.Test.YthjogcknphjilaaSizeD
import Derived.Test.YthjogcknphjilaaGPu
import Derived.Test.YthjogcknphjilaaGDI
import Derived.Deep.CutRange
import Derived.Deep.CutBlock
namespace Go.Proofs.Ythjogcknphjilaa
open Go Go.RowKit
set_option maxRecDepth 100000 in
set_option maxHeartbeats 4000000 in
theorem depth_spec (a : Option Addr) (rs : List RuleV) (cap : Nat) (k : Int) (w : World) (hl : rs.length ≤ 1048576) (hs : ∀ r ∈ rs, Short r) (hp : ∀ r ∈ rs, Spelt r) (h : RdC a rs w) :
    Calls Try.prog 56 #[.agg #[.slice a rs.length cap], .int .i64 k] w fun e w' => e = .returned (.int .i64 (sizeD depthStep rs k)) ∧ Below w.heap.size w w' := by
  obtain ⟨w0, hw0⟩ : ∃ w0, w0 = w.alloc (.cells #[.slice a rs.length cap] 26) := ⟨_, rfl⟩
  have hB0 : Below w.heap.size w w0 := by subst hw0; exact (Below.refl _ _).alloc (Nat.le_refl _) _
  have hX0 : CellsAt w.heap.size [.slice a rs.length cap] w0 := by subst hw0; exact CellsAt.new w _ _
  have bx := (hX0 0 _ rfl).1
  have HX := Lib.hid hX0
  have HB := Lib.hid hB0
  have HC := Lib.hid (h.below hB0)
  have HS := Lib.hid hs
  have HP := Lib.hid hp
  have hW := Lib.hid hw0
  clear h hB0 hX0 hs hp hw0
  obtain ⟨b, hb⟩ : ∃ b, b = okAt rs k := ⟨_, rfl⟩
  have HO := Lib.hid hb
  clear hb
  go_enter Try.func56, Try.ntmps56
  go_wp2_with fail
  rw [← hW.out]
  clear hW
  refine (l7_spec a rs cap k _ hl HS.out HP.out HC.out).mono ?_
  rintro e w1 ⟨rfl, hb1⟩
  rw [← HO.out]
  replace HX := Lib.hid (HX.out.below hb1)
  replace HC := Lib.hid (HC.out.below hb1)
  replace HB := Lib.hid (HB.out.trans (hb1.mono HB.out.size))
  clear hb1 bx
  have bx := (HX.out 0 _ rfl).1
  cases b with
  | false =>
    have hr := Lib.hid (sizeD_no (f := depthStep) HO.out.symm)
    go_wp2
    go_ret
    exact ⟨ret_int hr.out.symm, HB.out⟩
  | true =>
    have hr := Lib.hid (sizeD_yes (f := depthStep) HO.out.symm)
    obtain ⟨⟨k0, k1⟩, hn, hv⟩ := okAt_yes HO.out.symm
    have hn24 := hn.2
    obtain ⟨m, rfl⟩ : ∃ m : Nat, k = (m : Int) := ⟨k.toNat, by omega⟩
    have hm : m < rs.length := by omega
    have HV := Lib.hid hv
    clear hv hn HO
    go_wp2
    go_loopw [5, 6] (fun v i W => ∃ (n : Nat) (zs : List Int) (v0 : Value), n ≤ m + 1 ∧ i = .int .i64 n ∧ v0 = v ∧ Hid (W.ownsRow w1.heap.size 3 1 v0 zs.length (zs.map (Value.int .i64))) ∧ Hid (zs = tabTo depthStep rs n) ∧ Hid (Below w1.heap.size w1 W)) (fun _ i _ => m + 1 - (intOf i).toNat)
    case atStart =>
      refine ⟨0, [], _, Nat.zero_le _, rfl, rfl, ?_, rfl, (Below.refl _ _).alloc (Nat.le_refl _) _⟩
      exact World.ownsRow_made w1 #[] 0 (Nat.le_refl _) (Nat.zero_le _) rfl
    case round =>
      obtain ⟨n, zs, v0, hnm, rfl, rfl, ho, hin, hbw⟩ := hrel
      have n0 : (0 : Int) ≤ (n : Int) := by omega
      by_cases hlt : n ≤ m
      case pos =>
        have n1 : (n : Int) ≤ (m : Int) := by omega
        have hnr : n < rs.length := by omega
        have n2 : (n : Int) < (rs.length : Int) := by omega
        have HZL : Hid (zs.length = n) := by show _ = _; rw [hin.out, tabTo_length _ _ _ (by omega)]
        have hz24 : zs.length ≤ 24 := by have := HZL.out; omega
        have HKD := Lib.hid (allV_kids HV.out hnr)
        have HIB : Hid (InB 24 zs) := by have := (depths_b rs n (by omega)).mono (by omega : (n : Int) ≤ 24); rw [← hin.out] at this; exact this
        obtain ⟨b0, off, a4, c4, a5, c5, a6, c6, a7, c7, rfl, ⟨d0, d1, d2, d3, d4, d5, d6, d7⟩, r4, r5, r6, r7⟩ := (HC.out.rd.below hbw.out).at n hnr
        have HNX : Hid (zs ++ [depthStep zs rs[n]] = tabTo depthStep rs (n + 1)) := by show _ = _; rw [tabTo_next hnr, ← hin.out]
        have hsh : rs[n].kids.length ≤ 1048576 := (HS.out _ (List.getElem_mem hnr)).2.2.2
        obtain ⟨r, hrr⟩ : ∃ r, r = rs[n] := ⟨_, rfl⟩
        rw [← hrr] at d7 r7 HKD HNX hsh
        clear hrr d0 d1 d2 d3 d4 d5 d6 r4 r5 r6
        have HR7 := Lib.hid r7
        clear r7
        have bx := (HX.out.below hbw.out 0 _ rfl).1
        obtain ⟨xo, co, hvo, hrow⟩ := own_row (f := Value.int .i64) ho.out
        subst hvo
        have HOR := Lib.hid hrow.rd
        clear hrow
        go_upto_block 2 with fail
        go_cut [7, 8] from 14 to 48 (fun v _ W => ∃ z : Int, v = .int .i64 z ∧ Hid (z + 1 = depthStep zs r) ∧ 0 ≤ z ∧ z ≤ 24 ∧ W = wr)
        case first =>
          go_wp2
          go_loop [7, 8] (fun v i => ∃ (j : Nat) (z : Int), j ≤ r.kids.length ∧ i = .int .i64 j ∧ v = .int .i64 z ∧ Hid (z = mostT zs (r.kids.take j) 0) ∧ 0 ≤ z ∧ z ≤ 24) (fun _ i => r.kids.length - (intOf i).toNat)
          case atStart => exact ⟨0, 0, Nat.zero_le _, rfl, rfl, rfl, by omega, by omega⟩
          case round =>
            obtain ⟨j, z, hjl, rfl, rfl, hz, hz0, hz1⟩ := hrel
            have j0 : (0 : Int) ≤ (j : Int) := by omega
            by_cases hj : j < r.kids.length
            · have j1 : (j : Int) < (r.kids.length : Int) := by omega
              have hnx := Lib.hid (mostT_next (t := zs) (ks := r.kids) (m := 0) hj)
              obtain ⟨q, hm2, hmk⟩ := kid_nat HKD.out (j := j) hj
              obtain ⟨b7, o7, ha7, hc7⟩ := HR7.out.cellAt (j := j) hj
              subst ha7
              rw [hm2] at hc7 hnx
              obtain ⟨po, qo, hpo, hqo⟩ := HOR.out.cellAt (j := q) (by have := HZL.out; omega)
              subst hpo
              have hto := tabAt_in (t := zs) (k := q) (by have := HZL.out; omega)
              rw [hto] at hnx
              have hio := HIB.out (q : Int)
              rw [hto] at hio
              clear hto hm2
              generalize zs[q]'(by have := HZL.out; omega) = y at hqo hio hnx
              have q0 : (0 : Int) ≤ (q : Int) := by omega
              have l0 : (q : Int) < (zs.length : Int) := by have := HZL.out; omega
              go_wp2_with (go_at_call 95; refine (max_spec z y _).mono ?_; rintro e wx ⟨rfl, rfl⟩)
              go_round
              case rel => exact ⟨j + 1, max z y, by omega, by go_num, rfl, by show _ = _; rw [hnx.out, ← hz.out], by omega, by omega⟩
              case measure => simp [intOf]; omega
            · have j1 : ¬ (j : Int) < (r.kids.length : Int) := by omega
              have hzz : Hid (z + 1 = depthStep zs r) := by show _ = _; have := hz.out; rw [List.take_of_length_le (by omega)] at this; rw [this]; rfl
              go_wp2
              go_meet
              exact ⟨z, rfl, hzz, by omega, by omega, rfl⟩
        case rest =>
          obtain ⟨z, rfl, hz, hz0, hz1, rfl⟩ := hcut
          obtain ⟨y, hy⟩ : ∃ y, z + 1 = y := ⟨_, rfl⟩
          rw [← hz.out] at HNX
          have HNY : Hid (zs ++ [y] = tabTo depthStep rs (n + 1)) := by show _ = _; rw [← hy]; exact HNX.out
          clear HNX hz
          go_wp2_with (at_builtin; refine wp_pushF (f := Value.int .i64) 36 3 (.int .i64 0) 8 Try.underlying36 infoInt rfl rfl (.tmp 44) (.tmp 47) rfl w1.heap.size (.slice xo zs.length co) zs y rfl wc (by simp [Act.eval]) (by simp [Act.eval]) ho.out (by unfold maxLen; omega) (by omega) hbw.out.size ?_)
          intro v' w' hown hgrow _
          have ho2 : Hid (w'.ownsRow w1.heap.size 3 1 v' (zs ++ [y]).length ((zs ++ [y]).map (Value.int .i64))) := by show World.ownsRow _ _ _ _ _ _ _; simpa using hown
          have hb4 := Lib.hid (hbw.out.grown hgrow hbw.out.size fun g hg => (World.ownsRow.lt ho.out g hg).1)
          clear hown hgrow
          go_wp2
          go_roundw
          case rel => exact ⟨n + 1, zs ++ [y], v', by omega, by go_num, rfl, ho2, HNY, hb4⟩
          case measure => simp [intOf]; omega
      case neg =>
        have n1 : ¬ (n : Int) ≤ (m : Int) := by omega
        obtain rfl : n = m + 1 := by omega
        have hzl : zs.length = m + 1 := by rw [hin.out, tabTo_length _ _ _ (by omega)]
        obtain ⟨x, c, rfl, hrow⟩ := own_row (f := Value.int .i64) ho.out
        obtain ⟨bt, ot, hxt, hct⟩ := hrow.rd.cellAt (j := m) (by omega)
        subst hxt
        have hv2 : Hid (sizeD depthStep rs (m : Int) = zs[m]'(by omega)) := by
          show _ = _
          rw [hr.out, ← sizeAt_in (n := m + 1) (by omega) (by omega), ← hin.out, tabAt_in (by omega)]
        have l1 : (m : Int) < (zs.length : Int) := by omega
        have HBW := Lib.hid (HB.out.trans (hbw.out.mono HB.out.size))
        generalize zs[m]'(by omega) = y at hct hv2
        clear hrow ho hzl hin
        go_wp2
        go_ret
        exact ⟨ret_int hv2.out.symm, HBW.out⟩
end Go.Proofs.Ythjogcknphjilaa
