/- The contract of the model's UnusedRules. -/
import Derived.Test.YthjogcknphjilaaUsedImpl
import Derived.Test.YthjogcknphjilaaGKS
import Derived.Deep.RegionHeld3
import Derived.Deep.CutRange
namespace Go.Proofs.Ythjogcknphjilaa
open Go Go.RowKit
/-- Whether a number is in a list. -/
def inI (ls : List Int) (x : Int) : Bool := ls.any fun y => y == x
theorem inI_next {ls : List Int} {x : Int} {q : Nat} (h : q < ls.length) : inI (ls.take (q + 1)) x = (inI (ls.take q) x || ls[q] == x) := by
  unfold inI
  rw [List.take_succ_eq_append_getElem h, List.any_append]
  simp
theorem inI_mem {ls : List Int} {x : Int} : inI ls x = true ↔ x ∈ ls := by
  unfold inI
  rw [List.any_eq_true]
  constructor
  · rintro ⟨y, hy, e⟩
    have := eq_of_beq e
    subst this
    exact hy
  · intro h
    exact ⟨x, h, by simp⟩
theorem inI_picks (p : Nat → Bool) {i n : Nat} (h : i < n) : inI (picks p n) (i : Int) = p i := by
  rw [Bool.eq_iff_iff, inI_mem, picks_mem]
  constructor
  · rintro ⟨j, _, h2, h3⟩
    have : i = j := by omega
    subst this
    exact h2
  · intro hp
    exact ⟨i, h, hp, rfl⟩
set_option maxRecDepth 100000 in
set_option maxHeartbeats 8000000 in
theorem unused_spec (a : Option Addr) (rs : List RuleV) (cap : Nat) (w : World) (hl : rs.length ≤ 1048576) (hs : ∀ r ∈ rs, Short r) (hp : ∀ r ∈ rs, Spelt r) (h : RdC a rs w) :
    Calls Try.prog 61 #[.agg #[.slice a rs.length cap]] w (IntsOut (unusedD rs) w) := by
  obtain ⟨w0, hw0⟩ : ∃ w0, w0 = w.alloc (.cells #[.slice a rs.length cap] 26) := ⟨_, rfl⟩
  have hB0 : Below w.heap.size w w0 := by subst hw0; exact (Below.refl _ _).alloc (Nat.le_refl _) _
  have hX0 : CellsAt w.heap.size [.slice a rs.length cap] w0 := by subst hw0; exact CellsAt.new w _ _
  have hz0 : w0.heap.size = w.heap.size + 1 := by subst hw0; exact World.size_alloc _ _
  obtain ⟨v0, hv0⟩ : ∃ v0, v0 = w0.alloc (.cells #[] 3) := ⟨_, rfl⟩
  have hB1 : Below w0.heap.size w0 v0 := by subst hv0; exact (Below.refl _ _).alloc (Nat.le_refl _) _
  have hO : v0.ownsRow w0.heap.size 3 1 (.slice (some ⟨w0.heap.size, 0, none⟩) 0 0) 0 [] := by subst hv0; exact World.ownsRow_made w0 #[] 0 (Nat.le_refl _) (Nat.zero_le _) rfl
  have hsv : v0.heap.size = w0.heap.size + 1 := by subst hv0; exact World.size_alloc _ _
  have HX := Lib.hid (hX0.below hB1)
  have HXW := Lib.hid hX0
  have HCW := Lib.hid (h.below hB0)
  have HB := Lib.hid hB1
  have HBW := Lib.hid hB0
  have HC := Lib.hid ((h.below hB0).below hB1)
  have HS := Lib.hid hs
  have HP := Lib.hid hp
  have HZ0 := Lib.hid hz0
  have HSV := Lib.hid hsv
  have HO := Lib.hid hO
  have hW := Lib.hid hw0
  have hV := Lib.hid hv0
  clear h hB0 hX0 hs hp hw0 hv0 hz0 hO hB1 hsv
  obtain ⟨b, hb⟩ : ∃ b, b = descrB (kindI rs) rs := ⟨_, rfl⟩
  have HBB := Lib.hid hb
  clear hb
  obtain ⟨ls, hls⟩ : ∃ ls, ls = usedD rs ((rs.length : Int) - 1) := ⟨_, rfl⟩
  have HLS := Lib.hid hls
  have hll : ls.length ≤ 1048576 := by
    rw [hls]
    unfold usedD
    split
    · exact Nat.le_trans (picks_length _ _) hl
    · simp
  clear hls
  go_enter Try.func61, Try.ntmps61
  go_upto_region 2 with fail
  rw [← hW.out, ← HZ0.out]
  rw [← hV.out]
  clear hW hV
  obtain ⟨E, hE⟩ : ∃ E, E = w0.heap.size := ⟨_, rfl⟩
  rw [← hE]
  rw [← hE] at HO HB HSV
  have HE := Lib.hid hE
  clear hE
  replace HX : Hid (CellsAt w.heap.size [.slice a rs.length cap] v0.drew) := HX.out
  replace HC : Hid (RdC a rs v0.drew) := HC.out
  replace HB : Hid (Below E w0 v0.drew) := below_drewN HB.out 1
  replace HO : Hid (v0.drew.ownsRow E 3 1 (.slice (some ⟨E, 0, none⟩) 0 0) 0 []) := own_below HO.out (below_drewN (Below.refl _ _) 1)
  replace HSV : Hid (E < v0.drew.heap.size) := by have h1 := HSV.out; show E < v0.heap.size; omega
  go_region_held3 (fun W => W.cell? ⟨w.heap.size, 0, none⟩ = some (.slice a rs.length cap)) (exact (HX.out 0 _ rfl).1) (first | (go_at_call 73; refine (root_spec a rs cap _ (by omega) HC.out.rd).mono ?_; rintro e w1 ⟨rfl, hb1⟩; replace HX := Lib.hid (HX.out.below hb1); replace HC := Lib.hid (HC.out.below hb1); replace HO := Lib.hid (own_below HO.out hb1); replace HB := Lib.hid (HB.out.trans (hb1.mono (by have h1 := HSV.out; omega))); replace HSV : Hid (E < w1.heap.size) := (by have h1 := HSV.out; have h2 := hb1.size; show E < _; omega); clear hb1) | (go_at_call 57; refine (used_spec a rs cap ((rs.length : Int) - 1) _ hl HS.out HP.out HC.out).mono ?_; rintro e w2 ⟨xl, cl, rfl, hrow, hb2⟩; rw [← HLS.out] at hrow ⊢; replace HX := Lib.hid (HX.out.below hb2); replace HC := Lib.hid (HC.out.below hb2); replace HO := Lib.hid (own_below HO.out hb2); replace HB := Lib.hid (HB.out.trans (hb2.mono (by have h1 := HSV.out; omega))); have HRL := Lib.hid hrow.rd; have HLO : Hid (∀ b off, xl = some ⟨b, off, none⟩ → ls.length ≠ 0 → E < b) := (fun b off e1 e2 => by have h1 := HSV.out; rcases hrow.1 with h3 | ⟨b2, o2, h3, h4, _⟩; exact absurd (by rw [h3]; rfl) e2; rw [h3] at e1; injection e1 with e1; injection e1 with e3; omega); replace HSV : Hid (E < w2.heap.size) := (by have h1 := HSV.out; have h2 := hb2.size; show E < _; omega); clear hb2 hrow))
  have HNE : Hid (∀ b off, xl = some ⟨b, off, none⟩ → ls.length ≠ 0 → some b ≠ (Value.slice (some ⟨E, 0, none⟩) 0 0).ownBlock) := fun b off e1 e2 e3 => by
    have h1 := HLO.out b off e1 e2
    simp [Value.ownBlock] at e3
    omega
  clear HLO
  cases b with
  | false =>
    have hr : Hid (unusedD rs = []) := unusedD_no HBB.out.symm
    go_wp2
    go_loopw [3, 5] (fun v i W => i = .int .i64 0 ∧ v = .slice (some ⟨E, 0, none⟩) 0 0 ∧ Hid (Below w2.heap.size w2 W)) (fun _ _ _ => 0)
    case atStart => exact ⟨rfl, rfl, Below.refl _ _⟩
    case round =>
      obtain ⟨rfl, rfl, hbw⟩ := hrel
      have bx := (HX.out.below hbw.out 0 _ rfl).1
      by_cases hl0 : (0 : Int) < (rs.length : Int)
      · go_wp2_with fail
        refine (validd_spec a rs cap _ hl HS.out HP.out (HC.out.below hbw.out)).mono ?_
        rintro e w3 ⟨rfl, hb3⟩
        rw [← HBB.out]
        replace hbw := Lib.hid (hbw.out.trans (hb3.mono hbw.out.size))
        obtain ⟨xo, co, hvo, hrow⟩ := own_row (f := Value.int .i64) (xs := []) (own_below HO.out hbw.out)
        have HRW : Hid (RowF (Value.int .i64) w.heap.size xo [] co w3) := hrow.more (by have h1 := HE.out; have h2 := HZ0.out; omega)
        have HBX := Lib.hid (HBW.out.trans ((HB.out.trans (hbw.out.mono (by have h1 := HSV.out; omega))).mono (by have h1 := HE.out; have h2 := HBW.out.size; omega)))
        injection hvo with h1 h2 h3
        have HX1 := Lib.hid h1
        have HX3 := Lib.hid h3
        clear hrow h1 h2 h3 hb3 hbw bx
        go_wp2
        go_ret
        exact ⟨xo, co, by rw [hr.out, ← HX1.out, ← HX3.out]; rfl, by rw [hr.out]; exact HRW.out, HBX.out⟩
      · obtain ⟨xo, co, hvo, hrow⟩ := own_row (f := Value.int .i64) (xs := []) (own_below HO.out hbw.out)
        have HRW : Hid (RowF (Value.int .i64) w.heap.size xo [] co wr) := hrow.more (by have h1 := HE.out; have h2 := HZ0.out; omega)
        have HBX := Lib.hid (HBW.out.trans ((HB.out.trans (hbw.out.mono (by have h1 := HSV.out; omega))).mono (by have h1 := HE.out; have h2 := HBW.out.size; omega)))
        injection hvo with h1 h2 h3
        have HX1 := Lib.hid h1
        have HX3 := Lib.hid h3
        clear hrow h1 h2 h3 hbw
        go_wp2
        go_ret
        exact ⟨xo, co, by rw [hr.out, ← HX1.out, ← HX3.out]; rfl, by rw [hr.out]; exact HRW.out, HBX.out⟩
  | true =>
    obtain ⟨hn, hv⟩ := descrB_iff.1 HBB.out.symm
    have hn24 := hn.2
    obtain ⟨m, hm⟩ : ∃ m : Nat, m + 1 = rs.length := ⟨rs.length - 1, by omega⟩
    obtain ⟨p, hp⟩ : ∃ p : Nat → Bool, p = fun i => !usedBy rs m i := ⟨_, rfl⟩
    have hr : Hid (unusedD rs = picks p rs.length) := by show _ = _; rw [unusedD_yes HBB.out.symm, hp, show rs.length - 1 = m from by omega]
    have HIN : Hid (∀ n, n < rs.length → inI ls (n : Int) = !p n) := fun n hn => by
      rw [HLS.out, show (rs.length : Int) - 1 = (m : Int) from by omega, usedD_yes (by unfold okAt; rw [← HBB.out, decide_eq_true (by omega)]; rfl), inI_picks _ hn, hp]
      simp
    have hl24 : ls.length ≤ 24 := by
      rw [HLS.out, show (rs.length : Int) - 1 = (m : Int) from by omega, usedD_yes (by unfold okAt; rw [← HBB.out, decide_eq_true (by omega)]; rfl)]
      exact Nat.le_trans (picks_length _ _) hn24
    clear hv hn hm hp
    go_wp2
    go_loopw [3, 5] (fun v i W => ∃ (n : Nat) (zs : List Int) (v0 : Value), n ≤ rs.length ∧ i = .int .i64 n ∧ v0 = v ∧ Hid (W.ownsRow E 3 1 v0 zs.length (zs.map (Value.int .i64))) ∧ Hid (zs = picks p n) ∧ zs.length ≤ n ∧ Hid (RdI xl ls W) ∧ Hid (∀ b off, xl = some ⟨b, off, none⟩ → ls.length ≠ 0 → some b ≠ v0.ownBlock) ∧ Hid (Below E w0 W) ∧ Hid (E ≤ W.heap.size)) (fun _ i _ => rs.length - (intOf i).toNat)
    case atStart => exact ⟨0, [], _, Nat.zero_le _, rfl, rfl, HO, rfl, Nat.le_refl _, HRL, HNE, HB, Nat.le_of_lt HSV.out⟩
    case round =>
      obtain ⟨n, zs, v0, hnl, rfl, rfl, ho, hz, hzn, hrl, hne, hbw, hsw⟩ := hrel
      have n0 : (0 : Int) ≤ (n : Int) := by omega
      have hb0 : Below w0.heap.size w0 wr := by rw [← HE.out]; exact hbw.out
      have hx := Lib.hid (HXW.out.below hb0)
      have hc := Lib.hid (HCW.out.below hb0)
      clear hb0
      have bx := (hx.out 0 _ rfl).1
      by_cases hlt : n < rs.length
      · have n1 : (n : Int) < (rs.length : Int) := by omega
        go_wp2_with fail
        refine (validd_spec a rs cap _ hl HS.out HP.out hc.out).mono ?_
        rintro e w3 ⟨rfl, hb3⟩
        rw [← HBB.out]
        replace ho := Lib.hid (own_below ho.out hb3)
        replace hrl : Hid (RdI xl ls w3) := hrl.out.below hb3
        replace hbw := Lib.hid (hbw.out.trans (hb3.mono hsw.out))
        replace hsw : Hid (E ≤ w3.heap.size) := Nat.le_trans hsw.out hb3.size
        clear hb3 bx hx hc
        go_wp2
        go_loop [6, 7] (fun f q => ∃ (l : Nat) (c : Bool), l ≤ ls.length ∧ q = .int .i64 l ∧ f = .bool c ∧ Hid (c = inI (ls.take l) (n : Int))) (fun _ q => ls.length - (intOf q).toNat)
        case atStart => exact ⟨0, false, Nat.zero_le _, rfl, rfl, rfl⟩
        case round =>
          obtain ⟨l, c, hll2, rfl, rfl, hcc⟩ := hrel
          have l0 : (0 : Int) ≤ (l : Int) := by omega
          by_cases hl2 : l < ls.length
          · have l1 : (l : Int) < (ls.length : Int) := by omega
            have hnx := Lib.hid (inI_next (x := (n : Int)) hl2)
            obtain ⟨bl, ol, hxl, hcl⟩ := hrl.out.cellAt hl2
            have HXL := Lib.hid hxl
            rw [← hcc.out] at hnx
            generalize ls[l] = y at hcl hnx
            cases c with
            | true =>
              have h2 : Hid (true = inI (ls.take (l + 1)) (n : Int)) := by show _ = _; rw [hnx.out]; rfl
              clear hcl hnx hxl
              go_wp2
              go_round
              case rel => exact ⟨l + 1, true, by omega, by go_num, rfl, h2⟩
              case measure => simp [intOf]; omega
            | false =>
              have h2 : Hid ((y == (n : Int)) = inI (ls.take (l + 1)) (n : Int)) := by show _ = _; rw [hnx.out]; rfl
              rw [hxl]
              clear hxl
              go_wp2
              go_round
              case rel => exact ⟨l + 1, y == (n : Int), by omega, by go_num, rfl, h2⟩
              case measure => simp [intOf]; omega
          · have l1 : ¬ (l : Int) < (ls.length : Int) := by omega
            have hfin : Hid (c = !p n) := by show _ = _; have := hcc.out; rw [List.take_of_length_le (by omega), HIN.out n hlt] at this; exact this
            cases hpn : p n with
            | false =>
              have hz2 : Hid (zs = picks p (n + 1)) := by show _ = _; rw [hz.out, picks_no hpn]
              have hct : c = true := by rw [hfin.out, hpn]; rfl
              subst hct
              clear hpn hfin hcc
              go_wp2
              go_roundw
              case rel => exact ⟨n + 1, zs, v0, by omega, by go_num, rfl, ho, hz2, by omega, hrl, hne, hbw, hsw⟩
              case measure => simp [intOf]; omega
            | true =>
              have hz2 : Hid (zs ++ [(n : Int)] = picks p (n + 1)) := by show _ = _; rw [hz.out, picks_yes hpn]
              have hct : c = false := by rw [hfin.out, hpn]; rfl
              subst hct
              clear hpn hfin hcc
              go_wp2_with (at_builtin; refine wp_pushF (f := Value.int .i64) 36 3 (.int .i64 0) 8 Try.underlying36 infoInt rfl rfl (.tmp 41) (.tmp 43) rfl E v0 zs (n : Int) rfl w3 (by simp [Act.eval]) (by simp [Act.eval]) ho.out (by unfold maxLen; omega) (by omega) hsw.out ?_)
              intro v' w' hown hgrow hblk
              have ho2 : Hid (w'.ownsRow E 3 1 v' (zs ++ [(n : Int)]).length ((zs ++ [(n : Int)]).map (Value.int .i64))) := by show World.ownsRow _ _ _ _ _ _ _; simpa using hown
              have hrl2 : Hid (RdI xl ls w') := hrl.out.grown hgrow hne.out
              have hne2 : Hid (∀ b off, xl = some ⟨b, off, none⟩ → ls.length ≠ 0 → some b ≠ v'.ownBlock) := fun b off e1 e2 => by
                rcases hblk with h1 | ⟨g, h1, h2⟩
                · rw [h1]; exact hne.out b off e1 e2
                · rw [h1]
                  obtain ⟨b2, o2, h3, h4⟩ := hrl.out 0 (by omega)
                  have h5 := cell_lt h4
                  rw [e1] at h3
                  injection h3 with h3
                  injection h3 with h6
                  intro h7
                  injection h7 with h7
                  simp at h5
                  omega
              have hb2 := Lib.hid (hbw.out.grown hgrow hsw.out fun g hg => (World.ownsRow.lt (w := w3) ho.out g hg).1)
              have hs2 : Hid (E ≤ w'.heap.size) := Nat.le_trans hsw.out hgrow.size
              clear hown hgrow hblk
              go_wp2
              go_roundw
              case rel => exact ⟨n + 1, zs ++ [(n : Int)], v', by omega, by go_num, rfl, ho2, hz2, by simp; omega, hrl2, hne2, hb2, hs2⟩
              case measure => simp [intOf]; omega
      · have n1 : ¬ (n : Int) < (rs.length : Int) := by omega
        obtain rfl : n = rs.length := by omega
        obtain ⟨x, c, rfl, hrow⟩ := own_row (f := Value.int .i64) ho.out
        have hzz : Hid (zs = unusedD rs) := by show _ = _; rw [hz.out, hr.out]
        have HRW : Hid (RowF (Value.int .i64) w.heap.size x zs c wr) := hrow.more (by have h1 := HE.out; have h2 := HZ0.out; omega)
        have HBX := Lib.hid (HBW.out.trans (hbw.out.mono (by have h1 := HE.out; have h2 := HBW.out.size; omega)))
        clear hrow ho
        go_wp2
        go_ret
        rw [← hzz.out]
        exact ⟨x, c, rfl, HRW.out, HBX.out⟩
end Go.Proofs.Ythjogcknphjilaa
