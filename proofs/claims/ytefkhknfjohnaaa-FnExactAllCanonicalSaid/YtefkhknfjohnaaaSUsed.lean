/- The contract of the model's UsedRules. -/
import Derived.Test.YtefkhknfjohnaaaGX
import Derived.Test.YtefkhknfjohnaaaArr
import Derived.Test.YtefkhknfjohnaaaGPu
import Derived.Test.YtefkhknfjohnaaaGDI
import Derived.Deep.CutRange
import Derived.Deep.CutBlock
namespace Go.Proofs.Ytefkhknfjohnaaa
open Go Go.RowKit
/-- The answer of UsedRules. -/
noncomputable def usedD (rs : List RuleV) (k : Int) : List Int := if okAt rs k = true then picks (usedBy rs k.toNat) rs.length else []
theorem usedD_no {rs : List RuleV} {k : Int} (h : okAt rs k = false) : usedD rs k = [] := by unfold usedD; rw [h]; rfl
theorem usedD_yes {rs : List RuleV} {m : Nat} (h : okAt rs (m : Int) = true) : usedD rs (m : Int) = picks (usedBy rs m) rs.length := by unfold usedD; rw [if_pos h, Int.toNat_natCast]
theorem infoBool : ∃ i, Try.prog.info? 4 = some i ∧ i.zero = some (.bool false) ∧ i.size = 1 ∧ i.bytes = 1 := by
  have h : (Try.prog.info? 4).map (fun i => (i.zero, i.size, i.bytes)) = some (some (.bool false), 1, 1) := by kernel_rfl
  obtain ⟨i, hi, h⟩ := Option.map_eq_some_iff.1 h
  simp only [Prod.mk.injEq] at h
  exact ⟨i, hi, h.1, h.2.1, h.2.2⟩
theorem make_bools (n : Nat) (hn : n ≤ 1099511627776) (W : World) : (Instr.makeSlice 105 (.int .i64 (n : Int)) (.int .i64 (n : Int))).run Try.prog W = .ok (.slice (some ⟨W.heap.size, 0, none⟩) n n) (W.alloc (.cells (madeCells #[.bool false] n) 4)) := by
  obtain ⟨i0, hi, hz0, hz1, hz2⟩ := infoBool
  have hr := run_make (P := Try.prog) W 105 4 i0 (.bool false) Try.underlying105 hi hz0 .i64 .i64 (n : Int) (n : Int) (by omega) (by omega) (by rw [hz2]; omega) (by omega)
  rw [hr, hz1]
  simp [Value.cells]
theorem made_arrB (n : Nat) : madeCells #[Value.bool false] n = (arrB (fun _ => false) n).toArray := by
  refine Array.ext' ?_
  refine List.ext_getElem? fun i => ?_
  by_cases hi : i < n
  · simp [madeCells, arrB, hi, Nat.mod_one]
  · simp [madeCells, arrB, hi, Nat.mod_one]
set_option maxRecDepth 100000 in
set_option maxHeartbeats 8000000 in
theorem used_spec (a : Option Addr) (rs : List RuleV) (cap : Nat) (k : Int) (w : World) (hl : rs.length ≤ 1048576) (hs : ∀ r ∈ rs, Short r) (hp : ∀ r ∈ rs, Spelt r) (h : RdC a rs w) :
    Calls Try.prog 58 #[.agg #[.slice a rs.length cap], .int .i64 k] w (IntsOut (usedD rs k) w) := by
  obtain ⟨w0, hw0⟩ : ∃ w0, w0 = w.alloc (.cells #[.slice a rs.length cap] 38) := ⟨_, rfl⟩
  have hB0 : Below w.heap.size w w0 := by subst hw0; exact (Below.refl _ _).alloc (Nat.le_refl _) _
  have hX0 : CellsAt w.heap.size [.slice a rs.length cap] w0 := by subst hw0; exact CellsAt.new w _ _
  have hz0 : w0.heap.size = w.heap.size + 1 := by subst hw0; exact World.size_alloc _ _
  obtain ⟨v0, hv0⟩ : ∃ v0, v0 = w0.alloc (.cells #[] 3) := ⟨_, rfl⟩
  have hB1 : Below w0.heap.size w0 v0 := by subst hv0; exact (Below.refl _ _).alloc (Nat.le_refl _) _
  have hO : v0.ownsRow w0.heap.size 3 1 (.slice (some ⟨w0.heap.size, 0, none⟩) 0 0) 0 [] := by subst hv0; exact World.ownsRow_made w0 #[] 0 (Nat.le_refl _) (Nat.zero_le _) rfl
  have hsv : v0.heap.size = w0.heap.size + 1 := by subst hv0; exact World.size_alloc _ _
  have HX := Lib.hid (hX0.below hB1)
  have HB := Lib.hid hB1
  have HBW := Lib.hid hB0
  have HC := Lib.hid ((h.below hB0).below hB1)
  have HS := Lib.hid hs
  have HP := Lib.hid hp
  have HZ0 := Lib.hid hz0
  have HSV := Lib.hid hsv
  have HO := Lib.hid hO
  have hW := Lib.hid hw0
  have hV := Lib.hid hv0
  clear h hB0 hX0 hs hp hw0 hv0 hz0 hO hB1 hsv
  obtain ⟨b, hb⟩ : ∃ b, b = okAt rs k := ⟨_, rfl⟩
  have HOK := Lib.hid hb
  clear hb
  have bx := (HX.out 0 _ rfl).1
  go_enter Try.func58, Try.ntmps58
  go_upto_region 2 with fail
  rw [← hW.out, ← HZ0.out]
  rw [← hV.out]
  clear hW hV
  obtain ⟨E, hE⟩ : ∃ E, E = w0.heap.size := ⟨_, rfl⟩
  rw [← hE]
  rw [← hE] at HO HB HSV
  have HE := Lib.hid hE
  clear hE
  go_wp2_with fail
  refine (l7_spec a rs cap k _ hl HS.out HP.out HC.out).mono ?_
  rintro e w1 ⟨rfl, hb1⟩
  rw [← HOK.out]
  replace HX := Lib.hid (HX.out.below hb1)
  replace HC := Lib.hid (HC.out.below hb1)
  replace HO := Lib.hid (own_below HO.out hb1)
  have hsz1 : Hid (E < w1.heap.size) := by have h1 := hb1.size; have h2 := HSV.out; show _ < _; omega
  replace HB := Lib.hid (HB.out.trans (hb1.mono (by have h2 := HSV.out; omega)))
  clear hb1 bx HSV
  have bx := (HX.out 0 _ rfl).1
  cases b with
  | false =>
    have hr := Lib.hid (usedD_no HOK.out.symm)
    obtain ⟨xo, co, hvo, hrow⟩ := own_row (f := Value.int .i64) (xs := []) HO.out
    have HRW : Hid (RowF (Value.int .i64) w.heap.size xo [] co w1) := hrow.more (by have h1 := HE.out; have h2 := HZ0.out; omega)
    have HBX := Lib.hid (HBW.out.trans (HB.out.mono (by have h1 := HE.out; have h2 := HBW.out.size; omega)))
    injection hvo with h1 h2 h3
    have HX1 := Lib.hid h1
    have HX3 := Lib.hid h3
    clear hrow h1 h2 h3 HO
    go_wp2
    go_ret
    exact ⟨xo, co, by rw [hr.out, ← HX1.out, ← HX3.out]; rfl, by rw [hr.out]; exact HRW.out, HBX.out⟩
  | true =>
    obtain ⟨⟨k0, k1⟩, hn, hv⟩ := okAt_yes HOK.out.symm
    have hn24 := hn.2
    obtain ⟨m, rfl⟩ : ∃ m : Nat, k = (m : Int) := ⟨k.toNat, by omega⟩
    have hm : m < rs.length := by omega
    have hr := Lib.hid (usedD_yes HOK.out.symm)
    have HV := Lib.hid hv
    clear hv hn HOK
    have hmk := make_bools rs.length (by omega)
    rw [made_arrB] at hmk
    obtain ⟨w2, hw2⟩ : ∃ w2, w2 = w1.alloc (.cells (arrB (fun _ => false) rs.length).toArray 4) := ⟨_, rfl⟩
    have hb2 : Below w1.heap.size w1 w2 := by subst hw2; exact (Below.refl _ _).alloc (Nat.le_refl _) _
    have HU : Hid (CellsAt w1.heap.size (arrB (fun _ => false) rs.length) w2) := by subst hw2; exact CellsAt.new w1 _ _
    have hs2 : Hid (w1.heap.size < w2.heap.size) := by subst hw2; show _ < _; rw [World.size_alloc]; omega
    have hW2 := Lib.hid hw2
    have u0 := (HU.out m _ (arrB_at _ hm)).1
    have u1 := (HU.out m _ (arrB_at _ hm)).2
    clear hw2
    go_upto_region 5 with fail
    rw [← hW2.out]
    clear hW2 hmk
    obtain ⟨U, hU⟩ : ∃ U, U = w1.heap.size := ⟨_, rfl⟩
    rw [← hU] at HU u0 u1 hs2 hsz1 ⊢
    have HUE := Lib.hid hU
    clear hU
    go_upto_region 6 with fail
    obtain ⟨w3, hw3⟩ : ∃ w3, w3 = w2.setCell ⟨U, m, none⟩ (.bool true) := ⟨_, rfl⟩
    have HU3 : Hid (CellsAt U (arrB (mark1 m) rs.length) w3) := by
      have h1 := HU.out.set m (.bool true) (by rw [arrB_length]; exact hm)
      rw [arrB_set] at h1
      subst hw3
      have e : (fun i => if i = m then true else (fun _ => false) i) = mark1 m := by funext i; unfold mark1; by_cases c : i = m <;> simp [c]
      rw [e] at h1
      exact h1
    have HB3 : Hid (Below U w1 w3) := by
      have h1 : Below U w1 w2 := by rw [HUE.out]; exact hb2
      subst hw3
      exact h1.setCell (p := ⟨U, m, none⟩) (Nat.le_refl _) _
    have hs3 : Hid (U < w3.heap.size) := by subst hw3; show _ < _; simp; exact hs2.out
    rw [← hw3]
    clear hw3 u0 u1 HU hs2 hb2
    go_wp2
    go_loopw [7, 8] (fun i _ W => ∃ (n : Nat) (u : Nat → Bool), n ≤ m + 1 ∧ i = .int .i64 ((n : Int) - 1) ∧ Hid (down rs n u = usedBy rs m) ∧ Hid (CellsAt U (arrB u rs.length) W) ∧ Hid (Below U w1 W) ∧ Hid (U < W.heap.size)) (fun i _ _ => (intOf i + 1).toNat)
    case atStart => exact ⟨m + 1, mark1 m, Nat.le_refl _, by congr 1; omega, rfl, HU3, HB3, hs3⟩
    case round =>
      obtain ⟨n, u, hnm, rfl, hd, hu, hbw, hsw⟩ := hrel
      have hbw1 : Hid (Below w1.heap.size w1 wr) := by show _; rw [← HUE.out]; exact hbw.out
      cases n with
      | succ j =>
        have ej : (((j + 1 : Nat) : Int) - 1) = (j : Int) := by omega
        rw [ej]
        have j0 : (0 : Int) ≤ (j : Int) := by omega
        have hjr : j < rs.length := by omega
        have j1 : (j : Int) < (rs.length : Int) := by omega
        have hdn := Lib.hid (down_next (u := u) hjr)
        have HKD := Lib.hid (allV_kids HV.out hjr)
        have hsh : rs[j].kids.length ≤ 1048576 := (HS.out _ (List.getElem_mem hjr)).2.2.2
        obtain ⟨b0, off, a4, c4, a5, c5, a6, c6, a7, c7, rfl, ⟨d0, d1, d2, d3, d4, d5, d6, d7⟩, r4, r5, r6, r7⟩ := HC.out.rd.at j hjr
        obtain ⟨r, hrr⟩ : ∃ r, r = rs[j] := ⟨_, rfl⟩
        rw [← hrr] at d7 r7 HKD hdn hsh
        clear hrr d0 d1 d2 d3 d4 d5 d6 r4 r5 r6 bx ej
        have bx := (HX.out.below hbw1.out 0 _ rfl).1
        have d7w := cell_keep hbw1.out d7
        have uj := (hu.out j _ (arrB_at _ hjr)).1
        cases hcu : u j with
        | false =>
          rw [hcu] at uj hdn
          have hd2 : Hid (down rs j u = usedBy rs m) := by show _ = _; rw [← hd.out, hdn.out, if_neg (by simp)]
          clear hdn HKD r7 hcu
          go_wp2
          go_loop [8] (fun q => q = .int .i64 0) (fun _ => 0)
          case atStart => rfl
          case round =>
            obtain rfl := hrel
            by_cases hl0 : (0 : Int) < (r.kids.length : Int)
            · go_wp2
              go_roundw
              case rel => exact ⟨j, u, by omega, by go_num, hd2, hu, hbw, hsw⟩
              case measure => simp [intOf] <;> omega
            · go_wp2
              go_roundw
              case rel => exact ⟨j, u, by omega, by go_num, hd2, hu, hbw, hsw⟩
              case measure => simp [intOf] <;> omega
        | true =>
          rw [hcu, if_pos rfl] at hdn
          rw [hcu] at uj
          have HR7 := Lib.hid r7
          have HCU := Lib.hid hcu
          clear r7 hcu uj d7w bx
          go_wp2
          go_loopw [8] (fun q W => ∃ l : Nat, l ≤ r.kids.length ∧ q = .int .i64 l ∧ Hid (CellsAt U (arrB (markK u (r.kids.take l)) rs.length) W) ∧ Hid (Below U w1 W) ∧ Hid (U < W.heap.size)) (fun q _ => r.kids.length - (intOf q).toNat)
          case atStart => exact ⟨0, Nat.zero_le _, rfl, by show CellsAt _ _ _; rw [List.take_zero, markK_nil]; exact hu.out, hbw, hsw⟩
          case round =>
            obtain ⟨l, hll, rfl, hul, hbl, hsl⟩ := hrel
            have l0 : (0 : Int) ≤ (l : Int) := by omega
            have hbl1 : Hid (Below w1.heap.size w1 wr) := by show _; rw [← HUE.out]; exact hbl.out
            have bxl := (HX.out.below hbl1.out 0 _ rfl).1
            have d7l := cell_keep hbl1.out d7
            have hmj : Hid (markK u (r.kids.take l) j = true) := by show _ = _; unfold markK; rw [HCU.out]; rfl
            have ujl := (hul.out j _ (arrB_at _ hjr)).1
            rw [hmj.out] at ujl
            by_cases hlt : l < r.kids.length
            · have l1 : (l : Int) < (r.kids.length : Int) := by omega
              obtain ⟨q, hq, hqj⟩ := kid_nat HKD.out (j := l) hlt
              have hqr : q < rs.length := by omega
              have hnx := Lib.hid (markK_next u hlt hq)
              obtain ⟨b7, o7, ha7, hc7⟩ := HR7.out.cellAt (j := l) hlt
              subst ha7
              rw [hq] at hc7
              have hc7l := cell_keep hbl1.out hc7
              have q0 : (0 : Int) ≤ (q : Int) := by omega
              have q1 : (q : Int) < (rs.length : Int) := by omega
              have s0 := (hul.out q _ (arrB_at _ hqr)).1
              have s1 := (hul.out q _ (arrB_at _ hqr)).2
              have hset : Hid (CellsAt U (arrB (markK u (r.kids.take (l + 1))) rs.length) (wr.setCell ⟨U, q, none⟩ (.bool true))) := by
                have h1 := hul.out.set q (.bool true) (by rw [arrB_length]; exact hqr)
                rw [arrB_set] at h1
                show CellsAt _ _ _
                rw [hnx.out]
                exact h1
              have hbs : Hid (Below U w1 (wr.setCell ⟨U, q, none⟩ (.bool true))) := hbl.out.setCell (p := ⟨U, q, none⟩) (Nat.le_refl _) _
              have hss : Hid (U < (wr.setCell ⟨U, q, none⟩ (.bool true)).heap.size) := by show _ < _; simp; exact hsl.out
              clear hq hc7 hnx
              go_wp2
              go_roundw
              case rel => exact ⟨l + 1, by omega, by go_num, hset, hbs, hss⟩
              case measure => simp [intOf]; omega
            · have l1 : ¬ (l : Int) < (r.kids.length : Int) := by omega
              have hd2 : Hid (down rs j (markK u r.kids) = usedBy rs m) := by show _ = _; rw [← hd.out, hdn.out]
              have hu2 : Hid (CellsAt U (arrB (markK u r.kids) rs.length) wr) := by have := hul.out; rw [List.take_of_length_le (by omega)] at this; exact this
              clear ujl hmj
              go_wp2
              go_roundw
              case rel => exact ⟨j, markK u r.kids, by omega, by go_num, hd2, hu2, hbl, hsl⟩
              case measure => simp [intOf] <;> omega
      | zero =>
        have ez : (((0 : Nat) : Int) - 1) = -1 := by omega
        rw [ez]
        have huu : Hid (u = usedBy rs m) := hd.out
        have HO4 := Lib.hid (own_below HO.out hbw1.out)
        have HB4 := Lib.hid (HB.out.trans (hbw1.out.mono (by have := hsz1.out; have := HUE.out; omega)))
        have hne : Hid ((Value.slice (some ⟨E, 0, none⟩) 0 0).ownBlock ≠ some U) := by
          show _ ≠ _
          intro e
          have := hsz1.out
          simp [Value.ownBlock] at e
          omega
        clear hd hbw hbw1 ez
        go_wp2
        go_loopw [5, 9] (fun v i W => ∃ (n : Nat) (zs : List Int) (v0 : Value), n ≤ rs.length ∧ i = .int .i64 n ∧ v0 = v ∧ Hid (W.ownsRow E 3 1 v0 zs.length (zs.map (Value.int .i64))) ∧ Hid (zs = picks u n) ∧ zs.length ≤ n ∧ Hid (CellsAt U (arrB u rs.length) W) ∧ Hid (v0.ownBlock ≠ some U) ∧ Hid (Below E w0 W) ∧ Hid (U < W.heap.size)) (fun _ i _ => rs.length - (intOf i).toNat)
        case atStart => exact ⟨0, [], _, Nat.zero_le _, rfl, rfl, HO4, rfl, Nat.le_refl _, hu, hne, HB4, hsw⟩
        case round =>
          obtain ⟨n, zs, v0, hnl, rfl, rfl, ho, hz, hzn, hu, hne, hbw, hsw⟩ := hrel
          have n0 : (0 : Int) ≤ (n : Int) := by omega
          by_cases hlt : n < rs.length
          · have n1 : (n : Int) < (rs.length : Int) := by omega
            have uj := (hu.out n _ (arrB_at _ hlt)).1
            cases hcu : u n with
            | false =>
              rw [hcu] at uj
              have hz2 : Hid (zs = picks u (n + 1)) := by show _ = _; rw [hz.out]; unfold picks; rw [if_neg (by rw [hcu]; simp)]; cases n <;> rfl
              clear hcu
              go_wp2
              go_roundw
              case rel => exact ⟨n + 1, zs, v0, by omega, by go_num, rfl, ho, hz2, by omega, hu, hne, hbw, hsw⟩
              case measure => simp [intOf]; omega
            | true =>
              rw [hcu] at uj
              have hz2 : Hid (zs ++ [(n : Int)] = picks u (n + 1)) := by show _ = _; rw [hz.out]; conv => rhs; unfold picks
                                                                         rw [if_pos hcu]
              clear hcu
              have hes : E ≤ wr.heap.size := by have h1 := hsz1.out; have h2 := hsw.out; omega
              go_wp2_with (at_builtin; refine wp_pushF (f := Value.int .i64) 74 3 (.int .i64 0) 8 Try.underlying74 infoInt rfl rfl (.tmp 66) (.tmp 68) rfl E v0 zs (n : Int) rfl wr (by simp [Act.eval]) (by simp [Act.eval]) ho.out (by unfold maxLen; omega) (by omega) hes ?_)
              intro v' w' hown hgrow hblk
              have ho2 : Hid (w'.ownsRow E 3 1 v' (zs ++ [(n : Int)]).length ((zs ++ [(n : Int)]).map (Value.int .i64))) := by show World.ownsRow _ _ _ _ _ _ _; simpa using hown
              have hu2 : Hid (CellsAt U (arrB u rs.length) w') := hu.out.grown hgrow (fun e => hne.out e.symm)
              have hne2 : Hid (v'.ownBlock ≠ some U) := by
                rcases hblk with h1 | ⟨g, h1, h2⟩
                · show _ ≠ _; rw [h1]; exact hne.out
                · show _ ≠ _; rw [h1]; intro e; injection e with e; have := hsw.out; omega
              have hb2 := Lib.hid (hbw.out.grown hgrow hes fun g hg => (World.ownsRow.lt (w := wr) ho.out g hg).1)
              have hs2 : Hid (U < w'.heap.size) := by have h1 := hgrow.size; have h2 := hsw.out; show _ < _; omega
              clear hown hgrow hblk
              go_wp2
              go_roundw
              case rel => exact ⟨n + 1, zs ++ [(n : Int)], v', by omega, by go_num, rfl, ho2, hz2, by simp; omega, hu2, hne2, hb2, hs2⟩
              case measure => simp [intOf]; omega
          · have n1 : ¬ (n : Int) < (rs.length : Int) := by omega
            obtain rfl : n = rs.length := by omega
            obtain ⟨x, c, rfl, hrow⟩ := own_row (f := Value.int .i64) ho.out
            have hzz : Hid (zs = usedD rs (m : Int)) := by show _ = _; rw [hz.out, hr.out, huu.out]
            have HRW : Hid (RowF (Value.int .i64) w.heap.size x zs c wr) := hrow.more (by have h1 := HE.out; have h2 := HZ0.out; omega)
            have HBX := Lib.hid (HBW.out.trans (hbw.out.mono (by have h1 := HE.out; have h2 := HBW.out.size; omega)))
            clear hrow ho
            go_wp2
            go_ret
            simp only [← hzz.out]
            exact ⟨x, c, rfl, HRW.out, HBX.out⟩
end Go.Proofs.Ytefkhknfjohnaaa
