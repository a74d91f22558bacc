/- The contracts of the model's IsValidRule and IsValidDescription. -/
import Derived.Test.YtdhfcopfoknokaaKindSpec
import Derived.Test.YtdhfcopfoknokaaValidDI
namespace Go.Proofs.Ytdhfcopfoknokaa
open Go Go.RowKit
/-- The first k rules have other names. -/
theorem findFrom_at {x : ByteArray} {rs : List RuleV} {k : Nat} (h : k < rs.length) (hx : rs[k].name = x) : findFrom x (rs.drop k) k = (k : Int) := findFrom_yes h hx
set_option maxRecDepth 100000 in
set_option maxHeartbeats 4000000 in
theorem validr_spec (a : Option Addr) (rs : List RuleV) (cap : Nat) (k : Int) (w : World) (hl : rs.length ≤ 1048576) (hs : ∀ r ∈ rs, Short r) (hp : ∀ r ∈ rs, Spelt r) (h : RdC a rs w) :
    Calls Try.prog 27 #[.agg #[.slice a rs.length cap], .int .i64 k] w fun e w' => e = .returned (.bool (validAt (kindS rs) rs k)) ∧ Below w.heap.size w w' := by
  obtain ⟨w0, hw0⟩ : ∃ w0, w0 = w.alloc (.cells #[.slice a rs.length cap] 29) := ⟨_, rfl⟩
  have hB : Below w.heap.size w w0 := by subst hw0; exact (Below.refl _ _).alloc (Nat.le_refl _) _
  have hX : CellsAt w.heap.size [.slice a rs.length cap] w0 := by subst hw0; exact CellsAt.new w _ _
  have HC := Lib.hid (h.below hB)
  have HB := Lib.hid hB
  have HX := Lib.hid hX
  have HS := Lib.hid hs
  have HP := Lib.hid hp
  clear h hB hX hs hp
  by_cases hk : 0 ≤ k ∧ k < rs.length
  case neg =>
    have hr := Lib.hid (validAt_out (f := kindS rs) hk)
    go_enter Try.func27, Try.ntmps27
    go_wp2_with fail
    rw [← hw0]
    clear hw0
    refine (in_any k 0 ((rs.length : Int) - 1) false _ (decide_eq_false (by omega))).mono ?_
    rintro e w1 ⟨rfl, rfl⟩
    go_wp2
    go_ret
    exact ⟨ret_bool hr.out.symm, HB.out⟩
  obtain ⟨n, rfl⟩ : ∃ n : Nat, k = (n : Int) := ⟨k.toNat, by omega⟩
  have hlt : n < rs.length := by omega
  have k0 : (0 : Int) ≤ (n : Int) := by omega
  have k1 : (n : Int) < (rs.length : Int) := by omega
  have hx0 := (HX.out 0 _ rfl).1
  have hr := Lib.hid (validAt_in (f := kindS rs) hlt)
  have hsr := Lib.hid (HS.out _ (List.getElem_mem hlt))
  have hpr := Lib.hid (HP.out _ (List.getElem_mem hlt))
  obtain ⟨b, off, a4, c4, a5, c5, a6, c6, a7, c7, rfl, ⟨d0, d1, d2, d3, d4, d5, d6, d7⟩, ⟨h4, h5, h6, h7⟩, hc5⟩ := HC.out.at n hlt
  have HQ : Hid (IsRule rs[n] [.string rs[n].name, .int .i64 rs[n].kind, .int .i64 rs[n].size, .bool rs[n].little, .slice a4 rs[n].bytes.length c4, .slice a5 rs[n].names.length c5, .slice a6 rs[n].tags.length c6, .slice a7 rs[n].kids.length c7] w0) := ⟨a4, c4, a5, c5, a6, c6, a7, c7, rfl, h4, h5, h6, h7⟩
  have HK := Lib.hid h7
  have HP5 : Hid (Cap5 [.string rs[n].name, .int .i64 rs[n].kind, .int .i64 rs[n].size, .bool rs[n].little, .slice a4 rs[n].bytes.length c4, .slice a5 rs[n].names.length c5, .slice a6 rs[n].tags.length c6, .slice a7 rs[n].kids.length c7]) := fun a n c hc => by
    simp at hc
    obtain ⟨_, rfl, rfl⟩ := hc
    exact hc5
  have hself := Lib.hid (findFrom_at hlt (x := rs[n].name) rfl)
  clear h4 h5 h6 h7 hc5 HS HP
  generalize rs[n] = r at *
  have hd1 : decide (0 ≤ (n : Int) ∧ (n : Int) ≤ (rs.length : Int) - 1) = true := decide_eq_true (by omega)
  clear hk
  obtain ⟨w2, hw2⟩ : ∃ w2, w2 = w0.alloc (.cells #[.string r.name, .int .i64 r.kind, .int .i64 r.size, .bool r.little, .slice a4 r.bytes.length c4, .slice a5 r.names.length c5, .slice a6 r.tags.length c6, .slice a7 r.kids.length c7] 38) := ⟨_, rfl⟩
  have hb2 : Below w0.heap.size w0 w2 := by subst hw2; exact (Below.refl _ _).alloc (Nat.le_refl _) _
  have hY2 : CellsAt w0.heap.size [.string r.name, .int .i64 r.kind, .int .i64 r.size, .bool r.little, .slice a4 r.bytes.length c4, .slice a5 r.names.length c5, .slice a6 r.tags.length c6, .slice a7 r.kids.length c7] w2 := by subst hw2; exact CellsAt.new w0 _ _
  replace HX := Lib.hid (HX.out.below hb2)
  have HY := Lib.hid hY2
  replace HB := Lib.hid (HB.out.trans (hb2.mono HB.out.size))
  replace HC := Lib.hid (HC.out.below hb2)
  replace HQ := Lib.hid (HQ.out.below hb2)
  replace HK := Lib.hid (HK.out.below hb2)
  have hW2 := Lib.hid hw2
  clear hb2 hY2 hw2
  have hsz := hpr.out.1
  go_enter Try.func27, Try.ntmps27
  go_wp2_with fail
  rw [← hw0]
  clear hw0
  refine (in_any _ _ _ true _ hd1).mono ?_
  rintro e w1 ⟨rfl, rfl⟩
  clear hd1
  go_wp2
  go_loopw [6] (fun i W => ∃ j m : Nat, j ≤ n ∧ i = .int .i64 j ∧ Hid (W = w2.drewN m) ∧ Hid (findFrom r.name rs 0 = findFrom r.name (rs.drop j) j)) (fun i _ => n - (intOf i).toNat)
  case atStart => exact ⟨0, 0, Nat.zero_le _, rfl, hW2.out.symm, rfl⟩
  case round =>
    obtain ⟨j, m, hj, rfl, hw, hf⟩ := hrel
    have j0 : (0 : Int) ≤ (j : Int) := by omega
    have HE : ∀ q, Hid (wr.drewN q = w2.drewN (m + q)) := fun q => by
      show _ = _
      rw [hw.out, World.drewN_drewN]
    have hbm : Below w2.heap.size w2 wr := by rw [hw.out]; exact below_drewN (Below.refl _ _) m
    have bx := (HX.out.below hbm 0 _ rfl).1
    have y0 := (HY.out.below hbm 0 _ rfl).1
    have y7 := (HY.out.below hbm 7 _ rfl).1
    have HBM := Lib.hid hbm
    clear hbm
    by_cases hjn : j < n
    · have j1 : (j : Int) < (n : Int) := by omega
      have hjl : j < rs.length := by omega
      have j2 : (j : Int) < (rs.length : Int) := by omega
      obtain ⟨b', off', _, _, _, _, _, _, _, _, e', ⟨f0, -⟩, -⟩ := (HC.out.below HBM.out).rd.at j hjl
      injection e' with e'
      injection e' with e1 e2
      subst e1 e2
      by_cases hx : rs[j].name = r.name
      · have hrr : Hid (validAt (kindS rs) rs (n : Int) = false) := by
          show _ = _
          rw [hr.out, hf.out.trans (findFrom_yes hjl hx), decide_eq_false (by omega), Bool.false_and]
        have g1 := str_eq hx
        generalize rs[j].name = x at f0 g1
        clear hx
        go_wp2
        go_quiet (fail)
        go_wp2
        go_ret
        exact ⟨ret_bool hrr.out.symm, by rw [(HE _).out]; exact below_drewN HB.out _⟩
      · have hff : Hid (findFrom r.name rs 0 = findFrom r.name (rs.drop (j + 1)) (j + 1)) := hf.out.trans (findFrom_no hjl hx)
        have g1 := str_ne hx
        generalize rs[j].name = x at f0 g1
        clear hx
        go_wp2
        go_quiet (fail)
        go_wp2
        go_roundw
        case rel => exact ⟨j + 1, _, by omega, by go_num, HE _, hff⟩
        case measure => simp [intOf]; omega
    · have j1 : ¬ (j : Int) < (n : Int) := by omega
      obtain rfl : j = n := by omega
      have hfd : Hid (findFrom r.name rs 0 = (j : Int)) := hf.out.trans hself.out
      rw [hfd.out, decide_eq_true rfl, Bool.true_and] at hr
      have s7 := hsr.out.2.2.2
      have HBR : Hid (Below w.heap.size w wr) := by
        show Below _ _ _
        rw [hw.out]
        exact below_drewN HB.out m
      have HKR := Lib.hid (HK.out.below HBM.out)
      have HCR := Lib.hid (HC.out.below HBM.out)
      have HQR := Lib.hid (HQ.out.below HBM.out)
      have HXR := Lib.hid (HX.out.below HBM.out)
      have HYR := Lib.hid (HY.out.below HBM.out)
      clear hf hself hfd hw HE HBM HK HC HQ HX HY HB bx y0
      go_wp2
      go_loop [7] (fun i => ∃ q : Nat, q ≤ r.kids.length ∧ i = .int .i64 q ∧ Hid (kidsB r.kids (j : Int) = kidsB (r.kids.drop q) (j : Int))) (fun i => r.kids.length - (intOf i).toNat)
      case atStart => exact ⟨0, Nat.zero_le _, rfl, rfl⟩
      case round =>
        obtain ⟨q, hq, rfl, hf⟩ := hrel
        have q0 : (0 : Int) ≤ (q : Int) := by omega
        by_cases hql : q < r.kids.length
        · have q1 : (q : Int) < (r.kids.length : Int) := by omega
          obtain ⟨b7, o7, ha7, hc⟩ := HKR.out q hql
          subst ha7
          by_cases hx : 0 ≤ r.kids[q] ∧ r.kids[q] ≤ (j : Int) - 1
          · have hrr : Hid (kidsB r.kids (j : Int) = kidsB (r.kids.drop (q + 1)) (j : Int)) := hf.out.trans (kidsB_yes hql hx)
            have hd : decide (0 ≤ r.kids[q] ∧ r.kids[q] ≤ (j : Int) - 1) = true := decide_eq_true hx
            generalize r.kids[q] = x at hc hx hd
            go_wp2_with fail
            refine (in_any _ _ _ true _ hd).mono ?_
            rintro e w3 ⟨rfl, rfl⟩
            go_wp2
            go_round
            case rel => exact ⟨q + 1, by omega, by go_num, hrr⟩
            case measure => simp [intOf]; omega
          · have hrr : Hid (validAt (kindS rs) rs (j : Int) = false) := by
              show _ = _
              rw [hr.out, hf.out.trans (kidsB_no hql hx), Bool.false_and]
            have hd : decide (0 ≤ r.kids[q] ∧ r.kids[q] ≤ (j : Int) - 1) = false := decide_eq_false hx
            generalize r.kids[q] = x at hc hx hd
            clear hx
            go_wp2_with fail
            refine (in_any _ _ _ false _ hd).mono ?_
            rintro e w3 ⟨rfl, rfl⟩
            go_wp2
            go_ret
            exact ⟨ret_bool hrr.out.symm, HBR.out⟩
        · have q1 : ¬ (q : Int) < (r.kids.length : Int) := by omega
          have hkt : kidsB r.kids (j : Int) = true := by
            have := hf.out
            rw [List.drop_of_length_le (by omega)] at this
            exact this
          rw [hkt, Bool.true_and] at hr
          clear hkt hf
          have y0 := (HYR.out 0 _ rfl).1
          go_wp2_with fail
          refine (name_spec r.name _ (by omega)).mono ?_
          rintro e w3 ⟨rfl, rfl⟩
          cases hnm : nameB r.name with
          | false =>
            go_wp2
            go_ret
            exact ⟨ret_bool (by rw [hr.out, hnm]; rfl), HBR.out⟩
          | true =>
            rw [hnm, Bool.true_and] at hr
            have bx := (HXR.out 0 _ rfl).1
            have y1 := (HYR.out 1 _ rfl).1
            have y2 := (HYR.out 2 _ rfl).1
            have y3 := (HYR.out 3 _ rfl).1
            have y4 := (HYR.out 4 _ rfl).1
            have y5 := (HYR.out 5 _ rfl).1
            have y6 := (HYR.out 6 _ rfl).1
            go_wp2_with fail
            refine (kinds_spec _ rs cap r _ _ hl hsr.out hpr.out HP5.out HCR.out.rd HQR.out).mono ?_
            rintro e w4 ⟨rfl, hb4⟩
            have HB4 := Lib.hid (HBR.out.trans (hb4.mono HBR.out.size))
            clear hb4
            go_wp2
            go_ret
            exact ⟨ret_bool hr.out.symm, HB4.out⟩
set_option maxRecDepth 100000 in
set_option maxHeartbeats 2000000 in
theorem validd_spec (a : Option Addr) (rs : List RuleV) (cap : Nat) (w : World) (hl : rs.length ≤ 1048576) (hs : ∀ r ∈ rs, Short r) (hp : ∀ r ∈ rs, Spelt r) (h : RdC a rs w) :
    Calls Try.prog 30 #[.agg #[.slice a rs.length cap]] w fun e w' => e = .returned (.bool (descrB (kindI rs) rs)) ∧ Below w.heap.size w w' := by
  rw [descr_same]
  obtain ⟨w0, hw0⟩ : ∃ w0, w0 = w.alloc (.cells #[.slice a rs.length cap] 29) := ⟨_, rfl⟩
  have hB : Below w.heap.size w w0 := by subst hw0; exact (Below.refl _ _).alloc (Nat.le_refl _) _
  have hX : CellsAt w.heap.size [.slice a rs.length cap] w0 := by subst hw0; exact CellsAt.new w _ _
  have HC := Lib.hid (h.below hB)
  have HB := Lib.hid hB
  have HX := Lib.hid hX
  have HS := Lib.hid hs
  have HP := Lib.hid hp
  have hW := Lib.hid hw0
  clear h hB hX hs hp hw0
  go_enter Try.func30, Try.ntmps30
  go_wp2
  go_loopw [3] (fun i W => ∃ k : Nat, k ≤ rs.length ∧ i = .int .i64 k ∧ Hid (∀ i : Nat, i < k → validAt (kindS rs) rs (i : Int) = true) ∧ Hid (Below w0.heap.size w0 W)) (fun i _ => rs.length - (intOf i).toNat)
  case atStart => exact ⟨0, Nat.zero_le _, rfl, fun i hi => by omega, by rw [← hW.out]; exact Below.refl _ _⟩
  case round =>
    obtain ⟨k, hk, rfl, hv, hbw⟩ := hrel
    have k0 : (0 : Int) ≤ (k : Int) := by omega
    have HBW := Lib.hid (HB.out.trans (hbw.out.mono HB.out.size))
    have bx := (HX.out.below hbw.out 0 _ rfl).1
    by_cases hlt : k < rs.length
    · have k1 : (k : Int) < (rs.length : Int) := by omega
      have HQ := Lib.hid (validr_spec a rs cap (k : Int) wr hl HS.out HP.out (HC.out.below hbw.out))
      cases hb : validAt (kindS rs) rs (k : Int) with
      | false =>
        have hr := Lib.hid (descrB_bad (f := kindS rs) hlt hb)
        rw [hb] at HQ
        clear hb
        go_wp2_with fail
        refine HQ.out.mono ?_
        rintro e w2 ⟨rfl, hb2⟩
        have HB2 := Lib.hid (HBW.out.trans (hb2.mono HBW.out.size))
        clear hb2
        go_wp2
        go_ret
        exact ⟨ret_bool hr.out.symm, HB2.out⟩
      | true =>
        have hv2 := Lib.hid (allV_next hv.out hb)
        rw [hb] at HQ
        clear hb
        go_wp2_with fail
        refine HQ.out.mono ?_
        rintro e w2 ⟨rfl, hb2⟩
        have HB2 := Lib.hid (hbw.out.trans (hb2.mono hbw.out.size))
        clear hb2
        go_wp2
        go_roundw
        case rel => exact ⟨k + 1, by omega, by go_num, hv2, HB2⟩
        case measure => simp [intOf]; omega
    · have k1 : ¬ (k : Int) < (rs.length : Int) := by omega
      obtain rfl : k = rs.length := by omega
      have hd : decide (1 ≤ (rs.length : Int) ∧ (rs.length : Int) ≤ 24) = descrB (kindS rs) rs := by
        by_cases hn : 1 ≤ rs.length ∧ rs.length ≤ 24
        · rw [descrB_yes hn hv.out, decide_eq_true (by omega)]
        · rw [descrB_len hn, decide_eq_false (by omega)]
      go_wp2_with fail
      refine (in_any _ _ _ _ _ hd).mono ?_
      rintro e w2 ⟨rfl, rfl⟩
      go_wp2
      go_ret
      exact ⟨rfl, HBW.out⟩
end Go.Proofs.Ytdhfcopfoknokaa
