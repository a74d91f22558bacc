/- It is proved that the law FnWrittenRules returns true at every input of its parameter type and leaves its argument as it was (statement Rows.FnWrittenRulesCardSaid), under no condition beyond the card's own: the three listed tables of the library read as its text lays them. -/
import Derived.Test.YtkegjgfggijinaaDoorGWrit
import Derived.Test.YtkegjgfggijinaaDoorTextSpec
import Derived.Test.YtkegjgfggijinaaDoorGFields
import Derived.Test.YtkegjgfggijinaaDoorArg
import Derived.Deep.RegionHeld3
import Derived.Deep.CutRange
import Derived.Test.YtkegjgfggijinaaDoorCards
import Derived.Test.YtkegjgfggijinaaDoorTie
import Derived.SevenTiedAt
namespace Go.Proofs.YtkegjgfggijinaaDoor
open Go Go.ChangeShapes Go.WideShapes Go.ChangeAt Go.RowKit
namespace fnWrittenRules
theorem big_no (a : Option Addr) (n cap : Nat) (w : World) (h : n ≤ 1048576) : Calls Tryd.prog 4 #[.slice a n cap] w fun e w' => e = .returned (.bool false) ∧ w = w' := by
  have g : ¬ (1048576 : Int) < (n : Int) := by omega
  go_enter Tryd.func4, Tryd.ntmps4
  go_wp2
  go_ret
  exact ⟨rfl, rfl⟩
theorem big_yes (a : Option Addr) (n cap : Nat) (w : World) (h : 1048576 < n) (_hm : n ≤ 9223372036854775807) : Calls Tryd.prog 4 #[.slice a n cap] w fun e w' => e = .returned (.bool true) ∧ w = w' := by
  have g : (1048576 : Int) < (n : Int) := by omega
  go_enter Tryd.func4, Tryd.ntmps4
  go_wp2
  go_ret
  exact ⟨rfl, rfl⟩
theorem walk_long (a0 : Option Addr) (bs0 : List UInt8) (cap0 : Nat) (w : World) (h : 1048576 < bs0.length) (hm : bs0.length ≤ 9223372036854775807) :
    Calls Tryd.prog 3 #[.slice a0 bs0.length cap0] w fun e w' => e = .returned (.bool true) ∧ Below w.heap.size w w' := by
  go_enter Tryd.func3, Tryd.ntmps3
  go_wp2_with fail
  refine (big_yes a0 bs0.length cap0 w h hm).mono ?_
  rintro e w1 ⟨rfl, rfl⟩
  go_wp2_with fail
  go_ret
  exact ⟨rfl, Below.refl _ _⟩
theorem cut58 (s : ByteArray) (w : World) (hs : s.size ≤ 1073741824) :
    Calls Tryd.prog 11 #[.string s, .int .u8 58] w fun e w' => e = .returned (.tuple #[.string (cutA 58 s), .string (cutB 58 s), .bool (cutK 58 s)]) ∧ ∃ n, w' = w.drewN n := cut_spec s 58 w hs
theorem RowR.slice {base : Nat} {x : Option Addr} {n cp : Nat} {rs : List RuleV} {w : World} (h : RowR base (.slice x n cp) rs w) : RdC x rs w := h.at
theorem line_le {rs : List RuleV} (hv : allV (kindI rs) rs) (hsp : ∀ r ∈ rs, Spelt r) {k : Nat} (hk : k < rs.length) : (lineAt rs k).size ≤ 16777216 := by
  rw [lineAt_in hk]
  exact line_size (validAt_kind hk (hv k hk)) (fun r hr => (hsp r hr).1) ((hsp _ (List.getElem_mem hk)).1)
theorem text_le {rs : List RuleV} (hv : allV (kindI rs) rs) (hsp : ∀ r ∈ rs, Spelt r) : ∀ k, k ≤ rs.length → (textL rs k).length ≤ k * 16777300
  | 0, _ => Nat.zero_le _
  | k + 1, h => by
    have ih := text_le hv hsp k (by omega)
    have h1 := line_le hv hsp (k := k) (by omega)
    rw [textL_next]
    omega
theorem splitL_small {c : UInt8} : ∀ {l : List UInt8}, ∀ p ∈ splitL c l, p.length ≤ l.length
  | [], p, hp => by simp [splitL] at hp; subst hp; simp
  | y :: r, p, hp => by
    unfold splitL at hp
    split at hp
    · simp only [List.mem_cons] at hp
      rcases hp with rfl | hp
      · simp
      · have := splitL_small p hp
        simp; omega
    · have ih := @splitL_small c r
      cases hr : splitL c r with
      | nil => exact absurd hr (splitL_ne c r)
      | cons h t =>
        rw [hr] at hp ih
        simp only [List.mem_cons] at hp
        rcases hp with rfl | hp
        · have := ih h (by simp)
          simp; omega
        · have := ih p (by simp [hp])
          simp; omega
theorem parts_small {c : UInt8} {s p : ByteArray} (h : p ∈ parts c s) : p.size ≤ s.size := by
  simp only [parts, txts, List.mem_map] at h
  obtain ⟨q, hq, rfl⟩ := h
  rw [txt_size, ← lst_length]
  exact splitL_small q hq
theorem word_small {s p : ByteArray} (h : p ∈ wordsS s) : p.size ≤ s.size := by
  simp only [wordsS, fullS, List.mem_filter] at h
  exact parts_small h.1
set_option maxRecDepth 100000 in
set_option maxHeartbeats 16000000 in
theorem walk_short (a0 : Option Addr) (bs0 : List UInt8) (cap0 : Nat) (w : World) (h : bs0.length ≤ 1048576) (hs : Code a0 bs0.length w) (ht : PowTab w) :
    Calls Tryd.prog 3 #[.slice a0 bs0.length cap0] w fun e w' => e = .returned (.bool true) ∧ Below w.heap.size w w' := by
  have HS := Lib.hid hs
  have HT0 := Lib.hid ht
  clear hs ht
  go_enter Tryd.func3, Tryd.ntmps3
  go_wp2_with fail
  refine (big_no a0 bs0.length cap0 w h).mono ?_
  rintro e w1 ⟨rfl, rfl⟩
  go_wp2_with fail
  refine (drawd a0 bs0.length cap0 w (by omega) HS.out).mono ?_
  rintro e w1 ⟨rs, x, cp, rfl, hm, ⟨hn1, hn6⟩, hk0, hrow, hb1⟩
  obtain ⟨z, hz⟩ : ∃ z, z = w1.alloc (.cells #[.slice x rs.length cp] 26) := ⟨_, rfl⟩
  have hbz : Below w1.heap.size w1 z := by subst hz; exact (Below.refl _ _).alloc (Nat.le_refl _) _
  have HX : Hid (CellsAt w1.heap.size [.slice x rs.length cp] z) := by subst hz; exact CellsAt.new w1 _ _
  have HBZ := Lib.hid (hb1.trans (hbz.mono hb1.size))
  have HRC := Lib.hid (hrow.at.below hbz)
  have HT := Lib.hid (HT0.out.below HBZ.out)
  have HV := Lib.hid (made_valid hm (by omega))
  have HD := Lib.hid (made_descr hm hn1 (by omega))
  have HSH := Lib.hid (made_short hm)
  have HSP := Lib.hid (made_spelt hm (by omega))
  have HK0 := Lib.hid hk0
  have hW := Lib.hid hz
  obtain ⟨D, hD⟩ : ∃ D, D = w1.heap.size := ⟨_, rfl⟩
  rw [← hD] at HX
  have HDD := Lib.hid hD
  clear hz hbz hb1 hrow hm hk0 HT0 HS hD
  go_wp2
  rw [← hW.out, ← HDD.out]
  clear hW HDD
  go_loopw [4] (fun i W => ∃ k : Nat, k ≤ rs.length ∧ i = .int .i64 k ∧ Hid (Below z.heap.size z W)) (fun i _ => rs.length - (intOf i).toNat)
  case atStart => exact ⟨0, Nat.zero_le _, rfl, Below.refl _ _⟩
  case round =>
    obtain ⟨k, hk, rfl, hb⟩ := hrel
    have k0 : (0 : Int) ≤ (k : Int) := by omega
    have hx := (HX.out.below hb.out 0 _ rfl).1
    by_cases hlt : k < rs.length
    · have k1 : (k : Int) < (rs.length : Int) := by omega
      have hvk := Lib.hid (HV.out k hlt)
      have hls := line_le HV.out HSP.out hlt
      have hla := Lib.hid (lineAt_in hlt)
      have hwl := Lib.hid (words_line HV.out hlt)
      have hfo := Lib.hid (fields_ok HV.out hlt)
      go_wp2_with fail
      refine (frule_impl x rs cp k _ (by omega) hlt HSH.out HSP.out hvk.out (HT.out.below hb.out) (HRC.out.below hb.out)).mono ?_
      rintro e w2 ⟨rfl, hb2⟩
      replace hb := Lib.hid (hb.out.trans (hb2.mono hb.out.size))
      clear hb2 hx
      rw [← hla.out] at hwl ⊢
      obtain ⟨ln, hln⟩ : ∃ ln, ln = lineAt rs k := ⟨_, rfl⟩
      rw [← hln] at hls hwl ⊢
      have HLN := Lib.hid hln
      clear hln hla
      go_wp2_with fail
      refine (words_spec ln _ (by omega)).mono ?_
      rintro e w3 ⟨xw, cw, rfl, hrw, hb3⟩
      replace hb := Lib.hid (hb.out.trans (hb3.mono hb.out.size))
      have hwz := Lib.hid (fun (y : ByteArray) (hy : y ∈ wordsS ln) => Nat.le_trans (word_small hy) hls)
      obtain ⟨ws, hws⟩ : ∃ ws, ws = wordsS ln := ⟨_, rfl⟩
      rw [← hws] at hrw hwl hwz ⊢
      have HRW := Lib.hid hrw.rd
      clear hws hrw hb3
      obtain ⟨L, hL⟩ : ∃ L, L = ws.length := ⟨_, rfl⟩
      rw [← hL]
      have hw3 : 3 ≤ L := by rw [hL]; have h1 := hfo.out.1; rw [hwl.out]; cases hf : fieldsOf rs k rs[k] with | nil => exact absurd hf h1 | cons y ys => simp
      have hw9 : L ≤ 11 := by rw [hL]; have h1 := (fields_le (n := k) (validAt_kind hlt hvk.out) (fun r hr => (HSP.out r hr).1)).1; rw [hwl.out]; simp; omega
      have g3 : decide ((L : Int) < 3) = false := decide_eq_false (by omega)
      have i02 : (0 : Int) < (L : Int) := by omega
      have i12 : (1 : Int) < (L : Int) := by omega
      have n02 : 0 < L := by omega
      have n12 : 1 < L := by omega
      have n00 : L ≠ 0 := by omega
      have n03 : ¬ L = 0 := by omega
      have e0 : Hid (ws[0]'(by omega) = rs[k].name) := by show _ = _; simp only [hwl.out]; rfl
      have e1 : Hid (ws[1]'(by omega) = kindName rs[k].kind) := by show _ = _; simp only [hwl.out]; rfl
      obtain ⟨bw, ow, rfl, c0⟩ := HRW.out 0 (by omega)
      obtain ⟨bw', ow', ew, c1⟩ := HRW.out 1 (by omega)
      obtain ⟨rfl, rfl⟩ : bw = bw' ∧ ow = ow' := by simpa using ew
      rw [e0.out] at c0
      rw [e1.out] at c1
      rw [Nat.add_zero] at c0
      obtain ⟨b0, off, a4, c4, a5, c5, a6, c6, a7, c7, rfl, ⟨d0, d1, -, -, -, -, -, d7⟩, -, -, -, r7⟩ := (HRC.out.rd.below hb.out).at k hlt
      have hkl : rs[k].kids.length ≤ 1048576 := (HSH.out _ (List.getElem_mem hlt)).2.2.2
      obtain ⟨r, hr⟩ : ∃ r, r = rs[k] := ⟨_, rfl⟩
      rw [← hr] at d0 d1 d7 hkl c0 c1 e0 e1 hwl r7
      have HRN := Lib.hid hr
      clear hr ew e0 e1
      have HL := Lib.hid hL
      clear hL
      have HR7 := Lib.hid r7
      have C0 := Lib.hid c0
      have C1 := Lib.hid c1
      have D0 := Lib.hid d0
      have D1 := Lib.hid d1
      have D7 := Lib.hid d7
      clear r7 c0 c1 d0 d1 d7
      obtain ⟨kn, hkn⟩ : ∃ kn, kn = kindName r.kind := ⟨_, rfl⟩
      rw [← hkn] at C1
      have HKN := Lib.hid hkn
      clear hkn
      have hlk : Hid (∀ m : Nat, (∀ j, j < rs.length → (lineAt rs j).size ≤ m) → ¬ ((m : Int) < (ln.size : Int))) := fun m hm => by have := hm k hlt; rw [← HLN.out] at this; omega
      go_upto_region 9 with fail
      replace hb : Hid (Below z.heap.size z w3.drew) := below_drewN hb.out 1
      replace C0 : Hid (w3.drew.cell? ⟨bw, ow, none⟩ = some (.string r.name)) := C0.out
      replace C1 : Hid (w3.drew.cell? ⟨bw, ow + 1, none⟩ = some (.string kn)) := C1.out
      replace D0 : Hid (w3.drew.cell? ⟨b0, off + k * 8, none⟩ = some (.string r.name)) := D0.out
      replace D1 : Hid (w3.drew.cell? ⟨b0, off + k * 8 + 1, none⟩ = some (.int .i64 r.kind)) := D1.out
      replace D7 : Hid (w3.drew.cell? ⟨b0, off + k * 8 + 7, none⟩ = some (.slice a7 r.kids.length c7)) := D7.out
      replace HR7 : Hid (RdI a7 r.kids w3.drew) := HR7.out
      replace HRW : Hid (RdF Value.string (some ⟨bw, ow, none⟩) ws w3.drew) := HRW.out
      go_region_held3 (fun W => W.cell? ⟨D, 0, none⟩ = some (.slice (some ⟨b0, off, none⟩) rs.length cp) ∧ W.cell? ⟨bw, ow, none⟩ = some (.string r.name) ∧ W.cell? ⟨bw, ow + 1, none⟩ = some (.string kn) ∧ W.cell? ⟨b0, off + k * 8, none⟩ = some (.string r.name) ∧ W.cell? ⟨b0, off + k * 8 + 1, none⟩ = some (.int .i64 r.kind)) (exact ⟨(HX.out.below hb.out 0 _ rfl).1, C0.out, C1.out, D0.out, D1.out⟩) (first | (go_at_call 8; refine (kind_spec r.kind _).mono ?_; rintro e v4 ⟨rfl, hb1⟩; rw [← HKN.out]; replace hb := Lib.hid (hb.out.trans (hb1.mono hb.out.size)); replace C0 := Lib.hid (cell_keep hb1 C0.out); replace C1 := Lib.hid (cell_keep hb1 C1.out); replace D0 := Lib.hid (cell_keep hb1 D0.out); replace D1 := Lib.hid (cell_keep hb1 D1.out); replace D7 := Lib.hid (cell_keep hb1 D7.out); replace HR7 := Lib.hid (HR7.out.below hb1); replace HRW := Lib.hid (HRW.out.below hb1); clear hb1) | (go_at_call 9; refine (longest_impl (some ⟨b0, off, none⟩) rs cp _ (by omega) HSH.out HSP.out HV.out (HT.out.below hb.out) (HRC.out.below hb.out)).mono ?_; rintro e v5 ⟨m, rfl, hm, hm2, hb1⟩; have hgt : decide ((m : Int) < (ln.size : Int)) = false := decide_eq_false (by have := hlk.out m hm; omega); have hgn : decide (m < ln.size) = false := decide_eq_false (by have := hlk.out m hm; omega); clear hm; replace hb := Lib.hid (hb.out.trans (hb1.mono hb.out.size)); replace C0 := Lib.hid (cell_keep hb1 C0.out); replace C1 := Lib.hid (cell_keep hb1 C1.out); replace D0 := Lib.hid (cell_keep hb1 D0.out); replace D1 := Lib.hid (cell_keep hb1 D1.out); replace D7 := Lib.hid (cell_keep hb1 D7.out); replace HR7 := Lib.hid (HR7.out.below hb1); replace HRW := Lib.hid (HRW.out.below hb1); clear hb1))
      clear C0 C1 D0 D1
      have d7 := D7.out
      go_wp2
      clear d7 hgt hgn
      obtain ⟨y0, hy0⟩ : ∃ y, y = v5 := ⟨_, rfl⟩
      clear hy0 y0
      go_loopw [7] (fun i W => ∃ j : Nat, j ≤ r.kids.length ∧ i = .int .i64 j ∧ Hid (Below v5.heap.size v5 W)) (fun i _ => r.kids.length - (intOf i).toNat)
      case atStart => exact ⟨0, Nat.zero_le _, rfl, Below.refl _ _⟩
      case round =>
        obtain ⟨kk, hkk, rfl, hc⟩ := hrel
        have j0 : (0 : Int) ≤ (kk : Int) := by omega
        have HBC := Lib.hid (hb.out.trans (hc.out.mono hb.out.size))
        have hx := (HX.out.below HBC.out 0 _ rfl).1
        have d7 := cell_keep hc.out D7.out
        by_cases hjt : kk < r.kids.length
        · have j1 : (kk : Int) < (r.kids.length : Int) := by omega
          have hjr : kk < rs[k].kids.length := by rw [← HRN.out]; exact hjt
          obtain ⟨qq, hqq, hqe, -, hqn⟩ := good_kid HV.out hlt hjr
          have hhit := Lib.hid (kid_hit HV.out hlt hjr)
          have hfq := Lib.hid ((good_all HV.out hqq).1)
          rw [← hqn] at hfq
          have hke : Hid (r.kids[kk] = (qq : Int)) := by show _ = _; simp only [HRN.out]; exact hqe
          have hkz := kidName_size (fun r hr => (HSP.out r hr).1) (k : Int) (kk : Int)
          obtain ⟨b7, o7, rfl, e7⟩ := (HR7.out.below hc.out) kk hjt
          rw [hke.out] at e7
          have E7 := Lib.hid e7
          clear hqe hqn e7 hke
          go_wp2_with fail
          refine (kid_impl (some ⟨b0, off, none⟩) rs cp (k : Int) (kk : Int) _ (by omega) HSH.out (HRC.out.rd.below HBC.out)).mono ?_
          rintro e v6 ⟨rfl, hb6⟩
          replace HBC := Lib.hid (HBC.out.trans (hb6.mono HBC.out.size))
          replace hc := Lib.hid (hc.out.trans (hb6.mono hc.out.size))
          replace E7 := Lib.hid (cell_keep hb6 E7.out)
          clear hb6 hx d7
          obtain ⟨nm, hnm⟩ : ∃ nm, nm = kidName rs (k : Int) (kk : Int) := ⟨_, rfl⟩
          rw [← hnm] at hhit hfq hkz ⊢
          clear hnm
          go_wp2
          go_loopw [9, 10] (fun f i W => ∃ (j : Nat) (bb : Bool), 2 ≤ j ∧ j ≤ L ∧ i = .int .i64 j ∧ f = .bool bb ∧ Hid (bb = foundTo nm ws j) ∧ Hid (Below v6.heap.size v6 W)) (fun _ i _ => L - (intOf i).toNat)
          case atStart => exact ⟨2, false, Nat.le_refl _, by omega, rfl, rfl, by show _ = _; unfold foundTo; rw [List.drop_of_length_le (by simp; omega)]; rfl, Below.refl _ _⟩
          case round =>
            obtain ⟨j, bb, hj2, hjl, rfl, rfl, hbb, hf⟩ := hrel
            have i0 : (0 : Int) ≤ (j : Int) := by omega
            have HBF := Lib.hid (HBC.out.trans (hf.out.mono HBC.out.size))
            have HCF := Lib.hid (hc.out.trans (hf.out.mono hc.out.size))
            by_cases hjw0 : j < L
            · have i1 : (j : Int) < (L : Int) := by omega
              have hjw : j < ws.length := by rw [← HL.out]; exact hjw0
              obtain ⟨bq, oq, eq', cj⟩ := (HRW.out.below HCF.out) j hjw
              obtain ⟨rfl, rfl⟩ : bw = bq ∧ ow = oq := by simpa using eq'
              have hwj := hwz.out _ (List.getElem_mem hjw)
              have hnext := Lib.hid (foundTo_next (name := nm) hj2 hjw)
              generalize ws[j] = wj at cj hwj hnext
              clear eq'
              go_wp2_with fail
              refine (cut58 wj _ (by omega)).mono ?_
              rintro e v7 ⟨rfl, nq, hv7⟩
              have hb7 : Below wr.heap.size wr v7 := by subst hv7; exact below_drewN (Below.refl _ _) nq
              have cj7 := cell_keep hb7 cj
              replace hf := Lib.hid (hf.out.trans (hb7.mono hf.out.size))
              clear hb7 hv7 cj HBF HCF
              unfold hitB at hnext
              generalize cutA 58 wj = ca
              generalize cutK 58 wj = ck at hnext ⊢
              generalize cutB 58 wj = cb at hnext ⊢
              cases bb with
              | true =>
                have hnx : Hid (true = foundTo nm ws (j + 1)) := by show _ = _; rw [hnext.out, ← hbb.out]; simp [*]
                go_wp2
                go_roundw
                case rel => exact ⟨j + 1, _, by omega, by omega, by go_num, rfl, hnx, hf⟩
                case measure => simp [intOf]; omega
              | false =>
                by_cases h1 : wj = nm
                · have s1 := str_eq h1
                  have hnx : Hid (true = foundTo nm ws (j + 1)) := by show _ = _; rw [hnext.out, ← hbb.out]; simp [*]
                  go_wp2
                  go_roundw
                  case rel => exact ⟨j + 1, _, by omega, by omega, by go_num, rfl, hnx, hf⟩
                  case measure => simp [intOf]; omega
                · have s1 := str_ne h1
                  cases ck with
                  | false =>
                    have hnx : Hid (false = foundTo nm ws (j + 1)) := by show _ = _; rw [hnext.out, ← hbb.out]; simp [*]
                    go_wp2
                    go_roundw
                    case rel => exact ⟨j + 1, _, by omega, by omega, by go_num, rfl, hnx, hf⟩
                    case measure => simp [intOf]; omega
                  | true =>
                    by_cases h2 : cb = nm
                    · have s2 := str_eq h2
                      have hnx : Hid (true = foundTo nm ws (j + 1)) := by show _ = _; rw [hnext.out, ← hbb.out]; simp [*]
                      go_wp2
                      go_roundw
                      case rel => exact ⟨j + 1, _, by omega, by omega, by go_num, rfl, hnx, hf⟩
                      case measure => simp [intOf]; omega
                    · have s2 := str_ne h2
                      have hnx : Hid (false = foundTo nm ws (j + 1)) := by show _ = _; rw [hnext.out, ← hbb.out]; simp [*]
                      go_wp2
                      go_roundw
                      case rel => exact ⟨j + 1, _, by omega, by omega, by go_num, rfl, hnx, hf⟩
                      case measure => simp [intOf]; omega
            · have i1 : ¬ (j : Int) < (L : Int) := by omega
              obtain rfl : j = L := by omega
              obtain rfl : bb = true := by rw [hbb.out]; have h1 := foundTo_all (name := nm) (a := rs[k].name) (b := kindName rs[k].kind) hhit.out; have h2 := hwl.out; rw [HRN.out] at h2; rw [← h2, ← HL.out] at h1; exact h1
              have E7b := Lib.hid (cell_keep hf.out E7.out)
              have D7b := Lib.hid (cell_keep HCF.out D7.out)
              go_upto_region 21 with fail
              replace HBF : Hid (Below z.heap.size z wr.drew) := below_drewN HBF.out 1
              replace HCF : Hid (Below v5.heap.size v5 wr.drew) := below_drewN HCF.out 1
              replace E7b : Hid (wr.drew.cell? ⟨b7, o7 + kk, none⟩ = some (.int .i64 (qq : Int))) := E7b.out
              replace D7b : Hid (wr.drew.cell? ⟨b0, off + k * 8 + 7, none⟩ = some (.slice (some ⟨b7, o7, none⟩) r.kids.length c7)) := D7b.out
              go_region_held3 (fun W => W.cell? ⟨D, 0, none⟩ = some (.slice (some ⟨b0, off, none⟩) rs.length cp) ∧ W.cell? ⟨b7, o7 + kk, none⟩ = some (.int .i64 (qq : Int)) ∧ W.cell? ⟨b0, off + k * 8 + 7, none⟩ = some (.slice (some ⟨b7, o7, none⟩) r.kids.length c7)) (exact ⟨(HX.out.below HBF.out 0 _ rfl).1, E7b.out, D7b.out⟩) (first | (go_at_call 12; refine (find_spec (some ⟨b0, off, none⟩) rs cp nm _ (by omega) (HRC.out.rd.below HBF.out)).mono ?_; rintro e v8 ⟨rfl, hb1⟩; rw [hfq.out]; replace HBF := Lib.hid (HBF.out.trans (hb1.mono HBF.out.size)); replace HCF := Lib.hid (HCF.out.trans (hb1.mono HCF.out.size)); replace E7b := Lib.hid (cell_keep hb1 E7b.out); replace D7b := Lib.hid (cell_keep hb1 D7b.out); clear hb1))
              go_wp2
              go_roundw
              case rel => exact ⟨kk + 1, by omega, by go_num, HCF⟩
              case measure => simp [intOf]; omega
        · have j1 : ¬ (kk : Int) < (r.kids.length : Int) := by omega
          go_wp2
          go_roundw
          case rel => exact ⟨k + 1, by omega, by go_num, HBC⟩
          case measure => simp [intOf]; omega
    · have k1 : ¬ (k : Int) < (rs.length : Int) := by omega
      have htd : Hid (textD rs = textS rs rs.length) := by show _ = _; unfold textD; rw [HD.out]; rfl
      have htz : Hid ((textS rs rs.length).size ≤ 1073741824) := by show _ ≤ _; rw [textS_size]; have := text_le HV.out HSP.out rs.length (Nat.le_refl _); omega
      have htl := Lib.hid (lines_text (fun k hk => line_nl HV.out hk) rs.length (by omega) (Nat.le_refl _))
      have hkn0 : Hid (kidName rs 0 0 = ⟨#[]⟩) := by
        show _ = _
        have h1 := HK0.out (by omega)
        have h2 := validAt_kind (by omega : 0 < rs.length) (HV.out 0 (by omega))
        have h3 : rs[0].kids = [] := by
          unfold kindI at h2
          rw [Bool.and_eq_true] at h2
          have h4 := (sameR_iff _ _).1 h2.2
          rw [h4]; unfold onlyR; rw [if_pos h1]
        exact kidName_no2 (n := 0) (by omega) (by rw [h3]; simp)
      obtain ⟨tx, htx⟩ : ∃ tx, tx = textS rs rs.length := ⟨_, rfl⟩
      rw [← htx] at htd htz htl
      obtain ⟨ls, hls⟩ : ∃ ls, ls = linesS tx := ⟨_, rfl⟩
      have hqb : ((ls.length : Int) == (rs.length : Int)) = true := by rw [hls, htl.out]; simp
      have HLS := Lib.hid hls
      obtain ⟨ns, hns⟩ : ∃ ns, ns = namesOf rs := ⟨_, rfl⟩
      have hqn : ((ns.length : Int) == (rs.length : Int)) = true := by rw [hns, namesOf_length]; simp
      have HNS := Lib.hid hns
      clear htx hls hns htl
      go_upto_region 23 with fail
      replace hb : Hid (Below z.heap.size z wr.drew) := below_drewN hb.out 1
      go_region_held3 (fun W => W.cell? ⟨D, 0, none⟩ = some (.slice x rs.length cp)) (exact (HX.out.below hb.out 0 _ rfl).1) (first | (go_at_call 14; refine (fdescr_impl x rs cp _ (by omega) HSH.out HSP.out (HT.out.below hb.out) (HRC.out.below hb.out)).mono ?_; rintro e y1 ⟨rfl, hb1⟩; rw [htd.out]; replace hb := Lib.hid (hb.out.trans (hb1.mono hb.out.size)); clear hb1) | (go_at_call 13; refine (lines_spec tx _ htz.out).mono ?_; rintro e y2 ⟨xl, cl, rfl, hrl, hb1⟩; rw [← HLS.out]; clear hrl; replace hb := Lib.hid (hb.out.trans (hb1.mono hb.out.size)); clear hb1) | (go_at_call 15; refine (dn_impl x rs cp ns _ (by omega) HNS.out (HRC.out.rd.below hb.out)).mono ?_; rintro e y3 ⟨xn, cn, rfl, hrn, hb1⟩; clear hrn; replace hb := Lib.hid (hb.out.trans (hb1.mono hb.out.size)); clear hb1) | (go_at_call 10; refine (kid_impl x rs cp 0 0 _ (by omega) HSH.out (HRC.out.rd.below hb.out)).mono ?_; rintro e y4 ⟨rfl, hb1⟩; rw [hkn0.out]; replace hb := Lib.hid (hb.out.trans (hb1.mono hb.out.size)); clear hb1))
      go_wp2
      go_ret
      exact ⟨rfl, HBZ.out.trans (hb.out.mono HBZ.out.size)⟩
theorem walk (a0 : Option Addr) (bs0 : List UInt8) (cap0 : Nat) (w : World) (r0 : Arg a0 bs0 cap0 w) (ht : PowTab w) :
    Calls Tryd.prog 3 #[.slice a0 bs0.length cap0] w fun e w' => e = .returned (.bool true) ∧ Below w.heap.size w w' := by
  by_cases h0 : 1048576 < bs0.length
  · exact walk_long a0 bs0 cap0 w h0 (by have q1 := r0.2.1; have q2 := r0.2.2.2; omega)
  · exact walk_short a0 bs0 cap0 w (by omega) r0.code ht
theorem door_met (os : Os) (args : Array Value) : laidMetH Tryd.prog Rows.fnWrittenRulesRow.laid ((World.doorLaid Tryd.prog 400 os).forCall (fun _ _ => 0) ⟨#[], args, []⟩).memory :=
  laidMetH_of_parts3 (fuel := 8) (laidMet_of_run' 8 (by kernel_rfl) (by kernel_rfl)) (by kernel_rfl) (by kernel_rfl)
theorem of_laid {W : World} (h : laidMetH Tryd.prog Rows.fnWrittenRulesRow.laid W) : PowTab W := by
  rw [MakeChecks.laidMetH_plain _ _ _ (by kernel_rfl)] at h
  exact powTab_of (laidMet.tail (laidMet.tail h))
set_option maxRecDepth 100000 in
theorem lifted (os : Os) (started : os.Started) (H : Type) (enc : TypeId × Value → H) :
    ReturnsInHanded {} Tryd.checked os 3 .any (fun w args => (Rows.fnWrittenRulesSpec.pre enc Tryd.prog Tryd.f3 [] false w args ∧ laidMetH Tryd.prog Rows.fnWrittenRulesRow.laid w) ∧ sizedMet enc Tryd.prog Tryd.f3 (OpenSpec.ofChange Rows.fnWrittenRulesSpec) false w args)
      (Rows.fnWrittenRulesSpec.post enc Tryd.prog Tryd.f3 false true false false) := by
  refine returnsInHanded_of_change_and (C := Tryd.checked) (X := fun w _ => laidMetH Tryd.prog Rows.fnWrittenRulesRow.laid w) (fun _ _ _ hh h => h.of_heap hh) ownL started (by kernel_rfl) Tryd.func3
    (ChangeSpec.witness_shaped (enc := enc) (C := Tryd.checked) (os := os) (X := fun w _ => laidMetH Tryd.prog Rows.fnWrittenRulesRow.laid w) false (World.doorLaid Tryd.prog 400 os) #[.slice none 0 0] 8 rfl (World.shaped_of_RefB (by kernel_rfl) (by kernel_rfl)) (by kernel_rfl) (by kernel_rfl) (by kernel_rfl) (door_met os _)) ?_
  intro W base args ds gs before hval0 hW _ _ hL _
  have hval : ∀ (j : Nat) t v, Tryd.f3.params[j]? = some t → args[j]? = some v → Value.okWide Tryd.prog W .any base t v := hval0
  have hW' := hW
  obtain ⟨p, q, hA0, hV, rfl, hfz, hnd⟩ := hW
  have hA : DataW.TrodAll enc Tryd.prog W 0 (fun _ => true) true Tryd.f3.params.toList args.toList ds p := hA0
  rw [Tryd.params3] at hA hval
  obtain ⟨v0, vs0, d0, ds0, p0, q0, hargs, rfl, rfl, h0, r0⟩ := trodAll_cons hA
  obtain ⟨rfl, rfl, rfl⟩ := trodAll_nil r0
  obtain rfl : args = #[v0] := by cases args; simp_all
  obtain ⟨rfl, rfl⟩ := trodVars_none hV
  simp only [List.append_nil] at hW'
  have hlt : ∀ x ∈ p0, x.block < W.heap.size := fun x hx => hW'.lt x (by simpa using hx)
  obtain ⟨a0, len0, cap0, rfl⟩ := okWide_slice Tryd.underlying22 (hval 0 22 v0 rfl rfl)
  obtain ⟨bs0, rfl, hb0⟩ := bytes_arg h0
  have m0 : ∀ (W' : World), Below W.heap.size W W' → DataW.Trod enc Tryd.prog W' 0 (fun b => decide (b < W.heap.size)) true 22 (.slice a0 bs0.length cap0) d0 p0 := fun W' hn => Below.trod laidOut (by kernel_rfl) (of_decide_eq_true (by kernel_rfl)) h0 hn (fun x hx => hlt x (by simp [hx]))
  have hT := of_laid hL
  clear hA0 hval0
  refine (walk a0 bs0 cap0 W hb0 hT).mono fun e W' ⟨he, hb⟩ => ?_
  subst he
  exact ⟨_, rfl, _, _, _, [], _, [], hW', trodAll_cons_mk (shut_bool Tryd.underlying4 _) trodAll_mk0, (trodAll_cons_mk (m0 _ hb) trodAll_mk0), rfl, hb.frame _, fun h => by cases h⟩
theorem row_holds : Rows.FnWrittenRulesSaid :=
  OpenClaim.holds_of_wide 3 Tryd.f3 rfl rfl rfl rfl rfl rfl rfl ⟨rfl, rfl, rfl, rfl, rfl⟩ rfl rfl rfl rfl rfl (by kernel_rfl) Tryd.func3 (by kernel_rfl)
    (of_decide_eq_true (by kernel_rfl)) (by unfold Func.isWrapper; first | (rw [if_pos (by decide +kernel)]; kernel_rfl) | (rw [if_neg (by decide +kernel)]; exact ⟨rfl, rfl⟩))
    (fun os started H enc _ => lifted os started H enc)
/-- THE STATEMENT -/
theorem proved : Rows.FnWrittenRulesCardSaid :=
  Claim7.holds_tied_plain_at .later [] [.data, .data, .data] true Rows.fnWrittenRulesCard.stood.harness Rows.fnWrittenRulesCard.stood.looks
    row_holds (fun _ h => by cases h) (by kernel_rfl) (fun _ h => by cases h) fnWrittenRules_row_tie rfl ⟨rfl, rfl⟩ (by kernel_rfl) rfl
    (fun f fn hf hfn => by
      obtain rfl : f = 3 := Option.some.inj ((show Tryd.prog.funcNamed Rows.fnWrittenRulesRow.func = some 3 by kernel_rfl).symm.trans hf) |>.symm
      obtain rfl : fn = Tryd.f3 := (Option.some.inj (Tryd.func3.symm.trans hfn)).symm
      exact ⟨by kernel_rfl, fun j t ht => by
        rw [Tryd.params3] at ht
        have hm : t ∈ [22] := by simpa using Array.mem_of_getElem? ht
        have hall : ([22].all fun u => !Tryd.prog.wantsStandIn u) = true := by kernel_rfl
        exact (show Tryd.prog.wantsStandIn t = false by simpa using List.all_eq_true.1 hall t hm)⟩)
    (by kernel_rfl)
end fnWrittenRules
#print axioms fnWrittenRules.proved
end Go.Proofs.YtkegjgfggijinaaDoor
