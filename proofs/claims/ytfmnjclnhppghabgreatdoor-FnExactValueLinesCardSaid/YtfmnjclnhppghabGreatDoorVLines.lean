/- The contracts of ValueLines, the model's and the program's. -/
import Derived.Test.YtfmnjclnhppghabGreatDoorGIT
import Derived.Test.YtfmnjclnhppghabGreatDoorGPu
import Derived.Test.YtfmnjclnhppghabGreatDoorGBase
import Derived.BigQuiet
import Derived.Deep.RegionHeld3
import Derived.Deep.RegionLaw
import Derived.Deep.CutRange
namespace Go.Proofs.YtfmnjclnhppghabGreatDoor
open Go Go.RowKit
/-- The lines of a value. -/
noncomputable def linesV (rs : List RuleV) (k : Int) (v : ValueV) : List ByteArray :=
  if fitsV rs k v = true then (if (ruleAt rs k).kind = 6 then partsS rs (ruleAt rs k) v.number 61 v.items else [txt (textV rs k v)]) else []
theorem linesV_len (rs : List RuleV) (k : Int) (v : ValueV) (hs : v.items.length ≤ 1048576) : (linesV rs k v).length ≤ 1048576 := by
  unfold linesV
  split
  · split
    · rw [partsS_length]; exact hs
    · simp
  · simp
theorem Below.grownC {B : Nat} {w0 w w' : World} {row : Option Nat} (h : Below B w0 w) (hg : w.grownBy w' row) (hB : B ≤ w.heap.size) (hr : ∀ g, row = some g → B ≤ g) : Below B w0 w' := h.grown hg hB hr
theorem cells_grown {b : Nat} {vs : List Value} {w w' : World} {row : Option Nat} (h : CellsAt b vs w) (hg : w.grownBy w' row) (hne : ∀ g, row = some g → g ≠ b) : CellsAt b vs w' := h.grown hg fun e => by have := hne b e.symm; exact this rfl
set_option maxRecDepth 100000 in
set_option maxHeartbeats 8000000 in
theorem vlines_spec (a : Option Addr) (rs : List RuleV) (cap n : Nat) (k : Int) (v : ValueV) (vs : List Value) (w : World) (hl : rs.length ≤ 1048576) (hs : ∀ r ∈ rs, Short r) (hp : ∀ r ∈ rs, Spelt r) (hz : fitsV rs k v = true → (textV rs k v).length ≤ 4398046511104) (h : RdC a rs w) (hv : IsVal n v vs w) :
    Calls Tryz.prog 6 #[.agg #[.slice a rs.length cap], .int .i64 k, .agg vs.toArray] w (StrsOut (linesV rs k v) w) := by
  obtain ⟨ab, cb, ai, ci, rfl⟩ := hv.cells
  obtain ⟨w0, hw0⟩ : ∃ w0, w0 = (w.alloc (.cells #[.slice a rs.length cap] 35)).alloc (.cells #[.int .i64 v.number, .slice ab v.bytes.length cb, .slice ai v.items.length ci] 39) := ⟨_, rfl⟩
  have hB : Below w.heap.size w w0 := by subst hw0; exact ((Below.refl _ _).alloc (Nat.le_refl _) _).alloc (by simp) _
  have hD : CellsAt w.heap.size [.slice a rs.length cap] w0 := by subst hw0; exact (CellsAt.new w _ _).below ((Below.refl _ _).alloc (Nat.le_refl _) _)
  have hVC : CellsAt (w.heap.size + 1) [.int .i64 v.number, .slice ab v.bytes.length cb, .slice ai v.items.length ci] w0 := by subst hw0; have h1 := CellsAt.new (w.alloc (.cells #[.slice a rs.length cap] 35)) [.int .i64 v.number, .slice ab v.bytes.length cb, .slice ai v.items.length ci] 39; rw [World.size_alloc] at h1; exact h1
  have HC := Lib.hid (h.below hB)
  have HV := Lib.hid (hv.below hB)
  have HD := Lib.hid hD
  have HVC := Lib.hid hVC
  have HB := Lib.hid hB
  have HS := Lib.hid hs
  have HP := Lib.hid hp
  have hW := Lib.hid hw0
  have HD0 := Lib.hid hD
  have HV0 := Lib.hid hVC
  have HVC0 := Lib.hid hVC
  have HRD0 := Lib.hid (h.rd.below hB)
  have HVI0 := Lib.hid (hv.below hB)
  obtain ⟨fb, hfb⟩ : ∃ b, b = fitsV rs k v := ⟨_, rfl⟩
  have HF := Lib.hid hfb
  have HZ := Lib.hid hz
  clear h hv hB hD hVC hs hp hw0 hfb hz
  go_enter Tryz.func6, Tryz.ntmps6
  go_upto_region 1 with fail
  rw [← hW.out]
  clear hW
  go_upto_region 2 with fail
  obtain ⟨M, hM⟩ : ∃ M, M = w0.heap.size := ⟨_, rfl⟩
  obtain ⟨w1, hw1⟩ : ∃ w1, w1 = w0.alloc (.cells #[] 9) := ⟨_, rfl⟩
  rw [← hw1, ← hM]
  have hb1 : Below w0.heap.size w0 w1 := by subst hw1; exact (Below.refl _ _).alloc (Nat.le_refl _) _
  have hown : w1.ownsRow w0.heap.size 9 1 (.slice (some ⟨M, 0, none⟩) 0 0) ([] : List ByteArray).length (([] : List ByteArray).map Value.string) := by subst hw1; rw [hM]; exact World.ownsRow_made w0 #[] 0 (Nat.le_refl _) (Nat.zero_le _) rfl
  have HM := Lib.hid hM
  replace HD := Lib.hid (HD.out.below hb1)
  replace HVC := Lib.hid (HVC.out.below hb1)
  replace HC := Lib.hid (HC.out.below hb1)
  replace HV := Lib.hid (HV.out.below hb1)
  have HBQ := Lib.hid hb1
  have HO := Lib.hid hown
  clear hown hb1 hw1 hM
  have bx := (HD.out 0 _ rfl).1
  have z0 := (HVC.out 0 _ rfl).1
  have z1 := (HVC.out 1 _ rfl).1
  have z2 := (HVC.out 2 _ rfl).1
  go_wp2_with fail
  refine (fits_spec a rs cap n k v _ _ hl HS.out HP.out HC.out HV.out).mono ?_
  rintro e w2 ⟨rfl, hb2⟩
  rw [← HF.out]
  replace HD := Lib.hid (HD.out.below hb2)
  replace HVC := Lib.hid (HVC.out.below hb2)
  replace HC := Lib.hid (HC.out.below hb2)
  replace HV := Lib.hid (HV.out.below hb2)
  replace HO := Lib.hid (own_below HO.out hb2)
  replace HBQ := Lib.hid (HBQ.out.trans (hb2.mono HBQ.out.size))
  clear hb2 bx z0 z1 z2
  cases fb with
  | false =>
    have hr : Hid (linesV rs k v = []) := by show _ = _; unfold linesV; rw [← HF.out]; rfl
    have HFIN := Lib.hid (HB.out.trans (HBQ.out.mono HB.out.size))
    go_wp2
    go_ret
    rw [hr.out]
    exact ⟨_, _, rfl, ⟨.inl rfl, Nat.le_refl _, (fun e => by cases e)⟩, HFIN.out⟩
  | true =>
    have hf := HF.out.symm
    have hln : linesV rs k v = (if (ruleAt rs k).kind = 6 then partsS rs (ruleAt rs k) v.number 61 v.items else [txt (textV rs k v)]) := by unfold linesV; rw [if_pos hf]
    unfold fitsV at hf
    rw [Bool.and_eq_true] at hf
    obtain ⟨⟨k0, k1⟩, -, hav⟩ := okAt_yes hf.1
    obtain ⟨m, rfl⟩ : ∃ m : Nat, k = (m : Int) := ⟨k.toNat, by omega⟩
    have hm : m < rs.length := by omega
    have htl := HZ.out HF.out.symm
    obtain ⟨hown, hvl⟩ := validV_own hm hf.2
    have hki := allV_kind hav hm
    have hkids := allV_kids hav hm
    rw [ruleAt_at hm] at hln
    have HA := Lib.hid hav
    have HVV := Lib.hid hf.2
    have HTL := Lib.hid htl
    have HHM := Lib.hid hm
    obtain ⟨b0, off, a4, c4, a5, c5, a6, c6, a7, c7, rfl, ⟨d0, d1, d2, d3, d4, d5, d6, d7⟩, r4, r5, r6, r7⟩ := HRD0.out.at m hm
    replace d0 := cell_keep HBQ.out d0
    replace d1 := cell_keep HBQ.out d1
    replace d2 := cell_keep HBQ.out d2
    replace d3 := cell_keep HBQ.out d3
    replace d4 := cell_keep HBQ.out d4
    replace d5 := cell_keep HBQ.out d5
    replace d6 := cell_keep HBQ.out d6
    replace d7 := cell_keep HBQ.out d7
    have hle := textL_le hm hki hown
    generalize rs[m]'hm = r at d0 d1 d2 d3 d4 d5 d6 d7 r4 r5 r6 r7 hown hvl hki hkids hln hle
    obtain ⟨w3, hw3⟩ : ∃ w3, w3 = w2.alloc (.cells #[.string r.name, .int .i64 r.kind, .int .i64 r.size, .bool r.little, .slice a4 r.bytes.length c4, .slice a5 r.names.length c5, .slice a6 r.tags.length c6, .slice a7 r.kids.length c7] 54) := ⟨_, rfl⟩
    obtain ⟨R, hR⟩ : ∃ R, R = w2.heap.size := ⟨_, rfl⟩
    have hb3 : Below w2.heap.size w2 w3 := by subst hw3; exact (Below.refl _ _).alloc (Nat.le_refl _) _
    have hRC : CellsAt R [.string r.name, .int .i64 r.kind, .int .i64 r.size, .bool r.little, .slice a4 r.bytes.length c4, .slice a5 r.names.length c5, .slice a6 r.tags.length c6, .slice a7 r.kids.length c7] w3 := by subst hw3 hR; exact CellsAt.new w2 _ _
    have hMR : M < R := by have h1 := HM.out; have h2 := (World.ownsRow.lt (w := w2) HO.out M rfl).2; omega
    have hR3 : R < w3.heap.size := cell_lt (hRC 0 _ rfl).1
    have HLN := Lib.hid hln
    have HW3 := Lib.hid hw3
    have HRE := Lib.hid hR
    have HIT : Hid (∃ n', n = n' + 1) := by cases n with | zero => exact HV.out.elim | succ n' => exact ⟨n', rfl⟩
    obtain ⟨n', rfl⟩ := HIT.out
    obtain ⟨ab2, cb2, ai2, ci2, e2, hbR, hit⟩ := HVI0.out
    simp only [List.cons.injEq, Value.slice.injEq, true_and, and_true] at e2
    have bx := (HD.out 0 _ rfl).1
    go_upto_region 5 with fail
    rw [← HW3.out, ← HRE.out]
    clear HW3 HRE bx d0 d1 d2 d3 d4 d5 d6 d7
    replace HD := Lib.hid (HD.out.below hb3)
    replace HVC := Lib.hid (HVC.out.below hb3)
    replace HC := Lib.hid (HC.out.below hb3)
    replace HV := Lib.hid (HV.out.below hb3)
    replace HO := Lib.hid (own_below HO.out hb3)
    replace HBQ := Lib.hid (HBQ.out.trans (hb3.mono HBQ.out.size))
    have HRC := Lib.hid hRC
    have y1 := (hRC 1 _ rfl).1
    clear hb3 hRC hw3 hR
    by_cases h6 : r.kind = 6
    · have hk6 : (r.kind != 6) = false := by simp [h6]
      rw [if_pos h6] at hln
      have hk61 := kindI_6 hki h6
      have hspl := seq_spelt hki h6
      have hown6 := hown
      simp [ownB, h6] at hown6
      have hil := hown6.2.2
      obtain ⟨SS, hSS⟩ : ∃ SS, SS = partsS rs r v.number 61 v.items := ⟨_, rfl⟩
      have hSL : SS.length = v.items.length := by rw [hSS, partsS_length]
      rw [← hSS] at hln
      have HLN2 := Lib.hid hln
      have HSS := Lib.hid hSS
      have HSL := Lib.hid hSL
      have HKN := Lib.hid hspl
      have HK6 := Lib.hid h6
      have hq8 : v.items.length ≤ 8 := by omega
      have HVL := Lib.hid hvl
      have htot : (textL rs r v.number 0 v.items).length ≤ 4398046511104 := by omega
      have HTT := Lib.hid htot
      have HNL : Hid (r.names.length = v.items.length ∧ r.kids.length = v.items.length) := ⟨by omega, by omega⟩
      have HKQ : Hid (∀ q (hq : q < v.items.length) (hq2 : q < r.kids.length), ∃ mk : Nat, (r.kids[q] = (mk : Int) ∧ itemR r v.number q = (mk : Int)) ∧ mk < rs.length) := fun q hq hq2 => by
        have h1 := hkids _ (List.getElem_mem hq2)
        have h2 : itemR r v.number q = r.kids[q] := by unfold itemR; rw [if_neg (by omega), if_pos h6, if_pos hq2]; simp [List.getD, List.getElem?_eq_getElem hq2]
        exact ⟨r.kids[q].toNat, ⟨by omega, by omega⟩, by omega⟩
      have HR50 := Lib.hid r5
      have HR70 := Lib.hid r7
      have HIT0 : Hid (∀ j (h : j < v.items.length), ∃ b off cs', ai2 = some ⟨b, off, none⟩ ∧ IsVal n' v.items[j] cs' w0 ∧ ∀ i u, cs'[i]? = some u → w0.cell? ⟨b, off + j * 3 + i, none⟩ = some u) := hit
      obtain ⟨⟨-, -⟩, rfl, rfl⟩ := e2
      have HO2 : Hid (∀ g, (Value.slice (some ⟨M, 0, none⟩) 0 0).ownBlock = some g → g ≠ R) := fun g e => by have e2 : some M = some g := e; injection e2 with e2; omega
      have hwB : w0.heap.size ≤ w3.heap.size := HBQ.out.size
      clear hil hln hown hown6 hvl hki hkids r4 r5 r6 r7 hbR hit hSS hSL hspl hk61 htot hle h6
      go_wp2
      go_loopw [7, 9] (fun V i W => ∃ (q : Nat) (V0 : Value) (zs : List ByteArray), q ≤ v.items.length ∧ i = .int .i64 q ∧ V0 = V ∧ Hid (zs = SS.take q) ∧ Hid (W.ownsRow w0.heap.size 9 1 V0 zs.length (zs.map Value.string)) ∧ Hid (Below w0.heap.size w0 W) ∧ Hid (CellsAt R [.string r.name, .int .i64 r.kind, .int .i64 r.size, .bool r.little, .slice a4 r.bytes.length c4, .slice a5 r.names.length c5, .slice a6 r.tags.length c6, .slice a7 r.kids.length c7] W) ∧ Hid (∀ g, V0.ownBlock = some g → g ≠ R)) (fun _ i _ => v.items.length - (intOf i).toNat)
      case atStart => exact ⟨0, _, [], Nat.zero_le _, rfl, rfl, rfl, HO, HBQ, HRC, HO2⟩
      case round =>
        clear HO HBQ HRC HO2 y1
        obtain ⟨q, V0, zs, hql, rfl, rfl, HZS, HO, HBQ, HRC, HO2⟩ := hrel
        have q0 : (0 : Int) ≤ (q : Int) := by omega
        have z2 := (HVC0.out.below HBQ.out 2 _ rfl).1
        by_cases hlt : q < v.items.length
        · have q1 : (q : Int) < (v.items.length : Int) := by omega
          obtain ⟨nl, kl⟩ := HNL.out
          have hqn : q < r.names.length := by omega
          have hqk : q < r.kids.length := by omega
          obtain ⟨mk, ⟨hmk1, hmk2⟩, hmkr⟩ := HKQ.out q hlt hqk
          obtain ⟨bn, on, hbn, hn⟩ := HR50.out q hqn
          obtain ⟨bk, ok, hbk, hkc⟩ := HR70.out q hqk
          rw [hmk1] at hkc
          have hns := HKN.out _ (List.getElem_mem hqn)
          have hvi := validL_at HVL.out q hlt
          rw [Nat.zero_add, hmk2] at hvi
          have hpart := textL_part (rs := rs) (r := r) (x := v.number) hlt
          have hill := itemT_len rs r v.number q v.items[q]
          rw [hmk2] at hill
          have htot := HTT.out
          have hUl : (textV rs (mk : Int) v.items[q]).length ≤ 4398046511104 := by omega
          have hlt2 : q < SS.length := by rw [HSL.out]; exact hlt
          have hnx : SS[q] = r.names[q] ++ (⟨#[61]⟩ : ByteArray) ++ txt (textV rs (mk : Int) v.items[q]) := by
            have h1 := partsS_at (rs := rs) (r := r) (x := v.number) (c := 61) hlt (by rw [partsS_length]; exact hlt)
            rw [hmk2] at h1
            have e : r.names.getD q ⟨#[]⟩ = r.names[q] := by simp [List.getD, List.getElem?_eq_getElem hqn]
            have e2 : txt (labelT r q 61) = r.names[q] ++ (⟨#[61]⟩ : ByteArray) := by unfold labelT; rw [if_pos HK6.out, e, show (⟨#[61]⟩ : ByteArray) = txt [61] from rfl, ← txt_add, txt_lst]
            rw [e2] at h1
            simp only [HSS.out]
            exact h1
          have hztake : zs ++ [SS[q]] = SS.take (q + 1) := by rw [HZS.out, List.take_succ_eq_append_getElem hlt2]
          have hzl : zs.length = q := by rw [HZS.out, List.length_take]; omega
          obtain ⟨bi, oi, cs', hai, hiv, hcc⟩ := HIT0.out q hlt
          subst hai
          obtain ⟨ab', cb', ai', ci', rfl⟩ := hiv.cells
          obtain ⟨it, hitt⟩ : ∃ it, it = v.items[q] := ⟨_, rfl⟩
          rw [← hitt] at hiv hvi hUl hnx hcc
          obtain ⟨nm, hnm⟩ : ∃ nm, nm = r.names[q] := ⟨_, rfl⟩
          rw [← hnm] at hnx hns hn
          obtain ⟨U, hU⟩ : ∃ U, U = txt (textV rs (mk : Int) it) := ⟨_, rfl⟩
          have hUs : U.size ≤ 4398046511104 := by rw [hU, txt_size]; exact hUl
          rw [← hU] at hnx
          obtain ⟨NX, hNX⟩ : ∃ NX, NX = SS[q] := ⟨_, rfl⟩
          have hn1 : (nm ++ (⟨#[61]⟩ : ByteArray)).size = nm.size + 1 := ByteArray.size_append
          have hadd1 : ∀ W, (Op.stringOp .add nm ⟨#[61]⟩).run Tryz.prog W = .ok (.string (nm ++ ⟨#[61]⟩)) W := fun W => run_string_add_sum W _ _ (by have : (⟨#[61]⟩ : ByteArray).size = 1 := rfl; omega)
          have hadd : ∀ W, (Op.stringOp .add (nm ++ (⟨#[61]⟩ : ByteArray)) U).run Tryz.prog W = .ok (.string NX) W := fun W => by rw [run_string_add_sum W _ _ (by omega), hNX, hnx]
          rw [← hNX] at hztake
          have x0 := hcc 0 _ rfl
          have x1 := hcc 1 _ rfl
          have x2 := hcc 2 _ rfl
          simp only [Nat.add_zero] at x0
          have HIV := Lib.hid hiv
          have HVI := Lib.hid hvi
          have HU := Lib.hid hU
          have HZT := Lib.hid hztake
          obtain ⟨xv, cv, rfl, -⟩ := own_row (f := Value.string) HO.out
          have HSW : Hid (∀ W, Below w0.heap.size w0 W → CellsAt R [.string r.name, .int .i64 r.kind, .int .i64 r.size, .bool r.little, .slice a4 r.bytes.length c4, .slice a5 r.names.length c5, .slice a6 r.tags.length c6, .slice a7 r.kids.length c7] W → W.cell? ⟨w.heap.size, 0, none⟩ = some (.slice (some ⟨b0, off, none⟩) rs.length cap) ∧ W.cell? ⟨R, 5, none⟩ = some (.slice (some ⟨bn, on, none⟩) r.names.length c5) ∧ W.cell? ⟨bn, on + q, none⟩ = some (.string nm) ∧ W.cell? ⟨R, 7, none⟩ = some (.slice (some ⟨bk, ok, none⟩) r.kids.length c7) ∧ W.cell? ⟨bk, ok + q, none⟩ = some (.int .i64 (mk : Int)) ∧ W.cell? ⟨w.heap.size + 1, 2, none⟩ = some (.slice (some ⟨bi, oi, none⟩) v.items.length ci) ∧ W.cell? ⟨bi, oi + q * 3, none⟩ = some (.int .i64 it.number) ∧ W.cell? ⟨bi, oi + q * 3 + 1, none⟩ = some (.slice ab' it.bytes.length cb') ∧ W.cell? ⟨bi, oi + q * 3 + 2, none⟩ = some (.slice ai' it.items.length ci')) := fun W hW hC => by
            rw [hbn, hbk] at hC
            exact ⟨(HD0.out.below hW 0 _ rfl).1, (hC 5 _ rfl).1, cell_keep hW hn, (hC 7 _ rfl).1, cell_keep hW hkc, (HV0.out.below hW 2 _ rfl).1, cell_keep hW x0, cell_keep hW x1, cell_keep hW x2⟩
          have HR : Hid (CellsAt R [.string r.name, .int .i64 r.kind, .int .i64 r.size, .bool r.little, .slice a4 r.bytes.length c4, .slice a5 r.names.length c5, .slice a6 r.tags.length c6, .slice a7 r.kids.length c7] wr.drew) := HRC.out
          have HBD : Hid (Below w0.heap.size w0 wr.drew) := below_drewN HBQ.out 1
          have HOD : Hid (wr.drew.ownsRow w0.heap.size 9 1 (.slice xv zs.length cv) zs.length (zs.map Value.string)) := HO.out
          clear hn hkc hbn hbk hmk1 hmk2 hvi hpart hill htot hnx hztake hiv hcc hitt hnm hU hNX x0 x1 x2 HRC HBQ HO nl kl hns
          rw [hzl] at HOD ⊢
          go_upto_region 10 with fail
          clear z2
          refine wp_region_held_drew (S := (fun W => W.cell? ⟨w.heap.size, 0, none⟩ = some (.slice (some ⟨b0, off, none⟩) rs.length cap) ∧ W.cell? ⟨R, 5, none⟩ = some (.slice (some ⟨bn, on, none⟩) r.names.length c5) ∧ W.cell? ⟨bn, on + q, none⟩ = some (.string nm) ∧ W.cell? ⟨R, 7, none⟩ = some (.slice (some ⟨bk, ok, none⟩) r.kids.length c7) ∧ W.cell? ⟨bk, ok + q, none⟩ = some (.int .i64 (mk : Int)) ∧ W.cell? ⟨w.heap.size + 1, 2, none⟩ = some (.slice (some ⟨bi, oi, none⟩) v.items.length ci) ∧ W.cell? ⟨bi, oi + q * 3, none⟩ = some (.int .i64 it.number) ∧ W.cell? ⟨bi, oi + q * 3 + 1, none⟩ = some (.slice ab' it.bytes.length cb') ∧ W.cell? ⟨bi, oi + q * 3 + 2, none⟩ = some (.slice ai' it.items.length ci'))) (by kernel_rfl) ?_ (fun hHeld => ?_)
          · (try dsimp only); exact HSW.out _ HBD.out HR.out
          refine wpAnyH_take (i := 0) (v := ?v1) (by simp only [List.getElem?_toArray, List.getElem?_cons_zero]; rfl) (by kernel_rfl) (by kernel_rfl) (by kernel_rfl) (by exact fun _ _ _ h => h) (Or.inl ⟨by rfl, ?hy1⟩) (by assumption) ?rest1
          case hy1 => ((intro W hSw; (try dsimp only at hSw); go_simp); (try with_reducible rfl))
          simp only [Act.put, List.setIfInBounds_toArray, List.set_cons_zero, List.set_cons_succ]
          refine wpAnyH_take (i := 1) (v := ?v2) (by simp only [List.getElem?_toArray, List.getElem?_cons_succ, List.getElem?_cons_zero]; rfl) (by kernel_rfl) (by kernel_rfl) (by kernel_rfl) (by exact fun _ _ _ h => h) (Or.inl ⟨by rfl, ?hy2⟩) (by assumption) ?rest2
          case hy2 => ((intro W hSw; (try dsimp only at hSw); go_simp); (try with_reducible rfl))
          simp only [Act.put, List.setIfInBounds_toArray, List.set_cons_zero, List.set_cons_succ]
          refine wpAnyH_take (i := 2) (v := ?v3) (by simp only [List.getElem?_toArray, List.getElem?_cons_succ, List.getElem?_cons_zero]; rfl) (by kernel_rfl) (by kernel_rfl) (by kernel_rfl) (by exact fun _ _ _ h => h) (Or.inl ⟨by rfl, ?hy3⟩) (by assumption) ?rest3
          case hy3 => ((intro W hSw; (try dsimp only at hSw); go_simp); (try with_reducible rfl))
          simp only [Act.put, List.setIfInBounds_toArray, List.set_cons_zero, List.set_cons_succ]
          refine wpAnyH_take (i := 3) (v := ?v4) (by simp only [List.getElem?_toArray, List.getElem?_cons_succ, List.getElem?_cons_zero]; rfl) (by kernel_rfl) (by kernel_rfl) (by kernel_rfl) (by exact fun _ _ _ h => h) (Or.inl ⟨by rfl, ?hy4⟩) (by assumption) ?rest4
          case hy4 => ((intro W hSw; (try dsimp only at hSw); go_simp); (try with_reducible rfl))
          simp only [Act.put, List.setIfInBounds_toArray, List.set_cons_zero, List.set_cons_succ]
          refine wpAnyH_take (i := 4) (v := ?v5) (by simp only [List.getElem?_toArray, List.getElem?_cons_succ, List.getElem?_cons_zero]; rfl) (by kernel_rfl) (by kernel_rfl) (by kernel_rfl) (by exact fun _ _ _ h => h) (Or.inl ⟨by rfl, ?hy5⟩) (by assumption) ?rest5
          case hy5 => ((intro W hSw; (try dsimp only at hSw); go_simp); (try with_reducible rfl))
          simp only [Act.put, List.setIfInBounds_toArray, List.set_cons_zero, List.set_cons_succ]
          refine wpAnyH_take (i := 5) (v := ?v6) (by simp only [List.getElem?_toArray, List.getElem?_cons_succ, List.getElem?_cons_zero]; rfl) (by kernel_rfl) (by kernel_rfl) (by kernel_rfl) (by exact fun _ _ _ h => h) (Or.inl ⟨by rfl, ?hy6⟩) (by assumption) ?rest6
          case hy6 => ((intro W hSw; (try dsimp only at hSw); go_simp); (try with_reducible rfl))
          simp only [Act.put, List.setIfInBounds_toArray, List.set_cons_zero, List.set_cons_succ]
          refine wpAnyH_take (i := 6) (v := ?v7) (by simp only [List.getElem?_toArray, List.getElem?_cons_succ, List.getElem?_cons_zero]; rfl) (by kernel_rfl) (by kernel_rfl) (by kernel_rfl) (by exact fun _ _ _ h => h) (Or.inl ⟨by rfl, ?hy7⟩) (by assumption) ?rest7
          case hy7 => ((intro W hSw; (try dsimp only at hSw); go_simp); (try with_reducible rfl))
          simp only [Act.put, List.setIfInBounds_toArray, List.set_cons_zero, List.set_cons_succ]
          refine wpAnyH_take (i := 7) (v := ?v8) (by simp only [List.getElem?_toArray, List.getElem?_cons_succ, List.getElem?_cons_zero]; rfl) (by kernel_rfl) (by kernel_rfl) (by kernel_rfl) (by exact fun _ _ _ h => h) (Or.inl ⟨by rfl, ?hy8⟩) (by assumption) ?rest8
          case hy8 => ((intro W hSw; (try dsimp only at hSw); go_simp); (try with_reducible rfl))
          simp only [Act.put, List.setIfInBounds_toArray, List.set_cons_zero, List.set_cons_succ]
          refine wpAnyH_take (i := 8) (v := ?v9) (by simp only [List.getElem?_toArray, List.getElem?_cons_succ, List.getElem?_cons_zero]; rfl) (by kernel_rfl) (by kernel_rfl) (by kernel_rfl) (by exact fun _ _ _ h => h) (Or.inl ⟨by rfl, ?hy9⟩) (by assumption) ?rest9
          case hy9 => ((intro W hSw; (try dsimp only at hSw); go_simp); (try with_reducible rfl))
          simp only [Act.put, List.setIfInBounds_toArray, List.set_cons_zero, List.set_cons_succ]
          refine wpAnyH_take (i := 9) (v := ?v10) (by simp only [List.getElem?_toArray, List.getElem?_cons_succ, List.getElem?_cons_zero]; rfl) (by kernel_rfl) (by kernel_rfl) (by kernel_rfl) (by exact fun _ _ _ h => h) (Or.inl ⟨by rfl, ?hy10⟩) (by assumption) ?rest10
          case hy10 => ((intro W hSw; (try dsimp only at hSw); go_simp); (try with_reducible rfl))
          simp only [Act.put, List.setIfInBounds_toArray, List.set_cons_zero, List.set_cons_succ]
          refine wpAnyH_take (i := 10) (v := ?v11) (by simp only [List.getElem?_toArray, List.getElem?_cons_succ, List.getElem?_cons_zero]; rfl) (by kernel_rfl) (by kernel_rfl) (by kernel_rfl) (by exact fun _ _ _ h => h) (Or.inl ⟨by rfl, ?hy11⟩) (by assumption) ?rest11
          case hy11 => ((intro W hSw; (try dsimp only at hSw); go_simp); (try with_reducible rfl))
          simp only [Act.put, List.setIfInBounds_toArray, List.set_cons_zero, List.set_cons_succ]
          refine wpAnyH_take (i := 11) (v := ?v12) (by simp only [List.getElem?_toArray, List.getElem?_cons_succ, List.getElem?_cons_zero]; rfl) (by kernel_rfl) (by kernel_rfl) (by kernel_rfl) (by exact fun _ _ _ h => h) (Or.inl ⟨by rfl, ?hy12⟩) (by assumption) ?rest12
          case hy12 => ((intro W hSw; (try dsimp only at hSw); go_simp); (try with_reducible rfl))
          simp only [Act.put, List.setIfInBounds_toArray, List.set_cons_zero, List.set_cons_succ]
          refine wpAnyH_take (i := 12) (v := ?v13) (by simp only [List.getElem?_toArray, List.getElem?_cons_succ, List.getElem?_cons_zero]; rfl) (by kernel_rfl) (by kernel_rfl) (by kernel_rfl) (by exact fun _ _ _ h => h) (Or.inl ⟨by rfl, ?hy13⟩) (by assumption) ?rest13
          case hy13 => ((intro W hSw; (try dsimp only at hSw); go_simp); (try with_reducible rfl))
          simp only [Act.put, List.setIfInBounds_toArray, List.set_cons_zero, List.set_cons_succ]
          refine wpAnyH_take (i := 13) (v := ?v14) (by simp only [List.getElem?_toArray, List.getElem?_cons_succ, List.getElem?_cons_zero]; rfl) (by kernel_rfl) (by kernel_rfl) (by kernel_rfl) (by exact fun _ _ _ h => h) (Or.inl ⟨by rfl, ?hy14⟩) (by assumption) ?rest14
          case hy14 => ((intro W hSw; (try dsimp only at hSw); go_simp); (try with_reducible rfl))
          simp only [Act.put, List.setIfInBounds_toArray, List.set_cons_zero, List.set_cons_succ]
          refine wpAnyH_take (i := 14) (v := ?v15) (by simp only [List.getElem?_toArray, List.getElem?_cons_succ, List.getElem?_cons_zero]; rfl) (by kernel_rfl) (by kernel_rfl) (by kernel_rfl) (by exact fun _ _ _ h => h) (Or.inl ⟨by rfl, ?hy15⟩) (by assumption) ?rest15
          case hy15 => ((intro W hSw; (try dsimp only at hSw); go_simp); (try with_reducible rfl))
          simp only [Act.put, List.setIfInBounds_toArray, List.set_cons_zero, List.set_cons_succ]
          refine wpAnyH_take (i := 15) (v := ?v16) (by simp only [List.getElem?_toArray, List.getElem?_cons_succ, List.getElem?_cons_zero]; rfl) (by kernel_rfl) (by kernel_rfl) (by kernel_rfl) (by exact fun _ _ _ h => h) (Or.inl ⟨by rfl, ?hy16⟩) (by assumption) ?rest16
          case hy16 => ((intro W hSw; (try dsimp only at hSw); go_simp); (try with_reducible rfl))
          simp only [Act.put, List.setIfInBounds_toArray, List.set_cons_zero, List.set_cons_succ]
          refine wpAnyH_take (i := 16) (v := ?v17) (by simp only [List.getElem?_toArray, List.getElem?_cons_succ, List.getElem?_cons_zero]; rfl) (by kernel_rfl) (by kernel_rfl) (by kernel_rfl) (by exact fun _ _ _ h => h) (Or.inl ⟨by rfl, ?hy17⟩) (by assumption) ?rest17
          case hy17 => ((intro W hSw; (try dsimp only at hSw); go_simp); (try with_reducible rfl))
          simp only [Act.put, List.setIfInBounds_toArray, List.set_cons_zero, List.set_cons_succ]
          refine wpAnyH_take (i := 17) (v := ?v18) (by simp only [List.getElem?_toArray, List.getElem?_cons_succ, List.getElem?_cons_zero]; rfl) (by kernel_rfl) (by kernel_rfl) (by kernel_rfl) (by exact fun _ _ _ h => h) (Or.inl ⟨by rfl, ?hy18⟩) (by assumption) ?rest18
          case hy18 => ((intro W hSw; (try dsimp only at hSw); go_simp); (try with_reducible rfl))
          simp only [Act.put, List.setIfInBounds_toArray, List.set_cons_zero, List.set_cons_succ]
          refine wpAnyH_ready (rs := [18]) (by kernel_rfl) (by simp) ?_
          refine AllReadyH.cons (by simp only [List.getElem?_toArray, List.getElem?_cons_succ, List.getElem?_cons_zero]; rfl) (fun K hK => ?_) AllReadyH.nil
          go_simp
          (go_at_call 21; refine (stext_spec _ rs cap hl HA.out n' it _ mk _ hmkr (HRD0.out.below HBD.out) (HIV.out.below HBD.out) HVI.out hUl).mono ?_; rintro e w6 ⟨rfl, hb6⟩; rw [← HU.out]; replace HR := Lib.hid (HR.out.below hb6); replace HOD := Lib.hid (own_below HOD.out hb6); replace HBD := Lib.hid (HBD.out.trans (hb6.mono HBD.out.size)); clear hb6)
          go_wp2_with fail
          refine hK.out _ _ ?_ (fun hHeld => ?_)
          · (try dsimp only); exact HSW.out _ HBD.out HR.out
          clear hK K
          refine wpAnyH_take (i := 19) (v := ?v19) (by simp only [List.getElem?_toArray, List.getElem?_cons_succ, List.getElem?_cons_zero]; rfl) (by kernel_rfl) (by kernel_rfl) (by kernel_rfl) (by exact fun _ _ _ h => h) (Or.inl ⟨by rfl, ?hy19⟩) (by assumption) ?rest19
          case hy19 => ((intro W hSw; (try dsimp only at hSw); go_simp); (try with_reducible rfl))
          simp only [Act.put, List.setIfInBounds_toArray, List.set_cons_zero, List.set_cons_succ]
          obtain ⟨w7, hw7⟩ : ∃ w7, w7 = w6 := ⟨_, rfl⟩
          have HR8 : Hid (CellsAt R [.string r.name, .int .i64 r.kind, .int .i64 r.size, .bool r.little, .slice a4 r.bytes.length c4, .slice a5 r.names.length c5, .slice a6 r.tags.length c6, .slice a7 r.kids.length c7] (w6.alloc (.cells #[.string NX] 9))) := HR.out.below ((Below.refl _ _).alloc (Nat.le_refl _) _)
          have HBD8 : Hid (Below w0.heap.size w0 (w6.alloc (.cells #[.string NX] 9))) := HBD.out.alloc HBD.out.size _
          clear hw7 w7
          refine wpAnyH_ready (rs := [20]) (by kernel_rfl) (by simp) ?_
          refine AllReadyH.cons (by simp only [List.getElem?_toArray, List.getElem?_cons_succ, List.getElem?_cons_zero]; rfl) (fun K hK => ?_) AllReadyH.nil
          go_simp
          refine hK.out _ _ ?_ (fun hHeld => ?_)
          · (try dsimp only); exact HSW.out _ HBD8.out HR8.out
          clear hK K
          refine wpAnyH_ready (rs := [21]) (by kernel_rfl) (by simp) ?_
          refine AllReadyH.cons (by simp only [List.getElem?_toArray, List.getElem?_cons_succ, List.getElem?_cons_zero]; rfl) (fun K hK => ?_) AllReadyH.nil
          have HOF : Hid (w6.ownsRow w0.heap.size 9 1 (.slice xv q cv) zs.length (zs.map Value.string)) := by show World.ownsRow _ _ _ _ _ _ _; rw [hzl]; exact HOD.out
          refine step_pushF (f := Value.string) 31 9 (.string ⟨#[]⟩) 16 Tryz.underlying31 infoStr rfl (by rfl) (.tmp 39) (.tmp 59) (by rfl) w0.heap.size (.slice xv q cv) zs NX rfl w6 (by simp [Act.eval]) (by simp [Act.eval]) HOF.out (by unfold maxLen; omega) (by omega) HBD.out.size ?_
          intro v' w9 hown hg hbk
          have HO9 := Lib.hid hown
          have hne := HO2.out
          rw [hzl] at hne
          have HR9 := Lib.hid (cells_grown HR.out hg hne)
          have HB9 := Lib.hid (HBD.out.grown hg HBD.out.size (fun g e => (World.ownsRow.lt (w := w6) HOD.out g e).1))
          have hRw : R < w6.heap.size := cell_lt (HR.out 0 _ rfl).1
          have HO29 : Hid (∀ g, v'.ownBlock = some g → g ≠ R) := fun g e => by rcases hbk with h1 | ⟨g2, h1, h2⟩; exact hne g (h1 ▸ e); rw [h1] at e; injection e with e; omega
          obtain ⟨xn, cn, rfl, -⟩ := own_row (f := Value.string) hown
          have hzl2 : (zs ++ [NX]).length = q + 1 := by simp; omega
          rw [hzl2] at HO29 ⊢
          clear hown hg hbk hne
          refine hK.out _ _ ?_ (fun hHeld => ?_)
          · (try dsimp only); exact HSW.out _ HB9.out HR9.out
          clear hK K
          simp only [Act.put, List.setIfInBounds_toArray, List.set_cons_zero, List.set_cons_succ]
          refine wpAnyH_take (i := 22) (v := ?v20) (by simp only [List.getElem?_toArray, List.getElem?_cons_succ, List.getElem?_cons_zero]; rfl) (by kernel_rfl) (by kernel_rfl) (by kernel_rfl) (by exact fun _ _ _ h => h) (Or.inl ⟨by rfl, ?hy20⟩) (by assumption) ?rest20
          case hy20 => ((intro W hSw; (try dsimp only at hSw); go_simp); (try with_reducible rfl))
          simp only [Act.put, List.setIfInBounds_toArray, List.set_cons_zero, List.set_cons_succ]
          refine wpAnyH_done (by kernel_rfl) ?_ _
          go_wp2
          go_roundw
          case rel => exact ⟨q + 1, .slice xn (q + 1) cn, zs ++ [NX], by omega, by go_num, rfl, HZT, by have h9 := HO9.out; rw [hzl2] at h9; show World.ownsRow _ _ _ _ _ _ _; rw [hzl2]; exact h9, HB9, HR9, HO29⟩
          case measure => simp [intOf]; omega
        · have q1 : ¬ (q : Int) < (v.items.length : Int) := by omega
          obtain rfl : q = v.items.length := by omega
          have hzs : zs = SS := by rw [HZS.out, ← HSL.out, List.take_length]
          obtain ⟨x, c, rfl, hrow⟩ := own_row (f := Value.string) HO.out
          have HROW := Lib.hid (hrow.more HB.out.size)
          have HFIN := Lib.hid (HB.out.trans (HBQ.out.mono HB.out.size))
          clear hrow HO HBQ HRC
          subst hzs
          go_wp2
          go_ret
          rw [HLN2.out]
          exact ⟨x, c, rfl, HROW.out, HFIN.out⟩
    · have hk6 : (r.kind != 6) = true := by simp [h6]
      rw [if_neg h6] at hln
      have HLN2 := Lib.hid hln
      have bx := (HD.out 0 _ rfl).1
      have z0 := (HVC.out 0 _ rfl).1
      have z1 := (HVC.out 1 _ rfl).1
      have z2 := (HVC.out 2 _ rfl).1
      clear hln h6 hown hvl hki hkids r4 r5 r6 r7 hbR hit e2 hle
      go_upto_region 6 with fail
      go_wp2_with fail
      refine (stext_spec _ rs cap hl HA.out (n' + 1) v _ m _ HHM.out HC.out.rd HV.out HVV.out HTL.out).mono ?_
      rintro e w4 ⟨rfl, hb4⟩
      replace HO := Lib.hid (own_below HO.out hb4)
      replace HBQ := Lib.hid (HBQ.out.trans (hb4.mono HBQ.out.size))
      clear hb4 bx z0 z1 z2 y1
      generalize txt (textV rs (m : Int) v) = T at HLN2 ⊢
      go_wp2_with (at_builtin; refine wp_pushF 31 9 (.string ⟨#[]⟩) 16 Tryz.underlying31 infoStr rfl rfl (.tmp 25) (.tmp 30) rfl w0.heap.size (.slice (some ⟨M, 0, none⟩) 0 0) ([] : List ByteArray) T rfl w4 (by simp [Act.eval]) (by simp [Act.eval]) HO.out (by unfold maxLen; simp) (by simp) HBQ.out.size ?_)
      intro v' w5 hown hg hbk
      obtain ⟨x, c, rfl, hrow⟩ := own_row (f := Value.string) (xs := [T]) (by simpa using hown)
      have HROW := Lib.hid (hrow.more HB.out.size)
      have HFIN := Lib.hid (HB.out.trans ((HBQ.out.grown hg HBQ.out.size (fun g e => (World.ownsRow.lt (w := w4) HO.out g e).1)).mono HB.out.size))
      clear hown hg hbk hrow
      go_wp2
      go_ret
      rw [HLN2.out]
      exact ⟨x, c, rfl, HROW.out, HFIN.out⟩
set_option maxRecDepth 100000 in
set_option maxHeartbeats 8000000 in
theorem vlines_impl (a : Option Addr) (rs : List RuleV) (cap n : Nat) (k : Int) (v : ValueV) (vs : List Value) (w : World) (hl : rs.length ≤ 1048576) (hs : ∀ r ∈ rs, Short r) (hp : ∀ r ∈ rs, Spelt r) (hz : fitsV rs k v = true → (textV rs k v).length ≤ 4398046511104) (h : RdC a rs w) (hv : IsVal n v vs w) (htab : PowTab w) :
    Calls Tryz.prog 9 #[.agg #[.slice a rs.length cap], .int .i64 k, .agg vs.toArray] w (StrsOut (linesV rs k v) w) := by
  obtain ⟨ab, cb, ai, ci, rfl⟩ := hv.cells
  obtain ⟨w0, hw0⟩ : ∃ w0, w0 = (w.alloc (.cells #[.slice a rs.length cap] 35)).alloc (.cells #[.int .i64 v.number, .slice ab v.bytes.length cb, .slice ai v.items.length ci] 39) := ⟨_, rfl⟩
  have hB : Below w.heap.size w w0 := by subst hw0; exact ((Below.refl _ _).alloc (Nat.le_refl _) _).alloc (by simp) _
  have hD : CellsAt w.heap.size [.slice a rs.length cap] w0 := by subst hw0; exact (CellsAt.new w _ _).below ((Below.refl _ _).alloc (Nat.le_refl _) _)
  have hVC : CellsAt (w.heap.size + 1) [.int .i64 v.number, .slice ab v.bytes.length cb, .slice ai v.items.length ci] w0 := by subst hw0; have h1 := CellsAt.new (w.alloc (.cells #[.slice a rs.length cap] 35)) [.int .i64 v.number, .slice ab v.bytes.length cb, .slice ai v.items.length ci] 39; rw [World.size_alloc] at h1; exact h1
  have HC := Lib.hid (h.below hB)
  have HV := Lib.hid (hv.below hB)
  have HD := Lib.hid hD
  have HVC := Lib.hid hVC
  have HB := Lib.hid hB
  have HS := Lib.hid hs
  have HP := Lib.hid hp
  have hW := Lib.hid hw0
  have HD0 := Lib.hid hD
  have HV0 := Lib.hid hVC
  have HVC0 := Lib.hid hVC
  have HRD0 := Lib.hid (h.rd.below hB)
  have HVI0 := Lib.hid (hv.below hB)
  obtain ⟨fb, hfb⟩ : ∃ b, b = fitsV rs k v := ⟨_, rfl⟩
  have HF := Lib.hid hfb
  have HZ := Lib.hid hz
  have HT := Lib.hid (htab.below hB)
  have bx := (hD 0 _ rfl).1
  have z0 := (hVC 0 _ rfl).1
  have z1 := (hVC 1 _ rfl).1
  have z2 := (hVC 2 _ rfl).1
  clear h hv hB hD hVC hs hp hw0 hfb hz htab
  go_enter Tryz.func9, Tryz.ntmps9
  go_upto_region 1 with fail
  rw [← hW.out]
  clear hW
  go_wp2_with fail
  refine (fits_impl a rs cap n k v _ _ hl HS.out HP.out HC.out HV.out).mono ?_
  rintro e w2 ⟨rfl, hb2⟩
  rw [← HF.out]
  replace HD := Lib.hid (HD.out.below hb2)
  replace HVC := Lib.hid (HVC.out.below hb2)
  replace HC := Lib.hid (HC.out.below hb2)
  replace HV := Lib.hid (HV.out.below hb2)
  replace HT := Lib.hid (HT.out.below hb2)
  have HBQ := Lib.hid hb2
  clear hb2 bx z0 z1 z2
  cases fb with
  | false =>
    have hr : Hid (linesV rs k v = []) := by show _ = _; unfold linesV; rw [← HF.out]; rfl
    have HFIN := Lib.hid ((HB.out.trans (HBQ.out.mono HB.out.size)).alloc (HB.out.trans (HBQ.out.mono HB.out.size)).size (.cells #[] 9))
    go_wp2
    go_ret
    rw [hr.out]
    exact ⟨_, _, rfl, ⟨.inl rfl, Nat.le_refl _, (fun e => by cases e)⟩, HFIN.out⟩
  | true =>
    have hf := HF.out.symm
    have hln : linesV rs k v = (if (ruleAt rs k).kind = 6 then partsS rs (ruleAt rs k) v.number 61 v.items else [txt (textV rs k v)]) := by unfold linesV; rw [if_pos hf]
    unfold fitsV at hf
    rw [Bool.and_eq_true] at hf
    obtain ⟨⟨k0, k1⟩, -, hav⟩ := okAt_yes hf.1
    obtain ⟨m, rfl⟩ : ∃ m : Nat, k = (m : Int) := ⟨k.toNat, by omega⟩
    have hm : m < rs.length := by omega
    have htl := HZ.out HF.out.symm
    have HA := Lib.hid hav
    have HVV := Lib.hid hf.2
    have HTL := Lib.hid htl
    have HHM := Lib.hid hm
    have HIT : Hid (∃ n', n = n' + 1) := by cases n with | zero => exact HV.out.elim | succ n' => exact ⟨n', rfl⟩
    obtain ⟨n', rfl⟩ := HIT.out
    obtain ⟨b0, off, a4, c4, a5, c5, a6, c6, a7, c7, rfl, ⟨d0, d1, -⟩, -⟩ := HC.out.rd.at m hm
    rw [← ruleAt_at hm] at d1
    have HBX := Lib.hid (HB.out.trans (HBQ.out.mono HB.out.size))
    have bx := (HD.out 0 _ rfl).1
    by_cases h6 : (ruleAt rs (m : Int)).kind = 6
    · rw [if_pos h6] at hln
      have HLN := Lib.hid hln
      rw [h6] at d1
      clear hln h6 d0 hf hav
      go_wp2_with fail
      refine (iparts_step _ rs cap n' hl HA.out (itext_spec _ rs cap hl HA.out n') v _ m (w.heap.size + 1) 0 61 _ HHM.out HC.out.rd HV.out (fun i u hu => by simpa using (HVC.out i u hu).1) HVV.out HTL.out HT.out).mono ?_
      rintro e w3 ⟨x, c, rfl, hrow, hb3⟩
      rw [← HLN.out] at hrow ⊢
      have HROW := Lib.hid (hrow.more HBX.out.size)
      have HFIN := Lib.hid (HBX.out.trans (hb3.mono HBX.out.size))
      clear hrow hb3 d1 bx
      go_wp2
      go_ret
      exact ⟨x, c, rfl, HROW.out, HFIN.out⟩
    · rw [if_neg h6] at hln
      have HLN := Lib.hid hln
      have hk6 : ((ruleAt rs (m : Int)).kind == 6) = false := by simp [h6]
      clear hln h6 d0 hf hav
      go_upto_region 5 with fail
      clear d1 hk6
      go_wp2_with fail
      refine (itext_spec _ rs cap hl HA.out (n' + 1) v _ m (w.heap.size + 1) 0 _ HHM.out HC.out.rd HV.out (fun i u hu => by simpa using (HVC.out i u hu).1) HVV.out HTL.out HT.out).mono ?_
      rintro e w3 ⟨rfl, hb3⟩
      have HB3 := Lib.hid (HBX.out.trans (hb3.mono HBX.out.size))
      generalize txt (textV rs (m : Int) v) = T at HLN ⊢
      have HFIN := Lib.hid (HB3.out.alloc HB3.out.size (.cells #[.string T] 9))
      have HCN := Lib.hid (CellsAt.new w3 [.string T] 9)
      clear hb3 bx
      go_wp2
      go_ret
      rw [HLN.out]
      refine ⟨some ⟨w3.heap.size, 0, none⟩, 1, rfl, ⟨.inr ⟨w3.heap.size, 0, rfl, HB3.out.size, fun j hj => ?_⟩, Nat.le_refl _, (fun e => by cases e)⟩, HFIN.out⟩
      obtain rfl : j = 0 := by simp at hj; omega
      exact HCN.out 0 _ rfl
end Go.Proofs.YtfmnjclnhppghabGreatDoor
