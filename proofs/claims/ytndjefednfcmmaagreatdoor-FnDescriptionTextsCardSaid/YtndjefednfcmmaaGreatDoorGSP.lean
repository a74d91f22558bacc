/- The model's FormatRule at the last of the rules, behind a valid description; the words of a line with single spaces between. The contract of the model's l6Args at every kind. The contract of the model's ParseRule, behind a valid description. The contract of the model's AddRule, behind a valid description. The contract of the model's ParseDescription. Contracts of the model's and of the program's NormalizeText. -/
import Derived.Test.YtndjefednfcmmaaGreatDoorGSRule
import Derived.Test.YtndjefednfcmmaaGreatDoorGRdB
import Derived.Test.YtndjefednfcmmaaGreatDoorSArgs7a
import Derived.Test.YtndjefednfcmmaaGreatDoorSArgs7b
import Derived.Deep.RegionHeld3
import Derived.Deep.CutRange
import Derived.Test.YtndjefednfcmmaaGreatDoorTextP
import Derived.Test.YtndjefednfcmmaaGreatDoorGSl
import Derived.Test.YtndjefednfcmmaaGreatDoorGLin
import Derived.Test.YtndjefednfcmmaaGreatDoorGFields
set_option maxRecDepth 100000
namespace Go.Proofs.YtndjefednfcmmaaGreatDoor
open Go Go.RowKit
theorem kindI_none {rs : List RuleV} {x : RuleV} (h : x.kids = []) : kindI rs x = kindI [] x := by
 obtain ⟨nm, kd, sz, lt, bs, ns, ts, ks⟩ := x
 dsimp only at h
 subst h
 simp [kindI, meetsB, tagsB]
theorem kindS_none {rs : List RuleV} {x : RuleV} (h : x.kids = []) : kindS rs x = kindS [] x := by
 obtain ⟨nm, kd, sz, lt, bs, ns, ts, ks⟩ := x
 dsimp only at h
 subst h
 simp [kindS, tagsB, shapeB]
theorem kind_last {rs : List RuleV} {x : RuleV} (hr : allV (kindI rs) rs) (hk : kidsB x.kids (rs.length : Int) = true) : kindI (rs ++ [x]) x = kindS (rs ++ [x]) x := by
 cases hx : x.kids with
 | nil =>
  rw [kindI_none hx, kindS_none hx]
  exact kind_same (limit_of_valid (rs := []) (fun i hi => by simp at hi) _)
 | cons k ks =>
  rw [hx] at hk
  unfold kidsB at hk
  rw [List.all_eq_true] at hk
  have hk1 := of_decide_eq_true (hk k (by simp))
  refine kind_same ?_
  rw [hx, List.headD_cons, kindAt_app hk1.1 (by omega), limitAt_app hk1.1 (by omega)]
  exact limit_of_valid hr k
theorem valid_last {rs : List RuleV} {x : RuleV} (hr : allV (kindI rs) rs) : validAt (kindS (rs ++ [x])) (rs ++ [x]) (rs.length : Int) = validAt (kindI (rs ++ [x])) (rs ++ [x]) (rs.length : Int) := by
 rw [validAt_in app_last, validAt_in app_last, app_at]
 cases hk : kidsB x.kids (rs.length : Int)
 ·simp
 ·rw [kind_last hr hk]
theorem frule_noS (a : Option Addr) (rs : List RuleV) (cap n : Nat) (w : World) (hl : rs.length ≤ 1048576) (hsh : ∀ r ∈ rs, Short r) (hsp : ∀ r ∈ rs, Spelt r) (hv : validAt (kindS rs) rs (n : Int) = false) (hrd : RdC a rs w) :
  Calls Tryz.prog 71 #[.agg #[.slice a rs.length cap], .int .i64 (n : Int)] w fun e w' => e = .returned (.string ⟨#[]⟩) ∧ Below w.heap.size w w' := by
 have hB : Below w.heap.size w (w.alloc (.cells #[.slice a rs.length cap] 26)) := (Below.refl _ _).alloc (Nat.le_refl _) _
 have H := Lib.hid (hrd.below hB)
 have HB := Lib.hid hB
 have HV := Lib.hid hv
 clear hrd hB hv
 go_enter Tryz.func71, Tryz.ntmps71
 go_wp2_with fail
 refine (validr_spec a rs cap (n : Int) _ hl hsh hsp H.out).mono ?_
 rintro e w1 ⟨rfl, hb1⟩
 rw [HV.out]
 have HB1 := Lib.hid (HB.out.trans (hb1.mono HB.out.size))
 clear hb1
 go_wp2
 go_ret
 exact ⟨rfl, HB1.out⟩
theorem frule_lastS (m : Nat) (a : Option Addr) (rs : List RuleV) (x : RuleV) (cap : Nat) (w : World) (hm : m = rs.length + 1) (hr : allV (kindI rs) rs) (hl : rs.length ≤ 1048575) (hsh : ∀ r ∈ rs ++ [x], Short r) (hsp : ∀ r ∈ rs ++ [x], Spelt r) (hrd : RdC a (rs ++ [x]) w) :
  Calls Tryz.prog 71 #[.agg #[.slice a m cap], .int .i64 (rs.length : Int)] w fun e w' => e = .returned (.string (lastLine rs x)) ∧ Below w.heap.size w w' := by
 have hm2 : m = (rs ++ [x]).length := by simpa using hm
 subst hm2
 unfold lastLine
 by_cases hv : validAt (kindI (rs ++ [x])) (rs ++ [x]) (rs.length : Int) = true
 ·rw [if_pos hv]
  have h := frule_spec a (rs ++ [x]) cap rs.length w (by simp; omega) app_last hsh hsp (by rw [valid_last hr]; exact hv) (by have := validAt_kind app_last hv; exact this) hrd
  rw [app_at] at h
  exact h
 ·rw [if_neg hv]
  exact frule_noS a (rs ++ [x]) cap rs.length w (by simp; omega) hsh hsp (by rw [valid_last hr]; simpa using hv) hrd
theorem words_spaced (s : ByteArray) : wordsS (spaced s) = wordsS s := by
 unfold spaced
 have hw : ∀ p ∈ wordsS s, p ≠ ⟨#[]⟩ ∧ ∀ x ∈ lst p, x ≠ 32 := fun p hp => by
  unfold wordsS fullS at hp
  rw [List.mem_filter] at hp
  exact ⟨of_decide_eq_true hp.2, parts_part p hp.1⟩
 generalize wordsS s = l at hw
 by_cases h0 : l = []
 ·subst h0; decide +kernel
 ·have hp : parts 32 (joinS ⟨#[32]⟩ l) = l := by
   unfold parts joinS
   rw [lst_txt, show lst (⟨#[32]⟩ : ByteArray) = [32] from rfl, split_join (by simpa using h0) (fun p hp c hc => by
    obtain ⟨y, hy, rfl⟩ := List.mem_map.1 hp
    exact (hw y hy).2 c hc)]
   unfold txts
   rw [List.map_map]
   conv => rhs; rw [← List.map_id l]
   apply List.map_congr_left
   intro y _
   exact txt_lst y
  unfold wordsS
  rw [hp]
  unfold fullS
  rw [List.filter_eq_self]
  intro y hy
  exact decide_eq_true (hw y hy).1
theorem args_spec (k : Int) (hk : 0 ≤ k ∧ k ≤ 10) (n : Nat) (a : Option Addr) (rs : List RuleV) (cap : Nat) (nm : ByteArray) (a1 : Option Addr) (ws : List ByteArray) (cap1 : Nat) (w : World) (hn : n = ws.length) (hrl : rs.length ≤ 1048576) (hl0 : 0 < ws.length) (hl : ws.length ≤ 1048575) (hc1 : ws.length ≤ cap1) (hz : ∀ s ∈ ws, s.size ≤ 1048576) (hnz : nm.size ≤ 1048576) (hr : RdR a rs w) (h : RdS a1 ws w) :
  Calls Tryz.prog 97 #[.agg #[.slice a rs.length cap], .agg #[.string nm, .int .i64 k, .int .i64 0, .bool false, .slice none 0 0, .slice none 0 0, .slice none 0 0, .slice none 0 0], .slice a1 n cap1] w (ArgsOut rs nm k ws w) := by
 subst hn
 rcases (by omega : k = 0 ∨ k = 1 ∨ k = 2 ∨ k = 3 ∨ k = 4 ∨ k = 5 ∨ k = 6 ∨ k = 7 ∨ k = 8 ∨ k = 9 ∨ k = 10) with rfl | rfl | rfl | rfl | rfl | rfl | rfl | rfl | rfl | rfl | rfl
 ·exact args_kids a rs cap nm a1 ws cap1 w hrl hl0 hl hc1 hz hnz hr h _ (by omega)
 ·exact args_1 a rs cap nm a1 ws cap1 w hrl hl0 hl hc1 hz hnz hr h
 ·exact args_2 a rs cap nm a1 ws cap1 w hrl hl0 hl hc1 hz hnz hr h
 ·exact args_3 a rs cap nm a1 ws cap1 w hrl hl0 hl hc1 hz hnz hr h
 ·exact args_kids a rs cap nm a1 ws cap1 w hrl hl0 hl hc1 hz hnz hr h _ (by omega)
 ·exact args_kids a rs cap nm a1 ws cap1 w hrl hl0 hl hc1 hz hnz hr h _ (by omega)
 ·exact args_6 a rs cap nm a1 ws cap1 w hrl hl0 hl hc1 hz hnz hr h
 ·by_cases hcap : cap1 = 1
  ·exact args_7b a rs cap nm a1 ws cap1 w hrl hl0 hl hc1 hz hnz hr h hcap
  ·exact args_7a a rs cap nm a1 ws cap1 w hrl hl0 hl hc1 hz hnz hr h hcap
 ·exact args_kids a rs cap nm a1 ws cap1 w hrl hl0 hl hc1 hz hnz hr h _ (by omega)
 ·exact args_kids a rs cap nm a1 ws cap1 w hrl hl0 hl hc1 hz hnz hr h _ (by omega)
 ·exact args_10 a rs cap nm a1 ws cap1 w hrl hl0 hl hc1 hz hnz hr h
noncomputable def kindTo (x : ByteArray) : Nat → Int
 | 0 => 0
 | j + 1 => if 1 ≤ j ∧ kindName (j : Int) = x then (j : Int) else kindTo x j
theorem kindTo_yes {x : ByteArray} {j : Nat} (h1 : 1 ≤ j) (h : kindName (j : Int) = x) : kindTo x (j + 1) = (j : Int) := by unfold kindTo; rw [if_pos ⟨h1, h⟩]
theorem kindTo_no {x : ByteArray} {j : Nat} (h : kindName (j : Int) ≠ x) : kindTo x (j + 1) = kindTo x j := by rw [kindTo, if_neg (fun q => h q.2)]
theorem kindTo_in (x : ByteArray) : ∀ j, j ≤ 11 → 0 ≤ kindTo x j ∧ kindTo x j ≤ 10
 | 0, _ => by simp [kindTo]
 | j + 1, hj => by
  unfold kindTo
  split
  ·omega
  ·exact kindTo_in x j (by omega)
theorem kindTo_found {x : ByteArray} {k : Int} (h1 : 1 ≤ k ∧ k ≤ 10) (hx : kindName k = x) : ∀ j : Nat, k < (j : Int) → j ≤ 11 → kindTo x j = k
 | 0, h, _ => by omega
 | j + 1, h, hj => by
  unfold kindTo
  split
  ·rename_i q
   exact kindName_inj (by omega) h1 (q.2.trans hx.symm)
  ·rename_i q
   refine kindTo_found h1 hx j ?_ (by omega)
   rcases Nat.lt_or_ge j 1 with h0 | h0
   ·omega
   ·have : k ≠ (j : Int) := fun e => q ⟨h0, by rw [← e]; exact hx⟩
    omega
def RuleReadS (rs : List RuleV) (J : ByteArray) (w : World) (e : Ending) (w' : World) : Prop :=
 ∃ r cs ok, e = .returned (.tuple #[.agg cs.toArray, .bool ok]) ∧ HasRule w.heap.size r cs w' ∧ Below w.heap.size w w' ∧ (ok = true → Acc rs J r) ∧ (ok = false → ∀ y, ¬ Acc rs J y)
theorem zero_has (B : Nat) (w : World) : HasRule B zeroR zeroCs w := hasRule_of (row_nil _ _) (rowF_nil _ _) (rowF_nil _ _) (rowF_nil _ _)
theorem acc_three {rs : List RuleV} {J : ByteArray} {y : RuleV} (hv : allV (kindI rs) rs) (hy : Acc rs J y) : 3 ≤ (wordsS J).length := by
 have hf := (hy.fields hv).1
 rw [hy.words hv]
 cases h : fieldsOf (rs ++ [y]) rs.length y with
 | nil => exact absurd h hf
 | cons a b => simp
set_option maxHeartbeats 8000000 in
theorem prule_spec (a : Option Addr) (rs : List RuleV) (cap : Nat) (line : ByteArray) (w : World) (hv : allV (kindI rs) rs) (hl24 : rs.length ≤ 24) (hs : line.size ≤ 1048576) (hrd : RdQ a rs w) :
    Calls Tryz.prog 58 #[.agg #[.slice a rs.length cap], .string line] w (RuleReadS rs (spaced line) w) := by
  obtain ⟨w0, hw0⟩ : ∃ w0, w0 = (w.alloc (.cells #[.slice a rs.length cap] 26)).alloc (.cells #[.string ⟨#[]⟩, .int .i64 0, .int .i64 0, .bool false, .slice none 0 0, .slice none 0 0, .slice none 0 0, .slice none 0 0] 59) := ⟨_, rfl⟩
  have hB0 : Below w.heap.size w w0 := by subst hw0; exact ((Below.refl _ w).alloc (Nat.le_refl _) _).alloc (by simp) _
  have hz0 : w0.heap.size = w.heap.size + 2 := by subst hw0; simp
  have hD : CellsAt w.heap.size [.slice a rs.length cap] w0 := by subst hw0; exact (CellsAt.new w _ _).below ((Below.refl _ _).alloc (Nat.le_refl _) _)
  have hZ : CellsAt (w.heap.size + 1) zeroCs w0 := by
    subst hw0
    have h1 := CellsAt.new (w.alloc (.cells #[.slice a rs.length cap] 26)) zeroCs 59
    simpa [zeroCs] using h1
  have HB := Lib.hid hB0
  have HD := Lib.hid hD
  have HZ := Lib.hid hZ
  have HW := Lib.hid hw0
  have HV := Lib.hid hv
  have HRW := Lib.hid hrd
  have hJz := spaced_le line
  have hwl := words_lens1 line
  have HWE := Lib.hid (fun s (hq : s ∈ wordsS line) => word_le hq)
  have HJW := Lib.hid (words_spaced line)
  obtain ⟨J, hJ⟩ : ∃ J, J = spaced line := ⟨_, rfl⟩
  rw [← hJ] at hJz HJW ⊢
  have HJ : Hid (J = joinS ⟨#[32]⟩ (wordsS line)) := hJ
  clear hB0 hD hZ hw0 hv hrd hJ
  go_enter Tryz.func58, Tryz.ntmps58
  go_wp2_with fail
  rw [← HW.out]
  clear HW
  refine (words_spec line _ (by omega)).mono ?_
  rintro e w1 ⟨xw, cw, rfl, hrow, hb1⟩
  replace HB := Lib.hid (HB.out.trans (hb1.mono HB.out.size))
  replace HD := Lib.hid (HD.out.below hb1)
  replace HZ := Lib.hid (HZ.out.below hb1)
  have HROW := Lib.hid hrow
  have hs1 := hb1.size
  obtain ⟨ws, hws⟩ : ∃ ws, ws = wordsS line := ⟨_, rfl⟩
  rw [← hws] at hwl HROW HJ HWE HJW ⊢
  clear hb1 hrow hws
  by_cases h3 : ws.length < 3
  · have g3 : (ws.length : Int) < 3 := by omega
    have HNO : Hid (∀ y, ¬ Acc rs J y) := fun y hy => by
      have := acc_three HV.out hy
      rw [HJW.out] at this
      omega
    clear h3 HROW HD HJ HWE
    obtain ⟨z0, t0⟩ := HZ.out 0 _ rfl
    obtain ⟨z1, t1⟩ := HZ.out 1 _ rfl
    obtain ⟨z2, t2⟩ := HZ.out 2 _ rfl
    obtain ⟨z3, t3⟩ := HZ.out 3 _ rfl
    obtain ⟨z4, t4⟩ := HZ.out 4 _ rfl
    obtain ⟨z5, t5⟩ := HZ.out 5 _ rfl
    obtain ⟨z6, t6⟩ := HZ.out 6 _ rfl
    obtain ⟨z7, t7⟩ := HZ.out 7 _ rfl
    go_wp2
    (try simp only [Exit.inBlock, Exit.then])
    refine bodyPost_ret (v := .tuple #[.agg #[.string ⟨#[]⟩, .int .i64 0, .int .i64 0, .bool false, .slice none 0 0, .slice none 0 0, .slice none 0 0, .slice none 0 0], .bool false]) ?_ rfl ?_
    · simp [results, Tryz.results58, go_sem, z0, z1, z2, z3, z4, z5, z6, z7]
    · refine ⟨zeroR, zeroCs, false, rfl, zero_has _ _, ?_, (fun e => by cases e), fun _ => HNO.out⟩
      iterate 8 (refine Below.setCell ?_ (by show w.heap.size ≤ w.heap.size + 1; omega) _)
      exact HB.out
  · have g3 : ¬ (ws.length : Int) < 3 := by omega
    obtain ⟨b, off, rfl, c0⟩ := HROW.out.rd 0 (by omega)
    rw [Nat.add_zero] at c0
    have c1 := rd_at HROW.out.rd 1 (by omega)
    have hn0 := HWE.out ws[0] (List.getElem_mem (by omega))
    have k0 : (0 : Int) < (ws.length : Int) := by omega
    have k1 : (1 : Int) < (ws.length : Int) := by omega
    have HACC : Hid (∀ y, Acc rs J y → fieldsOf (rs ++ [y]) rs.length y = ws.drop 2 ∧ y.name = ws[0]'(by omega) ∧ kindName y.kind = ws[1]'(by omega) ∧ 1 ≤ y.kind ∧ y.kind ≤ 10) := fun y hy => by
      have e := hy.words HV.out
      rw [HJW.out] at e
      have hk := good_kind (hy.good HV.out).2.2.2
      refine ⟨?_, ?_, ?_, hk.1, hk.2⟩ <;> simp [e]
    obtain ⟨nm, hnm⟩ : ∃ nm, nm = ws[0]'(by omega) := ⟨_, rfl⟩
    obtain ⟨x, hx⟩ : ∃ x, x = ws[1]'(by omega) := ⟨_, rfl⟩
    rw [← hnm] at c0 hn0 HACC
    rw [← hx] at c1 HACC
    have HC1 := Lib.hid c1
    clear hnm hx h3 c1
    obtain ⟨w2, hw2⟩ : ∃ w2, w2 = w1.alloc (.cells #[.string nm, .int .i64 0, .int .i64 0, .bool false, .slice none 0 0, .slice none 0 0, .slice none 0 0, .slice none 0 0] 59) := ⟨_, rfl⟩
    have hb2 : Below w1.heap.size w1 w2 := by subst hw2; exact (Below.refl _ _).alloc (Nat.le_refl _) _
    have HI0 : Hid (CellsAt w1.heap.size [.string nm, .int .i64 (kindTo x 1), .int .i64 0, .bool false, .slice none 0 0, .slice none 0 0, .slice none 0 0, .slice none 0 0] w2) := by
      have e0 : kindTo x 1 = 0 := by simp [kindTo]
      rw [e0]; subst hw2; exact CellsAt.new w1 _ _
    have hs2 : w2.heap.size = w1.heap.size + 1 := by subst hw2; simp
    have HB2 := Lib.hid hb2
    have HW := Lib.hid hw2
    clear hb2 hw2
    go_upto_region 5 with fail
    rw [← HW.out]
    clear HW c0
    go_wp2
    go_loopw [8] (fun v W => ∃ j : Nat, 1 ≤ j ∧ j ≤ 11 ∧ v = .int .i64 (j : Int) ∧ Hid (CellsAt w1.heap.size [.string nm, .int .i64 (kindTo x j), .int .i64 0, .bool false, .slice none 0 0, .slice none 0 0, .slice none 0 0, .slice none 0 0] W) ∧ Hid (Below w1.heap.size w1 W)) (fun v _ => 11 - (intOf v).toNat)
    case atStart => exact ⟨1, by omega, by omega, rfl, HI0, HB2⟩
    case round =>
      clear HI0 HB2
      obtain ⟨j, j1, j11, rfl, HI, HBW⟩ := hrel
      have c1 := HBW.out.cell (p := ⟨b, off + 1, none⟩) (cell_lt HC1.out)
      rw [HC1.out] at c1
      by_cases hlt : j ≤ 10
      · have q1 : (j : Int) ≤ 10 := by omega
        obtain ⟨kn, hkn⟩ : ∃ kn, kn = kindName (j : Int) := ⟨_, rfl⟩
        have HKN := Lib.hid hkn
        by_cases hx : kn = x
        · have gq := str_eq hx
          have HKT : Hid (kindTo x (j + 1) = (j : Int)) := kindTo_yes j1 (by rw [← hkn]; exact hx)
          clear hx hkn
          go_wp2
          replace HI := Lib.hid (HI.out.below (below_drewN (Below.refl _ wr) 1))
          replace HBW : Hid (Below w1.heap.size w1 wr.drew) := below_drewN HBW.out 1
          have HCC : Hid (wr.drew.cell? ⟨b, off + 1, none⟩ = some (.string x)) := c1
          clear c1
          go_region_held3 (fun W => W.cell? ⟨b, off + 1, none⟩ = some (.string x)) (exact HCC.out) (first | (go_at_call 96; refine (kind_spec (j : Int) _).mono ?_; rintro e w3 ⟨rfl, hb3⟩; rw [← HKN.out]; replace HCC := Lib.hid ((hb3.cell (cell_lt HCC.out)).trans HCC.out); replace HI := Lib.hid (HI.out.below hb3); replace HBW := Lib.hid (HBW.out.trans (hb3.mono HBW.out.size)); clear hb3))
          all_goals (
            obtain ⟨i1, f1⟩ := HI.out 1 _ rfl
            have HI2 := Lib.hid (HI.out.set 1 (.int .i64 (j : Int)) (by simp))
            simp only [List.set] at HI2
            go_wp2
            go_roundw
            case rel => exact ⟨j + 1, by omega, by omega, by go_num, (by rw [HKT.out]; exact HI2), HBW.out.setCell (p := ⟨w1.heap.size, 1, none⟩) (by show w1.heap.size ≤ w1.heap.size; omega) _⟩
            case measure => simp [intOf]; omega)
        · have gq := str_ne hx
          have HKT : Hid (kindTo x (j + 1) = kindTo x j) := kindTo_no (by rw [← hkn]; exact hx)
          clear hx hkn
          go_wp2
          replace HI := Lib.hid (HI.out.below (below_drewN (Below.refl _ wr) 1))
          replace HBW : Hid (Below w1.heap.size w1 wr.drew) := below_drewN HBW.out 1
          have HCC : Hid (wr.drew.cell? ⟨b, off + 1, none⟩ = some (.string x)) := c1
          clear c1
          go_region_held3 (fun W => W.cell? ⟨b, off + 1, none⟩ = some (.string x)) (exact HCC.out) (first | (go_at_call 96; refine (kind_spec (j : Int) _).mono ?_; rintro e w3 ⟨rfl, hb3⟩; rw [← HKN.out]; replace HCC := Lib.hid ((hb3.cell (cell_lt HCC.out)).trans HCC.out); replace HI := Lib.hid (HI.out.below hb3); replace HBW := Lib.hid (HBW.out.trans (hb3.mono HBW.out.size)); clear hb3))
          all_goals (
            go_wp2
            go_roundw
            case rel => exact ⟨j + 1, by omega, by omega, by go_num, (by rw [HKT.out]; exact HI), HBW⟩
            case measure => simp [intOf]; omega)
      · have q1 : ¬ (j : Int) ≤ 10 := by omega
        obtain rfl : j = 11 := by omega
        have hkr := kindTo_in x 11 (by omega)
        have HKF : Hid (∀ y, Acc rs J y → kindTo x 11 = y.kind) := fun y hy => by
          obtain ⟨-, -, h1, h2⟩ := HACC.out y hy
          exact kindTo_found h2 h1 11 (by omega) (by omega)
        generalize kindTo x 11 = kd at HI hkr HKF
        clear c1 HC1
        have HWZ : Hid (∀ s ∈ ws.drop 2, s.size ≤ 1048576) := fun s hs2 => by have := HWE.out s (List.mem_of_mem_drop hs2); omega
        have HCW := Lib.hid HROW.out.2.1
        have hlen2 : ws.length - 2 = (ws.drop 2).length := by simp
        have HLN := Lib.hid hlen2
        have HARGS : Hid (∀ (n o' cap1 : Nat) (W : World), n = ws.length - 2 → o' = off + 2 → cap1 = cw - 2 → Below wr.heap.size wr W → Calls Tryz.prog 97 #[.agg #[.slice a rs.length cap], .agg #[.string nm, .int .i64 kd, .int .i64 0, .bool false, .slice none 0 0, .slice none 0 0, .slice none 0 0, .slice none 0 0], .slice (some ⟨b, o', none⟩) n cap1] W (ArgsOut rs nm kd (ws.drop 2) W)) := fun n o' cap1 W h1 h2 h3 h4 => by
          have q1 := HLN.out
          have q2 := HCW.out
          have q4 := HBW.out.trans (h4.mono HBW.out.size)
          subst h2 h3
          exact args_spec kd hkr n a rs cap nm (some ⟨b, off + 2, none⟩) (ws.drop 2) (cw - 2) W (by omega) (by omega) (by omega) (by omega) (by omega) HWZ.out (by omega) (HRW.out.rdc.rd.below (HB.out.trans (q4.mono HB.out.size))) (rd_drop (HROW.out.rd.below q4) 2)
        have hba : Below wr.heap.size wr (wr.alloc (.cells #[.string ⟨#[]⟩, .int .i64 0, .int .i64 0, .bool false, .slice none 0 0, .slice none 0 0, .slice none 0 0, .slice none 0 0] 59)) := (Below.refl _ _).alloc (Nat.le_refl _) _
        have HCN : Hid (CellsAt wr.heap.size [.string ⟨#[]⟩, .int .i64 0, .int .i64 0, .bool false, .slice none 0 0, .slice none 0 0, .slice none 0 0, .slice none 0 0] (wr.alloc (.cells #[.string ⟨#[]⟩, .int .i64 0, .int .i64 0, .bool false, .slice none 0 0, .slice none 0 0, .slice none 0 0, .slice none 0 0] 59)).drew) := (CellsAt.new wr [.string ⟨#[]⟩, .int .i64 0, .int .i64 0, .bool false, .slice none 0 0, .slice none 0 0, .slice none 0 0, .slice none 0 0] 59).below (below_drewN (Below.refl _ _) 1)
        have hza : (wr.alloc (.cells #[.string ⟨#[]⟩, .int .i64 0, .int .i64 0, .bool false, .slice none 0 0, .slice none 0 0, .slice none 0 0, .slice none 0 0] 59)).drew.heap.size = wr.heap.size + 1 := World.size_alloc _ _
        have HZA := Lib.hid hza
        obtain ⟨d0, -⟩ := HD.out.below HBW.out 0 _ rfl
        obtain ⟨dA, -⟩ := HD.out.below (HBW.out.trans (hba.mono HBW.out.size)) 0 _ rfl
        obtain ⟨i0, -⟩ := HI.out 0 _ rfl
        obtain ⟨iA0, -⟩ := HI.out.below hba 0 _ rfl
        obtain ⟨i1, -⟩ := HI.out 1 _ rfl
        obtain ⟨iA1, -⟩ := HI.out.below hba 1 _ rfl
        obtain ⟨i2, -⟩ := HI.out 2 _ rfl
        obtain ⟨iA2, -⟩ := HI.out.below hba 2 _ rfl
        obtain ⟨i3, -⟩ := HI.out 3 _ rfl
        obtain ⟨iA3, -⟩ := HI.out.below hba 3 _ rfl
        obtain ⟨i4, -⟩ := HI.out 4 _ rfl
        obtain ⟨iA4, -⟩ := HI.out.below hba 4 _ rfl
        obtain ⟨i5, -⟩ := HI.out 5 _ rfl
        obtain ⟨iA5, -⟩ := HI.out.below hba 5 _ rfl
        obtain ⟨i6, -⟩ := HI.out 6 _ rfl
        obtain ⟨iA6, -⟩ := HI.out.below hba 6 _ rfl
        obtain ⟨i7, -⟩ := HI.out 7 _ rfl
        obtain ⟨iA7, -⟩ := HI.out.below hba 7 _ rfl
        have k2 : (2 : Int) ≤ (ws.length : Int) := by omega
        have hcc : ws.length ≤ cw := HCW.out
        have hcn : ¬ cw = 2 := by omega
        clear hlen2 hza hba
        go_upto_region 10 with fail
        go_cut [9, 10] from 34 to 41 (fun p q W => ∃ (xr : RuleV) (g4 : Option Addr) (h4 : Nat) (g5 : Option Addr) (h5 : Nat) (g6 : Option Addr) (h6 : Nat) (g7 : Option Addr) (h7 : Nat) (ok : Bool) (B : Nat), p = .pointer (some ⟨B, 0, none⟩) ∧ q = .bool ok ∧ w1.heap.size ≤ B ∧ Hid (CellsAt B [.string xr.name, .int .i64 xr.kind, .int .i64 xr.size, .bool xr.little, .slice g4 xr.bytes.length h4, .slice g5 xr.names.length h5, .slice g6 xr.tags.length h6, .slice g7 xr.kids.length h7] W) ∧ Hid (HasRule w1.heap.size xr [.string xr.name, .int .i64 xr.kind, .int .i64 xr.size, .bool xr.little, .slice g4 xr.bytes.length h4, .slice g5 xr.names.length h5, .slice g6 xr.tags.length h6, .slice g7 xr.kids.length h7] W) ∧ Hid (Below w1.heap.size w1 W) ∧ Hid (Short xr ∧ Spelt xr) ∧ Hid (∀ y, Acc rs J y → xr = y ∧ ok = true))
        case first =>
          go_region_law (first
            | (go_simp; go_at_call 97; refine (HARGS.out _ _ _ wr.drew rfl rfl rfl (below_drewN (Below.refl _ _) 1)).mono ?_; rintro e w4 ⟨xr, cs, ok, rfl, hx, hb4, hsh, hsp, hall⟩; have hx2 := hx; obtain ⟨⟨g4, h4, g5, h5, g6, h6, g7, h7, rfl, -⟩, -⟩ := hx2; have HX := Lib.hid hx; have HB4 := Lib.hid ((below_drewN (Below.refl wr.heap.size wr) 1).trans hb4); have HSS := Lib.hid (And.intro hsh hsp); have HAL := Lib.hid hall; clear hx hb4 hsh hsp hall)
            | (go_simp; go_at_call 97; refine (HARGS.out _ _ _ (wr.alloc (.cells #[.string ⟨#[]⟩, .int .i64 0, .int .i64 0, .bool false, .slice none 0 0, .slice none 0 0, .slice none 0 0, .slice none 0 0] 59)).drew rfl rfl rfl (below_drewN ((Below.refl _ _).alloc (Nat.le_refl _) _) 1)).mono ?_; rintro e w4 ⟨xr, cs, ok, rfl, hx, hb4, hsh, hsp, hall⟩; have hx2 := hx; obtain ⟨⟨g4, h4, g5, h5, g6, h6, g7, h7, rfl, -⟩, -⟩ := hx2; have HXB := Lib.hid hx; have HB4 := Lib.hid ((below_drewN ((Below.refl wr.heap.size wr).alloc (Nat.le_refl _) (.cells #[.string ⟨#[]⟩, .int .i64 0, .int .i64 0, .bool false, .slice none 0 0, .slice none 0 0, .slice none 0 0, .slice none 0 0] 59)) 1).trans (hb4.mono (by have := HZA.out; omega))); have HBQ := Lib.hid (HCN.out.below hb4); have hsw := hb4.size; have HSS := Lib.hid (And.intro hsh hsp); have HAL := Lib.hid hall; clear hx hb4 hsh hsp hall; obtain ⟨b0, f0⟩ := HBQ.out 0 _ rfl; obtain ⟨b1, f1⟩ := HBQ.out 1 _ rfl; obtain ⟨b2, f2⟩ := HBQ.out 2 _ rfl; obtain ⟨b3, f3⟩ := HBQ.out 3 _ rfl; obtain ⟨b4, f4⟩ := HBQ.out 4 _ rfl; obtain ⟨b5, f5⟩ := HBQ.out 5 _ rfl; obtain ⟨b6, f6⟩ := HBQ.out 6 _ rfl; obtain ⟨b7, f7⟩ := HBQ.out 7 _ rfl))
          all_goals (
            have HYE : Hid (∀ y, Acc rs J y → xr = y ∧ ok = true) := fun y hy => by
              obtain ⟨q1, q2, q3, q4, q5⟩ := HACC.out y hy
              exact HAL.out J y HV.out hy q1 q2 (HKF.out y hy).symm
            clear HAL HI HARGS HKF
            have hsz1 := HBW.out.size
            have hsz4 := HB4.out.size
            first
              | (have hb5 : Below w4.heap.size w4 (w4.alloc (.cells #[.string xr.name, .int .i64 xr.kind, .int .i64 xr.size, .bool xr.little, .slice g4 xr.bytes.length h4, .slice g5 xr.names.length h5, .slice g6 xr.tags.length h6, .slice g7 xr.kids.length h7] 59)) := (Below.refl _ _).alloc (Nat.le_refl _) _
                 have HQ : Hid (CellsAt w4.heap.size [.string xr.name, .int .i64 xr.kind, .int .i64 xr.size, .bool xr.little, .slice g4 xr.bytes.length h4, .slice g5 xr.names.length h5, .slice g6 xr.tags.length h6, .slice g7 xr.kids.length h7] (w4.alloc (.cells #[.string xr.name, .int .i64 xr.kind, .int .i64 xr.size, .bool xr.little, .slice g4 xr.bytes.length h4, .slice g5 xr.names.length h5, .slice g6 xr.tags.length h6, .slice g7 xr.kids.length h7] 59))) := CellsAt.new w4 _ _
                 have HX5 := Lib.hid ((HX.out.below hb5).more (show w1.heap.size ≤ wr.drew.heap.size from hsz1))
                 have HBE := Lib.hid (HBW.out.trans ((HB4.out.trans (hb5.mono HB4.out.size)).mono HBW.out.size))
                 clear HX HB4 hb5
                 go_wp2_with fail
                 go_meet
                 exact ⟨xr, g4, h4, g5, h5, g6, h6, g7, h7, ok, w4.heap.size, rfl, rfl, by omega, HQ, HX5, HBE, HSS, HYE⟩)
              | (have HQ0 := ((((((((HBQ.out.set 0 (.string xr.name) (by simp)).set 1 (.int .i64 xr.kind) (by simp)).set 2 (.int .i64 xr.size) (by simp)).set 3 (.bool xr.little) (by simp)).set 4 (.slice g4 xr.bytes.length h4) (by simp)).set 5 (.slice g5 xr.names.length h5) (by simp)).set 6 (.slice g6 xr.tags.length h6) (by simp)).set 7 (.slice g7 xr.kids.length h7) (by simp))
                 simp only [List.set] at HQ0
                 have HQ := Lib.hid HQ0
                 have HBE := Lib.hid (HBW.out.trans (HB4.out.mono HBW.out.size))
                 have hsa := HZA.out
                 clear HB4 HQ0 HBQ
                 go_wp2_with fail
                 go_meet
                 refine ⟨xr, g4, h4, g5, h5, g6, h6, g7, h7, ok, wr.heap.size, rfl, rfl, hsz1, HQ, ?_, ?_, HSS, HYE⟩
                 · show HasRule _ _ _ _
                   refine HasRule.more (lo := (wr.alloc (.cells #[.string ⟨#[]⟩, .int .i64 0, .int .i64 0, .bool false, .slice none 0 0, .slice none 0 0, .slice none 0 0, .slice none 0 0] 59)).drew.heap.size) ?_ (by omega)
                   iterate 8 (refine HasRule.grown ?_ (grown_set (grown_refl _ _) _ _) (by omega))
                   exact HXB.out
                 · show Below _ _ _
                   iterate 8 (refine Below.setCell ?_ (by show w1.heap.size ≤ wr.heap.size; omega) _)
                   exact HBE.out))
        case rest =>
          obtain ⟨xr, g4, h4, g5, h5, g6, h6, g7, h7, ok, B, rfl, rfl, hB1, HQ, HX, HBE, HSS, HYE⟩ := hcut
          have hsc := HBE.out.size
          obtain ⟨d0, -⟩ := HD.out.below HBE.out 0 _ rfl
          have HRC := Lib.hid (HRW.out.below (HB.out.trans (HBE.out.mono HB.out.size)))
          have HSHR := Lib.hid (valid_short HV.out)
          have HSPR := Lib.hid (valid_spelt HV.out)
          have hBc : B < wc.heap.size := cell_lt (HQ.out 0 _ rfl).1
          have HRWS := Lib.hid HROW.out.rd
          clear HROW HWE HKF hkr hn0 HACC
          go_wp2_with fail
          refine (copy_q a rs cap _ (by omega) HSHR.out HRC.out.rdn).mono ?_
          rintro e w5 ⟨xq, cq, rfl, hrow, hb5⟩
          have hs5 := hb5.size
          obtain ⟨w6, hw6⟩ : ∃ w6, w6 = w5.alloc (.cells #[.slice xq rs.length cq] 26) := ⟨_, rfl⟩
          have hb6 : Below w5.heap.size w5 w6 := by subst hw6; exact (Below.refl _ _).alloc (Nat.le_refl _) _
          have hs6 : w6.heap.size = w5.heap.size + 1 := by subst hw6; simp
          have HO : Hid (SlotAt w5.heap.size (.slice xq rs.length cq) w6) := by subst hw6; exact SlotAt.new w5 _ _
          have hb56 := hb5.trans (hb6.mono hs5)
          have HOWN : Hid (∀ g, (Value.slice xq rs.length cq).ownBlock = some g → wc.heap.size ≤ g ∧ g < w5.heap.size) := fun g hg => hrow.own g hg
          have HROW := Lib.hid ((hrow.below hb6).more hsc)
          have HQ6 := Lib.hid (HQ.out.below hb56)
          have HX6 := Lib.hid (HX.out.below hb56)
          have HLT : Hid (∀ b ∈ ([.string xr.name, .int .i64 xr.kind, .int .i64 xr.size, .bool xr.little, .slice g4 xr.bytes.length h4, .slice g5 xr.names.length h5, .slice g6 xr.tags.length h6, .slice g7 xr.kids.length h7] : List Value).flatMap sliceBlk, w1.heap.size ≤ b ∧ b < wc.heap.size) := fun b hb => ⟨HX.out.2.2 b hb, HX.out.1.lt b hb⟩
          have HBE6 := Lib.hid (HBE.out.trans (hb56.mono hsc))
          have HWW := Lib.hid hw6
          clear hb5 hb6 hb56 hrow hw6 HQ HX HBE d0 HRC
          go_upto_region 12 with fail
          rw [← HWW.out]
          clear HWW
          obtain ⟨o0, p0⟩ := HO.out.1 0 _ rfl
          obtain ⟨q0, -⟩ := HQ6.out 0 _ rfl
          obtain ⟨q1, -⟩ := HQ6.out 1 _ rfl
          obtain ⟨q2, -⟩ := HQ6.out 2 _ rfl
          obtain ⟨q3, -⟩ := HQ6.out 3 _ rfl
          obtain ⟨q4, -⟩ := HQ6.out 4 _ rfl
          obtain ⟨q5, -⟩ := HQ6.out 5 _ rfl
          obtain ⟨q6, -⟩ := HQ6.out 6 _ rfl
          obtain ⟨q7, -⟩ := HQ6.out 7 _ rfl
          have HNE : Hid (∀ b ∈ ([.string xr.name, .int .i64 xr.kind, .int .i64 xr.size, .bool xr.little, .slice g4 xr.bytes.length h4, .slice g5 xr.names.length h5, .slice g6 xr.tags.length h6, .slice g7 xr.kids.length h7] : List Value).flatMap sliceBlk, w1.heap.size ≤ b ∧ some b ≠ (Value.slice xq rs.length cq).ownBlock) := fun b hb => ⟨(HLT.out b hb).1, fun e => by have h1 := (HOWN.out b e.symm).1; have h2 := (HLT.out b hb).2; omega⟩
          go_wp2_with (at_builtin; refine wp_pushQ rfl (.tmp 45) (.tmp 47) rfl w1.heap.size (.slice xq rs.length cq) rs xr _ w6 (by simp [Act.eval]) (by simp [Act.eval]) HROW.out HX6.out.1 HX6.out.2.1 HNE.out (by omega) (by omega) ?_)
          intro v7 w7 hrow7 hg7
          obtain ⟨x7, c7, rfl, hq7, hle7, hnn7⟩ := hrow7.rdq
          have HO7 := Lib.hid (HO.out.grown hg7 (fun e => by have := (HOWN.out _ e.symm).2; omega))
          have HQ7 := Lib.hid (HQ6.out.grown hg7 (fun e => by have := (HOWN.out _ e.symm).1; omega))
          have HI7 := Lib.hid (HX6.out.1.grown hg7 (fun b hb => (HNE.out b hb).2))
          have HBE7 := Lib.hid (HBE6.out.grown hg7 (by omega) (fun g e => by have := (HOWN.out g e).1; omega))
          have HR7 := Lib.hid hq7
          have hs7 := hg7.size
          clear hrow7 hg7 hq7 o0 p0 q0 q1 q2 q3 q4 q5 q6 q7 HQ6 HBE6 HO HROW
          obtain ⟨o0, p0⟩ := HO7.out.1 0 _ rfl
          obtain ⟨w8, hw8⟩ : ∃ w8, w8 = w7.setCell ⟨w5.heap.size, 0, none⟩ (.slice x7 (rs.length + 1) c7) := ⟨_, rfl⟩
          have HO8 : Hid (SlotAt w5.heap.size (.slice x7 (rs.length + 1) c7) w8) := by subst hw8; exact HO7.out.set _
          have HQ8 : Hid (CellsAt B [.string xr.name, .int .i64 xr.kind, .int .i64 xr.size, .bool xr.little, .slice g4 xr.bytes.length h4, .slice g5 xr.names.length h5, .slice g6 xr.tags.length h6, .slice g7 xr.kids.length h7] w8) := by subst hw8; exact HQ7.out.far (by omega)
          have HR8 : Hid (RdQ x7 (rs ++ [xr]) w8) := by subst hw8; exact HO7.out.rules HR7.out
          have HX8 : Hid (HasRule w1.heap.size xr [.string xr.name, .int .i64 xr.kind, .int .i64 xr.size, .bool xr.little, .slice g4 xr.bytes.length h4, .slice g5 xr.names.length h5, .slice g6 xr.tags.length h6, .slice g7 xr.kids.length h7] w8) := by subst hw8; exact ⟨HO7.out.rule HI7.out, HX6.out.2⟩
          have HBE8 : Hid (Below w1.heap.size w1 w8) := by subst hw8; exact HBE7.out.setCell (p := ⟨w5.heap.size, 0, none⟩) (by show w1.heap.size ≤ w5.heap.size; omega) _
          have HWW := Lib.hid hw8
          clear hw8 HO7 HQ7 HR7 HI7 HX6 HBE7 HLT HNE HOWN
          cases ok with
          | false =>
            have HNO : Hid (∀ y, ¬ Acc rs J y) := fun y hy => Bool.false_ne_true (HYE.out y hy).2
            go_upto_region 13 with fail
            rw [← HWW.out]
            clear HWW o0 p0
            have HZ9 := Lib.hid (HZ.out.below HBE8.out)
            have HWB9 := Lib.hid (HB.out.trans (HBE8.out.mono HB.out.size))
            obtain ⟨z0, t0⟩ := HZ9.out 0 _ rfl
            obtain ⟨z1, t1⟩ := HZ9.out 1 _ rfl
            obtain ⟨z2, t2⟩ := HZ9.out 2 _ rfl
            obtain ⟨z3, t3⟩ := HZ9.out 3 _ rfl
            obtain ⟨z4, t4⟩ := HZ9.out 4 _ rfl
            obtain ⟨z5, t5⟩ := HZ9.out 5 _ rfl
            obtain ⟨z6, t6⟩ := HZ9.out 6 _ rfl
            obtain ⟨z7, t7⟩ := HZ9.out 7 _ rfl
            go_wp2
            (try simp only [Exit.inBlock, Exit.then])
            refine bodyPost_ret (v := .tuple #[.agg #[.string ⟨#[]⟩, .int .i64 0, .int .i64 0, .bool false, .slice none 0 0, .slice none 0 0, .slice none 0 0, .slice none 0 0], .bool false]) ?_ rfl ?_
            · simp [results, Tryz.results58, go_sem, z0, z1, z2, z3, z4, z5, z6, z7]
            · refine ⟨zeroR, _, false, rfl, ?_, ?_, (fun e => by cases e), fun _ => HNO.out⟩
              · exact zero_has _ _
              · iterate 8 (refine Below.setCell ?_ (by show w.heap.size ≤ w.heap.size + 1; omega) _)
                exact HWB9.out
          | true =>
            go_upto_region 13 with fail
            rw [← HWW.out]
            clear HWW o0 p0
            have o8 := HO8.out.cell
            obtain ⟨d0, -⟩ := HD.out.below HBE8.out 0 _ rfl
            have HSH2 : Hid (∀ r ∈ rs ++ [xr], Short r) := fun r hr => by
              rcases List.mem_append.1 hr with h | h
              · exact HSHR.out r h
              · rw [List.mem_singleton.1 h]; exact HSS.out.1
            have HSP2 : Hid (∀ r ∈ rs ++ [xr], Spelt r) := fun r hr => by
              rcases List.mem_append.1 hr with h | h
              · exact HSPR.out r h
              · rw [List.mem_singleton.1 h]; exact HSS.out.2
            have hJ0 : J ≠ ⟨#[]⟩ := fun e => by
              have h1 := HJW.out
              rw [e] at h1
              have h2 : wordsS ⟨#[]⟩ = [] := by decide +kernel
              rw [h2] at h1
              rw [← h1] at k0
              simp at k0
            have HLA := Lib.hid (lastLine_acc (rs := rs) (x := xr) hJ0)
            have HYU : Hid (∀ y, Acc rs J y → xr = y) := fun y hy => (HYE.out y hy).1
            clear hJ0 HYE
            go_wp2_with fail
            refine (frule_lastS _ x7 rs xr c7 _ (by simp) HV.out (by omega) HSH2.out HSP2.out HR8.out.rdc).mono ?_
            rintro e w9 ⟨rfl, hb9⟩
            obtain ⟨LL, hLL⟩ : ∃ LL, LL = lastLine rs xr := ⟨_, rfl⟩
            rw [← hLL] at HLA ⊢
            have hsz8 := HBE8.out.size
            have HQ9 := Lib.hid (HQ8.out.below hb9)
            have HX9 := Lib.hid (HX8.out.below hb9)
            have HBE9 := Lib.hid (HBE8.out.trans (hb9.mono hsz8))
            clear hb9 hLL o8 d0 HO8 HQ8 HR8 HX8 HBE8
            have HZ9 := Lib.hid (HZ.out.below HBE9.out)
            have HWB9 := Lib.hid (HB.out.trans (HBE9.out.mono HB.out.size))
            have HWS := Lib.hid (HRWS.out.below HBE9.out)
            have hjz : Hid ((joinS ⟨#[32]⟩ ws).size ≤ 4398046511104) := by show _ ≤ _; rw [← HJ.out]; omega
            go_wp2_with fail
            refine (join_spec _ ws cw ⟨#[32]⟩ _ (by omega) hjz.out HWS.out).mono ?_
            rintro e wj ⟨rfl, rfl⟩
            rw [← HJ.out]
            by_cases he : LL = J
            · have g := str_eq he
              have HACC := Lib.hid (HLA.out.1 he)
              clear HLA he
              obtain ⟨q0, -⟩ := HQ9.out 0 _ rfl
              obtain ⟨q1, -⟩ := HQ9.out 1 _ rfl
              obtain ⟨q2, -⟩ := HQ9.out 2 _ rfl
              obtain ⟨q3, -⟩ := HQ9.out 3 _ rfl
              obtain ⟨q4, -⟩ := HQ9.out 4 _ rfl
              obtain ⟨q5, -⟩ := HQ9.out 5 _ rfl
              obtain ⟨q6, -⟩ := HQ9.out 6 _ rfl
              obtain ⟨q7, -⟩ := HQ9.out 7 _ rfl
              obtain ⟨z0, t0⟩ := HZ9.out 0 _ rfl
              obtain ⟨z1, t1⟩ := HZ9.out 1 _ rfl
              obtain ⟨z2, t2⟩ := HZ9.out 2 _ rfl
              obtain ⟨z3, t3⟩ := HZ9.out 3 _ rfl
              obtain ⟨z4, t4⟩ := HZ9.out 4 _ rfl
              obtain ⟨z5, t5⟩ := HZ9.out 5 _ rfl
              obtain ⟨z6, t6⟩ := HZ9.out 6 _ rfl
              obtain ⟨z7, t7⟩ := HZ9.out 7 _ rfl
              go_wp2
              (try simp only [Exit.inBlock, Exit.then])
              refine bodyPost_ret (v := .tuple #[.agg #[.string xr.name, .int .i64 xr.kind, .int .i64 xr.size, .bool xr.little, .slice g4 xr.bytes.length h4, .slice g5 xr.names.length h5, .slice g6 xr.tags.length h6, .slice g7 xr.kids.length h7], .bool true]) ?_ rfl ?_
              · simp [results, Tryz.results58, go_sem, z0, z1, z2, z3, z4, z5, z6, z7]
              · refine ⟨xr, _, true, rfl, ?_, ?_, (fun _ => HACC.out), fun e => by cases e⟩
                · refine HasRule.more (lo := w1.heap.size) ?_ (by omega)
                  iterate 8 (refine HasRule.grown ?_ (grown_set (grown_refl _ _) _ _) (by omega))
                  exact HX9.out
                · iterate 8 (refine Below.setCell ?_ (by show w.heap.size ≤ w.heap.size + 1; omega) _)
                  exact HWB9.out
            · have g := str_ne he
              have HNO : Hid (∀ y, ¬ Acc rs J y) := fun y hy => by
                have := HYU.out y hy
                subst this
                exact he (HLA.out.2 hy)
              clear HLA he
              obtain ⟨z0, t0⟩ := HZ9.out 0 _ rfl
              obtain ⟨z1, t1⟩ := HZ9.out 1 _ rfl
              obtain ⟨z2, t2⟩ := HZ9.out 2 _ rfl
              obtain ⟨z3, t3⟩ := HZ9.out 3 _ rfl
              obtain ⟨z4, t4⟩ := HZ9.out 4 _ rfl
              obtain ⟨z5, t5⟩ := HZ9.out 5 _ rfl
              obtain ⟨z6, t6⟩ := HZ9.out 6 _ rfl
              obtain ⟨z7, t7⟩ := HZ9.out 7 _ rfl
              go_wp2
              (try simp only [Exit.inBlock, Exit.then])
              refine bodyPost_ret (v := .tuple #[.agg #[.string ⟨#[]⟩, .int .i64 0, .int .i64 0, .bool false, .slice none 0 0, .slice none 0 0, .slice none 0 0, .slice none 0 0], .bool false]) ?_ rfl ?_
              · simp [results, Tryz.results58, go_sem, z0, z1, z2, z3, z4, z5, z6, z7]
              · refine ⟨zeroR, _, false, rfl, ?_, ?_, (fun e => by cases e), fun _ => HNO.out⟩
                · exact zero_has _ _
                · iterate 8 (refine Below.setCell ?_ (by show w.heap.size ≤ w.heap.size + 1; omega) _)
                  exact HWB9.out
def AddReadS (rs : List RuleV) (J : ByteArray) (w : World) (e : Ending) (w' : World) : Prop :=
 ∃ a ss cap ok, e = .returned (.tuple #[.agg #[.slice a ss.length cap], .bool ok]) ∧ RdQ a ss w' ∧ Below w.heap.size w w' ∧ ((ok = true ∧ rs.length < 24 ∧ ∃ f, Acc rs J f ∧ ss = rs ++ [f]) ∨ (ok = false ∧ (24 ≤ rs.length ∨ ∀ y, ¬ Acc rs J y)))
set_option maxHeartbeats 8000000 in
theorem addrule_spec (a : Option Addr) (rs : List RuleV) (cap : Nat) (line : ByteArray) (w : World) (hv : allV (kindI rs) rs) (hl24 : rs.length ≤ 24) (hs : line.size ≤ 1048576) (hrd : RdQ a rs w) :
  Calls Tryz.prog 32 #[.agg #[.slice a rs.length cap], .string line] w (AddReadS rs (spaced line) w) := by
 obtain ⟨w0, hw0⟩ : ∃ w0, w0 = (w.alloc (.cells #[.slice a rs.length cap] 26)).alloc (.cells #[.slice none 0 0] 26) := ⟨_, rfl⟩
 have hB0 : Below w.heap.size w w0 := by subst hw0; exact ((Below.refl _ w).alloc (Nat.le_refl _) _).alloc (by simp) _
 have hz0 : w0.heap.size = w.heap.size + 2 := by subst hw0; simp
 have hD : CellsAt w.heap.size [.slice a rs.length cap] w0 := by subst hw0; exact (CellsAt.new w _ _).below ((Below.refl _ _).alloc (Nat.le_refl _) _)
 have hZ : SlotAt (w.heap.size + 1) (.slice none 0 0) w0 := by
  subst hw0
  have h1 := SlotAt.new (w.alloc (.cells #[.slice a rs.length cap] 26)) (.slice none 0 0) 26
  simpa using h1
 have HB := Lib.hid hB0
 have HD := Lib.hid hD
 have HZ := Lib.hid hZ
 have HW := Lib.hid hw0
 have HV := Lib.hid hv
 have HRW := Lib.hid hrd
 have HSH := Lib.hid (valid_short hv)
 obtain ⟨J, hJ⟩ : ∃ J, J = spaced line := ⟨_, rfl⟩
 rw [← hJ]
 have HJ := Lib.hid hJ
 have d0 := (hD 0 _ rfl).1
 clear hB0 hD hZ hw0 hv hrd hJ
 go_enter Tryz.func32, Tryz.ntmps32
 go_wp2_with fail
 rw [← HW.out]
 clear HW d0
 refine (copy_q a rs cap _ (by omega) HSH.out (HRW.out.below HB.out).rdn).mono ?_
 rintro e w1 ⟨xq, cq, rfl, hrow, hb1⟩
 replace HB := Lib.hid (HB.out.trans (hb1.mono HB.out.size))
 replace HD := Lib.hid (HD.out.below hb1)
 replace HZ := Lib.hid (HZ.out.below hb1)
 obtain ⟨w2, hw2⟩ : ∃ w2, w2 = w1.alloc (.cells #[.slice xq rs.length cq] 26) := ⟨_, rfl⟩
 have hb2 : Below w1.heap.size w1 w2 := by subst hw2; exact (Below.refl _ _).alloc (Nat.le_refl _) _
 have hs2 : w2.heap.size = w1.heap.size + 1 := by subst hw2; simp
 have HO : Hid (SlotAt w1.heap.size (.slice xq rs.length cq) w2) := by subst hw2; exact SlotAt.new w1 _ _
 have hs1 := hb1.size
 replace HB := Lib.hid (HB.out.trans (hb2.mono HB.out.size))
 replace HD := Lib.hid (HD.out.below hb2)
 replace HZ := Lib.hid (HZ.out.below hb2)
 have HOWN : Hid (∀ g, (Value.slice xq rs.length cq).ownBlock = some g → w0.heap.size ≤ g ∧ g < w1.heap.size) := fun g hg => hrow.own g hg
 have HROW := Lib.hid (hrow.below hb2)
 have HW := Lib.hid hw2
 have d0 := (HD.out 0 _ rfl).1
 have d0w := d0
 rw [hw2] at d0w
 clear hb1 hb2 hrow hw2
 go_wp2_with fail
 rw [← HW.out]
 clear HW d0 d0w
 refine (prule_spec a rs cap line _ HV.out hl24 hs (HRW.out.below HB.out)).mono ?_
 rintro e w3 ⟨f, fcs, ok, rfl, hf, hb3, hyes, hno⟩
 rw [← HJ.out] at hyes hno
 have hs3 := hb3.size
 have h8 := hf.1.length
 obtain ⟨g4, h4, g5, h5, g6, h6, g7, h7, rfl, -⟩ := id hf.1
 obtain ⟨w4, hw4⟩ : ∃ w4, w4 = w3.alloc (.cells #[.string f.name, .int .i64 f.kind, .int .i64 f.size, .bool f.little, .slice g4 f.bytes.length h4, .slice g5 f.names.length h5, .slice g6 f.tags.length h6, .slice g7 f.kids.length h7] 59) := ⟨_, rfl⟩
 have hb4 : Below w3.heap.size w3 w4 := by subst hw4; exact (Below.refl _ _).alloc (Nat.le_refl _) _
 have hs4 : w4.heap.size = w3.heap.size + 1 := by subst hw4; simp
 have hb34 := hb3.trans (hb4.mono hs3)
 have HI : Hid (CellsAt w3.heap.size [.string f.name, .int .i64 f.kind, .int .i64 f.size, .bool f.little, .slice g4 f.bytes.length h4, .slice g5 f.names.length h5, .slice g6 f.tags.length h6, .slice g7 f.kids.length h7] w4) := by subst hw4; exact CellsAt.new w3 _ _
 replace HB := Lib.hid (HB.out.trans (hb34.mono HB.out.size))
 replace HD := Lib.hid (HD.out.below hb34)
 replace HZ := Lib.hid (HZ.out.below hb34)
 replace HO := Lib.hid (HO.out.below hb34)
 replace HROW := Lib.hid (HROW.out.below hb34)
 have HF := Lib.hid (hf.below hb4)
 have HYES := Lib.hid hyes
 have HNO := Lib.hid hno
 have HW := Lib.hid hw4
 obtain ⟨d0, -⟩ := HD.out 0 _ rfl
 clear hb3 hb4 hb34 hf hyes hno hw4
 by_cases hadd : ok = true ∧ rs.length < 24
 ·obtain ⟨rfl, hlt⟩ := hadd
  have g24 : decide ((24 : Int) ≤ (rs.length : Int)) = false := decide_eq_false (by omega)
  have g24n : decide (24 ≤ rs.length) = false := decide_eq_false (by omega)
  have HACC := Lib.hid (HYES.out rfl)
  clear HNO HYES
  go_upto_region 3 with fail
  rw [← HW.out]
  clear HW
  go_upto_region 5 with fail
  clear d0
  obtain ⟨o0, p0⟩ := HO.out.1 0 _ rfl
  obtain ⟨e0, -⟩ := HI.out 0 _ rfl
  obtain ⟨e1, -⟩ := HI.out 1 _ rfl
  obtain ⟨e2, -⟩ := HI.out 2 _ rfl
  obtain ⟨e3, -⟩ := HI.out 3 _ rfl
  obtain ⟨e4, -⟩ := HI.out 4 _ rfl
  obtain ⟨e5, -⟩ := HI.out 5 _ rfl
  obtain ⟨e6, -⟩ := HI.out 6 _ rfl
  obtain ⟨e7, -⟩ := HI.out 7 _ rfl
  have HNE : Hid (∀ b ∈ ([.string f.name, .int .i64 f.kind, .int .i64 f.size, .bool f.little, .slice g4 f.bytes.length h4, .slice g5 f.names.length h5, .slice g6 f.tags.length h6, .slice g7 f.kids.length h7] : List Value).flatMap sliceBlk, w0.heap.size ≤ b ∧ some b ≠ (Value.slice xq rs.length cq).ownBlock) := fun b hb => by
   have h1 := HF.out.2.2 b hb
   exact ⟨by omega, fun e => by
    have := (HOWN.out b e.symm).2
    omega⟩
  go_wp2_with (at_builtin; refine wp_pushQ rfl (.tmp 27) (.tmp 29) rfl w0.heap.size (.slice xq rs.length cq) rs f _ w4 (by simp [Act.eval]) (by simp [Act.eval]) HROW.out HF.out.1 HF.out.2.1 HNE.out (by omega) (by omega) ?_)
  intro v5 w5 hrow5 hg5
  obtain ⟨x5, c5, rfl, hq5, hle5, hnn5⟩ := hrow5.rdq
  have HO5 := Lib.hid (HO.out.grown hg5 (fun e => by have := (HOWN.out _ e.symm).2; omega))
  have HZ5 := Lib.hid (HZ.out.grown hg5 (fun e => by have := (HOWN.out _ e.symm).1; omega))
  have HB5 := Lib.hid (HB.out.grown hg5 HB.out.size (fun g e => by have := (HOWN.out g e).1; omega))
  have HR5 := Lib.hid hq5
  have hs5 := hg5.size
  clear hrow5 hg5 hq5 o0 p0 e0 e1 e2 e3 e4 e5 e6 e7 HO HZ HB HI HF HNE HROW
  obtain ⟨o0, p0⟩ := HO5.out.1 0 _ rfl
  obtain ⟨w6, hw6⟩ : ∃ w6, w6 = w5.setCell ⟨w1.heap.size, 0, none⟩ (.slice x5 (rs.length + 1) c5) := ⟨_, rfl⟩
  have HO6 : Hid (SlotAt w1.heap.size (.slice x5 (rs.length + 1) c5) w6) := by subst hw6; exact HO5.out.set _
  have HR6 : Hid (RdQ x5 (rs ++ [f]) w6) := by subst hw6; exact HO5.out.rules HR5.out
  have HZ6 : Hid (SlotAt (w.heap.size + 1) (.slice none 0 0) w6) := by subst hw6; exact HZ5.out.far (by omega)
  have HB6 : Hid (Below w.heap.size w w6) := by subst hw6; exact HB5.out.setCell (p := ⟨w1.heap.size, 0, none⟩) (by show w.heap.size ≤ w1.heap.size; omega) _
  have HWW := Lib.hid hw6
  clear hw6 HO5 HR5 HZ5 HB5
  go_upto_region 6 with fail
  rw [← HWW.out]
  clear HWW o0 p0
  have o6 := HO6.out.cell
  obtain ⟨z0, t0⟩ := HZ6.out.1 0 _ rfl
  go_wp2
  (try simp only [Exit.inBlock, Exit.then])
  refine bodyPost_ret (v := .tuple #[.agg #[.slice x5 (rs.length + 1) c5], .bool true]) ?_ rfl ?_
  ·simp [results, Tryz.results32, go_sem, z0]
  ·exact ⟨x5, rs ++ [f], c5, true, by simp, HZ6.out.rules HR6.out, HB6.out.setCell (p := ⟨w.heap.size + 1, 0, none⟩) (by show w.heap.size ≤ w.heap.size + 1; omega) _, .inl ⟨rfl, hlt, f, HACC.out, rfl⟩⟩
 ·have hfin : Hid (24 ≤ rs.length ∨ ∀ y, ¬ Acc rs J y) := by
   cases ok with
   | true => exact .inl (by simpa using hadd)
   | false => exact .inr (HNO.out rfl)
  have hway : ok = false ∨ ok = true ∧ decide ((24 : Int) ≤ (rs.length : Int)) = true ∧ decide (24 ≤ rs.length) = true := by
   cases ok with
   | true =>
    have : 24 ≤ rs.length := by simpa using hadd
    exact .inr ⟨rfl, decide_eq_true (by omega), decide_eq_true this⟩
   | false => exact .inl rfl
  clear hadd HNO HYES HI HF
  obtain ⟨x9, c9, e9, hq9, -⟩ := HROW.out.rdq
  injection e9 with e91 e92 e93
  subst e91 e93
  have HR9 := Lib.hid hq9
  clear hq9
  have o9 := HO.out.cell
  obtain ⟨z0, t0⟩ := HZ.out.1 0 _ rfl
  rcases hway with rfl | ⟨rfl, g24, g24n⟩
  all_goals (
   go_upto_region 3 with fail
   rw [← HW.out]
   clear HW
   go_wp2
   (try simp only [Exit.inBlock, Exit.then])
   refine bodyPost_ret (v := .tuple #[.agg #[.slice xq rs.length cq], .bool false]) ?_ rfl ?_
   ·simp [results, Tryz.results32, go_sem, z0]
   ·exact ⟨xq, rs, cq, false, rfl, HZ.out.rules HR9.out, HB.out.setCell (p := ⟨w.heap.size + 1, 0, none⟩) (by show w.heap.size ≤ w.heap.size + 1; omega) _, .inr ⟨rfl, hfin.out⟩⟩)
def DescrReadS (out : List RuleV × Nat) (w : World) (e : Ending) (w' : World) : Prop :=
 ∃ (x : Option Addr) (rs : List RuleV) (cp n : Nat), e = .returned (.tuple #[.agg #[.slice x rs.length cp], .int .i64 (n : Int)]) ∧ out = (rs, n) ∧ RdQ x rs w' ∧ Below w.heap.size w w'
def ReadRelS (ls : List ByteArray) (xl : Option Addr) (B : Nat) (w : World) (out : List RuleV × Nat) (k : Nat) (W : World) : Prop :=
 ∃ rs x cp, allV (kindI rs) rs ∧ rs.length ≤ 24 ∧ readL (ls.drop k) rs k = out ∧ RdQ x rs W ∧ SlotAt (B + 1) (.slice x rs.length cp) W ∧ SlotAt B (.slice none 0 0) W ∧ FreshF Value.string (B + 2) xl ls W ∧ Below w.heap.size w W ∧ B + 2 ≤ W.heap.size
set_option maxHeartbeats 8000000 in
theorem pdescr_spec (text : ByteArray) (w : World) (hs : text.size ≤ 1048576) :
    Calls Tryz.prog 11 #[.string text] w (DescrReadS (parseD text) w) := by
  obtain ⟨out, hout⟩ : ∃ out, out = parseD text := ⟨_, rfl⟩
  rw [← hout]
  have HOUT : Hid (readL (linesS text) [] 0 = out) := hout.symm
  clear hout
  obtain ⟨w0, hw0⟩ : ∃ w0, w0 = (w.alloc (.cells #[.slice none 0 0] 26)).alloc (.cells #[.slice none 0 0] 26) := ⟨_, rfl⟩
  have hB0 : Below w.heap.size w w0 := by subst hw0; exact ((Below.refl _ w).alloc (Nat.le_refl _) _).alloc (by simp) _
  have hz0 : w0.heap.size = w.heap.size + 2 := by subst hw0; simp
  have hD : SlotAt w.heap.size (.slice none 0 0) w0 := by subst hw0; exact (SlotAt.new w _ _).below ((Below.refl _ _).alloc (Nat.le_refl _) _)
  have hZ : SlotAt (w.heap.size + 1) (.slice none 0 0) w0 := by
    subst hw0
    have h1 := SlotAt.new (w.alloc (.cells #[.slice none 0 0] 26)) (.slice none 0 0) 26
    simpa using h1
  have HB := Lib.hid hB0
  have HD := Lib.hid hD
  have HZ := Lib.hid hZ
  have HW := Lib.hid hw0
  have hll := lines_le1 text
  have HLE := Lib.hid (fun q (hq : q ∈ linesS text) => line_le1 hq)
  clear hB0 hD hZ hw0
  go_enter Tryz.func11, Tryz.ntmps11
  go_wp2_with fail
  rw [← HW.out]
  clear HW
  refine (lines_spec text _ (by omega)).mono ?_
  rintro e w1 ⟨xl, cl, rfl, hrow, hb1⟩
  obtain ⟨ls, hls⟩ : ∃ ls, ls = linesS text := ⟨_, rfl⟩
  rw [← hls] at hrow hll HLE HOUT ⊢
  have HREL : Hid (ReadRelS ls xl w.heap.size w out 0 w1) := ⟨[], none, 0, allV_nil, Nat.zero_le _, HOUT.out, RdQ.nil _ _, HZ.out.below hb1, HD.out.below hb1, hrow.1.more (by omega), HB.out.trans (hb1.mono HB.out.size), by have := hb1.size; omega⟩
  clear hb1 hrow hls HD HZ HB HOUT
  go_wp2
  go_loopw [6] (fun v W => ∃ k : Nat, k ≤ ls.length ∧ v = .int .i64 k ∧ Hid (ReadRelS ls xl w.heap.size w out k W)) (fun v _ => ls.length - (intOf v).toNat)
  case atStart => exact ⟨0, Nat.zero_le _, rfl, HREL⟩
  case round =>
    clear HREL
    obtain ⟨k, hk, rfl, hr⟩ := hrel
    obtain ⟨rs, x, cp, hv, hl24, hread, hown, hc1, hc0, hlines, hbw, hB2⟩ := hr.out
    clear hr
    have k0 : (0 : Int) ≤ (k : Int) := by omega
    have HV := Lib.hid hv
    have HOWN := Lib.hid hown
    have HC1 := Lib.hid hc1
    have HC0 := Lib.hid hc0
    have HLN := Lib.hid hlines
    have HBW := Lib.hid hbw
    have HREAD := Lib.hid hread
    clear hv hown hc1 hc0 hlines hbw hread
    by_cases hlt : k < ls.length
    · have k1 : (k : Int) < (ls.length : Int) := by omega
      obtain ⟨bl, ol, rfl, hcell⟩ := HLN.out.rd k hlt
      have hsz := HLE.out _ (List.getElem_mem hlt)
      have hskip := fun h => Lib.hid ((readL_some (rs := rs) hlt (stepR_skip h)).symm.trans HREAD.out)
      have hadd := fun f h1 h2 h3 => Lib.hid ((readL_some (rs := rs) hlt (stepR_add (f := f) HV.out h1 h2 h3)).symm.trans HREAD.out)
      have hno := fun h1 h2 => Lib.hid ((readL_none (rs := rs) hlt (stepR_no h1 h2)).symm.trans HREAD.out)
      obtain ⟨line, hline⟩ : ∃ line, line = ls[k] := ⟨_, rfl⟩
      rw [← hline] at hcell hsz hskip hadd hno
      clear hline
      have HCL := Lib.hid hcell
      go_wp2_with fail
      refine (comment_spec line _ (by omega)).mono ?_
      rintro e w2 ⟨rfl, hb2⟩
      have hs2 := hb2.size
      replace HCL := Lib.hid ((hb2.cell (cell_lt HCL.out)).trans HCL.out)
      replace HOWN := Lib.hid (HOWN.out.below hb2)
      replace HC1 := Lib.hid (HC1.out.below hb2)
      replace HC0 := Lib.hid (HC0.out.below hb2)
      replace HLN := Lib.hid (HLN.out.below hb2)
      replace HBW := Lib.hid (HBW.out.trans (hb2.mono HBW.out.size))
      clear hb2 hcell
      by_cases hcm : commentW (wordsS line) = true
      · have HN := hskip hcm
        rw [hcm]
        clear hskip hadd hno hcm
        go_wp2
        go_roundw
        case rel => exact ⟨k + 1, by omega, by go_num, rs, x, cp, HV.out, hl24, HN.out, HOWN.out, HC1.out, HC0.out, HLN.out, HBW.out, by omega⟩
        case measure => simp [intOf]; omega
      · have hcm' : commentW (wordsS line) = false := by simpa using hcm
        rw [hcm']
        have HSKIP := Lib.hid hcm'
        clear hskip hcm
        have HADD := Lib.hid hadd
        have HNO := Lib.hid hno
        clear hadd hno hcm'
        have hba : Below w2.heap.size w2 (w2.alloc (.cells #[.slice none 0 0] 26)) := (Below.refl _ _).alloc (Nat.le_refl _) _
        have HSN : Hid (SlotAt w2.heap.size (.slice none 0 0) (w2.alloc (.cells #[.slice none 0 0] 26)).drew) := (SlotAt.new w2 _ _).below (below_drewN (Below.refl _ _) 1)
        have hza : (w2.alloc (.cells #[.slice none 0 0] 26)).drew.heap.size = w2.heap.size + 1 := World.size_alloc _ _
        have HZA := Lib.hid hza
        have d1 := HC1.out.cell
        have dA := (HC1.out.below hba).cell
        have l1 := HCL.out
        have lA := (hba.cell (cell_lt HCL.out)).trans HCL.out
        have HADDR : Hid (∀ W, Below w2.heap.size w2 W → Calls Tryz.prog 32 #[.agg #[.slice x rs.length cp], .string line] W (AddReadS rs (spaced line) W)) := fun W hb => addrule_spec x rs cp line W HV.out hl24 (by omega) (HOWN.out.below hb)
        clear hza hba
        go_upto_region 7 with fail
        go_cut [7, 8] from 12 to 37 (fun p q W => ∃ (a3 : Option Addr) (ss : List RuleV) (c3 : Nat) (ok : Bool) (N : Nat), p = .pointer (some ⟨N, 0, none⟩) ∧ q = .bool ok ∧ w2.heap.size ≤ N ∧ Hid (SlotAt N (.slice a3 ss.length c3) W) ∧ Hid (RdQ a3 ss W) ∧ Hid (Below w2.heap.size w2 W) ∧ Hid ((ok = true ∧ rs.length < 24 ∧ ∃ f, Acc rs (spaced line) f ∧ ss = rs ++ [f]) ∨ (ok = false ∧ (24 ≤ rs.length ∨ ∀ y, ¬ Acc rs (spaced line) y))))
        case first =>
          go_region_law (first
            | (go_simp; go_at_call 32; refine (HADDR.out w2.drew (below_drewN (Below.refl _ _) 1)).mono ?_; rintro e w3 ⟨a3, ss, c3, ok, rfl, hq, hb3, hcase⟩; have HQA := Lib.hid hq; have HB3 := Lib.hid ((below_drewN (Below.refl w2.heap.size w2) 1).trans hb3); have HCS := Lib.hid hcase; clear hq hb3 hcase)
            | (go_simp; go_at_call 32; refine (HADDR.out (w2.alloc (.cells #[.slice none 0 0] 26)).drew (below_drewN ((Below.refl _ _).alloc (Nat.le_refl _) _) 1)).mono ?_; rintro e w3 ⟨a3, ss, c3, ok, rfl, hq, hb3, hcase⟩; have HQB := Lib.hid hq; have HB3 := Lib.hid ((below_drewN ((Below.refl w2.heap.size w2).alloc (Nat.le_refl _) (.cells #[.slice none 0 0] 26)) 1).trans (hb3.mono (by have := HZA.out; omega))); have HS3 := Lib.hid (HSN.out.below hb3); have HCS := Lib.hid hcase; obtain ⟨b0, f0⟩ := HS3.out.1 0 _ rfl; clear hq hb3 hcase))
          all_goals (
            have hsz3 := HB3.out.size
            first
              | (have hb5 : Below w3.heap.size w3 (w3.alloc (.cells #[.slice a3 ss.length c3] 26)) := (Below.refl _ _).alloc (Nat.le_refl _) _
                 have HS5 : Hid (SlotAt w3.heap.size (.slice a3 ss.length c3) (w3.alloc (.cells #[.slice a3 ss.length c3] 26))) := SlotAt.new w3 _ _
                 have HQ5 := Lib.hid (HQA.out.below hb5)
                 have HB5 := Lib.hid (HB3.out.trans (hb5.mono hsz3))
                 clear HQA HB3 hb5
                 go_wp2_with fail
                 go_meet
                 exact ⟨a3, ss, c3, ok, w3.heap.size, rfl, rfl, hsz3, HS5, HQ5, HB5, HCS⟩)
              | (go_wp2_with fail
                 go_meet
                 exact ⟨a3, ss, c3, ok, w2.heap.size, rfl, rfl, Nat.le_refl _, HS3.out.set _, HS3.out.rules HQB.out, HB3.out.setCell (p := ⟨w2.heap.size, 0, none⟩) (Nat.le_refl _) _, HCS⟩))
        case rest =>
          obtain ⟨a3, ss, c3, ok, N, rfl, rfl, hN, HS, HQ, HB3, HCS⟩ := hcut
          have hs3 := HB3.out.size
          replace HC1 := Lib.hid (HC1.out.below HB3.out)
          replace HC0 := Lib.hid (HC0.out.below HB3.out)
          replace HLN := Lib.hid (HLN.out.below HB3.out)
          replace HBW := Lib.hid (HBW.out.trans (HB3.out.mono HBW.out.size))
          clear d1 dA l1 lA HADDR HSN HZA HOWN
          rcases HCS.out with ⟨rfl, hlt24, f, hacc, hss⟩ | ⟨rfl, hnone⟩
          · have HN := HADD.out f HSKIP.out hlt24 hacc
            have HV2 := Lib.hid (allV_snoc HV.out hacc.1)
            have hl2 : ss.length ≤ 24 := by rw [hss]; simp; omega
            rw [← hss] at HN HV2
            clear HADD HNO hacc hss HCS
            have n0 := HS.out.cell
            obtain ⟨c1, f1⟩ := HC1.out.1 0 _ rfl
            have HRELN : Hid (ReadRelS ls (some ⟨bl, ol, none⟩) w.heap.size w out (k + 1) (wc.setCell ⟨w.heap.size + 1, 0, none⟩ (.slice a3 ss.length c3))) := by
              refine ⟨ss, a3, c3, HV2.out, hl2, HN.out, HC1.out.rules HQ.out, HC1.out.set _, HC0.out.far (by omega), HLN.out.setFar (by omega), HBW.out.setCell (p := ⟨w.heap.size + 1, 0, none⟩) (by show w.heap.size ≤ w.heap.size + 1; omega) _, by simp; omega⟩
            clear HC1 HC0 HLN HV2 HN HS HQ
            go_wp2
            go_roundw
            case rel => exact ⟨k + 1, by omega, by go_num, HRELN⟩
            case measure => simp [intOf]; omega
          · have HN := HNO.out HSKIP.out hnone
            clear HADD HNO hnone HCS
            obtain ⟨c0, f0⟩ := HC0.out.1 0 _ rfl
            go_wp2
            (try simp only [Exit.inBlock, Exit.then])
            refine bodyPost_ret (v := .tuple #[.agg #[.slice none 0 0], .int .i64 ((k : Int) + 1)]) ?_ rfl ?_
            · simp [results, Tryz.results11, go_sem, c0]
            · exact ⟨none, [], 0, k + 1, by simp, HN.out.symm, RdQ.nil _ _, HBW.out.setCell (p := ⟨w.heap.size, 0, none⟩) (by show w.heap.size ≤ w.heap.size; omega) _⟩
    · have k1 : ¬ (k : Int) < (ls.length : Int) := by omega
      obtain rfl : k = ls.length := by omega
      have hend := HREAD.out
      rw [readL_end] at hend
      have c1 := HC1.out.cell
      obtain ⟨c0, f0⟩ := HC0.out.1 0 _ rfl
      by_cases h0 : rs.length = 0
      · rw [if_pos h0] at hend
        have HN := Lib.hid hend
        have g0 : ((rs.length : Int) == 0) = true := by simp [h0]
        rw [h0] at c1
        clear hend h0 HREAD
        go_wp2
        (try simp only [Exit.inBlock, Exit.then])
        refine bodyPost_ret (v := .tuple #[.agg #[.slice none 0 0], .int .i64 ((ls.length : Int) + 1)]) ?_ rfl ?_
        · simp [results, Tryz.results11, go_sem, c0]
        · exact ⟨none, [], 0, ls.length + 1, by simp, HN.out.symm, RdQ.nil _ _, HBW.out.setCell (p := ⟨w.heap.size, 0, none⟩) (by show w.heap.size ≤ w.heap.size; omega) _⟩
      · rw [if_neg h0] at hend
        have HN := Lib.hid hend
        have g0 : ((rs.length : Int) == 0) = false := beq_eq_false_iff_ne.2 (by omega)
        have n0 : ¬ rs.length = 0 := h0
        clear hend h0 HREAD
        go_wp2
        (try simp only [Exit.inBlock, Exit.then])
        refine bodyPost_ret (v := .tuple #[.agg #[.slice x rs.length cp], .int .i64 0]) ?_ rfl ?_
        · simp [results, Tryz.results11, go_sem, c0]
        · exact ⟨x, rs, cp, 0, rfl, HN.out.symm, HC0.out.rules HOWN.out, HBW.out.setCell (p := ⟨w.heap.size, 0, none⟩) (by show w.heap.size ≤ w.heap.size; omega) _⟩
set_option maxHeartbeats 2000000 in
theorem norm_impl (s : ByteArray) (w : World) (hs : s.size ≤ 1048576) (ht : Tabs w) :
  Calls Tryz.prog 14 #[.string s] w fun e w' => e = .returned (.string (normT s)) ∧ Below w.heap.size w w' := by
 have HT := Lib.hid ht
 clear ht
 go_enter Tryz.func14, Tryz.ntmps14
 go_wp2_with fail
 refine (pdescr_impl s _ hs HT.out).mono ?_
 rintro e w1 ⟨x, rs, cp, n, rfl, hout, hq, hb1⟩
 obtain ⟨hv, hl⟩ := parseD_small s
 rw [hout] at hv hl
 have HV := Lib.hid hv
 replace hl : rs.length ≤ 24 := hl
 obtain ⟨w2, hw2⟩ : ∃ w2, w2 = w1.alloc (.cells #[.slice x rs.length cp] 26) := ⟨_, rfl⟩
 have hb2 : Below w1.heap.size w1 w2 := by subst hw2; exact (Below.refl _ _).alloc (Nat.le_refl _) _
 have HX : Hid (CellsAt w1.heap.size [.slice x rs.length cp] w2) := by subst hw2; exact CellsAt.new w1 _ _
 have HB := Lib.hid (hb1.trans (hb2.mono hb1.size))
 have HQ := Lib.hid (hq.below hb2)
 have HW := Lib.hid hw2
 clear hb1 hb2 hq hw2 hv
 by_cases h0 : n = 0
 ·have g0 : ((n : Int) != 0) = false := by simp [h0]
  have HN : Hid (textD rs = normT s) := by show _ = _; unfold normT; rw [hout]; simp [h0]
  clear h0 hout
  go_upto_region 4 with fail
  rw [← HW.out]
  clear HW
  obtain ⟨d0, -⟩ := HX.out 0 _ rfl
  go_wp2_with fail
  refine (fdescr_impl x rs cp _ (by omega) (valid_short HV.out) (valid_spelt HV.out) (HT.out.below HB.out).pow HQ.out.rdc).mono ?_
  rintro e w3 ⟨rfl, hb3⟩
  have HB3 := Lib.hid (HB.out.trans (hb3.mono HB.out.size))
  obtain ⟨T, hT⟩ : ∃ T, T = textD rs := ⟨_, rfl⟩
  rw [← hT] at HN ⊢
  clear hb3 d0 hT
  go_wp2
  go_ret
  exact ⟨ret_str HN.out, HB3.out⟩
 ·have g0 : ((n : Int) != 0) = true := by simp [h0]
  have HN : Hid ((⟨#[]⟩ : ByteArray) = normT s) := by show _ = _; unfold normT; rw [hout]; simp [h0]
  clear h0 hout
  go_upto_region 2 with fail
  rw [← HW.out]
  clear HW
  go_wp2
  go_ret
  exact ⟨ret_str HN.out, HB.out⟩
end Go.Proofs.YtndjefednfcmmaaGreatDoor
