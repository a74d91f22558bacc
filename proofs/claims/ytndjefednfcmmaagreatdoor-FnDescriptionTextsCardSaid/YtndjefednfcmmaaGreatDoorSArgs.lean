/- The contract of the model's l6Args. -/
import Derived.Test.YtndjefednfcmmaaGreatDoorGSK
import Derived.Test.YtndjefednfcmmaaGreatDoorGSl
import Derived.Deep.RegionLaw
set_option maxRecDepth 100000
namespace Go.Proofs.YtndjefednfcmmaaGreatDoor
open Go Go.RowKit
def Want (rs : List RuleV) (nm : ByteArray) (k : Int) (ws : List ByteArray) (P : RuleV → Prop) : Prop := ∀ J y, allV (kindI rs) rs → Acc rs J y → fieldsOf (rs ++ [y]) rs.length y = ws → y.name = nm → y.kind = k → P y
def ArgsOut (rs : List RuleV) (nm : ByteArray) (k : Int) (ws : List ByteArray) (w : World) (e : Ending) (w' : World) : Prop :=
 ∃ x cs ok, e = .returned (.tuple #[.agg cs.toArray, .bool ok]) ∧ HasRule w.heap.size x cs w' ∧ Below w.heap.size w w' ∧ Short x ∧ Spelt x ∧ Want rs nm k ws fun y => x = y ∧ ok = true
theorem rd_at {α : Type} {f : α → Value} {b off : Nat} {xs : List α} {w : World} (h : RdF f (some ⟨b, off, none⟩) xs w) (j : Nat) (hj : j < xs.length) : w.cell? ⟨b, off + j, none⟩ = some (f xs[j]) := by
 obtain ⟨b2, o2, e, hc⟩ := h j hj
 cases e
 exact hc
theorem rd_drop {α : Type} {f : α → Value} {b off : Nat} {xs : List α} {w : World} (h : RdF f (some ⟨b, off, none⟩) xs w) (k : Nat) : RdF f (some ⟨b, off + k, none⟩) (xs.drop k) w := fun j hj => by
 rw [List.length_drop] at hj
 refine ⟨b, off + k, rfl, ?_⟩
 rw [List.getElem_drop, show off + k + j = off + (k + j) by omega]
 exact rd_at h (k + j) (by omega)
theorem pairs_n (n : Nat) (a : Option Addr) (ws : List ByteArray) (cap : Nat) (w : World) (hn : n = ws.length) (hl : ws.length ≤ 1048576) (hz : ∀ s ∈ ws, s.size ≤ 1048576) (h : RdS a ws w) :
  Calls Tryz.prog 126 #[.slice a n cap] w (PairsOut ws w) := by subst hn; exact pairs_spec a ws cap w hl hz h
theorem spelt_args {nm : ByteArray} {kd sz : Int} {lt : Bool} {bs : List UInt8} {ts ks : List Int} (h : nm.size ≤ 1048576) : Spelt ⟨nm, kd, sz, lt, bs, [], ts, ks⟩ := ⟨h, fun s hs => by cases hs⟩
theorem short_of4 {nm : ByteArray} {kd sz : Int} {lt : Bool} {bs : List UInt8} {ns : List ByteArray} {ts ks : List Int} (h1 : bs.length ≤ 1048576) (h2 : ns.length ≤ 1048576) (h3 : ts.length ≤ 1048576) (h4 : ks.length ≤ 1048576) : Short ⟨nm, kd, sz, lt, bs, ns, ts, ks⟩ := ⟨h1, h2, h3, h4⟩
abbrev rc (nm : ByteArray) (k sz : Int) (lt : Bool) (v4 v5 v6 v7 : Value) : List Value := [.string nm, .int .i64 k, .int .i64 sz, .bool lt, v4, v5, v6, v7]
abbrev n0 : Value := .slice none 0 0
theorem args_start (a : Option Addr) (rs : List RuleV) (cap : Nat) (nm : ByteArray) (k : Int) {a1 : Option Addr} {ws : List ByteArray} {w : World} (hr : RdR a rs w) (h : RdS a1 ws w) :
  ∃ w0, Hid (w0 = ((w.alloc (.cells #[.slice a rs.length cap] 26)).alloc (.cells #[.string nm, .int .i64 k, .int .i64 0, .bool false, .slice none 0 0, .slice none 0 0, .slice none 0 0, .slice none 0 0] 59)).alloc (.cells #[.string ⟨#[]⟩, .int .i64 0, .int .i64 0, .bool false, .slice none 0 0, .slice none 0 0, .slice none 0 0, .slice none 0 0] 59)) ∧
   Hid (Below w.heap.size w w0) ∧ Hid (w0.heap.size = w.heap.size + 3) ∧ Hid (CellsAt w.heap.size [.slice a rs.length cap] w0) ∧ Hid (CellsAt (w.heap.size + 1) (rc nm k 0 false n0 n0 n0 n0) w0) ∧ Hid (CellsAt (w.heap.size + 2) zeroCs w0) ∧ Hid (RdR a rs w0) ∧ Hid (RdS a1 ws w0) := by
 have hB := fun o1 o2 o3 => (((Below.refl w.heap.size w).alloc (Nat.le_refl _) o1).alloc (by simp) o2).alloc (by simp; omega) o3
 refine ⟨_, rfl, hB _ _ _, (by show _ = _; simp), ?_, ?_, ?_, hr.below (hB _ _ _), h.below (hB _ _ _)⟩
 ·exact ((CellsAt.new w [.slice a rs.length cap] _).below ((Below.refl _ _).alloc (Nat.le_refl _) _)).below ((Below.refl _ _).alloc (Nat.le_refl _) _)
 ·have h1 := CellsAt.new (w.alloc (.cells #[.slice a rs.length cap] 26)) (rc nm k 0 false n0 n0 n0 n0) 59
  simp only [World.size_alloc] at h1
  exact h1.below ((Below.refl _ _).alloc (Nat.le_refl _) _)
 ·have h1 := CellsAt.new ((w.alloc (.cells #[.slice a rs.length cap] 26)).alloc (.cells (rc nm k 0 false n0 n0 n0 n0).toArray 59)) zeroCs 59
  simp only [World.size_alloc] at h1
  exact h1
set_option maxHeartbeats 4000000 in
theorem args_1 (a : Option Addr) (rs : List RuleV) (cap : Nat) (nm : ByteArray) (a1 : Option Addr) (ws : List ByteArray) (cap1 : Nat) (w : World) (hrl : rs.length ≤ 1048576) (hl0 : 0 < ws.length) (hl : ws.length ≤ 1048575) (hc1 : ws.length ≤ cap1) (hz : ∀ s ∈ ws, s.size ≤ 1048576) (hnz : nm.size ≤ 1048576) (hr : RdR a rs w) (h : RdS a1 ws w) :
  Calls Tryz.prog 97 #[.agg #[.slice a rs.length cap], .agg #[.string nm, .int .i64 1, .int .i64 0, .bool false, .slice none 0 0, .slice none 0 0, .slice none 0 0, .slice none 0 0], .slice a1 ws.length cap1] w (ArgsOut rs nm 1 ws w) := by
 obtain ⟨w0, HW, HB, HSZ, HD, HI, HZ, HR, H⟩ := args_start a rs cap nm 1 hr h
 have HRL := Lib.hid hrl
 have HRW := Lib.hid hr
 have HXW := Lib.hid h
 have HS := Lib.hid hz
 have HC1 := Lib.hid hc1
 clear hr h hz hc1
 go_enter Tryz.func97, Tryz.ntmps97
 go_upto_region 3 with fail
 rw [← HW.out]
 clear HW
 obtain ⟨i1, -⟩ := HI.out 1 _ rfl
 obtain ⟨b0, off, rfl, hc0⟩ := H.out 0 hl0
 rw [Nat.add_zero] at hc0
 have hx0 := HS.out _ (List.getElem_mem hl0)
 have k0 : (0 : Int) < (ws.length : Int) := by omega
 obtain ⟨lt, hlt⟩ : ∃ lt, lt = (if h : ws.length = 2 then decide (ws[1] = littleS) else false) := ⟨_, rfl⟩
 have HY0 : Hid (Want rs nm 1 ws fun y => ∃ m : Nat, Spells ws[0] m ∧ y = ⟨nm, 1, (m : Int), lt, [], [], [], []⟩) := fun J y hr hy hf hn hk => by rw [hlt]; exact want_int hr hy hf hn hk hl0
 have HLT := Lib.hid hlt
 clear hlt
 generalize ws[0] = x0 at hc0 hx0 HY0
 go_wp2_with fail
 refine (pint_spec x0 _ hx0).mono ?_
 rintro e w1 ⟨n, ok, rfl, hn, hw, hb1⟩
 obtain ⟨b, hb⟩ : ∃ b, b = (ok) := ⟨_, rfl⟩
 have HY : Hid (Want rs nm 1 ws fun y => ⟨nm, 1, (n : Int), lt, [], [], [], []⟩ = y ∧ b = true) := fun J y q1 q2 q3 q4 q5 => by obtain ⟨m, hm, rfl⟩ := HY0.out J y q1 q2 q3 q4 q5; obtain ⟨rfl, rfl⟩ := hw m hm; exact ⟨rfl, hb⟩
 have HBB := Lib.hid hb
 replace HB := Lib.hid (HB.out.trans (hb1.mono HB.out.size))
 replace HI := Lib.hid (HI.out.below hb1)
 replace HZ := Lib.hid (HZ.out.below hb1)
 clear hb hb1 hc0 hw i1 HR HD HY0 H
 obtain ⟨j2, f2⟩ := HI.out 2 _ rfl
 obtain ⟨v1, hv1⟩ : ∃ v, v = w1.setCell ⟨w.heap.size + 1, 2, none⟩ (.int .i64 (n : Int)) := ⟨_, rfl⟩
 have HIv1 : Hid (CellsAt (w.heap.size + 1) (rc nm 1 ((n : Int)) false n0 n0 n0 n0) v1) := by subst hv1; exact HI.out.set 2 (.int .i64 (n : Int)) (by simp)
 have HZv1 : Hid (CellsAt (w.heap.size + 2) zeroCs v1) := by subst hv1; exact HZ.out.far (by omega)
 have HBv1 : Hid (Below w.heap.size w v1) := by subst hv1; exact HB.out.setCell (p := ⟨w.heap.size + 1, 2, none⟩) (by show w.heap.size ≤ w.heap.size + 1; omega) _
 have H1 := Lib.hid (HXW.out.below HBv1.out)
 clear HI HZ HB
 go_upto_region 8 with fail
 rw [← hv1]
 clear hv1 j2 f2
 by_cases h2 : ws.length = 2
 ·have hc2 := rd_at H1.out 1 (by omega)
  have k1 : (1 : Int) < (ws.length : Int) := by omega
  have g2 : ((ws.length : Int) == 2) = true := by rw [h2]; rfl
  have hle : lt = decide (ws[1] = littleS) := by have := HLT.out; rw [dif_pos h2] at this; exact this
  obtain ⟨x1, hx1⟩ : ∃ x1, x1 = ws[1] := ⟨_, rfl⟩
  rw [← hx1] at hc2 hle
  clear HLT H1 hx1 h2
  by_cases hli : x1 = littleS
  ·have gq : (x1.toList == [108, 105, 116, 116, 108, 101]) = true := by have q := str_eq hli; rw [show littleS.toList = [108, 105, 116, 116, 108, 101] from by rw [ByteArray.toList_eq]; rfl] at q; exact q
   have hlb : lt = true := by rw [hle]; exact decide_eq_true hli
   subst hlb
   clear hle hli
   cases ok
   all_goals (
    obtain ⟨j3, f3⟩ := HIv1.out 3 _ rfl
    obtain ⟨v9, hv9⟩ : ∃ v, v = v1.setCell ⟨w.heap.size + 1, 3, none⟩ (.bool true) := ⟨_, rfl⟩
    have HIv9 : Hid (CellsAt (w.heap.size + 1) (rc nm 1 ((n : Int)) true n0 n0 n0 n0) v9) := by subst hv9; exact HIv1.out.set 3 (.bool true) (by simp)
    have HZv9 : Hid (CellsAt (w.heap.size + 2) zeroCs v9) := by subst hv9; exact HZv1.out.far (by omega)
    have HBv9 : Hid (Below w.heap.size w v9) := by subst hv9; exact HBv1.out.setCell (p := ⟨w.heap.size + 1, 3, none⟩) (by show w.heap.size ≤ w.heap.size + 1; omega) _
    go_upto_region 23 with fail
    rw [← hv9]
    clear hv9 j3 f3
    obtain ⟨i0, -⟩ := HIv9.out 0 _ rfl
    obtain ⟨i1, -⟩ := HIv9.out 1 _ rfl
    obtain ⟨i2, -⟩ := HIv9.out 2 _ rfl
    obtain ⟨i3, -⟩ := HIv9.out 3 _ rfl
    obtain ⟨i4, -⟩ := HIv9.out 4 _ rfl
    obtain ⟨i5, -⟩ := HIv9.out 5 _ rfl
    obtain ⟨i6, -⟩ := HIv9.out 6 _ rfl
    obtain ⟨i7, -⟩ := HIv9.out 7 _ rfl
    obtain ⟨z0, t0⟩ := HZv9.out 0 _ rfl
    obtain ⟨z1, t1⟩ := HZv9.out 1 _ rfl
    obtain ⟨z2, t2⟩ := HZv9.out 2 _ rfl
    obtain ⟨z3, t3⟩ := HZv9.out 3 _ rfl
    obtain ⟨z4, t4⟩ := HZv9.out 4 _ rfl
    obtain ⟨z5, t5⟩ := HZv9.out 5 _ rfl
    obtain ⟨z6, t6⟩ := HZv9.out 6 _ rfl
    obtain ⟨z7, t7⟩ := HZv9.out 7 _ rfl
    go_wp2
    (try simp only [Exit.inBlock, Exit.then])
    refine bodyPost_ret (v := .tuple #[.agg #[.string nm, .int .i64 1, .int .i64 ((n : Int)), .bool true, .slice none 0 0, .slice none 0 0, .slice none 0 0, .slice none 0 0], .bool b]) ?_ rfl ?_
    ·simp [results, Tryz.results97, go_sem, z0, z1, z2, z3, z4, z5, z6, z7, HBB.out]
    ·refine ⟨⟨nm, 1, (n : Int), true, [], [], [], []⟩, _, _, rfl, HasRule.more (lo := w0.heap.size) ?_ (by have := HSZ.out; omega), ?_, short_of4 (by simp) (by simp) (by simp) (by simp), spelt_args hnz, HY.out⟩
     ·iterate 8 (refine HasRule.grown ?_ (grown_set (grown_refl _ _) _ _) (by have := HSZ.out; omega))
      exact hasRule_of (row_nil _ _) (rowF_nil _ _) (rowF_nil _ _) (rowF_nil _ _)
     ·iterate 8 (refine Below.setCell ?_ (by show w.heap.size ≤ w.heap.size + 1 + 1; omega) _)
      exact HBv9.out)
  ·have gq : (x1.toList == [108, 105, 116, 116, 108, 101]) = false := by have q := str_ne hli; rw [show littleS.toList = [108, 105, 116, 116, 108, 101] from by rw [ByteArray.toList_eq]; rfl] at q; exact q
   have hlb : lt = false := by rw [hle]; exact decide_eq_false hli
   subst hlb
   clear hle hli
   cases ok
   all_goals (
    obtain ⟨j3, f3⟩ := HIv1.out 3 _ rfl
    obtain ⟨v9, hv9⟩ : ∃ v, v = v1.setCell ⟨w.heap.size + 1, 3, none⟩ (.bool false) := ⟨_, rfl⟩
    have HIv9 : Hid (CellsAt (w.heap.size + 1) (rc nm 1 ((n : Int)) false n0 n0 n0 n0) v9) := by subst hv9; exact HIv1.out.set 3 (.bool false) (by simp)
    have HZv9 : Hid (CellsAt (w.heap.size + 2) zeroCs v9) := by subst hv9; exact HZv1.out.far (by omega)
    have HBv9 : Hid (Below w.heap.size w v9) := by subst hv9; exact HBv1.out.setCell (p := ⟨w.heap.size + 1, 3, none⟩) (by show w.heap.size ≤ w.heap.size + 1; omega) _
    go_upto_region 23 with fail
    rw [← hv9]
    clear hv9 j3 f3
    obtain ⟨i0, -⟩ := HIv9.out 0 _ rfl
    obtain ⟨i1, -⟩ := HIv9.out 1 _ rfl
    obtain ⟨i2, -⟩ := HIv9.out 2 _ rfl
    obtain ⟨i3, -⟩ := HIv9.out 3 _ rfl
    obtain ⟨i4, -⟩ := HIv9.out 4 _ rfl
    obtain ⟨i5, -⟩ := HIv9.out 5 _ rfl
    obtain ⟨i6, -⟩ := HIv9.out 6 _ rfl
    obtain ⟨i7, -⟩ := HIv9.out 7 _ rfl
    obtain ⟨z0, t0⟩ := HZv9.out 0 _ rfl
    obtain ⟨z1, t1⟩ := HZv9.out 1 _ rfl
    obtain ⟨z2, t2⟩ := HZv9.out 2 _ rfl
    obtain ⟨z3, t3⟩ := HZv9.out 3 _ rfl
    obtain ⟨z4, t4⟩ := HZv9.out 4 _ rfl
    obtain ⟨z5, t5⟩ := HZv9.out 5 _ rfl
    obtain ⟨z6, t6⟩ := HZv9.out 6 _ rfl
    obtain ⟨z7, t7⟩ := HZv9.out 7 _ rfl
    go_wp2
    (try simp only [Exit.inBlock, Exit.then])
    refine bodyPost_ret (v := .tuple #[.agg #[.string nm, .int .i64 1, .int .i64 ((n : Int)), .bool false, .slice none 0 0, .slice none 0 0, .slice none 0 0, .slice none 0 0], .bool b]) ?_ rfl ?_
    ·simp [results, Tryz.results97, go_sem, z0, z1, z2, z3, z4, z5, z6, z7, HBB.out]
    ·refine ⟨⟨nm, 1, (n : Int), false, [], [], [], []⟩, _, _, rfl, HasRule.more (lo := w0.heap.size) ?_ (by have := HSZ.out; omega), ?_, short_of4 (by simp) (by simp) (by simp) (by simp), spelt_args hnz, HY.out⟩
     ·iterate 8 (refine HasRule.grown ?_ (grown_set (grown_refl _ _) _ _) (by have := HSZ.out; omega))
      exact hasRule_of (row_nil _ _) (rowF_nil _ _) (rowF_nil _ _) (rowF_nil _ _)
     ·iterate 8 (refine Below.setCell ?_ (by show w.heap.size ≤ w.heap.size + 1 + 1; omega) _)
      exact HBv9.out)
 ·have g2 : ((ws.length : Int) == 2) = false := beq_eq_false_iff_ne.2 (by omega)
  have hlb : lt = false := by have := HLT.out; rw [dif_neg h2] at this; exact this
  subst hlb
  clear HLT H1 h2
  cases ok
  all_goals (
   obtain ⟨j3, f3⟩ := HIv1.out 3 _ rfl
   obtain ⟨v9, hv9⟩ : ∃ v, v = v1.setCell ⟨w.heap.size + 1, 3, none⟩ (.bool false) := ⟨_, rfl⟩
   have HIv9 : Hid (CellsAt (w.heap.size + 1) (rc nm 1 ((n : Int)) false n0 n0 n0 n0) v9) := by subst hv9; exact HIv1.out.set 3 (.bool false) (by simp)
   have HZv9 : Hid (CellsAt (w.heap.size + 2) zeroCs v9) := by subst hv9; exact HZv1.out.far (by omega)
   have HBv9 : Hid (Below w.heap.size w v9) := by subst hv9; exact HBv1.out.setCell (p := ⟨w.heap.size + 1, 3, none⟩) (by show w.heap.size ≤ w.heap.size + 1; omega) _
   go_upto_region 23 with fail
   rw [← hv9]
   clear hv9 j3 f3
   obtain ⟨i0, -⟩ := HIv9.out 0 _ rfl
   obtain ⟨i1, -⟩ := HIv9.out 1 _ rfl
   obtain ⟨i2, -⟩ := HIv9.out 2 _ rfl
   obtain ⟨i3, -⟩ := HIv9.out 3 _ rfl
   obtain ⟨i4, -⟩ := HIv9.out 4 _ rfl
   obtain ⟨i5, -⟩ := HIv9.out 5 _ rfl
   obtain ⟨i6, -⟩ := HIv9.out 6 _ rfl
   obtain ⟨i7, -⟩ := HIv9.out 7 _ rfl
   obtain ⟨z0, t0⟩ := HZv9.out 0 _ rfl
   obtain ⟨z1, t1⟩ := HZv9.out 1 _ rfl
   obtain ⟨z2, t2⟩ := HZv9.out 2 _ rfl
   obtain ⟨z3, t3⟩ := HZv9.out 3 _ rfl
   obtain ⟨z4, t4⟩ := HZv9.out 4 _ rfl
   obtain ⟨z5, t5⟩ := HZv9.out 5 _ rfl
   obtain ⟨z6, t6⟩ := HZv9.out 6 _ rfl
   obtain ⟨z7, t7⟩ := HZv9.out 7 _ rfl
   go_wp2
   (try simp only [Exit.inBlock, Exit.then])
   refine bodyPost_ret (v := .tuple #[.agg #[.string nm, .int .i64 1, .int .i64 ((n : Int)), .bool false, .slice none 0 0, .slice none 0 0, .slice none 0 0, .slice none 0 0], .bool b]) ?_ rfl ?_
   ·simp [results, Tryz.results97, go_sem, z0, z1, z2, z3, z4, z5, z6, z7, HBB.out]
   ·refine ⟨⟨nm, 1, (n : Int), false, [], [], [], []⟩, _, _, rfl, HasRule.more (lo := w0.heap.size) ?_ (by have := HSZ.out; omega), ?_, short_of4 (by simp) (by simp) (by simp) (by simp), spelt_args hnz, HY.out⟩
    ·iterate 8 (refine HasRule.grown ?_ (grown_set (grown_refl _ _) _ _) (by have := HSZ.out; omega))
     exact hasRule_of (row_nil _ _) (rowF_nil _ _) (rowF_nil _ _) (rowF_nil _ _)
    ·iterate 8 (refine Below.setCell ?_ (by show w.heap.size ≤ w.heap.size + 1 + 1; omega) _)
     exact HBv9.out)
set_option maxHeartbeats 4000000 in
theorem args_3 (a : Option Addr) (rs : List RuleV) (cap : Nat) (nm : ByteArray) (a1 : Option Addr) (ws : List ByteArray) (cap1 : Nat) (w : World) (hrl : rs.length ≤ 1048576) (hl0 : 0 < ws.length) (hl : ws.length ≤ 1048575) (hc1 : ws.length ≤ cap1) (hz : ∀ s ∈ ws, s.size ≤ 1048576) (hnz : nm.size ≤ 1048576) (hr : RdR a rs w) (h : RdS a1 ws w) :
  Calls Tryz.prog 97 #[.agg #[.slice a rs.length cap], .agg #[.string nm, .int .i64 3, .int .i64 0, .bool false, .slice none 0 0, .slice none 0 0, .slice none 0 0, .slice none 0 0], .slice a1 ws.length cap1] w (ArgsOut rs nm 3 ws w) := by
 obtain ⟨w0, HW, HB, HSZ, HD, HI, HZ, HR, H⟩ := args_start a rs cap nm 3 hr h
 have HRL := Lib.hid hrl
 have HRW := Lib.hid hr
 have HXW := Lib.hid h
 have HS := Lib.hid hz
 have HC1 := Lib.hid hc1
 clear hr h hz hc1
 go_enter Tryz.func97, Tryz.ntmps97
 go_upto_region 3 with fail
 rw [← HW.out]
 clear HW
 obtain ⟨i1, -⟩ := HI.out 1 _ rfl
 obtain ⟨b0, off, rfl, hc0⟩ := H.out 0 hl0
 rw [Nat.add_zero] at hc0
 have hx0 := HS.out _ (List.getElem_mem hl0)
 have k0 : (0 : Int) < (ws.length : Int) := by omega
 obtain ⟨lt, hlt⟩ : ∃ lt, lt = (if h : ws.length = 2 then decide (ws[1] = littleS) else false) := ⟨_, rfl⟩
 have HY0 : Hid (Want rs nm 3 ws fun y => ∃ m : Nat, Spells ws[0] m ∧ y = ⟨nm, 3, (m : Int), lt, [], [], [], []⟩) := fun J y hr hy hf hn hk => by rw [hlt]; exact want_fixed hr hy hf hn hk hl0
 have HLT := Lib.hid hlt
 clear hlt
 generalize ws[0] = x0 at hc0 hx0 HY0
 go_wp2_with fail
 refine (pint_spec x0 _ hx0).mono ?_
 rintro e w1 ⟨n, ok, rfl, hn, hw, hb1⟩
 obtain ⟨b, hb⟩ : ∃ b, b = (ok) := ⟨_, rfl⟩
 have HY : Hid (Want rs nm 3 ws fun y => ⟨nm, 3, (n : Int), lt, [], [], [], []⟩ = y ∧ b = true) := fun J y q1 q2 q3 q4 q5 => by obtain ⟨m, hm, rfl⟩ := HY0.out J y q1 q2 q3 q4 q5; obtain ⟨rfl, rfl⟩ := hw m hm; exact ⟨rfl, hb⟩
 have HBB := Lib.hid hb
 replace HB := Lib.hid (HB.out.trans (hb1.mono HB.out.size))
 replace HI := Lib.hid (HI.out.below hb1)
 replace HZ := Lib.hid (HZ.out.below hb1)
 clear hb hb1 hc0 hw i1 HR HD HY0 H
 obtain ⟨j2, f2⟩ := HI.out 2 _ rfl
 obtain ⟨v1, hv1⟩ : ∃ v, v = w1.setCell ⟨w.heap.size + 1, 2, none⟩ (.int .i64 (n : Int)) := ⟨_, rfl⟩
 have HIv1 : Hid (CellsAt (w.heap.size + 1) (rc nm 3 ((n : Int)) false n0 n0 n0 n0) v1) := by subst hv1; exact HI.out.set 2 (.int .i64 (n : Int)) (by simp)
 have HZv1 : Hid (CellsAt (w.heap.size + 2) zeroCs v1) := by subst hv1; exact HZ.out.far (by omega)
 have HBv1 : Hid (Below w.heap.size w v1) := by subst hv1; exact HB.out.setCell (p := ⟨w.heap.size + 1, 2, none⟩) (by show w.heap.size ≤ w.heap.size + 1; omega) _
 have H1 := Lib.hid (HXW.out.below HBv1.out)
 clear HI HZ HB
 go_upto_region 8 with fail
 rw [← hv1]
 clear hv1 j2 f2
 by_cases h2 : ws.length = 2
 ·have hc2 := rd_at H1.out 1 (by omega)
  have k1 : (1 : Int) < (ws.length : Int) := by omega
  have g2 : ((ws.length : Int) == 2) = true := by rw [h2]; rfl
  have hle : lt = decide (ws[1] = littleS) := by have := HLT.out; rw [dif_pos h2] at this; exact this
  obtain ⟨x1, hx1⟩ : ∃ x1, x1 = ws[1] := ⟨_, rfl⟩
  rw [← hx1] at hc2 hle
  clear HLT H1 hx1 h2
  by_cases hli : x1 = littleS
  ·have gq : (x1.toList == [108, 105, 116, 116, 108, 101]) = true := by have q := str_eq hli; rw [show littleS.toList = [108, 105, 116, 116, 108, 101] from by rw [ByteArray.toList_eq]; rfl] at q; exact q
   have hlb : lt = true := by rw [hle]; exact decide_eq_true hli
   subst hlb
   clear hle hli
   cases ok
   all_goals (
    obtain ⟨j3, f3⟩ := HIv1.out 3 _ rfl
    obtain ⟨v9, hv9⟩ : ∃ v, v = v1.setCell ⟨w.heap.size + 1, 3, none⟩ (.bool true) := ⟨_, rfl⟩
    have HIv9 : Hid (CellsAt (w.heap.size + 1) (rc nm 3 ((n : Int)) true n0 n0 n0 n0) v9) := by subst hv9; exact HIv1.out.set 3 (.bool true) (by simp)
    have HZv9 : Hid (CellsAt (w.heap.size + 2) zeroCs v9) := by subst hv9; exact HZv1.out.far (by omega)
    have HBv9 : Hid (Below w.heap.size w v9) := by subst hv9; exact HBv1.out.setCell (p := ⟨w.heap.size + 1, 3, none⟩) (by show w.heap.size ≤ w.heap.size + 1; omega) _
    go_upto_region 23 with fail
    rw [← hv9]
    clear hv9 j3 f3
    obtain ⟨i0, -⟩ := HIv9.out 0 _ rfl
    obtain ⟨i1, -⟩ := HIv9.out 1 _ rfl
    obtain ⟨i2, -⟩ := HIv9.out 2 _ rfl
    obtain ⟨i3, -⟩ := HIv9.out 3 _ rfl
    obtain ⟨i4, -⟩ := HIv9.out 4 _ rfl
    obtain ⟨i5, -⟩ := HIv9.out 5 _ rfl
    obtain ⟨i6, -⟩ := HIv9.out 6 _ rfl
    obtain ⟨i7, -⟩ := HIv9.out 7 _ rfl
    obtain ⟨z0, t0⟩ := HZv9.out 0 _ rfl
    obtain ⟨z1, t1⟩ := HZv9.out 1 _ rfl
    obtain ⟨z2, t2⟩ := HZv9.out 2 _ rfl
    obtain ⟨z3, t3⟩ := HZv9.out 3 _ rfl
    obtain ⟨z4, t4⟩ := HZv9.out 4 _ rfl
    obtain ⟨z5, t5⟩ := HZv9.out 5 _ rfl
    obtain ⟨z6, t6⟩ := HZv9.out 6 _ rfl
    obtain ⟨z7, t7⟩ := HZv9.out 7 _ rfl
    go_wp2
    (try simp only [Exit.inBlock, Exit.then])
    refine bodyPost_ret (v := .tuple #[.agg #[.string nm, .int .i64 3, .int .i64 ((n : Int)), .bool true, .slice none 0 0, .slice none 0 0, .slice none 0 0, .slice none 0 0], .bool b]) ?_ rfl ?_
    ·simp [results, Tryz.results97, go_sem, z0, z1, z2, z3, z4, z5, z6, z7, HBB.out]
    ·refine ⟨⟨nm, 3, (n : Int), true, [], [], [], []⟩, _, _, rfl, HasRule.more (lo := w0.heap.size) ?_ (by have := HSZ.out; omega), ?_, short_of4 (by simp) (by simp) (by simp) (by simp), spelt_args hnz, HY.out⟩
     ·iterate 8 (refine HasRule.grown ?_ (grown_set (grown_refl _ _) _ _) (by have := HSZ.out; omega))
      exact hasRule_of (row_nil _ _) (rowF_nil _ _) (rowF_nil _ _) (rowF_nil _ _)
     ·iterate 8 (refine Below.setCell ?_ (by show w.heap.size ≤ w.heap.size + 1 + 1; omega) _)
      exact HBv9.out)
  ·have gq : (x1.toList == [108, 105, 116, 116, 108, 101]) = false := by have q := str_ne hli; rw [show littleS.toList = [108, 105, 116, 116, 108, 101] from by rw [ByteArray.toList_eq]; rfl] at q; exact q
   have hlb : lt = false := by rw [hle]; exact decide_eq_false hli
   subst hlb
   clear hle hli
   cases ok
   all_goals (
    obtain ⟨j3, f3⟩ := HIv1.out 3 _ rfl
    obtain ⟨v9, hv9⟩ : ∃ v, v = v1.setCell ⟨w.heap.size + 1, 3, none⟩ (.bool false) := ⟨_, rfl⟩
    have HIv9 : Hid (CellsAt (w.heap.size + 1) (rc nm 3 ((n : Int)) false n0 n0 n0 n0) v9) := by subst hv9; exact HIv1.out.set 3 (.bool false) (by simp)
    have HZv9 : Hid (CellsAt (w.heap.size + 2) zeroCs v9) := by subst hv9; exact HZv1.out.far (by omega)
    have HBv9 : Hid (Below w.heap.size w v9) := by subst hv9; exact HBv1.out.setCell (p := ⟨w.heap.size + 1, 3, none⟩) (by show w.heap.size ≤ w.heap.size + 1; omega) _
    go_upto_region 23 with fail
    rw [← hv9]
    clear hv9 j3 f3
    obtain ⟨i0, -⟩ := HIv9.out 0 _ rfl
    obtain ⟨i1, -⟩ := HIv9.out 1 _ rfl
    obtain ⟨i2, -⟩ := HIv9.out 2 _ rfl
    obtain ⟨i3, -⟩ := HIv9.out 3 _ rfl
    obtain ⟨i4, -⟩ := HIv9.out 4 _ rfl
    obtain ⟨i5, -⟩ := HIv9.out 5 _ rfl
    obtain ⟨i6, -⟩ := HIv9.out 6 _ rfl
    obtain ⟨i7, -⟩ := HIv9.out 7 _ rfl
    obtain ⟨z0, t0⟩ := HZv9.out 0 _ rfl
    obtain ⟨z1, t1⟩ := HZv9.out 1 _ rfl
    obtain ⟨z2, t2⟩ := HZv9.out 2 _ rfl
    obtain ⟨z3, t3⟩ := HZv9.out 3 _ rfl
    obtain ⟨z4, t4⟩ := HZv9.out 4 _ rfl
    obtain ⟨z5, t5⟩ := HZv9.out 5 _ rfl
    obtain ⟨z6, t6⟩ := HZv9.out 6 _ rfl
    obtain ⟨z7, t7⟩ := HZv9.out 7 _ rfl
    go_wp2
    (try simp only [Exit.inBlock, Exit.then])
    refine bodyPost_ret (v := .tuple #[.agg #[.string nm, .int .i64 3, .int .i64 ((n : Int)), .bool false, .slice none 0 0, .slice none 0 0, .slice none 0 0, .slice none 0 0], .bool b]) ?_ rfl ?_
    ·simp [results, Tryz.results97, go_sem, z0, z1, z2, z3, z4, z5, z6, z7, HBB.out]
    ·refine ⟨⟨nm, 3, (n : Int), false, [], [], [], []⟩, _, _, rfl, HasRule.more (lo := w0.heap.size) ?_ (by have := HSZ.out; omega), ?_, short_of4 (by simp) (by simp) (by simp) (by simp), spelt_args hnz, HY.out⟩
     ·iterate 8 (refine HasRule.grown ?_ (grown_set (grown_refl _ _) _ _) (by have := HSZ.out; omega))
      exact hasRule_of (row_nil _ _) (rowF_nil _ _) (rowF_nil _ _) (rowF_nil _ _)
     ·iterate 8 (refine Below.setCell ?_ (by show w.heap.size ≤ w.heap.size + 1 + 1; omega) _)
      exact HBv9.out)
 ·have g2 : ((ws.length : Int) == 2) = false := beq_eq_false_iff_ne.2 (by omega)
  have hlb : lt = false := by have := HLT.out; rw [dif_neg h2] at this; exact this
  subst hlb
  clear HLT H1 h2
  cases ok
  all_goals (
   obtain ⟨j3, f3⟩ := HIv1.out 3 _ rfl
   obtain ⟨v9, hv9⟩ : ∃ v, v = v1.setCell ⟨w.heap.size + 1, 3, none⟩ (.bool false) := ⟨_, rfl⟩
   have HIv9 : Hid (CellsAt (w.heap.size + 1) (rc nm 3 ((n : Int)) false n0 n0 n0 n0) v9) := by subst hv9; exact HIv1.out.set 3 (.bool false) (by simp)
   have HZv9 : Hid (CellsAt (w.heap.size + 2) zeroCs v9) := by subst hv9; exact HZv1.out.far (by omega)
   have HBv9 : Hid (Below w.heap.size w v9) := by subst hv9; exact HBv1.out.setCell (p := ⟨w.heap.size + 1, 3, none⟩) (by show w.heap.size ≤ w.heap.size + 1; omega) _
   go_upto_region 23 with fail
   rw [← hv9]
   clear hv9 j3 f3
   obtain ⟨i0, -⟩ := HIv9.out 0 _ rfl
   obtain ⟨i1, -⟩ := HIv9.out 1 _ rfl
   obtain ⟨i2, -⟩ := HIv9.out 2 _ rfl
   obtain ⟨i3, -⟩ := HIv9.out 3 _ rfl
   obtain ⟨i4, -⟩ := HIv9.out 4 _ rfl
   obtain ⟨i5, -⟩ := HIv9.out 5 _ rfl
   obtain ⟨i6, -⟩ := HIv9.out 6 _ rfl
   obtain ⟨i7, -⟩ := HIv9.out 7 _ rfl
   obtain ⟨z0, t0⟩ := HZv9.out 0 _ rfl
   obtain ⟨z1, t1⟩ := HZv9.out 1 _ rfl
   obtain ⟨z2, t2⟩ := HZv9.out 2 _ rfl
   obtain ⟨z3, t3⟩ := HZv9.out 3 _ rfl
   obtain ⟨z4, t4⟩ := HZv9.out 4 _ rfl
   obtain ⟨z5, t5⟩ := HZv9.out 5 _ rfl
   obtain ⟨z6, t6⟩ := HZv9.out 6 _ rfl
   obtain ⟨z7, t7⟩ := HZv9.out 7 _ rfl
   go_wp2
   (try simp only [Exit.inBlock, Exit.then])
   refine bodyPost_ret (v := .tuple #[.agg #[.string nm, .int .i64 3, .int .i64 ((n : Int)), .bool false, .slice none 0 0, .slice none 0 0, .slice none 0 0, .slice none 0 0], .bool b]) ?_ rfl ?_
   ·simp [results, Tryz.results97, go_sem, z0, z1, z2, z3, z4, z5, z6, z7, HBB.out]
   ·refine ⟨⟨nm, 3, (n : Int), false, [], [], [], []⟩, _, _, rfl, HasRule.more (lo := w0.heap.size) ?_ (by have := HSZ.out; omega), ?_, short_of4 (by simp) (by simp) (by simp) (by simp), spelt_args hnz, HY.out⟩
    ·iterate 8 (refine HasRule.grown ?_ (grown_set (grown_refl _ _) _ _) (by have := HSZ.out; omega))
     exact hasRule_of (row_nil _ _) (rowF_nil _ _) (rowF_nil _ _) (rowF_nil _ _)
    ·iterate 8 (refine Below.setCell ?_ (by show w.heap.size ≤ w.heap.size + 1 + 1; omega) _)
     exact HBv9.out)
set_option maxHeartbeats 4000000 in
theorem args_2 (a : Option Addr) (rs : List RuleV) (cap : Nat) (nm : ByteArray) (a1 : Option Addr) (ws : List ByteArray) (cap1 : Nat) (w : World) (hrl : rs.length ≤ 1048576) (hl0 : 0 < ws.length) (hl : ws.length ≤ 1048575) (hc1 : ws.length ≤ cap1) (hz : ∀ s ∈ ws, s.size ≤ 1048576) (hnz : nm.size ≤ 1048576) (hr : RdR a rs w) (h : RdS a1 ws w) :
  Calls Tryz.prog 97 #[.agg #[.slice a rs.length cap], .agg #[.string nm, .int .i64 2, .int .i64 0, .bool false, .slice none 0 0, .slice none 0 0, .slice none 0 0, .slice none 0 0], .slice a1 ws.length cap1] w (ArgsOut rs nm 2 ws w) := by
 obtain ⟨w0, HW, HB, HSZ, HD, HI, HZ, HR, H⟩ := args_start a rs cap nm 2 hr h
 have HRL := Lib.hid hrl
 have HRW := Lib.hid hr
 have HXW := Lib.hid h
 have HS := Lib.hid hz
 have HC1 := Lib.hid hc1
 clear hr h hz hc1
 go_enter Tryz.func97, Tryz.ntmps97
 go_upto_region 3 with fail
 rw [← HW.out]
 clear HW
 obtain ⟨i1, -⟩ := HI.out 1 _ rfl
 obtain ⟨b0, off, rfl, hc0⟩ := H.out 0 hl0
 rw [Nat.add_zero] at hc0
 have hx0 := HS.out _ (List.getElem_mem hl0)
 have k0 : (0 : Int) < (ws.length : Int) := by omega
 have HY0 : Hid (Want rs nm 2 ws fun y => (parseHexOf ws[0].data.toList).2 = true ∧ y = ⟨nm, 2, 0, false, (parseHexOf ws[0].data.toList).1, [], [], []⟩) := fun J y hr hy hf hn hk => want_hex hr hy hf hn hk (by omega) hl0
 generalize ws[0] = x0 at hc0 hx0 HY0
 have hlen := parseHex_len x0.data.toList
 rw [show x0.data.toList.length = x0.size from lst_length x0] at hlen
 go_wp2_with fail
 refine (parsehex_spec x0 _ (by omega)).mono ?_
 rintro e w1 ⟨a4, c4, rfl, hrow, hb1⟩
 obtain ⟨bs, hbs⟩ : ∃ bs, bs = (parseHexOf x0.data.toList).1 := ⟨_, rfl⟩
 obtain ⟨ok, hok⟩ : ∃ ok, ok = (parseHexOf x0.data.toList).2 := ⟨_, rfl⟩
 rw [← hbs] at hrow hlen HY0 ⊢
 rw [← hok] at HY0 ⊢
 obtain ⟨b, hb⟩ : ∃ b, b = (ok) := ⟨_, rfl⟩
 have HY : Hid (Want rs nm 2 ws fun y => ⟨nm, 2, 0, false, bs, [], [], []⟩ = y ∧ b = true) := fun J y q1 q2 q3 q4 q5 => by obtain ⟨e1, e2⟩ := HY0.out J y q1 q2 q3 q4 q5; exact ⟨e2.symm, hb.trans e1⟩
 have HBB := Lib.hid hb
 have HH : Hid (HasRule w0.heap.size ⟨nm, 2, 0, false, bs, [], [], []⟩ (rc nm 2 0 false (.slice a4 bs.length c4) n0 n0 n0) w1) := hasRule_of hrow (rowF_nil _ _) (rowF_nil _ _) (rowF_nil _ _)
 replace HI := Lib.hid (HI.out.below hb1)
 replace HB := Lib.hid (HB.out.trans (hb1.mono HB.out.size))
 replace HZ := Lib.hid (HZ.out.below hb1)
 clear hrow hb hb1 hc0 i1 HR HD H hbs hok HY0
 cases ok
 all_goals (
  obtain ⟨j4, f4⟩ := HI.out 4 _ rfl
  obtain ⟨v9, hv9⟩ : ∃ v, v = w1.setCell ⟨w.heap.size + 1, 4, none⟩ (.slice a4 bs.length c4) := ⟨_, rfl⟩
  have HIv9 : Hid (CellsAt (w.heap.size + 1) (rc nm 2 0 false (.slice a4 bs.length c4) n0 n0 n0) v9) := by subst hv9; exact HI.out.set 4 (.slice a4 bs.length c4) (by simp)
  have HZv9 : Hid (CellsAt (w.heap.size + 2) zeroCs v9) := by subst hv9; exact HZ.out.far (by omega)
  have HBv9 : Hid (Below w.heap.size w v9) := by subst hv9; exact HB.out.setCell (p := ⟨w.heap.size + 1, 4, none⟩) (by show w.heap.size ≤ w.heap.size + 1; omega) _
  have HH9 : Hid (HasRule w0.heap.size ⟨nm, 2, 0, false, bs, [], [], []⟩ (rc nm 2 0 false (.slice a4 bs.length c4) n0 n0 n0) v9) := by subst hv9; exact HH.out.grown (grown_set (grown_refl _ _) _ _) (by have := HSZ.out; omega)
  go_upto_region 23 with fail
  rw [← hv9]
  clear hv9 j4 f4
  obtain ⟨i0, -⟩ := HIv9.out 0 _ rfl
  obtain ⟨i1, -⟩ := HIv9.out 1 _ rfl
  obtain ⟨i2, -⟩ := HIv9.out 2 _ rfl
  obtain ⟨i3, -⟩ := HIv9.out 3 _ rfl
  obtain ⟨i4, -⟩ := HIv9.out 4 _ rfl
  obtain ⟨i5, -⟩ := HIv9.out 5 _ rfl
  obtain ⟨i6, -⟩ := HIv9.out 6 _ rfl
  obtain ⟨i7, -⟩ := HIv9.out 7 _ rfl
  obtain ⟨z0, t0⟩ := HZv9.out 0 _ rfl
  obtain ⟨z1, t1⟩ := HZv9.out 1 _ rfl
  obtain ⟨z2, t2⟩ := HZv9.out 2 _ rfl
  obtain ⟨z3, t3⟩ := HZv9.out 3 _ rfl
  obtain ⟨z4, t4⟩ := HZv9.out 4 _ rfl
  obtain ⟨z5, t5⟩ := HZv9.out 5 _ rfl
  obtain ⟨z6, t6⟩ := HZv9.out 6 _ rfl
  obtain ⟨z7, t7⟩ := HZv9.out 7 _ rfl
  go_wp2
  (try simp only [Exit.inBlock, Exit.then])
  refine bodyPost_ret (v := .tuple #[.agg #[.string nm, .int .i64 2, .int .i64 0, .bool false, .slice a4 bs.length c4, .slice none 0 0, .slice none 0 0, .slice none 0 0], .bool b]) ?_ rfl ?_
  ·simp [results, Tryz.results97, go_sem, z0, z1, z2, z3, z4, z5, z6, z7, HBB.out]
  ·refine ⟨⟨nm, 2, 0, false, bs, [], [], []⟩, _, _, rfl, HasRule.more (lo := w0.heap.size) ?_ (by have := HSZ.out; omega), ?_, short_of4 (by omega) (by simp) (by simp) (by simp), spelt_args hnz, HY.out⟩
   ·iterate 8 (refine HasRule.grown ?_ (grown_set (grown_refl _ _) _ _) (by have := HSZ.out; omega))
    exact HH9.out
   ·iterate 8 (refine Below.setCell ?_ (by show w.heap.size ≤ w.heap.size + 1 + 1; omega) _)
    exact HBv9.out)
set_option maxHeartbeats 4000000 in
theorem args_10 (a : Option Addr) (rs : List RuleV) (cap : Nat) (nm : ByteArray) (a1 : Option Addr) (ws : List ByteArray) (cap1 : Nat) (w : World) (hrl : rs.length ≤ 1048576) (hl0 : 0 < ws.length) (hl : ws.length ≤ 1048575) (hc1 : ws.length ≤ cap1) (hz : ∀ s ∈ ws, s.size ≤ 1048576) (hnz : nm.size ≤ 1048576) (hr : RdR a rs w) (h : RdS a1 ws w) :
  Calls Tryz.prog 97 #[.agg #[.slice a rs.length cap], .agg #[.string nm, .int .i64 10, .int .i64 0, .bool false, .slice none 0 0, .slice none 0 0, .slice none 0 0, .slice none 0 0], .slice a1 ws.length cap1] w (ArgsOut rs nm 10 ws w) := by
 obtain ⟨w0, HW, HB, HSZ, HD, HI, HZ, HR, H⟩ := args_start a rs cap nm 10 hr h
 have HRL := Lib.hid hrl
 have HRW := Lib.hid hr
 have HXW := Lib.hid h
 have HS := Lib.hid hz
 have HC1 := Lib.hid hc1
 clear hr h hz hc1
 go_enter Tryz.func97, Tryz.ntmps97
 go_upto_region 3 with fail
 rw [← HW.out]
 clear HW
 obtain ⟨i1, -⟩ := HI.out 1 _ rfl
 obtain ⟨b0, off, rfl, hc0⟩ := H.out 0 hl0
 rw [Nat.add_zero] at hc0
 have hx0 := HS.out _ (List.getElem_mem hl0)
 have k0 : (0 : Int) < (ws.length : Int) := by omega
 have HY0 : Hid (Want rs nm 10 ws fun y => (parseHexOf ws[0].data.toList).2 = true ∧ y = ⟨nm, 10, 0, false, (parseHexOf ws[0].data.toList).1, [], [], []⟩) := fun J y hr hy hf hn hk => want_hex hr hy hf hn hk (by omega) hl0
 generalize ws[0] = x0 at hc0 hx0 HY0
 have hlen := parseHex_len x0.data.toList
 rw [show x0.data.toList.length = x0.size from lst_length x0] at hlen
 go_wp2_with fail
 refine (parsehex_spec x0 _ (by omega)).mono ?_
 rintro e w1 ⟨a4, c4, rfl, hrow, hb1⟩
 obtain ⟨bs, hbs⟩ : ∃ bs, bs = (parseHexOf x0.data.toList).1 := ⟨_, rfl⟩
 obtain ⟨ok, hok⟩ : ∃ ok, ok = (parseHexOf x0.data.toList).2 := ⟨_, rfl⟩
 rw [← hbs] at hrow hlen HY0 ⊢
 rw [← hok] at HY0 ⊢
 obtain ⟨b, hb⟩ : ∃ b, b = (ok) := ⟨_, rfl⟩
 have HY : Hid (Want rs nm 10 ws fun y => ⟨nm, 10, 0, false, bs, [], [], []⟩ = y ∧ b = true) := fun J y q1 q2 q3 q4 q5 => by obtain ⟨e1, e2⟩ := HY0.out J y q1 q2 q3 q4 q5; exact ⟨e2.symm, hb.trans e1⟩
 have HBB := Lib.hid hb
 have HH : Hid (HasRule w0.heap.size ⟨nm, 10, 0, false, bs, [], [], []⟩ (rc nm 10 0 false (.slice a4 bs.length c4) n0 n0 n0) w1) := hasRule_of hrow (rowF_nil _ _) (rowF_nil _ _) (rowF_nil _ _)
 replace HI := Lib.hid (HI.out.below hb1)
 replace HB := Lib.hid (HB.out.trans (hb1.mono HB.out.size))
 replace HZ := Lib.hid (HZ.out.below hb1)
 clear hrow hb hb1 hc0 i1 HR HD H hbs hok HY0
 cases ok
 all_goals (
  obtain ⟨j4, f4⟩ := HI.out 4 _ rfl
  obtain ⟨v9, hv9⟩ : ∃ v, v = w1.setCell ⟨w.heap.size + 1, 4, none⟩ (.slice a4 bs.length c4) := ⟨_, rfl⟩
  have HIv9 : Hid (CellsAt (w.heap.size + 1) (rc nm 10 0 false (.slice a4 bs.length c4) n0 n0 n0) v9) := by subst hv9; exact HI.out.set 4 (.slice a4 bs.length c4) (by simp)
  have HZv9 : Hid (CellsAt (w.heap.size + 2) zeroCs v9) := by subst hv9; exact HZ.out.far (by omega)
  have HBv9 : Hid (Below w.heap.size w v9) := by subst hv9; exact HB.out.setCell (p := ⟨w.heap.size + 1, 4, none⟩) (by show w.heap.size ≤ w.heap.size + 1; omega) _
  have HH9 : Hid (HasRule w0.heap.size ⟨nm, 10, 0, false, bs, [], [], []⟩ (rc nm 10 0 false (.slice a4 bs.length c4) n0 n0 n0) v9) := by subst hv9; exact HH.out.grown (grown_set (grown_refl _ _) _ _) (by have := HSZ.out; omega)
  go_upto_region 23 with fail
  rw [← hv9]
  clear hv9 j4 f4
  obtain ⟨i0, -⟩ := HIv9.out 0 _ rfl
  obtain ⟨i1, -⟩ := HIv9.out 1 _ rfl
  obtain ⟨i2, -⟩ := HIv9.out 2 _ rfl
  obtain ⟨i3, -⟩ := HIv9.out 3 _ rfl
  obtain ⟨i4, -⟩ := HIv9.out 4 _ rfl
  obtain ⟨i5, -⟩ := HIv9.out 5 _ rfl
  obtain ⟨i6, -⟩ := HIv9.out 6 _ rfl
  obtain ⟨i7, -⟩ := HIv9.out 7 _ rfl
  obtain ⟨z0, t0⟩ := HZv9.out 0 _ rfl
  obtain ⟨z1, t1⟩ := HZv9.out 1 _ rfl
  obtain ⟨z2, t2⟩ := HZv9.out 2 _ rfl
  obtain ⟨z3, t3⟩ := HZv9.out 3 _ rfl
  obtain ⟨z4, t4⟩ := HZv9.out 4 _ rfl
  obtain ⟨z5, t5⟩ := HZv9.out 5 _ rfl
  obtain ⟨z6, t6⟩ := HZv9.out 6 _ rfl
  obtain ⟨z7, t7⟩ := HZv9.out 7 _ rfl
  go_wp2
  (try simp only [Exit.inBlock, Exit.then])
  refine bodyPost_ret (v := .tuple #[.agg #[.string nm, .int .i64 10, .int .i64 0, .bool false, .slice a4 bs.length c4, .slice none 0 0, .slice none 0 0, .slice none 0 0], .bool b]) ?_ rfl ?_
  ·simp [results, Tryz.results97, go_sem, z0, z1, z2, z3, z4, z5, z6, z7, HBB.out]
  ·refine ⟨⟨nm, 10, 0, false, bs, [], [], []⟩, _, _, rfl, HasRule.more (lo := w0.heap.size) ?_ (by have := HSZ.out; omega), ?_, short_of4 (by omega) (by simp) (by simp) (by simp), spelt_args hnz, HY.out⟩
   ·iterate 8 (refine HasRule.grown ?_ (grown_set (grown_refl _ _) _ _) (by have := HSZ.out; omega))
    exact HH9.out
   ·iterate 8 (refine Below.setCell ?_ (by show w.heap.size ≤ w.heap.size + 1 + 1; omega) _)
    exact HBv9.out)
set_option maxHeartbeats 4000000 in
theorem args_kids (a : Option Addr) (rs : List RuleV) (cap : Nat) (nm : ByteArray) (a1 : Option Addr) (ws : List ByteArray) (cap1 : Nat) (w : World) (hrl : rs.length ≤ 1048576) (hl0 : 0 < ws.length) (hl : ws.length ≤ 1048575) (hc1 : ws.length ≤ cap1) (hz : ∀ s ∈ ws, s.size ≤ 1048576) (hnz : nm.size ≤ 1048576) (hr : RdR a rs w) (h : RdS a1 ws w) (k : Int) (hk : k = 0 ∨ k = 4 ∨ k = 5 ∨ k = 8 ∨ k = 9) :
  Calls Tryz.prog 97 #[.agg #[.slice a rs.length cap], .agg #[.string nm, .int .i64 k, .int .i64 0, .bool false, .slice none 0 0, .slice none 0 0, .slice none 0 0, .slice none 0 0], .slice a1 ws.length cap1] w (ArgsOut rs nm k ws w) := by
 obtain ⟨w0, HW, HB, HSZ, HD, HI, HZ, HR, H⟩ := args_start a rs cap nm k hr h
 have HRL := Lib.hid hrl
 have HRW := Lib.hid hr
 have HXW := Lib.hid h
 have HS := Lib.hid hz
 have HC1 := Lib.hid hc1
 clear hr h hz hc1
 go_enter Tryz.func97, Tryz.ntmps97
 go_upto_region 3 with fail
 rw [← HW.out]
 clear HW
 obtain ⟨i1, -⟩ := HI.out 1 _ rfl
 have g1 : (k == 1) = false := beq_eq_false_iff_ne.2 (by omega)
 have g3 : (k == 3) = false := beq_eq_false_iff_ne.2 (by omega)
 have g2 : (k == 2) = false := beq_eq_false_iff_ne.2 (by omega)
 have g10 : (k == 10) = false := beq_eq_false_iff_ne.2 (by omega)
 have g6 : (k == 6) = false := beq_eq_false_iff_ne.2 (by omega)
 have g7 : (k == 7) = false := beq_eq_false_iff_ne.2 (by omega)
 have HY0 : Hid (Want rs nm k ws fun y => ∃ ks, KidsW rs ws ks ∧ y = ⟨nm, k, 0, false, [], [], [], ks⟩) := fun J y hr hy hf hn hk2 => by
  have h1 := good_kind (hy.good hr).2.2.2
  exact want_kids hr hy hf hn hk2 (by omega)
 obtain ⟨d0, -⟩ := HD.out 0 _ rfl
 clear hk
 go_wp2_with fail
 refine (kids_of_spec a rs cap a1 ws cap1 _ (by omega) (by omega) HR.out H.out).mono ?_
 rintro e w1 ⟨a7, ks, c7, ok, rfl, hrow, hb1, hlen, hw⟩
 obtain ⟨b, hb⟩ : ∃ b, b = (ok) := ⟨_, rfl⟩
 have HH : Hid (HasRule w0.heap.size ⟨nm, k, 0, false, [], [], [], ks⟩ (rc nm k 0 false n0 n0 n0 (.slice a7 ks.length c7)) w1) := hasRule_of (row_nil _ _) (rowF_nil _ _) (rowF_nil _ _) hrow
 have HY : Hid (Want rs nm k ws fun y => ⟨nm, k, 0, false, [], [], [], ks⟩ = y ∧ b = true) := fun J y q1 q2 q3 q4 q5 => by obtain ⟨qs, hq, rfl⟩ := HY0.out J y q1 q2 q3 q4 q5; obtain ⟨rfl, rfl⟩ := hw qs hq; exact ⟨rfl, hb⟩
 have HBB := Lib.hid hb
 replace HI := Lib.hid (HI.out.below hb1)
 replace HB := Lib.hid (HB.out.trans (hb1.mono HB.out.size))
 replace HZ := Lib.hid (HZ.out.below hb1)
 clear hrow hb hb1 hw i1 d0 HR HD H HY0
 cases ok
 all_goals (
  obtain ⟨j7, f7⟩ := HI.out 7 _ rfl
  obtain ⟨v9, hv9⟩ : ∃ v, v = w1.setCell ⟨w.heap.size + 1, 7, none⟩ (.slice a7 ks.length c7) := ⟨_, rfl⟩
  have HIv9 : Hid (CellsAt (w.heap.size + 1) (rc nm k 0 false n0 n0 n0 (.slice a7 ks.length c7)) v9) := by subst hv9; exact HI.out.set 7 (.slice a7 ks.length c7) (by simp)
  have HZv9 : Hid (CellsAt (w.heap.size + 2) zeroCs v9) := by subst hv9; exact HZ.out.far (by omega)
  have HBv9 : Hid (Below w.heap.size w v9) := by subst hv9; exact HB.out.setCell (p := ⟨w.heap.size + 1, 7, none⟩) (by show w.heap.size ≤ w.heap.size + 1; omega) _
  have HH9 : Hid (HasRule w0.heap.size ⟨nm, k, 0, false, [], [], [], ks⟩ (rc nm k 0 false n0 n0 n0 (.slice a7 ks.length c7)) v9) := by subst hv9; exact HH.out.grown (grown_set (grown_refl _ _) _ _) (by have := HSZ.out; omega)
  go_upto_region 23 with fail
  rw [← hv9]
  clear hv9 j7 f7
  obtain ⟨i0, -⟩ := HIv9.out 0 _ rfl
  obtain ⟨i1, -⟩ := HIv9.out 1 _ rfl
  obtain ⟨i2, -⟩ := HIv9.out 2 _ rfl
  obtain ⟨i3, -⟩ := HIv9.out 3 _ rfl
  obtain ⟨i4, -⟩ := HIv9.out 4 _ rfl
  obtain ⟨i5, -⟩ := HIv9.out 5 _ rfl
  obtain ⟨i6, -⟩ := HIv9.out 6 _ rfl
  obtain ⟨i7, -⟩ := HIv9.out 7 _ rfl
  obtain ⟨z0, t0⟩ := HZv9.out 0 _ rfl
  obtain ⟨z1, t1⟩ := HZv9.out 1 _ rfl
  obtain ⟨z2, t2⟩ := HZv9.out 2 _ rfl
  obtain ⟨z3, t3⟩ := HZv9.out 3 _ rfl
  obtain ⟨z4, t4⟩ := HZv9.out 4 _ rfl
  obtain ⟨z5, t5⟩ := HZv9.out 5 _ rfl
  obtain ⟨z6, t6⟩ := HZv9.out 6 _ rfl
  obtain ⟨z7, t7⟩ := HZv9.out 7 _ rfl
  go_wp2
  (try simp only [Exit.inBlock, Exit.then])
  refine bodyPost_ret (v := .tuple #[.agg #[.string nm, .int .i64 k, .int .i64 0, .bool false, .slice none 0 0, .slice none 0 0, .slice none 0 0, .slice a7 ks.length c7], .bool b]) ?_ rfl ?_
  ·simp [results, Tryz.results97, go_sem, z0, z1, z2, z3, z4, z5, z6, z7, HBB.out]
  ·refine ⟨⟨nm, k, 0, false, [], [], [], ks⟩, _, _, rfl, HasRule.more (lo := w0.heap.size) ?_ (by have := HSZ.out; omega), ?_, short_of4 (by simp) (by simp) (by simp) (by omega), spelt_args hnz, HY.out⟩
   ·iterate 8 (refine HasRule.grown ?_ (grown_set (grown_refl _ _) _ _) (by have := HSZ.out; omega))
    exact HH9.out
   ·iterate 8 (refine Below.setCell ?_ (by show w.heap.size ≤ w.heap.size + 1 + 1; omega) _)
    exact HBv9.out)
set_option maxHeartbeats 4000000 in
theorem args_6 (a : Option Addr) (rs : List RuleV) (cap : Nat) (nm : ByteArray) (a1 : Option Addr) (ws : List ByteArray) (cap1 : Nat) (w : World) (hrl : rs.length ≤ 1048576) (hl0 : 0 < ws.length) (hl : ws.length ≤ 1048575) (hc1 : ws.length ≤ cap1) (hz : ∀ s ∈ ws, s.size ≤ 1048576) (hnz : nm.size ≤ 1048576) (hr : RdR a rs w) (h : RdS a1 ws w) :
  Calls Tryz.prog 97 #[.agg #[.slice a rs.length cap], .agg #[.string nm, .int .i64 6, .int .i64 0, .bool false, .slice none 0 0, .slice none 0 0, .slice none 0 0, .slice none 0 0], .slice a1 ws.length cap1] w (ArgsOut rs nm 6 ws w) := by
 obtain ⟨w0, HW, HB, HSZ, HD, HI, HZ, HR, H⟩ := args_start a rs cap nm 6 hr h
 have HRL := Lib.hid hrl
 have HRW := Lib.hid hr
 have HXW := Lib.hid h
 have HS := Lib.hid hz
 have HC1 := Lib.hid hc1
 clear hr h hz hc1
 go_enter Tryz.func97, Tryz.ntmps97
 go_upto_region 3 with fail
 rw [← HW.out]
 clear HW
 obtain ⟨i1, -⟩ := HI.out 1 _ rfl
 have HY0 : Hid (Want rs nm 6 ws fun y => (∀ s ∈ ws, cutK 58 s = true) ∧ ∃ ks, KidsW rs (ws.map (cutB 58)) ks ∧ y = ⟨nm, 6, 0, false, [], ws.map (cutA 58), [], ks⟩) := fun J y hr hy hf hn hk => want_seq hr hy hf hn hk
 go_wp2_with fail
 refine (pairs_spec a1 ws cap1 _ (by omega) HS.out H.out).mono ?_
 rintro e w1 ⟨va, vb, al, bs, ca, cb, is, rfl, hra, hrb, hb1, la, lb, za, zb, hall⟩
 have HY1 : Hid (Want rs nm 6 ws fun y => ∃ ks, KidsW rs bs ks ∧ y = ⟨nm, 6, 0, false, [], al, [], ks⟩ ∧ is = true) := fun J y q1 q2 q3 q4 q5 => by obtain ⟨h1, ks, h2, h3⟩ := HY0.out J y q1 q2 q3 q4 q5; obtain ⟨rfl, rfl, rfl⟩ := hall h1; exact ⟨ks, h2, h3, rfl⟩
 replace HB := Lib.hid (HB.out.trans (hb1.mono HB.out.size))
 replace HI := Lib.hid (HI.out.below hb1)
 replace HZ := Lib.hid (HZ.out.below hb1)
 have hs1 := hb1.size
 obtain ⟨j5, f5⟩ := HI.out 5 _ rfl
 obtain ⟨v1, hv1⟩ : ∃ v, v = w1.setCell ⟨w.heap.size + 1, 5, none⟩ (.slice va al.length ca) := ⟨_, rfl⟩
 have HIv1 : Hid (CellsAt (w.heap.size + 1) (rc nm 6 0 false n0 (.slice va al.length ca) n0 n0) v1) := by subst hv1; exact HI.out.set 5 (.slice va al.length ca) (by simp)
 have HZv1 : Hid (CellsAt (w.heap.size + 2) zeroCs v1) := by subst hv1; exact HZ.out.far (by omega)
 have HBv1 : Hid (Below w.heap.size w v1) := by subst hv1; exact HB.out.setCell (p := ⟨w.heap.size + 1, 5, none⟩) (by show w.heap.size ≤ w.heap.size + 1; omega) _
 have HD1 : Hid (CellsAt w.heap.size [.slice a rs.length cap] v1) := by subst hv1; exact (HD.out.below hb1).far (by omega)
 have HA1 : Hid (RowF Value.string w0.heap.size va al ca v1) := by subst hv1; exact hra.setFar (by have := HSZ.out; omega)
 have HBB1 : Hid (RowF Value.string w0.heap.size vb bs cb v1) := by subst hv1; exact hrb.setFar (by have := HSZ.out; omega)
 have hsv : w0.heap.size ≤ v1.heap.size := by subst hv1; simpa using hs1
 have HZA := Lib.hid za
 clear HI HZ HB H HD HR hra hrb hb1 za zb hall HY0 i1
 go_upto_region 15 with fail
 rw [← hv1]
 clear hv1 j5 f5
 obtain ⟨d0, -⟩ := HD1.out 0 _ rfl
 go_wp2_with fail
 refine (kids_of_spec a rs cap vb bs cb _ (by omega) (by omega) (HRW.out.below HBv1.out) HBB1.out.rd).mono ?_
 rintro e w2 ⟨a7, ks, c7, ok, rfl, hrow, hb2, hlen, hw⟩
 obtain ⟨b, hb⟩ : ∃ b, b = (ok && is) := ⟨_, rfl⟩
 have HH : Hid (HasRule w0.heap.size ⟨nm, 6, 0, false, [], al, [], ks⟩ (rc nm 6 0 false n0 (.slice va al.length ca) n0 (.slice a7 ks.length c7)) w2) := hasRule_of (row_nil _ _) (HA1.out.below hb2) (rowF_nil _ _) (hrow.more hsv)
 have HY : Hid (Want rs nm 6 ws fun y => ⟨nm, 6, 0, false, [], al, [], ks⟩ = y ∧ b = true) := fun J y q1 q2 q3 q4 q5 => by obtain ⟨qs, hq, rfl, hi⟩ := HY1.out J y q1 q2 q3 q4 q5; obtain ⟨rfl, rfl⟩ := hw qs hq; exact ⟨rfl, by rw [hb, hi]; rfl⟩
 have HBB := Lib.hid hb
 have HI2 := Lib.hid (HIv1.out.below hb2)
 have HB2 := Lib.hid (HBv1.out.trans (hb2.mono HBv1.out.size))
 have HZ2 := Lib.hid (HZv1.out.below hb2)
 have hs2 := hb2.size
 clear hrow hb hb2 hw d0 HIv1 HBv1 HZv1 HA1 HBB1 HD1 HY1
 cases ok <;> cases is
 all_goals (
  obtain ⟨j7, f7⟩ := HI2.out 7 _ rfl
  obtain ⟨v9, hv9⟩ : ∃ v, v = w2.setCell ⟨w.heap.size + 1, 7, none⟩ (.slice a7 ks.length c7) := ⟨_, rfl⟩
  have HIv9 : Hid (CellsAt (w.heap.size + 1) (rc nm 6 0 false n0 (.slice va al.length ca) n0 (.slice a7 ks.length c7)) v9) := by subst hv9; exact HI2.out.set 7 (.slice a7 ks.length c7) (by simp)
  have HZv9 : Hid (CellsAt (w.heap.size + 2) zeroCs v9) := by subst hv9; exact HZ2.out.far (by omega)
  have HBv9 : Hid (Below w.heap.size w v9) := by subst hv9; exact HB2.out.setCell (p := ⟨w.heap.size + 1, 7, none⟩) (by show w.heap.size ≤ w.heap.size + 1; omega) _
  have HH9 : Hid (HasRule w0.heap.size ⟨nm, 6, 0, false, [], al, [], ks⟩ (rc nm 6 0 false n0 (.slice va al.length ca) n0 (.slice a7 ks.length c7)) v9) := by subst hv9; exact HH.out.grown (grown_set (grown_refl _ _) _ _) (by have := HSZ.out; omega)
  go_upto_region 23 with fail
  rw [← hv9]
  clear hv9 j7 f7
  obtain ⟨i0, -⟩ := HIv9.out 0 _ rfl
  obtain ⟨i1, -⟩ := HIv9.out 1 _ rfl
  obtain ⟨i2, -⟩ := HIv9.out 2 _ rfl
  obtain ⟨i3, -⟩ := HIv9.out 3 _ rfl
  obtain ⟨i4, -⟩ := HIv9.out 4 _ rfl
  obtain ⟨i5, -⟩ := HIv9.out 5 _ rfl
  obtain ⟨i6, -⟩ := HIv9.out 6 _ rfl
  obtain ⟨i7, -⟩ := HIv9.out 7 _ rfl
  obtain ⟨z0, t0⟩ := HZv9.out 0 _ rfl
  obtain ⟨z1, t1⟩ := HZv9.out 1 _ rfl
  obtain ⟨z2, t2⟩ := HZv9.out 2 _ rfl
  obtain ⟨z3, t3⟩ := HZv9.out 3 _ rfl
  obtain ⟨z4, t4⟩ := HZv9.out 4 _ rfl
  obtain ⟨z5, t5⟩ := HZv9.out 5 _ rfl
  obtain ⟨z6, t6⟩ := HZv9.out 6 _ rfl
  obtain ⟨z7, t7⟩ := HZv9.out 7 _ rfl
  go_wp2
  (try simp only [Exit.inBlock, Exit.then])
  refine bodyPost_ret (v := .tuple #[.agg #[.string nm, .int .i64 6, .int .i64 0, .bool false, .slice none 0 0, .slice va al.length ca, .slice none 0 0, .slice a7 ks.length c7], .bool b]) ?_ rfl ?_
  ·simp [results, Tryz.results97, go_sem, z0, z1, z2, z3, z4, z5, z6, z7, HBB.out]
  ·refine ⟨⟨nm, 6, 0, false, [], al, [], ks⟩, _, _, rfl, HasRule.more (lo := w0.heap.size) ?_ (by have := HSZ.out; omega), ?_, short_of4 (by simp) (by omega) (by simp) (by omega), ⟨hnz, HZA.out⟩, HY.out⟩
   ·iterate 8 (refine HasRule.grown ?_ (grown_set (grown_refl _ _) _ _) (by have := HSZ.out; omega))
    exact HH9.out
   ·iterate 8 (refine Below.setCell ?_ (by show w.heap.size ≤ w.heap.size + 1 + 1; omega) _)
    exact HBv9.out)
end Go.Proofs.YtndjefednfcmmaaGreatDoor
