/- The contract of the model's EqualValues, at any two values. -/
import Derived.Test.YtefkhknfjohnaaaGreatDoorFGV
import Derived.Test.YtefkhknfjohnaaaGreatDoorFGRul
import Derived.Deep.RegionHeld3
import Derived.Deep.CutRange
namespace Go.Proofs.YtefkhknfjohnaaaGreatDoor
open Go Go.RowKit
theorem IsVal.upE : ∀ {n m : Nat} {v : ValueV} {cs : List Value} {w : World}, IsVal n v cs w → n ≤ m → IsVal m v cs w
  | 0, _, _, _, _, h, _ => h.elim
  | n + 1, m, v, cs, w, h, hm => by
    obtain ⟨m, rfl⟩ : ∃ m', m = m' + 1 := ⟨m - 1, by omega⟩
    obtain ⟨ab, cb, ai, ci, e, h1, h2⟩ := h
    exact ⟨ab, cb, ai, ci, e, h1, fun j hj => by obtain ⟨b, off, cs', e2, h3, h4⟩ := h2 j hj; exact ⟨b, off, cs', e2, h3.upE (by omega), h4⟩⟩
theorem valueV_ext : ∀ {v u : ValueV}, v.number = u.number → v.bytes = u.bytes → v.items = u.items → v = u
  | .mk _ _ _, .mk _ _ _, h1, h2, h3 => by
    simp only [ValueV.number, ValueV.bytes, ValueV.items] at h1 h2 h3
    subst h1 h2 h3
    rfl
/-- A Boolean comes back: whether both are the same. -/
def SameOut (v u : ValueV) (e : Ending) : Prop := ∃ r : Bool, e = .returned (.bool r) ∧ (r = true ↔ v = u)
theorem SameOut.no {v u : ValueV} (h : v ≠ u) : SameOut v u (.returned (.bool false)) := ⟨false, rfl, by simp; exact h⟩
theorem SameOut.yes {v u : ValueV} (h : v = u) : SameOut v u (.returned (.bool true)) := ⟨true, rfl, by simp; exact h⟩
/-- What the model's EqualValues promises of values of a height. -/
def SEqC (n : Nat) : Prop := ∀ (v u : ValueV) (cs cu : List Value) (w : World), IsVal n v cs w → IsVal n u cu w → sizV v ≤ 1048576 → sizV u ≤ 1048576 →
  Calls Tryz.prog 39 #[.agg cs.toArray, .agg cu.toArray] w fun e w' => SameOut v u e ∧ Below w.heap.size w w'
set_option maxRecDepth 100000 in
set_option maxHeartbeats 8000000 in
theorem seqv_step (n : Nat) (ih : SEqC n) : SEqC (n + 1) := by
  intro v u cs cu w hv hu hsv hsu
  obtain ⟨ab, cb, ai, ci, rfl, hrb, hit⟩ := hv.open
  obtain ⟨ab2, cb2, ai2, ci2, rfl, hrb2, hit2⟩ := hu.open
  have hszv := sizV_eq v
  have hszu := sizV_eq u
  obtain ⟨w0, hw0⟩ : ∃ w0, w0 = (w.alloc (.cells #[.int .i64 v.number, .slice ab v.bytes.length cb, .slice ai v.items.length ci] 48)).alloc (.cells #[.int .i64 u.number, .slice ab2 u.bytes.length cb2, .slice ai2 u.items.length ci2] 48) := ⟨_, rfl⟩
  have hB : Below w.heap.size w w0 := by subst hw0; exact ((Below.refl _ w).alloc (Nat.le_refl _) _).alloc (by simp) _
  have hX : CellsAt w.heap.size [.int .i64 v.number, .slice ab v.bytes.length cb, .slice ai v.items.length ci] w0 := by subst hw0; exact (CellsAt.new w _ _).below ((Below.refl _ _).alloc (Nat.le_refl _) _)
  have hY : CellsAt (w.heap.size + 1) [.int .i64 u.number, .slice ab2 u.bytes.length cb2, .slice ai2 u.items.length ci2] w0 := by subst hw0; have h1 := CellsAt.new (w.alloc (.cells #[.int .i64 v.number, .slice ab v.bytes.length cb, .slice ai v.items.length ci] 48)) [.int .i64 u.number, .slice ab2 u.bytes.length cb2, .slice ai2 u.items.length ci2] 48; rw [World.size_alloc] at h1; exact h1
  have HX := Lib.hid hX
  have HY := Lib.hid hY
  have HB := Lib.hid hB
  have HR1 := Lib.hid (hrb.1.below hB)
  have HR2 := Lib.hid (hrb2.1.below hB)
  have HI1 := Lib.hid hit
  have HI2 := Lib.hid hit2
  have HIH := Lib.hid ih
  have hbl : v.bytes.length ≤ 1048576 := by omega
  have hil : v.items.length ≤ 1048576 := by omega
  have HNV : Hid (sizL v.items ≤ 1048576 ∧ sizL u.items ≤ 1048576) := by show _ ∧ _; omega
  have hW := Lib.hid hw0
  clear hX hY hB hrb hrb2 hit hit2 ih hv hu hsv hsu hszv hszu hw0
  go_enter Tryz.func39, Tryz.ntmps39
  go_upto_region 1 with fail
  rw [← hW.out]
  clear hW
  have x0 := (HX.out 0 _ rfl).1
  have x1 := (HX.out 1 _ rfl).1
  have y0 := (HY.out 0 _ rfl).1
  have y1 := (HY.out 1 _ rfl).1
  by_cases q0 : v.number = u.number
  case neg =>
    have e0 : (v.number != u.number) = true := by simpa using q0
    go_wp2
    go_ret
    exact ⟨SameOut.no fun e => q0 (by rw [e]), HB.out⟩
  have e0 : (v.number != u.number) = false := by simpa using q0
  go_wp2_with fail
  refine (eqb_spec ab ab2 v.bytes u.bytes cb cb2 _ (by omega) HR1.out HR2.out).mono ?_
  rintro e w1 ⟨rfl, k1, rfl⟩
  have hd : Below w0.heap.size w0 (w0.drewN k1) := below_drewN (Below.refl _ _) k1
  have HB1 := Lib.hid (HB.out.trans (hd.mono HB.out.size))
  have HX1 := Lib.hid (HX.out.below hd)
  have HY1 := Lib.hid (HY.out.below hd)
  clear x0 x1 y0 y1 e0
  generalize w0.drewN k1 = w1 at hd HB1 HX1 HY1 ⊢
  clear hd
  by_cases q1 : v.bytes = u.bytes
  case neg =>
    rw [decide_eq_false q1]
    go_wp2
    go_ret
    exact ⟨SameOut.no fun e => q1 (by rw [e]), HB1.out⟩
  rw [decide_eq_true q1]
  have x2 := (HX1.out 2 _ rfl).1
  have y2 := (HY1.out 2 _ rfl).1
  by_cases q2 : v.items.length = u.items.length
  case neg =>
    have e2 : ((v.items.length : Int) != (u.items.length : Int)) = true := by simp; omega
    go_wp2
    go_ret
    exact ⟨SameOut.no fun e => q2 (by rw [e]), HB1.out⟩
  have e2 : ((v.items.length : Int) != (u.items.length : Int)) = false := by simp; omega
  have HS0 : Hid (∀ j, j < 0 → ∀ (h : j < v.items.length) (h' : j < u.items.length), v.items[j] = u.items[j]) := fun j h => by omega
  go_wp2
  clear x2 y2 e2
  go_loopw [5] (fun i W => ∃ k : Nat, k ≤ v.items.length ∧ i = .int .i64 k ∧ Hid (Below w.heap.size w W) ∧ Hid (CellsAt w.heap.size [.int .i64 v.number, .slice ab v.bytes.length cb, .slice ai v.items.length ci] W) ∧ Hid (CellsAt (w.heap.size + 1) [.int .i64 u.number, .slice ab2 u.bytes.length cb2, .slice ai2 u.items.length ci2] W) ∧ Hid (∀ j, j < k → ∀ (h : j < v.items.length) (h' : j < u.items.length), v.items[j] = u.items[j])) (fun i _ => v.items.length - (intOf i).toNat)
  case atStart => exact ⟨0, Nat.zero_le _, rfl, HB1, HX1, HY1, HS0⟩
  case round =>
    clear HB1 HX1 HY1 HS0 HB HX HY
    obtain ⟨k, hk, rfl, hbw, hxw, hyw, hsm⟩ := hrel
    have k0 : (0 : Int) ≤ (k : Int) := by omega
    have x2 := (hxw.out 2 _ rfl).1
    have y2 := (hyw.out 2 _ rfl).1
    by_cases hlt : k < v.items.length
    · have hlt2 : k < u.items.length := by omega
      have k1 : (k : Int) < (v.items.length : Int) := by omega
      have k2 : (k : Int) < (u.items.length : Int) := by omega
      obtain ⟨b1, off1, cs1, rfl, hiv1, hc1⟩ := HI1.out k hlt
      obtain ⟨b2, off2, cs2, rfl, hiv2, hc2⟩ := HI2.out k hlt2
      obtain ⟨a1, c1, a2, c2, rfl⟩ := hiv1.three
      obtain ⟨a3, c3, a4, c4, rfl⟩ := hiv2.three
      have H6 : Hid (∀ W, Below w.heap.size w W → W.cell? ⟨b1, off1 + k * 3, none⟩ = some (.int .i64 v.items[k].number) ∧ W.cell? ⟨b1, off1 + k * 3 + 1, none⟩ = some (.slice a1 v.items[k].bytes.length c1) ∧ W.cell? ⟨b1, off1 + k * 3 + 2, none⟩ = some (.slice a2 v.items[k].items.length c2) ∧ W.cell? ⟨b2, off2 + k * 3, none⟩ = some (.int .i64 u.items[k].number) ∧ W.cell? ⟨b2, off2 + k * 3 + 1, none⟩ = some (.slice a3 u.items[k].bytes.length c3) ∧ W.cell? ⟨b2, off2 + k * 3 + 2, none⟩ = some (.slice a4 u.items[k].items.length c4)) :=
        fun W h => ⟨cell_keepV h (hc1 0 _ rfl), cell_keepV h (hc1 1 _ rfl), cell_keepV h (hc1 2 _ rfl), cell_keepV h (hc2 0 _ rfl), cell_keepV h (hc2 1 _ rfl), cell_keepV h (hc2 2 _ rfl)⟩
      have HV1 := Lib.hid hiv1
      have HV2 := Lib.hid hiv2
      have hszV : Hid (sizV v.items[k] ≤ 1048576 ∧ sizV u.items[k] ≤ 1048576) := by show _ ∧ _; have h1 := sizL_at hlt; have h2 := sizL_at hlt2; have := HNV.out; omega
      have hnx : Hid (v.items[k] = u.items[k] → ∀ j, j < k + 1 → ∀ (h : j < v.items.length) (h' : j < u.items.length), v.items[j] = u.items[j]) := fun e j hj h h' => by
        by_cases hjk : j < k
        · exact hsm.out j hjk h h'
        · obtain rfl : j = k := by omega
          exact e
      have hno : Hid (v.items[k] ≠ u.items[k] → v ≠ u) := fun hne e => by subst e; exact hne rfl
      clear hc1 hc2 hiv1 hiv2 hsm
      generalize v.items[k] = v' at H6 HV1 HV2 hszV hnx hno
      generalize u.items[k] = u' at H6 HV1 HV2 hszV hnx hno
      go_upto_region 6 with fail
      replace hbw := Lib.hid (below_drewN hbw.out 1)
      replace hxw := Lib.hid (hxw.out.below (below_drewN (Below.refl _ _) 1))
      replace hyw := Lib.hid (hyw.out.below (below_drewN (Below.refl _ _) 1))
      by_cases he : v' = u'
      · have HE := Lib.hid he
        clear he
        go_region_held3 (fun W => W.cell? ⟨b1, off1 + k * 3, none⟩ = some (.int .i64 v'.number) ∧ W.cell? ⟨b1, off1 + k * 3 + 1, none⟩ = some (.slice a1 v'.bytes.length c1) ∧ W.cell? ⟨b1, off1 + k * 3 + 2, none⟩ = some (.slice a2 v'.items.length c2) ∧ W.cell? ⟨b2, off2 + k * 3, none⟩ = some (.int .i64 u'.number) ∧ W.cell? ⟨b2, off2 + k * 3 + 1, none⟩ = some (.slice a3 u'.bytes.length c3) ∧ W.cell? ⟨b2, off2 + k * 3 + 2, none⟩ = some (.slice a4 u'.items.length c4) ∧ W.cell? ⟨w.heap.size, 2, none⟩ = some (.slice (some ⟨b1, off1, none⟩) v.items.length ci) ∧ W.cell? ⟨w.heap.size + 1, 2, none⟩ = some (.slice (some ⟨b2, off2, none⟩) u.items.length ci2)) (exact (let h := H6.out _ hbw.out; ⟨h.1, h.2.1, h.2.2.1, h.2.2.2.1, h.2.2.2.2.1, h.2.2.2.2.2, (hxw.out 2 _ rfl).1, (hyw.out 2 _ rfl).1⟩)) (first | (go_at_call 39; refine (HIH.out v' u' _ _ _ (HV1.out.below hbw.out) (HV2.out.below hbw.out) hszV.out.1 hszV.out.2).mono ?_; rintro e w2 ⟨⟨r, rfl, hr⟩, hb2⟩; obtain rfl : r = true := hr.2 HE.out; replace hbw := Lib.hid (hbw.out.trans (hb2.mono hbw.out.size)); replace hxw := Lib.hid (hxw.out.below hb2); replace hyw := Lib.hid (hyw.out.below hb2); clear hb2 hr))
        have HNX := Lib.hid (hnx.out HE.out)
        clear H6 HV1 HV2 hszV hnx hno x2 y2
        go_wp2
        go_roundw
        case rel => exact ⟨k + 1, by omega, by go_num, hbw, hxw, hyw, HNX⟩
        case measure => simp [intOf]; omega
      · have HE := Lib.hid he
        clear he
        go_region_held3 (fun W => W.cell? ⟨b1, off1 + k * 3, none⟩ = some (.int .i64 v'.number) ∧ W.cell? ⟨b1, off1 + k * 3 + 1, none⟩ = some (.slice a1 v'.bytes.length c1) ∧ W.cell? ⟨b1, off1 + k * 3 + 2, none⟩ = some (.slice a2 v'.items.length c2) ∧ W.cell? ⟨b2, off2 + k * 3, none⟩ = some (.int .i64 u'.number) ∧ W.cell? ⟨b2, off2 + k * 3 + 1, none⟩ = some (.slice a3 u'.bytes.length c3) ∧ W.cell? ⟨b2, off2 + k * 3 + 2, none⟩ = some (.slice a4 u'.items.length c4) ∧ W.cell? ⟨w.heap.size, 2, none⟩ = some (.slice (some ⟨b1, off1, none⟩) v.items.length ci) ∧ W.cell? ⟨w.heap.size + 1, 2, none⟩ = some (.slice (some ⟨b2, off2, none⟩) u.items.length ci2)) (exact (let h := H6.out _ hbw.out; ⟨h.1, h.2.1, h.2.2.1, h.2.2.2.1, h.2.2.2.2.1, h.2.2.2.2.2, (hxw.out 2 _ rfl).1, (hyw.out 2 _ rfl).1⟩)) (first | (go_at_call 39; refine (HIH.out v' u' _ _ _ (HV1.out.below hbw.out) (HV2.out.below hbw.out) hszV.out.1 hszV.out.2).mono ?_; rintro e w2 ⟨⟨r, rfl, hr⟩, hb2⟩; obtain rfl : r = false := (by cases r with | false => rfl | true => exact absurd (hr.1 rfl) HE.out); replace hbw := Lib.hid (hbw.out.trans (hb2.mono hbw.out.size)); replace hxw := Lib.hid (hxw.out.below hb2); replace hyw := Lib.hid (hyw.out.below hb2); clear hb2 hr))
        have HNO := Lib.hid (hno.out HE.out)
        clear H6 HV1 HV2 hszV hnx hno x2 y2
        go_wp2
        go_ret
        exact ⟨SameOut.no HNO.out, hbw.out⟩
    · have k1 : ¬ (k : Int) < (v.items.length : Int) := by omega
      have HEQ : Hid (v = u) := valueV_ext q0 q1 (List.ext_getElem q2 fun j h h' => hsm.out j (by omega) h h')
      go_wp2
      go_ret
      exact ⟨SameOut.yes HEQ.out, hbw.out⟩
theorem seqv_all : ∀ n, SEqC n
  | 0 => fun _ _ _ _ _ h => h.elim
  | n + 1 => seqv_step n (seqv_all n)
/-- The model's EqualValues. -/
theorem seq_value (n m : Nat) (v u : ValueV) (cs cu : List Value) (w : World) (h : IsVal n v cs w) (h' : IsVal m u cu w) (hs : sizV v ≤ 1048576) (hs' : sizV u ≤ 1048576) :
    Calls Tryz.prog 39 #[.agg cs.toArray, .agg cu.toArray] w fun e w' => SameOut v u e ∧ Below w.heap.size w w' := seqv_all (n + m) v u cs cu w (h.upE (by omega)) (h'.upE (by omega)) hs hs'
end Go.Proofs.YtefkhknfjohnaaaGreatDoor
