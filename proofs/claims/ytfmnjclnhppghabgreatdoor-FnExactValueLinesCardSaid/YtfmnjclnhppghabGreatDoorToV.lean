/- Contracts of the laws' copies of values (toValue, toValueS). -/
import Derived.Test.YtfmnjclnhppghabGreatDoorTree
import Derived.Test.YtfmnjclnhppghabGreatDoorValSz
import Derived.Test.YtfmnjclnhppghabGreatDoorGRul
import Derived.Deep.CutRange
namespace Go.Proofs.YtfmnjclnhppghabGreatDoor
open Go Go.RowKit
def zeroVal : List Value := [.int .i64 0, .slice none 0 0, .slice none 0 0]
theorem make_vals (n : Nat) (hn : n ≤ 1073741824) (W : World) : (Instr.makeSlice 37 (.int .i64 (n : Int)) (.int .i64 (n : Int))).run Tryz.prog W = .ok (.slice (some ⟨W.heap.size, 0, none⟩) n n) (W.alloc (.cells (madeCells #[.int .i64 0, .slice none 0 0, .slice none 0 0] (n * 3)) 39)) := by
  obtain ⟨i0, hi, h⟩ := Option.map_eq_some_iff.1 infoVal
  simp only [Prod.mk.injEq] at h
  obtain ⟨hz0, hz1, hz2⟩ := h
  have hr := run_make (P := Tryz.prog) W 37 39 i0 _ Tryz.underlying37 hi hz0 .i64 .i64 (n : Int) (n : Int) (by omega) (by omega) (by rw [hz2]; omega) (by omega)
  rw [hr, hz1]
  simp [Value.cells]
/-- The first k values are copied into the row at block N. -/
def HalfT (n : Nat) (vs : List ValueV) (k N : Nat) (bls : List (List Nat)) (w W : World) : Prop :=
  Below w.heap.size w W ∧ N < W.heap.size ∧ bls.length = k ∧ (∀ j (h : j < vs.length) (h' : j < bls.length), ∃ cs', OwnT n bls[j] vs[j] cs' W ∧ ∀ i u, cs'[i]? = some u → W.cell? ⟨N, j * 3 + i, none⟩ = some u) ∧
    (∀ c, c < vs.length * 3 → W.frozen? ⟨N, c, none⟩ = false) ∧ (∀ j, k ≤ j → j < vs.length → ∀ i v, zeroVal[i]? = some v → W.cell? ⟨N, j * 3 + i, none⟩ = some v) ∧ bls.flatten.Nodup ∧ ∀ b ∈ bls.flatten, N < b ∧ b < W.heap.size
theorem HalfT.start (n : Nat) (vs : List ValueV) (t : TypeId) (w : World) : HalfT n vs 0 w.heap.size [] w (w.alloc (.cells (madeCells #[.int .i64 0, .slice none 0 0, .slice none 0 0] (vs.length * 3)) t)) := by
  refine ⟨(Below.refl _ _).alloc (Nat.le_refl _) _, by simp, rfl, fun j h h' => by simp at h', fun c _ => by simp, fun j _ hj i v hv => ?_, by simp, fun b hb => by simp at hb⟩
  have hi3 : i < 3 := by
    rcases Nat.lt_or_ge i 3 with h | h
    · exact h
    · rw [List.getElem?_eq_none (by simpa [zeroVal] using h)] at hv; cases hv
  refine (World.cell?_alloc_mark w _ t (0, 0) (j * 3 + i)).trans ?_
  rw [made_at _ _ (by omega)]
  have e : (j * 3 + i) % 3 = i := by omega
  show some (#[.int .i64 0, .slice none 0 0, .slice none 0 0] : Array Value)[(j * 3 + i) % 3]! = some v
  rw [e]
  rcases (by omega : i = 0 ∨ i = 1 ∨ i = 2) with rfl | rfl | rfl <;> exact hv
theorem HalfT.next {n : Nat} {vs : List ValueV} {k N : Nat} {bls : List (List Nat)} {bl : List Nat} {w W W1 : World} {cs : List Value} (h : HalfT n vs k N bls w W) (hN : w.heap.size ≤ N) (hk : k < vs.length) (hb : Below W.heap.size W W1) (hr : OwnT n bl vs[k] cs W1) (hbl : ∀ b ∈ bl, W.heap.size ≤ b) : HalfT n vs (k + 1) N (bls ++ [bl]) w (putList W1 N (k * 3) cs) := by
  obtain ⟨h1, h2, hl, ho, hf, hz, hn, hlt⟩ := h
  have hlen := hr.length
  have hs := hb.size
  have honly : Only [N] W1 (putList W1 N (k * 3) cs) := by
    have e : ∀ (l : List Value) (o : Nat) (V : World), Only [N] W1 V → Only [N] W1 (putList V N o l) := fun l => by
      induction l with
      | nil => intro o V h; exact h
      | cons v l ih => intro o V h; rw [putList]; exact ih _ _ (h.trans (Only.set (by simp)))
    exact e cs _ W1 (Only.refl _ _)
  have hzb : ∀ j, k ≤ j → j < vs.length → ∀ i v, zeroVal[i]? = some v → W1.cell? ⟨N, j * 3 + i, none⟩ = some v := fun j hj hj' i v hv => (hb.cell (p := ⟨N, j * 3 + i, none⟩) h2).trans (hz j hj hj' i v hv)
  have h3 : ∀ {i : Nat} {u : Value} {l : List Value}, l.length = 3 → l[i]? = some u → i < 3 := fun {i u l} hl hu => by
    rcases Nat.lt_or_ge i 3 with h | h
    · exact h
    · rw [List.getElem?_eq_none (by omega)] at hu; cases hu
  refine ⟨putList_below N cs _ _ _ _ (h1.trans (hb.mono h1.size)) hN, by rw [putList_size]; omega, by simp [hl], fun j hj hj' => ?_, fun c hc => ?_, fun j hj hj' i v hv => ?_, ?_, fun b hb2 => ?_⟩
  · by_cases hjk : j < bls.length
    · rw [List.getElem_append_left hjk]
      obtain ⟨cs', ho', hc'⟩ := ho j hj hjk
      refine ⟨cs', (ho'.below hb).keep honly fun b hb2 e => ?_, fun i u hu => ?_⟩
      · simp at e
        have := (hlt b (List.mem_flatten.2 ⟨_, List.getElem_mem hjk, hb2⟩)).1
        omega
      · have hi3 := h3 ho'.length hu
        rw [putList_far N _ cs _ _ (.inr (.inl (by show j * 3 + i < k * 3; omega)))]
        exact (hb.cell (p := ⟨N, j * 3 + i, none⟩) h2).trans (hc' i u hu)
    · have e : j = bls.length := by simp at hj'; omega
      subst e
      have e2 : (bls ++ [bl])[bls.length]'hj' = bl := by simp
      rw [e2]
      refine ⟨cs, ?_, fun i u hu => ?_⟩
      · have e3 : vs[bls.length]'hj = vs[k] := by congr 1
        rw [e3]
        exact hr.keep honly fun b hb2 e => by simp at e; have := hbl b hb2; omega
      · have hi3 := h3 hlen hu
        rw [hl]
        obtain ⟨z, hz2⟩ : ∃ z, zeroVal[i]? = some z := by
          rcases (by omega : i = 0 ∨ i = 1 ∨ i = 2) with rfl | rfl | rfl <;> exact ⟨_, rfl⟩
        exact putList_at N cs (k * 3) i W1 u z hu (hzb k (Nat.le_refl _) hk i z hz2)
  · rw [putList_frozen]
    exact (hb.frozen (p := ⟨N, c, none⟩) h2).trans (hf c hc)
  · have hi3 := h3 (l := zeroVal) rfl hv
    rw [putList_far N _ cs _ _ (.inr (.inr (by rw [hlen]; show k * 3 + 3 ≤ j * 3 + i; omega)))]
    exact hzb j (by omega) hj' i v hv
  · rw [List.flatten_append, List.flatten_cons, List.flatten_nil, List.append_nil]
    exact List.nodup_append.2 ⟨hn, hr.nodup, fun a ha b hb2 e => by have := (hlt a ha).2; have := hbl b hb2; omega⟩
  · rw [List.flatten_append, List.flatten_cons, List.flatten_nil, List.append_nil] at hb2
    rw [putList_size]
    rcases List.mem_append.1 hb2 with hb2 | hb2
    · have := hlt b hb2; omega
    · have := hr.lt b hb2; have := hbl b hb2; omega
/-- Values in new memory come back. -/
def ValsOut (n : Nat) (vs : List ValueV) (w : World) (e : Ending) (w' : World) : Prop :=
  ∃ x cp b0 bls, e = .returned (.slice x vs.length cp) ∧ OwnL n b0 bls x vs w' ∧ (b0 ++ bls.flatten).Nodup ∧ (∀ b ∈ b0 ++ bls.flatten, w.heap.size ≤ b) ∧ Below w.heap.size w w'
def ValOut (n : Nat) (v : ValueV) (w : World) (e : Ending) (w' : World) : Prop :=
  ∃ cs bl, e = .returned (.agg cs.toArray) ∧ OwnT n bl v cs w' ∧ (∀ b ∈ bl, w.heap.size ≤ b) ∧ Below w.heap.size w w'
theorem HalfT.end {n : Nat} {vs : List ValueV} {bls : List (List Nat)} {w W : World} (h : HalfT n vs vs.length w.heap.size bls w W) : ValsOut n vs w (.returned (.slice (some ⟨w.heap.size, 0, none⟩) vs.length vs.length)) W := by
  obtain ⟨h1, h2, hl, ho, hf, hz, hn, hlt⟩ := h
  by_cases hv : vs = []
  · subst hv
    have : bls = [] := List.eq_nil_of_length_eq_zero (by simpa using hl)
    subst this
    exact ⟨_, _, [], [], rfl, ⟨fun _ => rfl, rfl, fun j hj => by simp at hj⟩, by simp, fun b hb => by simp at hb, h1⟩
  · refine ⟨_, _, [w.heap.size], bls, rfl, ⟨fun e => absurd e hv, hl, fun j hj hj' => ?_⟩, ?_, fun b hb => ?_, h1⟩
    · obtain ⟨cs', ho', hc'⟩ := ho j hj hj'
      refine ⟨_, 0, cs', rfl, rfl, ho', fun i u hu => ?_⟩
      have hi3 : i < 3 := by
        have := ho'.length
        rcases Nat.lt_or_ge i 3 with h | h
        · exact h
        · rw [List.getElem?_eq_none (by omega)] at hu; cases hu
      rw [Nat.zero_add]
      exact ⟨hc' i u hu, hf _ (by omega)⟩
    · refine List.nodup_append.2 ⟨by simp, hn, fun a ha b hb e => ?_⟩
      simp at ha
      have := (hlt b hb).1
      omega
    · rcases List.mem_append.1 hb with hb | hb
      · simp at hb; omega
      · have := (hlt b hb).1; omega
/-- What toValueS promises of items of a height. -/
def ToLC (n : Nat) : Prop := ∀ (ai : Option Addr) (vs : List ValueV) (ci : Nat) (w : World), ItemsAt n ai vs w → vs.length + sizL vs ≤ 1048576 →
  Calls Tryz.prog 24 #[.slice ai vs.length ci] w (ValsOut n vs w)
def ToVC (n : Nat) : Prop := ∀ (v : ValueV) (cs : List Value) (w : World), IsVal n v cs w → sizV v ≤ 1048576 →
  Calls Tryz.prog 8 #[.agg cs.toArray] w (ValOut n v w)
set_option maxRecDepth 100000 in
set_option maxHeartbeats 4000000 in
theorem tol_step (n : Nat) (ih : ToVC n) : ToLC n := by
  intro ai vs ci w hit hs
  have HIT := Lib.hid hit
  have HIH := Lib.hid ih
  have HS := Lib.hid hs
  have hl : vs.length ≤ 1048576 := by omega
  have hmk := make_vals vs.length (by omega)
  clear hit ih hs
  go_enter Tryz.func24, Tryz.ntmps24
  go_wp2
  clear hmk
  go_loopw [4] (fun i W => ∃ (k : Nat) (bls : List (List Nat)), k ≤ vs.length ∧ i = .int .i64 k ∧ Hid (HalfT n vs k w.heap.size bls w W)) (fun i _ => vs.length - (intOf i).toNat)
  case atStart => exact ⟨0, [], Nat.zero_le _, rfl, HalfT.start n vs _ w⟩
  case round =>
    obtain ⟨k, bls, hk, rfl, hh⟩ := hrel
    have k0 : (0 : Int) ≤ (k : Int) := by omega
    by_cases hlt : k < vs.length
    · have k1 : (k : Int) < (vs.length : Int) := by omega
      obtain ⟨b, off, cs', rfl, hiv, hc⟩ := (HIT.out.below hh.out.1) k hlt
      obtain ⟨a1, c1, a2, c2, rfl⟩ := hiv.three
      have d0 := hc 0 _ rfl
      have d1 := hc 1 _ rfl
      have d2 := hc 2 _ rfl
      simp only [Nat.add_zero] at d0
      have HIV := Lib.hid hiv
      have hsz : Hid (sizV vs[k] ≤ 1048576) := by show _ ≤ _; have := sizL_at hlt; have := HS.out; omega
      have hnext := fun cs bl W1 => Lib.hid (hh.out.next (W1 := W1) (cs := cs) (bl := bl) (Nat.le_refl _) hlt)
      clear hiv hc
      generalize vs[k] = v at d0 d1 d2 HIV hsz hnext
      go_wp2_with fail
      refine (HIH.out v _ wr HIV.out hsz.out).mono ?_
      rintro e w1 ⟨cs, bl, rfl, hown, hbl, hb1⟩
      have hN := Lib.hid ((hnext cs bl w1).out hb1 hown hbl)
      obtain ⟨_, hlt2, _, _, hfz, hzz, _, _⟩ := hh.out
      have z0 := (hb1.cell (p := ⟨w.heap.size, k * 3 + 0, none⟩) hlt2).trans (hzz k (Nat.le_refl _) hlt 0 _ rfl)
      have z1 := (hb1.cell (p := ⟨w.heap.size, k * 3 + 1, none⟩) hlt2).trans (hzz k (Nat.le_refl _) hlt 1 _ rfl)
      have z2 := (hb1.cell (p := ⟨w.heap.size, k * 3 + 2, none⟩) hlt2).trans (hzz k (Nat.le_refl _) hlt 2 _ rfl)
      have f0 := (hb1.frozen (p := ⟨w.heap.size, k * 3 + 0, none⟩) hlt2).trans (hfz (k * 3 + 0) (by omega))
      have f1 := (hb1.frozen (p := ⟨w.heap.size, k * 3 + 1, none⟩) hlt2).trans (hfz (k * 3 + 1) (by omega))
      have f2 := (hb1.frozen (p := ⟨w.heap.size, k * 3 + 2, none⟩) hlt2).trans (hfz (k * 3 + 2) (by omega))
      rw [Nat.add_zero] at z0 f0
      obtain ⟨x1, y1, x2, y2, rfl⟩ := hown.cells
      clear hb1 hfz hzz hnext d0 d1 d2 HIV hh hown hbl
      go_wp2
      go_roundw
      case rel => exact ⟨k + 1, bls ++ [bl], by omega, by go_num, hN⟩
      case measure => simp [intOf]; omega
    · have k1 : ¬ (k : Int) < (vs.length : Int) := by omega
      obtain rfl : k = vs.length := by omega
      have hfin := Lib.hid hh.out.end
      go_wp2
      go_ret
      exact hfin.out
set_option maxRecDepth 100000 in
set_option maxHeartbeats 4000000 in
theorem tov_step (n : Nat) (ih : ToLC n) : ToVC (n + 1) := by
  intro v cs w hv hs
  obtain ⟨ab, cb, ai, ci, rfl, hrb, hit⟩ := hv.open
  have hsz := sizV_eq v
  obtain ⟨w0, hw0⟩ : ∃ w0, w0 = ((w.alloc (.cells #[.int .i64 v.number, .slice ab v.bytes.length cb, .slice ai v.items.length ci] 28)).alloc (.cells #[.int .i64 0, .slice none 0 0, .slice none 0 0] 39)).alloc (.cells #[.int .i64 v.number, .slice none 0 0, .slice none 0 0] 39) := ⟨_, rfl⟩
  have hz0 : w0.heap.size = w.heap.size + 3 := by subst hw0; simp
  have hB0 : Below w.heap.size w w0 := by subst hw0; exact (((Below.refl _ w).alloc (Nat.le_refl _) _).alloc (by simp) _).alloc (by simp; omega) _
  have I0 : CellsAt w.heap.size [.int .i64 v.number, .slice ab v.bytes.length cb, .slice ai v.items.length ci] w0 := by subst hw0; exact ((CellsAt.new w _ _).below ((Below.refl _ _).alloc (Nat.le_refl _) _)).below ((Below.refl _ _).alloc (Nat.le_refl _) _)
  have Z0 : CellsAt (w.heap.size + 1) [.int .i64 0, .slice none 0 0, .slice none 0 0] w0 := by
    subst hw0
    have h1 := CellsAt.new (w.alloc (.cells #[.int .i64 v.number, .slice ab v.bytes.length cb, .slice ai v.items.length ci] 28)) [.int .i64 0, .slice none 0 0, .slice none 0 0] 39
    rw [World.size_alloc] at h1
    exact h1.below ((Below.refl _ _).alloc (Nat.le_refl _) _)
  have O0 : CellsAt (w.heap.size + 1 + 1) [.int .i64 v.number, .slice none 0 0, .slice none 0 0] w0 := by
    subst hw0
    have h1 := CellsAt.new ((w.alloc (.cells #[.int .i64 v.number, .slice ab v.bytes.length cb, .slice ai v.items.length ci] 28)).alloc (.cells #[.int .i64 0, .slice none 0 0, .slice none 0 0] 39)) [.int .i64 v.number, .slice none 0 0, .slice none 0 0] 39
    simp only [World.size_alloc] at h1
    exact h1
  have HRB := Lib.hid (hrb.1.below hB0)
  have HIT := Lib.hid hit
  have HIH := Lib.hid ih
  have HB := Lib.hid hB0
  have HI := Lib.hid I0
  have HZ := Lib.hid Z0
  have HO := Lib.hid O0
  have HSZ := Lib.hid hsz
  have hz := Lib.hid hz0
  have hbl : v.bytes.length ≤ 1048576 := by omega
  have HNV : Hid (v.items.length + sizL v.items ≤ 1048576) := by show _ ≤ _; omega
  have hW := Lib.hid hw0
  clear hB0 I0 Z0 O0 hrb hit ih hv hs hsz hw0 hz0
  go_enter Tryz.func8, Tryz.ntmps8
  go_upto_region 3 with fail
  rw [← hW.out]
  clear hW
  have i1 := (HI.out 1 _ rfl).1
  go_wp2_with fail
  refine (to_any ab v.bytes cb _ (by omega) HRB.out).mono ?_
  rintro e w1 ⟨x1, y1, rfl, hrow, hb1⟩
  have hs1 := hb1.size
  have hz1 := hz.out
  have hI1 := HI.out.below hb1
  have hZ1 := HZ.out.below hb1
  have hO1 := HO.out.below hb1
  obtain ⟨o1, p1⟩ := hO1 1 _ rfl
  have hsl : Hid (v.bytes.length ≤ y1 ∧ (x1 = none → y1 = 0)) := hrow.2
  obtain ⟨b1, hbt, hbn, hbB⟩ := hrow.1.tree
  obtain ⟨v1, hv1⟩ : ∃ v1, v1 = w1.setCell ⟨w.heap.size + 1 + 1, 1, none⟩ (.slice x1 v.bytes.length y1) := ⟨_, rfl⟩
  have hon1 : Only [w.heap.size + 1 + 1] w1 v1 := by subst hv1; exact Only.set (by simp)
  have hvs : v1.heap.size = w1.heap.size := by subst hv1; simp
  have HBT := Lib.hid (hbt.keep hon1 fun b hb e => by simp at e; have := hbB b hb; omega)
  have HBL : Hid (∀ b ∈ b1, w.heap.size ≤ b ∧ b < v1.heap.size) := fun b hb => by have := hbB b hb; have := hbt.lt b hb; omega
  have HBN := Lib.hid hbn
  have HBF : Hid (∀ b ∈ b1, w.heap.size + 1 + 1 < b) := fun b hb => by have := hbB b hb; omega
  have HI1 : Hid (CellsAt w.heap.size [.int .i64 v.number, .slice ab v.bytes.length cb, .slice ai v.items.length ci] v1) := by subst hv1; exact hI1.far (by omega)
  have HZ1 : Hid (CellsAt (w.heap.size + 1) [.int .i64 0, .slice none 0 0, .slice none 0 0] v1) := by subst hv1; exact hZ1.far (by omega)
  have HO1 : Hid (CellsAt (w.heap.size + 1 + 1) [.int .i64 v.number, .slice x1 v.bytes.length y1, .slice none 0 0] v1) := by subst hv1; exact hO1.set 1 (.slice x1 v.bytes.length y1) (by simp)
  have HB1 : Hid (Below w.heap.size w v1) := by subst hv1; exact (HB.out.trans (hb1.mono HB.out.size)).setCell (p := ⟨w.heap.size + 1 + 1, 1, none⟩) (by show w.heap.size ≤ w.heap.size + 1 + 1; omega) _
  have i2 := (hI1 2 _ rfl).1
  clear hb1 hI1 hZ1 hO1 hbt hbn hbB hrow hon1 HI HZ HO HB i1
  go_wp2_with fail
  rw [← hv1]
  clear hv1 o1 p1
  refine (HIH.out ai v.items ci v1 (HIT.out.below HB1.out) HNV.out).mono ?_
  rintro e w2 ⟨x2, y2, b0, bls, rfl, hol, hnd, hbb, hb2⟩
  have hs2 := hb2.size
  have hZ2 := HZ1.out.below hb2
  have hO2 := HO1.out.below hb2
  obtain ⟨o2, p2⟩ := hO2 2 _ rfl
  obtain ⟨v2, hv2⟩ : ∃ v2, v2 = w2.setCell ⟨w.heap.size + 1 + 1, 2, none⟩ (.slice x2 v.items.length y2) := ⟨_, rfl⟩
  have hO3 : CellsAt (w.heap.size + 1 + 1) [.int .i64 v.number, .slice x1 v.bytes.length y1, .slice x2 v.items.length y2] v2 := by subst hv2; exact hO2.set 2 (.slice x2 v.items.length y2) (by simp)
  have hZ3 : CellsAt (w.heap.size + 1) [.int .i64 0, .slice none 0 0, .slice none 0 0] v2 := by subst hv2; exact hZ2.far (by omega)
  have hB3 : Below w.heap.size w v2 := by subst hv2; exact (HB1.out.trans (hb2.mono HB1.out.size)).setCell (p := ⟨w.heap.size + 1 + 1, 2, none⟩) (by show w.heap.size ≤ w.heap.size + 1 + 1; omega) _
  have hon2 : Only [w.heap.size + 1 + 1] w2 v2 := by subst hv2; exact Only.set (by simp)
  have hfar : ∀ b, (b ∈ b1 ∨ b ∈ b0 ++ bls.flatten) → b ≠ w.heap.size + 1 + 1 ∧ b ≠ w.heap.size + 1 := fun b hb => by
    rcases hb with hb | hb
    · have := HBF.out b hb; omega
    · have := hbb b hb; omega
  have HOT : Hid (OwnT (n + 1) (b1 ++ (b0 ++ bls.flatten)) v [.int .i64 v.number, .slice x1 v.bytes.length y1, .slice x2 v.items.length y2] v2) := by
    refine ⟨x1, y1, x2, y2, b1, b0, bls, rfl, hsl.out, (HBT.out.keep (Only.of_below [] hb2) fun b _ e => by cases e).keep hon2 fun b hb e => by simp at e; exact (hfar b (.inl hb)).1 e, rfl, List.nodup_append.2 ⟨HBN.out, hnd, fun a ha b hb e => by have := (HBL.out a ha).2; have := hbb b hb; omega⟩, hol.1, hol.2.1, fun j hj hj' => ?_⟩
    obtain ⟨b, off, cs', e1, e2, h3, h4⟩ := hol.2.2 j hj hj'
    have hne : b ∉ [w.heap.size + 1 + 1] := fun e => by simp at e; exact (hfar b (.inr (by simp [e2]))).1 e
    exact ⟨b, off, cs', e1, e2, h3.keep hon2 fun q hq e => by simp at e; exact (hfar q (.inr (List.mem_append_right _ (List.mem_flatten.2 ⟨_, List.getElem_mem hj', hq⟩)))).1 e, fun i u hi => hon2.cell hne (h4 i u hi)⟩
  obtain ⟨q0, -⟩ := hO3 0 _ rfl
  obtain ⟨q1, -⟩ := hO3 1 _ rfl
  obtain ⟨q2, -⟩ := hO3 2 _ rfl
  obtain ⟨z0, t0⟩ := hZ3 0 _ rfl
  obtain ⟨z1, t1⟩ := hZ3 1 _ rfl
  obtain ⟨z2, t2⟩ := hZ3 2 _ rfl
  have HB3 := Lib.hid hB3
  have HBA : Hid (∀ b ∈ b1 ++ (b0 ++ bls.flatten), w.heap.size + 1 + 1 < b) := fun b hb => by
    rcases List.mem_append.1 hb with hb | hb
    · exact HBF.out b hb
    · have := hbb b hb; omega
  have HV2 := Lib.hid hv2
  clear hO2 hO3 hZ2 hZ3 hB3 hon2 hfar hol hnd hbb hb2 HI1 HZ1 HO1 HB1 HBT HBN HBL i2 hv2
  go_upto_region 5 with fail
  rw [← HV2.out]
  clear HV2 o2 p2
  have hon3 : ∀ u0 u1 u2 : Value, Only [w.heap.size + 1] v2 (((v2.setCell ⟨w.heap.size + 1, 0, none⟩ u0).setCell ⟨w.heap.size + 1, 1, none⟩ u1).setCell ⟨w.heap.size + 1, 2, none⟩ u2) := fun u0 u1 u2 => ((Only.set (by simp)).trans (Only.set (by simp))).trans (Only.set (by simp))
  have HFIN := Lib.hid (HOT.out.keep (hon3 (.int .i64 v.number) (.slice x1 v.bytes.length y1) (.slice x2 v.items.length y2)) fun b hb e => by simp at e; have := HBA.out b hb; omega)
  have HFB := Lib.hid (Only.below HB3.out (hon3 (.int .i64 v.number) (.slice x1 v.bytes.length y1) (.slice x2 v.items.length y2)) HB3.out.size (fun b hb => by simp at hb; omega))
  clear hon3 HOT HB3
  go_wp2
  (try simp only [Exit.inBlock, Exit.then])
  refine bodyPost_ret (v := .agg #[.int .i64 v.number, .slice x1 v.bytes.length y1, .slice x2 v.items.length y2]) ?_ rfl ?_
  · simp [results, Tryz.results8, go_sem, z0, z1, z2]
  · exact ⟨[.int .i64 v.number, .slice x1 v.bytes.length y1, .slice x2 v.items.length y2], _, rfl, HFIN.out, fun b hb => by have := HBA.out b hb; omega, HFB.out⟩
theorem tov_all : ∀ n, ToVC n
  | 0 => fun _ _ _ h => h.elim
  | n + 1 => tov_step n (tol_step n (tov_all n))
/-- toValue. -/
theorem to_value (n : Nat) (v : ValueV) (cs : List Value) (w : World) (h : IsVal n v cs w) (hs : sizV v ≤ 1048576) : Calls Tryz.prog 8 #[.agg cs.toArray] w (ValOut n v w) := tov_all n v cs w h hs
end Go.Proofs.YtfmnjclnhppghabGreatDoor
