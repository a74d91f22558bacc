/- Contracts of the model's CountParts and TotalBytes. -/
import Derived.Test.YtdbpjaeekhgfgaaValSz
namespace Go.Proofs.Ytdbpjaeekhgfgaa
open Go Go.RowKit
mutual
/-- How many parts a value has, itself among them. -/
def cntV : ValueV → Nat
  | .mk _ _ l => 1 + cntL l
def cntL : List ValueV → Nat
  | [] => 0
  | v :: vs => cntV v + cntL vs
end
mutual
/-- How many bytes a value has with all its parts. -/
def totV : ValueV → Nat
  | .mk _ b l => b.length + totL l
def totL : List ValueV → Nat
  | [] => 0
  | v :: vs => totV v + totL vs
end
theorem cntV_eq (v : ValueV) : cntV v = 1 + cntL v.items := by
  cases v with
  | mk n b l => rw [cntV]; rfl
theorem totV_eq (v : ValueV) : totV v = v.bytes.length + totL v.items := by
  cases v with
  | mk n b l => rw [totV]; rfl
theorem cntL_append : ∀ (vs us : List ValueV), cntL (vs ++ us) = cntL vs + cntL us
  | [], us => by simp [cntL]
  | v :: vs, us => by rw [List.cons_append, cntL, cntL, cntL_append vs us]; omega
theorem totL_append : ∀ (vs us : List ValueV), totL (vs ++ us) = totL vs + totL us
  | [], us => by simp [totL]
  | v :: vs, us => by rw [List.cons_append, totL, totL, totL_append vs us]; omega
theorem cntL_next (vs : List ValueV) (j : Nat) (h : j < vs.length) : cntL (vs.take (j + 1)) = cntL (vs.take j) + cntV vs[j] := by
  rw [List.take_succ_eq_append_getElem h, cntL_append]; simp [cntL]
theorem totL_next (vs : List ValueV) (j : Nat) (h : j < vs.length) : totL (vs.take (j + 1)) = totL (vs.take j) + totV vs[j] := by
  rw [List.take_succ_eq_append_getElem h, totL_append]; simp [totL]
theorem cntL_take_le (vs : List ValueV) (j : Nat) : cntL (vs.take j) ≤ cntL vs := by
  have h := cntL_append (vs.take j) (vs.drop j)
  rw [List.take_append_drop] at h
  omega
theorem totL_take_le (vs : List ValueV) (j : Nat) : totL (vs.take j) ≤ totL vs := by
  have h := totL_append (vs.take j) (vs.drop j)
  rw [List.take_append_drop] at h
  omega
mutual
theorem cnt_siz : ∀ v : ValueV, cntV v ≤ 1 + sizV v
  | .mk n b l => by
    have := cnt_sizL l
    rw [cntV, sizV]
    omega
theorem cnt_sizL : ∀ l : List ValueV, cntL l ≤ l.length + sizL l
  | [] => by simp [cntL]
  | v :: vs => by
    have h1 := cnt_siz v
    have h2 := cnt_sizL vs
    simp only [cntL, sizL, List.length_cons]
    omega
end
mutual
theorem tot_siz : ∀ v : ValueV, totV v ≤ sizV v
  | .mk n b l => by
    have := tot_sizL l
    rw [totV, sizV]
    omega
theorem tot_sizL : ∀ l : List ValueV, totL l ≤ sizL l
  | [] => by simp [totL]
  | v :: vs => by
    have h1 := tot_siz v
    have h2 := tot_sizL vs
    simp only [totL, sizL]
    omega
end
theorem cnt_pos (v : ValueV) : 1 ≤ cntV v := by rw [cntV_eq]; omega
/-- What the model's CountParts promises of values of a height. -/
def CountC (n : Nat) : Prop := ∀ (v : ValueV) (cs : List Value) (w : World), IsVal n v cs w → sizV v ≤ 1048576 →
  Calls Try.prog 32 #[.agg cs.toArray] w fun e w' => e = .returned (.int .i64 (cntV v : Nat)) ∧ Below w.heap.size w w'
set_option maxRecDepth 100000 in
set_option maxHeartbeats 4000000 in
theorem count_step (n : Nat) (ih : CountC n) : CountC (n + 1) := by
  intro v cs w hv hs
  obtain ⟨ab, cb, ai, ci, rfl, _, hit⟩ := hv.open
  obtain ⟨w0, hw0⟩ : ∃ w0, w0 = w.alloc (.cells #[.int .i64 v.number, .slice ab v.bytes.length cb, .slice ai v.items.length ci] 29) := ⟨_, rfl⟩
  have hB : Below w.heap.size w w0 := by subst hw0; exact (Below.refl _ _).alloc (Nat.le_refl _) _
  have hX : CellsAt w.heap.size [.int .i64 v.number, .slice ab v.bytes.length cb, .slice ai v.items.length ci] w0 := by subst hw0; exact CellsAt.new w _ _
  have HE : Hid (cntV v = 1 + cntL v.items) := cntV_eq v
  have hsz := sizV_eq v
  have HX := Lib.hid hX
  have HIT := Lib.hid hit
  have HB := Lib.hid hB
  have HIH := Lib.hid ih
  have HSZ := Lib.hid hs
  have hW := Lib.hid hw0
  have x1 := (hX 1 _ rfl).1
  have hcap : 1 + cntL v.items ≤ 1048577 := by have h1 := cnt_siz v; have h2 := HE.out; omega
  have hlen : v.items.length ≤ 1048576 := by omega
  clear hB hX hw0 hit ih hv hs hsz
  go_enter Try.func32, Try.ntmps32
  go_upto_region 1 with fail
  rw [← hW.out]
  clear hW
  go_wp2
  clear x1
  go_loopw [3, 4] (fun q i W => ∃ (j M : Nat), j ≤ v.items.length ∧ i = .int .i64 j ∧ q = .int .i64 M ∧ Hid (M = 1 + cntL (v.items.take j)) ∧ Hid (Below w.heap.size w W) ∧ Hid (CellsAt w.heap.size [.int .i64 v.number, .slice ab v.bytes.length cb, .slice ai v.items.length ci] W)) (fun _ i _ => v.items.length - (intOf i).toNat)
  case atStart => exact ⟨0, 1, Nat.zero_le _, rfl, rfl, (by show _ = _; simp [cntL]), HB, HX⟩
  case round =>
    clear HB HX
    obtain ⟨j, M, hjl, rfl, rfl, hM, hb, hX⟩ := hrel
    have j0 : (0 : Int) ≤ (j : Int) := by omega
    have x2 := (hX.out 2 _ rfl).1
    by_cases hlt : j < v.items.length
    · have j1 : (j : Int) < (v.items.length : Int) := by omega
      obtain ⟨b, off, cs', rfl, hiv, hc⟩ := (HIT.out.below hb.out) j hlt
      obtain ⟨a1, c1, a2, c2, rfl⟩ := hiv.three
      have d0 := hc 0 _ rfl
      have d1 := hc 1 _ rfl
      have d2 := hc 2 _ rfl
      simp only [Nat.add_zero] at d0
      have HIV := Lib.hid hiv
      have hsv : Hid (sizV v.items[j] ≤ 1048576) := by show _ ≤ _; have h1 := sizV_eq v; have h2 := sizL_at hlt; have h3 := HSZ.out; omega
      have hnx : Hid (M + cntV v.items[j] = 1 + cntL (v.items.take (j + 1))) := by show _ = _; have h1 := cntL_next v.items j hlt; have h2 := hM.out; omega
      have htk := cntL_take_le v.items (j + 1)
      have hcv : cntV v.items[j] ≤ 1048577 := by have := hnx.out; omega
      have hMb : M ≤ 1048577 := by have := hnx.out; omega
      have hMv : M + cntV v.items[j] ≤ 1048577 := by have := hnx.out; omega
      clear hiv hc htk
      generalize v.items[j] = u at d0 d1 d2 HIV hsv hnx hcv hMv
      go_wp2_with fail
      refine (HIH.out u _ wr HIV.out hsv.out).mono ?_
      rintro e w2 ⟨rfl, hb2⟩
      have HB2 := Lib.hid (hb.out.trans (hb2.mono hb.out.size))
      have HX2 := Lib.hid (hX.out.below hb2)
      clear hb2 d0 d1 d2 hb HIV hX x2
      obtain ⟨c, hc⟩ : ∃ c, c = cntV u := ⟨_, rfl⟩
      rw [← hc] at hnx hcv hMv ⊢
      obtain ⟨M2, hM2⟩ : ∃ M2, M2 = M + c := ⟨_, rfl⟩
      have hMc : (M : Int) + (c : Int) = (M2 : Int) := by omega
      rw [← hM2] at hnx hMv
      clear hc hM2
      go_wp2
      go_roundw
      case rel => exact ⟨j + 1, M2, by omega, by go_num, rfl, hnx, HB2, HX2⟩
      case measure => simp [intOf]; omega
    · have j1 : ¬ (j : Int) < (v.items.length : Int) := by omega
      have hfin : Hid (M = cntV v) := by
        show _ = _
        have h1 := hM.out
        rw [List.take_of_length_le (by omega)] at h1
        rw [h1, HE.out]
      go_wp2
      go_ret
      exact ⟨ret_int (by have := hfin.out; omega), hb.out⟩
theorem count_all : ∀ n, CountC n
  | 0 => fun _ _ _ h => h.elim
  | n + 1 => count_step n (count_all n)
/-- The model's CountParts. -/
theorem count_spec (n : Nat) (v : ValueV) (cs : List Value) (w : World) (h : IsVal n v cs w) (hs : sizV v ≤ 1048576) :
    Calls Try.prog 32 #[.agg cs.toArray] w fun e w' => e = .returned (.int .i64 (cntV v : Nat)) ∧ Below w.heap.size w w' := count_all n v cs w h hs
/-- What the model's TotalBytes promises of values of a height. -/
def TotalC (n : Nat) : Prop := ∀ (v : ValueV) (cs : List Value) (w : World), IsVal n v cs w → sizV v ≤ 1048576 →
  Calls Try.prog 35 #[.agg cs.toArray] w fun e w' => e = .returned (.int .i64 (totV v : Nat)) ∧ Below w.heap.size w w'
set_option maxRecDepth 100000 in
set_option maxHeartbeats 4000000 in
theorem total_step (n : Nat) (ih : TotalC n) : TotalC (n + 1) := by
  intro v cs w hv hs
  obtain ⟨ab, cb, ai, ci, rfl, _, hit⟩ := hv.open
  obtain ⟨w0, hw0⟩ : ∃ w0, w0 = w.alloc (.cells #[.int .i64 v.number, .slice ab v.bytes.length cb, .slice ai v.items.length ci] 29) := ⟨_, rfl⟩
  have hB : Below w.heap.size w w0 := by subst hw0; exact (Below.refl _ _).alloc (Nat.le_refl _) _
  have hX : CellsAt w.heap.size [.int .i64 v.number, .slice ab v.bytes.length cb, .slice ai v.items.length ci] w0 := by subst hw0; exact CellsAt.new w _ _
  have HE : Hid (totV v = v.bytes.length + totL v.items) := totV_eq v
  have hsz := sizV_eq v
  have HX := Lib.hid hX
  have HIT := Lib.hid hit
  have HB := Lib.hid hB
  have HIH := Lib.hid ih
  have HSZ := Lib.hid hs
  have hW := Lib.hid hw0
  have x1 := (hX 1 _ rfl).1
  have hcap : v.bytes.length + totL v.items ≤ 1048577 := by have h1 := tot_siz v; have h2 := HE.out; omega
  have hlen : v.items.length ≤ 1048576 := by omega
  clear hB hX hw0 hit ih hv hs hsz
  go_enter Try.func35, Try.ntmps35
  go_upto_region 1 with fail
  rw [← hW.out]
  clear hW
  go_wp2
  clear x1
  go_loopw [3, 4] (fun q i W => ∃ (j M : Nat), j ≤ v.items.length ∧ i = .int .i64 j ∧ q = .int .i64 M ∧ Hid (M = v.bytes.length + totL (v.items.take j)) ∧ Hid (Below w.heap.size w W) ∧ Hid (CellsAt w.heap.size [.int .i64 v.number, .slice ab v.bytes.length cb, .slice ai v.items.length ci] W)) (fun _ i _ => v.items.length - (intOf i).toNat)
  case atStart => exact ⟨0, v.bytes.length, Nat.zero_le _, rfl, rfl, (by show _ = _; simp [totL]), HB, HX⟩
  case round =>
    clear HB HX
    obtain ⟨j, M, hjl, rfl, rfl, hM, hb, hX⟩ := hrel
    have j0 : (0 : Int) ≤ (j : Int) := by omega
    have x2 := (hX.out 2 _ rfl).1
    by_cases hlt : j < v.items.length
    · have j1 : (j : Int) < (v.items.length : Int) := by omega
      obtain ⟨b, off, cs', rfl, hiv, hc⟩ := (HIT.out.below hb.out) j hlt
      obtain ⟨a1, c1, a2, c2, rfl⟩ := hiv.three
      have d0 := hc 0 _ rfl
      have d1 := hc 1 _ rfl
      have d2 := hc 2 _ rfl
      simp only [Nat.add_zero] at d0
      have HIV := Lib.hid hiv
      have hsv : Hid (sizV v.items[j] ≤ 1048576) := by show _ ≤ _; have h1 := sizV_eq v; have h2 := sizL_at hlt; have h3 := HSZ.out; omega
      have hnx : Hid (M + totV v.items[j] = v.bytes.length + totL (v.items.take (j + 1))) := by show _ = _; have h1 := totL_next v.items j hlt; have h2 := hM.out; omega
      have htk := totL_take_le v.items (j + 1)
      have hcv : totV v.items[j] ≤ 1048577 := by have := hnx.out; omega
      have hMb : M ≤ 1048577 := by have := hnx.out; omega
      have hMv : M + totV v.items[j] ≤ 1048577 := by have := hnx.out; omega
      clear hiv hc htk
      generalize v.items[j] = u at d0 d1 d2 HIV hsv hnx hcv hMv
      go_wp2_with fail
      refine (HIH.out u _ wr HIV.out hsv.out).mono ?_
      rintro e w2 ⟨rfl, hb2⟩
      have HB2 := Lib.hid (hb.out.trans (hb2.mono hb.out.size))
      have HX2 := Lib.hid (hX.out.below hb2)
      clear hb2 d0 d1 d2 hb HIV hX x2
      obtain ⟨c, hc⟩ : ∃ c, c = totV u := ⟨_, rfl⟩
      rw [← hc] at hnx hcv hMv ⊢
      obtain ⟨M2, hM2⟩ : ∃ M2, M2 = M + c := ⟨_, rfl⟩
      have hMc : (M : Int) + (c : Int) = (M2 : Int) := by omega
      rw [← hM2] at hnx hMv
      clear hc hM2
      go_wp2
      go_roundw
      case rel => exact ⟨j + 1, M2, by omega, by go_num, rfl, hnx, HB2, HX2⟩
      case measure => simp [intOf]; omega
    · have j1 : ¬ (j : Int) < (v.items.length : Int) := by omega
      have hfin : Hid (M = totV v) := by
        show _ = _
        have h1 := hM.out
        rw [List.take_of_length_le (by omega)] at h1
        rw [h1, HE.out]
      go_wp2
      go_ret
      exact ⟨ret_int (by have := hfin.out; omega), hb.out⟩
theorem total_all : ∀ n, TotalC n
  | 0 => fun _ _ _ h => h.elim
  | n + 1 => total_step n (total_all n)
/-- The model's TotalBytes. -/
theorem total_spec (n : Nat) (v : ValueV) (cs : List Value) (w : World) (h : IsVal n v cs w) (hs : sizV v ≤ 1048576) :
    Calls Try.prog 35 #[.agg cs.toArray] w fun e w' => e = .returned (.int .i64 (totV v : Nat)) ∧ Below w.heap.size w w' := total_all n v cs w h hs
end Go.Proofs.Ytdbpjaeekhgfgaa
