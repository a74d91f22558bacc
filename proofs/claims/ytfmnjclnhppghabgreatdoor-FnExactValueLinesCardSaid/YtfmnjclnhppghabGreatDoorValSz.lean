/- Contracts of the laws' sizes of values. -/
import Derived.Test.YtfmnjclnhppghabGreatDoorTree
import Derived.Test.YtfmnjclnhppghabGreatDoorGSz
import Derived.IntWalk
import Derived.Deep.CutRange
namespace Go.Proofs.YtfmnjclnhppghabGreatDoor
open Go Go.RowKit
mutual
/-- The lengths in a value are ints. -/
def fitV : ValueV → Prop
  | .mk _ b l => b.length ≤ 9223372036854775807 ∧ l.length ≤ 9223372036854775807 ∧ fitL l
def fitL : List ValueV → Prop
  | [] => True
  | v :: vs => fitV v ∧ fitL vs
end
theorem fitV_eq (v : ValueV) : fitV v = (v.bytes.length ≤ 9223372036854775807 ∧ v.items.length ≤ 9223372036854775807 ∧ fitL v.items) := by
  cases v with
  | mk n b l => rw [fitV]; rfl
theorem fitL_at : ∀ {vs : List ValueV}, fitL vs → ∀ j (h : j < vs.length), fitV vs[j]
  | [], _, j, h => by simp at h
  | v :: vs, hf, 0, _ => by rw [fitL] at hf; exact hf.1
  | v :: vs, hf, j + 1, h => by rw [fitL] at hf; exact fitL_at hf.2 j (by simpa using h)
theorem cell_keepV {w w' : World} {p : Addr} {v : Value} (hb : Below w.heap.size w w') (h : w.cell? p = some v) : w'.cell? p = some v := (hb.cell (cell_lt h)).trans h
/-- Items that can be read, at most n levels deep. -/
def ItemsAt (n : Nat) (ai : Option Addr) (vs : List ValueV) (w : World) : Prop :=
  ∀ j (h : j < vs.length), ∃ b off cs', ai = some ⟨b, off, none⟩ ∧ IsVal n vs[j] cs' w ∧ ∀ i u, cs'[i]? = some u → w.cell? ⟨b, off + j * 3 + i, none⟩ = some u
theorem ItemsAt.below {n : Nat} {ai : Option Addr} {vs : List ValueV} {w w' : World} (h : ItemsAt n ai vs w) (hb : Below w.heap.size w w') : ItemsAt n ai vs w' := fun j hj => by
  obtain ⟨b, off, cs', e, h3, h4⟩ := h j hj
  exact ⟨b, off, cs', e, h3.below hb, fun i u hi => (hb.cell (cell_lt (h4 i u hi))).trans (h4 i u hi)⟩
theorem IsVal.open {n : Nat} {v : ValueV} {cs : List Value} {w : World} (h : IsVal (n + 1) v cs w) : ∃ ab cb ai ci, cs = [.int .i64 v.number, .slice ab v.bytes.length cb, .slice ai v.items.length ci] ∧ RdN ab v.bytes cb w ∧ ItemsAt n ai v.items w := h
theorem IsVal.three {n : Nat} {v : ValueV} {cs : List Value} {w : World} (h : IsVal n v cs w) : ∃ ab cb ai ci, cs = [.int .i64 v.number, .slice ab v.bytes.length cb, .slice ai v.items.length ci] := by
  cases n with
  | zero => exact h.elim
  | succ n => obtain ⟨ab, cb, ai, ci, e, _⟩ := h; exact ⟨ab, cb, ai, ci, e⟩
/-- What szValueS promises of items of a height. -/
def SzLC (n : Nat) : Prop := ∀ (ai : Option Addr) (vs : List ValueV) (ci L : Nat) (w : World), ItemsAt n ai vs w → L ≤ 1048576 → vs.length ≤ 9223372036854775807 → fitL vs →
  Calls Tryz.prog 19 #[.slice ai vs.length ci, .int .i64 (L : Int)] w fun e w' => e = .returned (.int .i64 (leftN L (vs.length + sizL vs))) ∧ Below w.heap.size w w'
def SzVC (n : Nat) : Prop := ∀ (v : ValueV) (cs : List Value) (L : Nat) (w : World), IsVal n v cs w → L ≤ 1048576 → fitV v →
  Calls Tryz.prog 5 #[.agg cs.toArray, .int .i64 (L : Int)] w fun e w' => e = .returned (.int .i64 (leftN L (sizV v))) ∧ Below w.heap.size w w'
set_option maxRecDepth 100000 in
set_option maxHeartbeats 4000000 in
theorem szv_step (n : Nat) (ih : SzLC n) : SzVC (n + 1) := by
  intro v cs L w hv hL hf
  obtain ⟨ab, cb, ai, ci, rfl, _, hit⟩ := hv.open
  rw [fitV_eq] at hf
  obtain ⟨f1, f2, f3⟩ := hf
  obtain ⟨w0, hw0⟩ : ∃ w0, w0 = w.alloc (.cells #[.int .i64 v.number, .slice ab v.bytes.length cb, .slice ai v.items.length ci] 28) := ⟨_, rfl⟩
  have hB : Below w.heap.size w w0 := by subst hw0; exact (Below.refl _ _).alloc (Nat.le_refl _) _
  have hX : CellsAt w.heap.size [.int .i64 v.number, .slice ab v.bytes.length cb, .slice ai v.items.length ci] w0 := by subst hw0; exact CellsAt.new w _ _
  have hs : Hid (sizV v = v.bytes.length + (v.items.length + sizL v.items)) := sizV_eq v
  have HIT := Lib.hid (hit.below hB)
  have HB := Lib.hid hB
  have HF := Lib.hid f3
  have HIH := Lib.hid ih
  have hW := Lib.hid hw0
  have x1 := (hX 1 _ rfl).1
  have x2 := (hX 2 _ rfl).1
  obtain ⟨nb, hnb⟩ : ∃ nb, nb = v.bytes.length := ⟨_, rfl⟩
  obtain ⟨ni, hni⟩ : ∃ ni, ni = v.items.length := ⟨_, rfl⟩
  rw [← hnb] at f1 x1 hs hW
  rw [← hni] at f2 x2 hs hW
  rw [← hnb, ← hni]
  have HNI := Lib.hid hni
  clear hB hX hw0 hit f3 ih hv hnb hni
  go_enter Tryz.func5, Tryz.ntmps5
  go_upto_region 1 with fail
  rw [← hW.out]
  clear hW
  go_wp2_with fail
  refine (sz_bytes ab nb cb L _ hL f1).mono ?_
  rintro e w1 ⟨rfl, rfl⟩
  by_cases g1 : L < nb
  · rw [leftN_no g1]
    go_wp2
    go_ret
    exact ⟨ret_int (leftN_no (by have := hs.out; omega)).symm, HB.out⟩
  rw [leftN_yes (by omega)]
  obtain ⟨L2, e2⟩ : ∃ x, x = L - nb := ⟨_, rfl⟩
  rw [← e2]
  have b2 : L2 ≤ L := by omega
  have E2 := Lib.hid e2
  clear e2
  go_wp2_with fail
  have hcall := HIH.out ai v.items ci L2 w0 HIT.out (by omega) (by rw [← HNI.out]; exact f2) HF.out
  rw [← HNI.out] at hcall
  refine hcall.mono ?_
  rintro e w2 ⟨rfl, hb2⟩
  have HB2 := Lib.hid (HB.out.trans (hb2.mono HB.out.size))
  clear hcall hb2 x1 x2
  by_cases g2 : L2 < ni + sizL v.items
  · rw [leftN_no g2]
    go_wp2
    go_ret
    exact ⟨ret_int (leftN_no (by have := hs.out; have := E2.out; omega)).symm, HB2.out⟩
  rw [leftN_yes (by omega)]
  obtain ⟨L3, e3⟩ : ∃ x, x = L2 - (ni + sizL v.items) := ⟨_, rfl⟩
  rw [← e3]
  have b3 : L3 ≤ L := by omega
  have E3 := Lib.hid e3
  clear e3
  go_wp2
  go_ret
  exact ⟨ret_int (by have h1 := hs.out; have h2 := E2.out; have h3 := E3.out; rw [leftN_yes (by omega)]; omega), HB2.out⟩
set_option maxRecDepth 100000 in
set_option maxHeartbeats 4000000 in
theorem szl_step (n : Nat) (ih : SzVC n) : SzLC n := by
  intro ai vs ci L w hit hL hl hf
  have HIT := Lib.hid hit
  have HF := Lib.hid hf
  have HIH := Lib.hid ih
  obtain ⟨nv, hnv⟩ : ∃ nv, nv = vs.length := ⟨_, rfl⟩
  have HNV := Lib.hid hnv
  rw [← hnv] at hl ⊢
  clear hit hf ih hnv
  by_cases g0 : L < nv
  · have q0 : (L : Int) - (nv : Int) < 0 := by omega
    go_enter Tryz.func19, Tryz.ntmps19
    go_wp2
    go_ret
    exact ⟨ret_int (leftN_no (by omega)).symm, Below.refl _ _⟩
  have q0 : ¬ ((L : Int) - (nv : Int) < 0) := by omega
  obtain ⟨L1, e1⟩ : ∃ L1, L1 = L - nv := ⟨_, rfl⟩
  have q1 : (L : Int) - (nv : Int) = (L1 : Int) := by omega
  have b1 : L1 ≤ L := by omega
  have E1 := Lib.hid e1
  clear e1
  have HB0 := Lib.hid (Below.refl w.heap.size w)
  go_enter Tryz.func19, Tryz.ntmps19
  go_wp2
  go_loopw [1, 5] (fun q i W => ∃ (j M : Nat), j ≤ nv ∧ i = .int .i64 j ∧ q = .int .i64 M ∧ M ≤ L1 ∧ Hid (M + sizL (vs.take j) = L1) ∧ Hid (Below w.heap.size w W)) (fun _ i _ => nv - (intOf i).toNat)
  case atStart => exact ⟨0, L1, Nat.zero_le _, rfl, rfl, Nat.le_refl _, by show L1 + sizL (vs.take 0) = L1; simp [sizL], HB0⟩
  case round =>
    clear HB0
    obtain ⟨j, M, hjl, rfl, rfl, hM, hsum, hb⟩ := hrel
    have j0 : (0 : Int) ≤ (j : Int) := by omega
    by_cases hlt : j < nv
    · have j1 : (j : Int) < (nv : Int) := by omega
      have hjv : j < vs.length := by have := HNV.out; omega
      obtain ⟨b, off, cs', rfl, hiv, hc⟩ := (HIT.out.below hb.out) j hjv
      obtain ⟨a1, c1, a2, c2, rfl⟩ := hiv.three
      have d0 := hc 0 _ rfl
      have d1 := hc 1 _ rfl
      have d2 := hc 2 _ rfl
      simp only [Nat.add_zero] at d0
      have HIV := Lib.hid hiv
      clear hiv hc
      obtain ⟨nm, hnm⟩ : ∃ nm, nm = vs[j].number := ⟨_, rfl⟩
      obtain ⟨l1, hl1⟩ : ∃ l1, l1 = vs[j].bytes.length := ⟨_, rfl⟩
      obtain ⟨l2, hl2⟩ : ∃ l2, l2 = vs[j].items.length := ⟨_, rfl⟩
      rw [← hnm, ← hl1, ← hl2] at HIV
      rw [← hnm] at d0
      rw [← hl1] at d1
      rw [← hl2] at d2
      have hnx := Lib.hid (sizL_next vs j hjv)
      have HFV := Lib.hid (fitL_at HF.out j hjv)
      clear hnm hl1 hl2
      go_wp2_with fail
      refine (HIH.out vs[j] _ M wr HIV.out (by omega) HFV.out).mono ?_
      rintro e w2 ⟨rfl, hb2⟩
      have HB2 := Lib.hid (hb.out.trans (hb2.mono hb.out.size))
      clear hb2 d0 d1 d2 hb HIV
      by_cases g2 : M < sizV vs[j]
      · rw [leftN_no g2]
        have hno : Hid (leftN L (nv + sizL vs) = -1) := leftN_no (by have h1 := E1.out; have h2 := hsum.out; have h3 := hnx.out; have h4 := sizL_take_le vs (j + 1); omega)
        go_wp2
        go_ret
        exact ⟨ret_int hno.out.symm, HB2.out⟩
      rw [leftN_yes (by omega)]
      obtain ⟨M2, e2⟩ : ∃ x, x = M - sizV vs[j] := ⟨_, rfl⟩
      rw [← e2]
      have b2 : M2 ≤ L1 := by omega
      have hs2 : Hid (M2 + sizL (vs.take (j + 1)) = L1) := by show _ = _; have h2 := hsum.out; have h3 := hnx.out; omega
      clear e2 hsum hnx HFV
      go_wp2
      go_roundw
      case rel => exact ⟨j + 1, M2, by omega, by go_num, rfl, b2, hs2, HB2⟩
      case measure => simp [intOf]; omega
    · have j1 : ¬ (j : Int) < (nv : Int) := by omega
      have hfin : Hid ((M : Int) = leftN L (nv + sizL vs)) := by
        show _ = _
        have h1 := E1.out
        have h2 := hsum.out
        have h3 := HNV.out
        rw [List.take_of_length_le (by omega)] at h2
        rw [leftN_yes (by omega)]
        omega
      go_wp2
      go_ret
      exact ⟨ret_int hfin.out, hb.out⟩
theorem szv_all : ∀ n, SzVC n
  | 0 => fun _ _ _ _ h => h.elim
  | n + 1 => szv_step n (szl_step n (szv_all n))
/-- szValue. -/
theorem sz_value (n : Nat) (v : ValueV) (cs : List Value) (L : Nat) (w : World) (h : IsVal n v cs w) (hL : L ≤ 1048576) (hf : fitV v) :
    Calls Tryz.prog 5 #[.agg cs.toArray, .int .i64 (L : Int)] w fun e w' => e = .returned (.int .i64 (leftN L (sizV v))) ∧ Below w.heap.size w w' := szv_all n v cs L w h hL hf
end Go.Proofs.YtfmnjclnhppghabGreatDoor
