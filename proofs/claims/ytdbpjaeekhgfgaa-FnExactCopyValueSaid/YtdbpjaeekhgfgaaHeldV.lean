/- Contracts of the laws' checks of a value's marks (heldValue, heldValueS). -/
import Derived.Test.YtdbpjaeekhgfgaaMarkV
namespace Go.Proofs.Ytdbpjaeekhgfgaa
open Go Go.RowKit
theorem mk_number (n : Int) (b : List UInt8) (l : List ValueV) : (ValueV.mk n b l).number = n := rfl
theorem mk_bytes (n : Int) (b : List UInt8) (l : List ValueV) : (ValueV.mk n b l).bytes = b := rfl
theorem mk_items (n : Int) (b : List UInt8) (l : List ValueV) : (ValueV.mk n b l).items = l := rfl
/-- What heldValueS promises of marked items of a height. -/
def HeldLC (n : Nat) : Prop := ∀ (ai : Option Addr) (vs : List ValueV) (ci k : Nat) (w : World), ItemsAt n ai (markL k vs) w → vs.length + sizL vs ≤ 1048576 → k + widL vs ≤ 1099511627776 →
  Calls Try.prog 70 #[.slice ai vs.length ci, .int .i64 (k : Int)] w fun e w' => e = .returned (.int .i64 ((k + widL vs : Nat) : Int)) ∧ Below w.heap.size w w'
set_option maxRecDepth 100000 in
set_option maxHeartbeats 4000000 in
theorem held_step (n : Nat) (ih : ∀ m, n = m + 1 → HeldLC m) : HeldLC n := by
  intro ai vs ci k w hit hs hk
  have HIT := Lib.hid hit
  have HIH := Lib.hid ih
  have HS := Lib.hid hs
  have HK := Lib.hid hk
  have HB0 := Lib.hid (Below.refl w.heap.size w)
  have hl : vs.length ≤ 1048576 := by omega
  clear hit ih hs hk
  go_enter Try.func70, Try.ntmps70
  go_wp2
  go_loopw [1, 5] (fun q i W => ∃ (j kk : Nat), j ≤ vs.length ∧ i = .int .i64 j ∧ q = .int .i64 kk ∧ kk ≤ 1099511627776 ∧ Hid (kk = k + widL (vs.take j)) ∧ Hid (Below w.heap.size w W)) (fun _ i _ => vs.length - (intOf i).toNat)
  case atStart => exact ⟨0, k, Nat.zero_le _, rfl, rfl, by have := HK.out; omega, by show k = _; simp [widL], HB0⟩
  case round =>
    clear HB0
    obtain ⟨j, kk, hjl, rfl, rfl, hkk, hke, hbw⟩ := hrel
    have j0 : (0 : Int) ≤ (j : Int) := by omega
    by_cases hlt : j < vs.length
    · have j1 : (j : Int) < (vs.length : Int) := by omega
      obtain ⟨b, off, cs', rfl, hiv, hc⟩ := (HIT.out.below hbw.out) j (by rw [markL_length]; exact hlt)
      rw [markL_at k vs j hlt, ← hke.out] at hiv
      obtain ⟨n, rfl⟩ : ∃ m, n = m + 1 := by
        cases n with
        | zero => exact hiv.elim
        | succ m => exact ⟨m, rfl⟩
      have HIM := Lib.hid (HIH.out n rfl)
      obtain ⟨nk, hnk⟩ : ∃ nk, nk = kk + 1 := ⟨_, rfl⟩
      obtain ⟨v, hv⟩ : ∃ v, v = vs[j] := ⟨_, rfl⟩
      have hitem : markI kk v = .mk (kk : Int) (marks nk v.bytes.length) (markL (nk + v.bytes.length) v.items) := by
        unfold markI
        rw [markV_eq, ← hnk]
        rfl
      rw [← hv, hitem] at hiv
      obtain ⟨ab, cb, a2, c2, rfl, hrb, hit2⟩ := hiv.open
      simp only [mk_number, mk_bytes, mk_items, marks_length, markL_length] at hc hrb hit2
      have d0 := hc 0 _ rfl
      have d1 := hc 1 _ rfl
      have d2 := hc 2 _ rfl
      simp only [Nat.add_zero] at d0
      have hsz : Hid (v.bytes.length + (v.items.length + sizL v.items) ≤ 1048576) := by show _ ≤ _; rw [hv, ← sizV_eq]; have := sizL_at hlt; have := HS.out; omega
      have hwn : Hid (widL (vs.take (j + 1)) = widL (vs.take j) + (1 + (v.bytes.length + widL v.items))) := by show _ = _; rw [hv, ← widV_eq]; exact widL_next vs j hlt
      have hwt : Hid (widL (vs.take (j + 1)) ≤ widL vs) := widL_take_le vs (j + 1)
      have hbl3 : v.bytes.length ≤ 1048576 := by have := hsz.out; omega
      have hkk1 : kk + 1 + v.bytes.length + widL v.items ≤ 1099511627776 := by have h1 := hke.out; have h2 := hwn.out; have h3 := hwt.out; have h4 := HK.out; omega
      have hkc : (kk : Int) + 1 = (nk : Int) := by omega
      have hkk2 : nk + v.bytes.length + widL v.items ≤ 1099511627776 := by omega
      have e0 : ((kk : Int) != (kk : Int)) = false := by simp
      have HNK := Lib.hid hnk
      have HRB := Lib.hid hrb.1
      have HI2 := Lib.hid hit2
      clear hc hnk hkk1 hv hitem hrb hit2 hiv
      go_wp2_with fail
      refine (held_any ab v.bytes.length cb nk wr (by omega) (by omega) HRB.out).mono ?_
      rintro e w2 ⟨rfl, rfl⟩
      obtain ⟨k2, hk2⟩ : ∃ k2, k2 = nk + v.bytes.length := ⟨_, rfl⟩
      rw [← hk2] at HI2 ⊢
      have HK2 := Lib.hid hk2
      have hk2l : k2 + widL v.items ≤ 1099511627776 := by omega
      have hk20 : ¬ (k2 : Int) < 0 := by omega
      clear hk2 e0 d0 d1 hkc
      go_wp2_with fail
      refine (HIM.out a2 v.items c2 k2 wr HI2.out (by have := hsz.out; omega) hk2l).mono ?_
      rintro e w3 ⟨rfl, hb3⟩
      obtain ⟨k3, hk3⟩ : ∃ k3, k3 = k2 + widL v.items := ⟨_, rfl⟩
      rw [← hk3]
      have hk3l : k3 ≤ 1099511627776 := by omega
      have hk30 : ¬ (k3 : Int) < 0 := by omega
      have HKE : Hid (k3 = k + widL (vs.take (j + 1))) := by show _ = _; have h1 := hke.out; have h2 := hwn.out; have h3 := HK2.out; have h4 := HNK.out; omega
      have HBN := Lib.hid (hbw.out.trans (hb3.mono hbw.out.size))
      clear hb3 hk3 hbw d2 hk20
      go_wp2
      go_roundw
      case rel => exact ⟨j + 1, k3, by omega, by go_num, rfl, hk3l, HKE, HBN⟩
      case measure => simp [intOf]; omega
    · have j1 : ¬ (j : Int) < (vs.length : Int) := by omega
      obtain rfl : j = vs.length := by omega
      have hkf : Hid (kk = k + widL vs) := by show _ = _; have := hke.out; rw [List.take_length] at this; exact this
      go_wp2
      go_ret
      exact ⟨ret_int (by have := hkf.out; omega), hbw.out⟩
theorem held_all : ∀ n, HeldLC n
  | 0 => held_step 0 fun m h => by cases h
  | n + 1 => held_step (n + 1) fun m h => by injection h with h; subst h; exact held_all n
set_option maxRecDepth 100000 in
set_option maxHeartbeats 4000000 in
/-- heldValue. -/
theorem held_value (n : Nat) (v : ValueV) (cs : List Value) (k : Nat) (w : World) (h : IsVal n (markV k v) cs w) (hs : sizV v ≤ 1048576) (hk : k + widV v ≤ 1099511627776) :
    Calls Try.prog 31 #[.agg cs.toArray, .int .i64 (k : Int)] w fun e w' => e = .returned (.int .i64 ((k + widV v : Nat) : Int)) ∧ Below w.heap.size w w' := by
  cases n with
  | zero => exact h.elim
  | succ n =>
    rw [markV_eq] at h
    obtain ⟨ab, cb, a2, c2, rfl, hrb, hit⟩ := h.open
    simp only [mk_number, mk_bytes, mk_items, marks_length, markL_length] at hrb hit ⊢
    rw [sizV_eq] at hs
    rw [widV_eq] at hk
    obtain ⟨w0, hw0⟩ : ∃ w0, w0 = w.alloc (.cells #[.int .i64 v.number, .slice ab v.bytes.length cb, .slice a2 v.items.length c2] 29) := ⟨_, rfl⟩
    have hB : Below w.heap.size w w0 := by subst hw0; exact (Below.refl _ _).alloc (Nat.le_refl _) _
    have hX : CellsAt w.heap.size [.int .i64 v.number, .slice ab v.bytes.length cb, .slice a2 v.items.length c2] w0 := by subst hw0; exact CellsAt.new w _ _
    have x1 := (hX 1 _ rfl).1
    have x2 := (hX 2 _ rfl).1
    have HRB := Lib.hid (hrb.1.below hB)
    have HIT := Lib.hid (hit.below hB)
    have HB := Lib.hid hB
    have hbl3 : v.bytes.length ≤ 1048576 := by omega
    have hsi : Hid (v.items.length + sizL v.items ≤ 1048576) := by show _ ≤ _; omega
    have hwd : Hid (widV v = v.bytes.length + widL v.items) := widV_eq v
    have hW := Lib.hid hw0
    clear hB hX hrb hit hs hw0 h
    go_enter Try.func31, Try.ntmps31
    go_upto_region 1 with fail
    rw [← hW.out]
    clear hW
    go_wp2_with fail
    refine (held_any ab v.bytes.length cb k w0 (by omega) (by omega) HRB.out).mono ?_
    rintro e w2 ⟨rfl, rfl⟩
    obtain ⟨k2, hk2⟩ : ∃ k2, k2 = k + v.bytes.length := ⟨_, rfl⟩
    rw [← hk2] at HIT ⊢
    have HK2 := Lib.hid hk2
    have hk2l : k2 + widL v.items ≤ 1099511627776 := by omega
    have hk20 : ¬ (k2 : Int) < 0 := by omega
    clear hk2 x1
    go_wp2_with fail
    refine (held_all n a2 v.items c2 k2 w0 HIT.out hsi.out hk2l).mono ?_
    rintro e w3 ⟨rfl, hb3⟩
    obtain ⟨k3, hk3⟩ : ∃ k3, k3 = k2 + widL v.items := ⟨_, rfl⟩
    rw [← hk3]
    have hk30 : ¬ (k3 : Int) < 0 := by omega
    have hk3l : k3 ≤ 1099511627776 := by omega
    have HKF : Hid (k3 = k + widV v) := by show _ = _; rw [hwd.out, hk3, HK2.out]; omega
    have HBN := Lib.hid (HB.out.trans (hb3.mono HB.out.size))
    clear hk3 hb3 x2 hk20
    go_wp2
    go_ret
    exact ⟨ret_int (by have := HKF.out; omega), HBN.out⟩
end Go.Proofs.Ytdbpjaeekhgfgaa
