/- The contract of the model's l9Item. -/
import Derived.Test.YtfmnjclnhppghabGreatDoorVal
import Derived.Test.YtfmnjclnhppghabGreatDoorUsedP
import Derived.Deep.CutRange
namespace Go.Proofs.YtfmnjclnhppghabGreatDoor
open Go Go.RowKit
theorem tagKid_yes {ts ks : List Int} {x : Int} {q : Nat} (h : q < ts.length) (h2 : q < ks.length) (e : ts[q] = x) : tagKid (ts.drop q) (ks.drop q) x = ks[q] := by
  rw [List.drop_eq_getElem_cons h, List.drop_eq_getElem_cons h2, tagKid, if_pos e]
theorem tagKid_no {ts ks : List Int} {x : Int} {q : Nat} (h : q < ts.length) (h2 : q < ks.length) (e : ts[q] ≠ x) : tagKid (ts.drop q) (ks.drop q) x = tagKid (ts.drop (q + 1)) (ks.drop (q + 1)) x := by
  rw [List.drop_eq_getElem_cons h, List.drop_eq_getElem_cons h2, tagKid, if_neg e]
set_option maxRecDepth 100000 in
set_option maxHeartbeats 4000000 in
theorem item_spec (rs : List RuleV) (r : RuleV) (cs : List Value) (x : Int) (i : Nat) (w : World) (hi : i ≤ 1048576) (hki : kindI rs r = true) (h : IsRule r cs w) :
    Calls Tryz.prog 59 #[.agg cs.toArray, .int .i64 x, .int .i64 (i : Int)] w fun e w' => e = .returned (.int .i64 (itemR r x i)) ∧ Below w.heap.size w w' := by
  obtain ⟨a4, c4, a5, c5, a6, c6, a7, c7, rfl, h4, h5, h6, h7⟩ := h
  obtain ⟨w0, hw0⟩ : ∃ w0, w0 = w.alloc (.cells #[.string r.name, .int .i64 r.kind, .int .i64 r.size, .bool r.little, .slice a4 r.bytes.length c4, .slice a5 r.names.length c5, .slice a6 r.tags.length c6, .slice a7 r.kids.length c7] 54) := ⟨_, rfl⟩
  have hB : Below w.heap.size w w0 := by subst hw0; exact (Below.refl _ _).alloc (Nat.le_refl _) _
  have HC : Hid (CellsAt w.heap.size [.string r.name, .int .i64 r.kind, .int .i64 r.size, .bool r.little, .slice a4 r.bytes.length c4, .slice a5 r.names.length c5, .slice a6 r.tags.length c6, .slice a7 r.kids.length c7] w0) := by subst hw0; exact CellsAt.new w _ _
  have HR6 := Lib.hid (h6.below hB)
  have HR7 := Lib.hid (h7.below hB)
  have HB := Lib.hid hB
  have HKI := Lib.hid hki
  have hW := Lib.hid hw0
  have y1 := (HC.out 1 _ rfl).1
  have y7 := (HC.out 7 _ rfl).1
  have i0 : (0 : Int) ≤ (i : Int) := by omega
  clear hB hki hw0 h4 h5 h6 h7
  have hkn := kindI_known HKI.out
  have hlast : r.kind ≠ 5 → r.kind ≠ 6 → r.kind ≠ 7 → r.kind ≠ 8 → r.kind ≠ 9 → itemR r x i = -1 := fun k5 k6 k7 k8 k9 => by
    unfold itemR
    rw [if_neg k5, if_neg k6, if_neg k7, if_neg (by omega)]
  have HLAST := Lib.hid hlast
  clear hlast
  rcases (by omega : r.kind = 5 ∨ r.kind = 6 ∨ r.kind = 7 ∨ r.kind = 8 ∨ r.kind = 9 ∨ r.kind = 1 ∨ r.kind = 2 ∨ r.kind = 3 ∨ r.kind = 4 ∨ r.kind = 10) with hk | hk | hk | hk | hk | hk | hk | hk | hk | hk
  case inl =>
    have h5 := kindI_5 HKI.out hk
    have g1 : (1 : Int) < (r.kids.length : Int) := by omega
    obtain ⟨b7, o7, ha7, hc7⟩ := HR7.out.cellAt (j := 1) (by omega)
    subst ha7
    have hr : Hid (itemR r x i = r.kids[1]'(by omega)) := by show _ = _; unfold itemR; rw [if_pos hk, getD_at (by omega)]
    generalize r.kids[1]'(by omega) = y at hc7 hr
    rw [hk] at y1
    have HKK := Lib.hid hk
    clear hk h5
    go_enter Tryz.func59, Tryz.ntmps59
    go_upto_region 1 with fail
    rw [← hW.out]
    clear hW
    go_wp2
    go_ret
    exact ⟨ret_int hr.out.symm, HB.out⟩
  case inr.inl =>
    have h6 := kindI_6 HKI.out hk
    have hk8 : r.kids.length ≤ 8 := by omega
    rw [hk] at y1
    by_cases hik : i < r.kids.length
    · have g1 : (i : Int) < (r.kids.length : Int) := by omega
      obtain ⟨b7, o7, ha7, hc7⟩ := HR7.out.cellAt (j := i) hik
      subst ha7
      have hr : Hid (itemR r x i = r.kids[i]) := by show _ = _; unfold itemR; rw [if_neg (by omega), if_pos hk, if_pos hik, getD_at hik]
      generalize r.kids[i] = y at hc7 hr
      have HKK := Lib.hid hk
      clear hk h6
      go_enter Tryz.func59, Tryz.ntmps59
      go_upto_region 1 with fail
      rw [← hW.out]
      clear hW
      go_wp2
      go_ret
      exact ⟨ret_int hr.out.symm, HB.out⟩
    · have g1 : ¬ (i : Int) < (r.kids.length : Int) := by omega
      have hr : Hid (itemR r x i = -1) := by show _ = _; unfold itemR; rw [if_neg (by omega), if_pos hk, if_neg hik]
      have HKK := Lib.hid hk
      clear hk h6
      go_enter Tryz.func59, Tryz.ntmps59
      go_upto_region 1 with fail
      rw [← hW.out]
      clear hW
      go_wp2
      go_ret
      exact ⟨ret_int hr.out.symm, HB.out⟩
  case inr.inr.inl =>
    have h7 := kindI_7 HKI.out hk
    have hk9 : r.kids.length ≤ 9 := by omega
    have ht8 : r.tags.length ≤ 8 := by omega
    have HL : Hid (r.kids.length = r.tags.length + 1) := h7.1
    have y6 := (HC.out 6 _ rfl).1
    rw [hk] at y1
    have hr : Hid (itemR r x i = tagKid r.tags (r.kids.drop 1) x) := by show _ = _; unfold itemR; rw [if_neg (by omega), if_neg (by omega), if_pos hk]
    have HKK := Lib.hid hk
    clear hk h7
    go_enter Tryz.func59, Tryz.ntmps59
    go_upto_region 1 with fail
    rw [← hW.out]
    clear hW
    go_wp2
    go_loop [7] (fun j => ∃ q : Nat, q ≤ r.tags.length ∧ j = .int .i64 q ∧ Hid (tagKid r.tags (r.kids.drop 1) x = tagKid (r.tags.drop q) ((r.kids.drop 1).drop q) x)) (fun j => r.tags.length - (intOf j).toNat)
    case atStart => exact ⟨0, Nat.zero_le _, rfl, rfl⟩
    case round =>
      obtain ⟨q, hql, rfl, hq⟩ := hrel
      have q0 : (0 : Int) ≤ (q : Int) := by omega
      by_cases hlt : q < r.tags.length
      · have q1 : (q : Int) < (r.tags.length : Int) := by omega
        have hq2 : q < (r.kids.drop 1).length := by have := HL.out; rw [List.length_drop]; omega
        have hq3 : q + 1 < r.kids.length := by have := HL.out; omega
        have q2 : (q : Int) + 1 < (r.kids.length : Int) := by omega
        obtain ⟨b6, o6, ha6, hc6⟩ := HR6.out.cellAt (j := q) hlt
        subst ha6
        obtain ⟨b7, o7, ha7, hc7⟩ := HR7.out.cellAt (j := q + 1) hq3
        subst ha7
        have hyes := fun h => Lib.hid (tagKid_yes (x := x) hlt hq2 h)
        have hno := fun h => Lib.hid (tagKid_no (x := x) hlt hq2 h)
        have hdr : Hid ((r.kids.drop 1)[q] = r.kids[q + 1]) := by show _ = _; rw [List.getElem_drop]; congr 1; omega
        rw [hdr.out] at hyes
        generalize r.kids[q + 1] = y at hc7 hyes
        generalize r.tags[q] = t at hc6 hyes hno
        clear hdr
        cases htx : (t == x) with
        | true =>
          have hrr : Hid (itemR r x i = y) := by show _ = _; rw [hr.out, hq.out, (hyes (eq_of_beq htx)).out]
          clear hyes hno
          go_wp2
          go_ret
          exact ⟨ret_int hrr.out.symm, HB.out⟩
        | false =>
          have hnx : Hid (tagKid r.tags (r.kids.drop 1) x = tagKid (r.tags.drop (q + 1)) ((r.kids.drop 1).drop (q + 1)) x) := by show _ = _; rw [hq.out, (hno (by simpa using htx)).out]
          clear hyes hno
          go_wp2
          go_round
          case rel => exact ⟨q + 1, by omega, by go_num, hnx⟩
          case measure => simp [intOf]; omega
      · have q1 : ¬ (q : Int) < (r.tags.length : Int) := by omega
        have hrr : Hid (itemR r x i = -1) := by show _ = _; rw [hr.out, hq.out, List.drop_of_length_le (by omega)]; cases (r.kids.drop 1).drop q <;> rfl
        go_wp2
        go_ret
        exact ⟨ret_int hrr.out.symm, HB.out⟩
  case inr.inr.inr.inl =>
    have h8 := kindI_8 HKI.out hk
    have g1 : (0 : Int) < (r.kids.length : Int) := by omega
    obtain ⟨b7, o7, ha7, hc7⟩ := HR7.out.cellAt (j := 0) (by omega)
    subst ha7
    simp only [Nat.add_zero] at hc7
    have hr : Hid (itemR r x i = r.kids[0]'(by omega)) := by show _ = _; unfold itemR; rw [if_neg (by omega), if_neg (by omega), if_neg (by omega), if_pos (by omega), getD_at (by omega)]
    generalize r.kids[0]'(by omega) = y at hc7 hr
    rw [hk] at y1
    have HKK := Lib.hid hk
    clear hk h8
    go_enter Tryz.func59, Tryz.ntmps59
    go_upto_region 1 with fail
    rw [← hW.out]
    clear hW
    go_wp2
    go_ret
    exact ⟨ret_int hr.out.symm, HB.out⟩
  case inr.inr.inr.inr.inl =>
    have h8 := kindI_9 HKI.out hk
    have g1 : (0 : Int) < (r.kids.length : Int) := by omega
    obtain ⟨b7, o7, ha7, hc7⟩ := HR7.out.cellAt (j := 0) (by omega)
    subst ha7
    simp only [Nat.add_zero] at hc7
    have hr : Hid (itemR r x i = r.kids[0]'(by omega)) := by show _ = _; unfold itemR; rw [if_neg (by omega), if_neg (by omega), if_neg (by omega), if_pos (by omega), getD_at (by omega)]
    generalize r.kids[0]'(by omega) = y at hc7 hr
    rw [hk] at y1
    have HKK := Lib.hid hk
    clear hk h8
    go_enter Tryz.func59, Tryz.ntmps59
    go_upto_region 1 with fail
    rw [← hW.out]
    clear hW
    go_wp2
    go_ret
    exact ⟨ret_int hr.out.symm, HB.out⟩
  all_goals
    have hr := Lib.hid (HLAST.out (by omega) (by omega) (by omega) (by omega) (by omega))
    rw [hk] at y1
    have HKK := Lib.hid hk
    clear hk
    go_enter Tryz.func59, Tryz.ntmps59
    go_upto_region 1 with fail
    rw [← hW.out]
    clear hW
    go_wp2
    go_ret
    exact ⟨ret_int hr.out.symm, HB.out⟩
end Go.Proofs.YtfmnjclnhppghabGreatDoor
