/- The contract of the model's l9Item. The model's l11Items, out of l11Read's contract at a height. The model's l11Choice, l11Option, l11Checked. -/
import Derived.Test.YtdccjobgfjoflaaGreatDoorPGV
import Derived.Test.YtdccjobgfjoflaaGreatDoorPGP
import Derived.Deep.CutRange
import Derived.Test.YtdccjobgfjoflaaGreatDoorPGD
namespace Go.Proofs.YtdccjobgfjoflaaGreatDoor
open Go Go.RowKit
theorem tagKid_yes {ts ks : List Int} {x : Int} {q : Nat} (h : q < ts.length) (h2 : q < ks.length) (e : ts[q] = x) : tagKid (ts.drop q) (ks.drop q) x = ks[q] := by
 rw [List.drop_eq_getElem_cons h, List.drop_eq_getElem_cons h2, tagKid, if_pos e]
theorem tagKid_no {ts ks : List Int} {x : Int} {q : Nat} (h : q < ts.length) (h2 : q < ks.length) (e : ts[q] ≠ x) : tagKid (ts.drop q) (ks.drop q) x = tagKid (ts.drop (q + 1)) (ks.drop (q + 1)) x := by
 rw [List.drop_eq_getElem_cons h, List.drop_eq_getElem_cons h2, tagKid, if_neg e]
set_option maxRecDepth 100000 in
set_option maxHeartbeats 4000000 in
theorem item_spec (rs : List RuleV) (r : RuleV) (cs : List Value) (x : Int) (i : Nat) (w : World) (hi : i ≤ 1048576) (hki : kindI rs r = true) (h : IsRule r cs w) :
  Calls Tryz.prog 142 #[.agg cs.toArray, .int .i64 x, .int .i64 (i : Int)] w fun e w' => e = .returned (.int .i64 (itemR r x i)) ∧ Below w.heap.size w w' := by
 obtain ⟨a4, c4, a5, c5, a6, c6, a7, c7, rfl, h4, h5, h6, h7⟩ := h
 obtain ⟨w0, hw0⟩ : ∃ w0, w0 = w.alloc (.cells #[.string r.name, .int .i64 r.kind, .int .i64 r.size, .bool r.little, .slice a4 r.bytes.length c4, .slice a5 r.names.length c5, .slice a6 r.tags.length c6, .slice a7 r.kids.length c7] 42) := ⟨_, rfl⟩
 have hB : Below w.heap.size w w0 := by subst hw0; exact (Below.refl _ _).alloc (Nat.le_refl _) _
 have HC : Hid (CellsAt w.heap.size [.string r.name, .int .i64 r.kind, .int .i64 r.size, .bool r.little, .slice a4 r.bytes.length c4, .slice a5 r.names.length c5, .slice a6 r.tags.length c6, .slice a7 r.kids.length c7] w0) := by subst hw0; exact CellsAt.new w _ _
 have HR6 := kq (h6.below hB)
 have HR7 := kq (h7.below hB)
 have HB := kq hB
 have HKI := kq hki
 have hW := kq hw0
 have y1 := (HC.out 1 _ rfl).1
 have y7 := (HC.out 7 _ rfl).1
 have i0 : (0 : Int) ≤ (i : Int) := by omega
 clear hB hki hw0 h4 h5 h6 h7
 have hkn := kindI_known HKI.out
 have hlast : r.kind ≠ 5 → r.kind ≠ 6 → r.kind ≠ 7 → r.kind ≠ 8 → r.kind ≠ 9 → itemR r x i = -1 := fun k5 k6 k7 k8 k9 => by
  unfold itemR
  rw [if_neg k5, if_neg k6, if_neg k7, if_neg (by omega)]
 have HLAST := kq hlast
 clear hlast
 rcases (by omega : r.kind = 5 ∨ r.kind = 6 ∨ r.kind = 7 ∨ r.kind = 8 ∨ r.kind = 9 ∨ r.kind = 1 ∨ r.kind = 2 ∨ r.kind = 3 ∨ r.kind = 4 ∨ r.kind = 10) with hk | hk | hk | hk | hk | hk | hk | hk | hk | hk
 case inl =>
  have h5 := kindI_5 HKI.out hk
  have g1 : (1 : Int) < (r.kids.length : Int) := by omega
  obtain ⟨b7, o7, ha7, hc7⟩ := HR7.out.cellAt (j := 1) (by omega)
  subst ha7
  have hr : Hid (itemR r x i = r.kids[1]'(by omega)) := by show _ = _; unfold itemR; rw [if_pos hk, getD_at (by omega)]
  generalize r.kids[1]'(by omega) = y at hc7 hr
  rw [hk] at y1
  have HKK := kq hk
  clear hk h5
  go_enter Tryz.func142, Tryz.ntmps142
  go_upto_region 1 with fail
  rw [← hW.out]
  clear hW
  go_wp2
  go_ret
  exact ⟨ret_int hr.out.symm, HB.out⟩
 case inr.inl =>
  have h6 := kindI_6 HKI.out hk
  have hk8 : r.kids.length ≤ 8 := by omega
  rw [hk] at y1
  by_cases hik : i < r.kids.length
  ·have g1 : (i : Int) < (r.kids.length : Int) := by omega
   obtain ⟨b7, o7, ha7, hc7⟩ := HR7.out.cellAt (j := i) hik
   subst ha7
   have hr : Hid (itemR r x i = r.kids[i]) := by show _ = _; unfold itemR; rw [if_neg (by omega), if_pos hk, if_pos hik, getD_at hik]
   generalize r.kids[i] = y at hc7 hr
   have HKK := kq hk
   clear hk h6
   go_enter Tryz.func142, Tryz.ntmps142
   go_upto_region 1 with fail
   rw [← hW.out]
   clear hW
   go_wp2
   go_ret
   exact ⟨ret_int hr.out.symm, HB.out⟩
  ·have g1 : ¬ (i : Int) < (r.kids.length : Int) := by omega
   have hr : Hid (itemR r x i = -1) := by show _ = _; unfold itemR; rw [if_neg (by omega), if_pos hk, if_neg hik]
   have HKK := kq hk
   clear hk h6
   go_enter Tryz.func142, Tryz.ntmps142
   go_upto_region 1 with fail
   rw [← hW.out]
   clear hW
   go_wp2
   go_ret
   exact ⟨ret_int hr.out.symm, HB.out⟩
 case inr.inr.inl =>
  have h7 := kindI_7 HKI.out hk
  have hk9 : r.kids.length ≤ 9 := by omega
  have ht8 : r.tags.length ≤ 8 := by omega
  have HL : Hid (r.kids.length = r.tags.length + 1) := h7.1
  have y6 := (HC.out 6 _ rfl).1
  rw [hk] at y1
  have hr : Hid (itemR r x i = tagKid r.tags (r.kids.drop 1) x) := by show _ = _; unfold itemR; rw [if_neg (by omega), if_neg (by omega), if_pos hk]
  have HKK := kq hk
  clear hk h7
  go_enter Tryz.func142, Tryz.ntmps142
  go_upto_region 1 with fail
  rw [← hW.out]
  clear hW
  go_wp2
  go_loop [7] (fun j => ∃ q : Nat, q ≤ r.tags.length ∧ j = .int .i64 q ∧ Hid (tagKid r.tags (r.kids.drop 1) x = tagKid (r.tags.drop q) ((r.kids.drop 1).drop q) x)) (fun j => r.tags.length - (intOf j).toNat)
  case atStart => exact ⟨0, Nat.zero_le _, rfl, rfl⟩
  case round =>
   obtain ⟨q, hql, rfl, hq⟩ := hrel
   have q0 : (0 : Int) ≤ (q : Int) := by omega
   by_cases hlt : q < r.tags.length
   ·have q1 : (q : Int) < (r.tags.length : Int) := by omega
    have hq2 : q < (r.kids.drop 1).length := by have := HL.out; rw [List.length_drop]; omega
    have hq3 : q + 1 < r.kids.length := by have := HL.out; omega
    have q2 : (q : Int) + 1 < (r.kids.length : Int) := by omega
    obtain ⟨b6, o6, ha6, hc6⟩ := HR6.out.cellAt (j := q) hlt
    subst ha6
    obtain ⟨b7, o7, ha7, hc7⟩ := HR7.out.cellAt (j := q + 1) hq3
    subst ha7
    have hyes := fun h => kq (tagKid_yes (x := x) hlt hq2 h)
    have hno := fun h => kq (tagKid_no (x := x) hlt hq2 h)
    have hdr : Hid ((r.kids.drop 1)[q] = r.kids[q + 1]) := by show _ = _; rw [List.getElem_drop]; congr 1; omega
    rw [hdr.out] at hyes
    generalize r.kids[q + 1] = y at hc7 hyes
    generalize r.tags[q] = t at hc6 hyes hno
    clear hdr
    cases htx : (t == x) with
    | true =>
     have hrr : Hid (itemR r x i = y) := by show _ = _; rw [hr.out, hq.out, (hyes (eq_of_beq htx)).out]
     clear hyes hno
     go_wp2
     go_ret
     exact ⟨ret_int hrr.out.symm, HB.out⟩
    | false =>
     have hnx : Hid (tagKid r.tags (r.kids.drop 1) x = tagKid (r.tags.drop (q + 1)) ((r.kids.drop 1).drop (q + 1)) x) := by show _ = _; rw [hq.out, (hno (by simpa using htx)).out]
     clear hyes hno
     go_wp2
     go_round
     case rel => exact ⟨q + 1, by omega, by go_num, hnx⟩
     case measure => simp [intOf]; omega
   ·have q1 : ¬ (q : Int) < (r.tags.length : Int) := by omega
    have hrr : Hid (itemR r x i = -1) := by show _ = _; rw [hr.out, hq.out, List.drop_of_length_le (by omega)]; cases (r.kids.drop 1).drop q <;> rfl
    go_wp2
    go_ret
    exact ⟨ret_int hrr.out.symm, HB.out⟩
 case inr.inr.inr.inl =>
  have h8 := kindI_8 HKI.out hk
  have g1 : (0 : Int) < (r.kids.length : Int) := by omega
  obtain ⟨b7, o7, ha7, hc7⟩ := HR7.out.cellAt (j := 0) (by omega)
  subst ha7
  simp only [Nat.add_zero] at hc7
  have hr : Hid (itemR r x i = r.kids[0]'(by omega)) := by show _ = _; unfold itemR; rw [if_neg (by omega), if_neg (by omega), if_neg (by omega), if_pos (by omega), getD_at (by omega)]
  generalize r.kids[0]'(by omega) = y at hc7 hr
  rw [hk] at y1
  have HKK := kq hk
  clear hk h8
  go_enter Tryz.func142, Tryz.ntmps142
  go_upto_region 1 with fail
  rw [← hW.out]
  clear hW
  go_wp2
  go_ret
  exact ⟨ret_int hr.out.symm, HB.out⟩
 case inr.inr.inr.inr.inl =>
  have h8 := kindI_9 HKI.out hk
  have g1 : (0 : Int) < (r.kids.length : Int) := by omega
  obtain ⟨b7, o7, ha7, hc7⟩ := HR7.out.cellAt (j := 0) (by omega)
  subst ha7
  simp only [Nat.add_zero] at hc7
  have hr : Hid (itemR r x i = r.kids[0]'(by omega)) := by show _ = _; unfold itemR; rw [if_neg (by omega), if_neg (by omega), if_neg (by omega), if_pos (by omega), getD_at (by omega)]
  generalize r.kids[0]'(by omega) = y at hc7 hr
  rw [hk] at y1
  have HKK := kq hk
  clear hk h8
  go_enter Tryz.func142, Tryz.ntmps142
  go_upto_region 1 with fail
  rw [← hW.out]
  clear hW
  go_wp2
  go_ret
  exact ⟨ret_int hr.out.symm, HB.out⟩
 all_goals
  have hr := kq (HLAST.out (by omega) (by omega) (by omega) (by omega) (by omega))
  rw [hk] at y1
  have HKK := kq hk
  clear hk
  go_enter Tryz.func142, Tryz.ntmps142
  go_upto_region 1 with fail
  rw [← hW.out]
  clear hW
  go_wp2
  go_ret
  exact ⟨ret_int hr.out.symm, HB.out⟩
structure LiSt (n : Nat) (dc rc : List Value) (V : Value) (acc : List ValueV) (w : World) (N1 N2 N3 B : Nat) (W : World) : Prop where
 d : CellsAt w.heap.size dc W
 r : CellsAt N1 rc W
 z : CellsAt N2 [.int .i64 0, .slice none 0 0, .slice none 0 0] W
 v : CellsAt N3 [.int .i64 0, .slice none 0 0, V] W
 row : RowV n B V acc W
 below : Below w.heap.size w W
 n1 : w.heap.size < N1
 n2 : N1 < N2
 n3 : N2 < N3
 n4 : N3 < B
 le : B ≤ W.heap.size
theorem LiSt.later {n : Nat} {dc rc : List Value} {V : Value} {acc : List ValueV} {w W W' : World} {N1 N2 N3 B : Nat} (h : LiSt n dc rc V acc w N1 N2 N3 B W) (hb : Below W.heap.size W W') : LiSt n dc rc V acc w N1 N2 N3 B W' :=
 ⟨h.d.below hb, h.r.below hb, h.z.below hb, h.v.below hb, h.row.below hb, h.below.trans (hb.mono h.below.size), h.n1, h.n2, h.n3, h.n4, Nat.le_trans h.le hb.size⟩
theorem LiSt.vcell {n : Nat} {dc rc : List Value} {V : Value} {acc : List ValueV} {w W W' : World} {N1 N2 N3 B : Nat} (h : LiSt n dc rc V acc w N1 N2 N3 B W) (hg : W.grownBy W' V.ownBlock) : CellsAt N3 [.int .i64 0, .slice none 0 0, V] W' :=
 h.v.grown hg fun e => by have := (h.row.own _ e.symm).1; have := h.n4; omega
theorem LiSt.push {n : Nat} {dc rc : List Value} {V V' : Value} {acc acc' : List ValueV} {w W W' : World} {N1 N2 N3 B : Nat} (h : LiSt n dc rc V acc w N1 N2 N3 B W) (hg : W.grownBy W' V.ownBlock) (hrow : RowV n B V' acc' W') :
  LiSt n dc rc V' acc' w N1 N2 N3 B (W'.setCell ⟨N3, 2, none⟩ V') := by
 have hown := fun g e => (h.row.own g e).1
 have h1 := h.n1
 have h2 := h.n2
 have h3 := h.n3
 have h4 := h.n4
 have hq := (h.vcell hg).set 2 V' (by simp)
 simp only [List.set] at hq
 have hs := hg.size
 have hle := h.le
 have hgs : W'.grownBy (W'.setCell ⟨N3, 2, none⟩ V') (some N3) := grown_set (grown_refl W' N3) 2 V'
 refine ⟨(h.d.grown hg fun e => ?_).far (by omega), (h.r.grown hg fun e => ?_).far (by omega), (h.z.grown hg fun e => ?_).far (by omega), hq, ?_, ?_, h1, h2, h3, h4, by simp; omega⟩
 ·have := hown _ e.symm; omega
 ·have := hown _ e.symm; omega
 ·have := hown _ e.symm; omega
 ·exact hrow.grown hgs fun k e => by injection e with e; omega
 ·exact (h.below.grown hg h.below.size fun k e => by have := hown k e; omega).setCell (p := ⟨N3, 2, none⟩) (by show w.heap.size ≤ N3; omega) _
theorem LiSt.fin {n : Nat} {dc rc : List Value} {V : Value} {acc : List ValueV} {w W : World} {N1 N2 N3 B : Nat} (h : LiSt n dc rc V acc w N1 N2 N3 B W) (u0 u1 u2 : Value) :
  let W' := ((W.setCell ⟨N2, 0, none⟩ u0).setCell ⟨N2, 1, none⟩ u1).setCell ⟨N2, 2, none⟩ u2
  OwnV (fun b => w.heap.size ≤ b) (n + 1) (.mk 0 [] acc) [.int .i64 0, .slice none 0 0, V] W' ∧ Below w.heap.size w W' := by
 have hgs : W.grownBy (((W.setCell ⟨N2, 0, none⟩ u0).setCell ⟨N2, 1, none⟩ u1).setCell ⟨N2, 2, none⟩ u2) (some N2) := grown_set (grown_set (grown_set (grown_refl W _) 0 _) 1 _) 2 _
 obtain ⟨a, cap, rfl, hit⟩ := h.row.items
 have h1 := h.n1
 have h2 := h.n2
 have h3 := h.n3
 have h4 := h.n4
 have ho : OwnV (fun b => B ≤ b) (n + 1) (.mk 0 [] acc) [.int .i64 0, .slice none 0 0, .slice a acc.length cap] W := by
  refine ⟨none, 0, a, cap, rfl, RdN.nil0 _, fun b off e hn => (by cases e), fun j hj => ?_⟩
  obtain ⟨b, off, cs', e, hB, ho, hc⟩ := hit j hj
  exact ⟨b, off, cs', e, by omega, ho.mono fun b _ h => by omega, hc⟩
 exact ⟨ho.grown hgs fun b _ hb => ⟨by omega, fun e => by injection e with e; omega⟩, below3 h.below (by omega) _ _ _⟩
structure Beg (dc rc : List Value) (w : World) (N1 N2 : Nat) (W : World) : Prop where
 d : CellsAt w.heap.size dc W
 r : CellsAt N1 rc W
 z : CellsAt N2 [.int .i64 0, .slice none 0 0, .slice none 0 0] W
 below : Below w.heap.size w W
 n1 : w.heap.size < N1
 n2 : N1 < N2
 le : N2 < W.heap.size
theorem Beg.later {dc rc : List Value} {w W W' : World} {N1 N2 : Nat} (h : Beg dc rc w N1 N2 W) (hb : Below W.heap.size W W') : Beg dc rc w N1 N2 W' :=
 ⟨h.d.below hb, h.r.below hb, h.z.below hb, h.below.trans (hb.mono h.below.size), h.n1, h.n2, Nat.lt_of_lt_of_le h.le hb.size⟩
end Go.Proofs.YtdccjobgfjoflaaGreatDoor
