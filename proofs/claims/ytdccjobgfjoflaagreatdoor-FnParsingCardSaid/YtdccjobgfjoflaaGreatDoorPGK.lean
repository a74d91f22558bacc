/- What the program makes of the fields and the items of a value, beside what the model makes of them. No program is walked here. Contracts of the program's slices.Index and kidOfItem. Contracts of the laws' copies of values (toValue, toValueS). -/
import Derived.Test.YtdccjobgfjoflaaGreatDoorPGV
import Derived.Test.YtdccjobgfjoflaaGreatDoorPGP
import Derived.Deep.CutRange
import Derived.Test.YtdccjobgfjoflaaGreatDoorPGRul
set_option maxRecDepth 100000
namespace Go.Proofs.YtdccjobgfjoflaaGreatDoor
open Go Go.RowKit
def kidI (r : RuleV) (x : Int) (i : Nat) : Int :=
 if r.kind = 5 then r.kids.getD 1 0
 else if r.kind = 7 then (if i = 0 then tagKid r.tags (r.kids.drop 1) x else -1)
 else if r.kind = 6 ∨ r.kind = 8 ∨ r.kind = 9 then (if i < r.kids.length then r.kids.getD i 0 else -1)
 else -1
theorem tagKid_none {x : Int} : ∀ {ts ks : List Int}, (∀ t ∈ ts, t ≠ x) → tagKid ts ks x = -1
 | [], ks, _ => by cases ks <;> rfl
 | t :: ts, [], _ => rfl
 | t :: ts, k :: ks, h => by
  unfold tagKid
  rw [if_neg (h t (by simp))]
  exact tagKid_none fun u hu => h u (by simp [hu])
theorem tagKid_first {x : Int} : ∀ {ts ks : List Int} {j : Nat} (h : j < ts.length) (h2 : j < ks.length), ts[j] = x → (∀ i (hi : i < j), ts[i] ≠ x) → tagKid ts ks x = ks[j]
 | [], _, j, h, _, _, _ => by simp at h
 | t :: ts, [], j, _, h2, _, _ => by simp at h2
 | t :: ts, k :: ks, 0, _, _, e, _ => by
  unfold tagKid
  simp at e
  rw [if_pos e]
  rfl
 | t :: ts, k :: ks, j + 1, h, h2, e, hn => by
  unfold tagKid
  have h0 := hn 0 (by omega)
  simp at h0
  rw [if_neg h0]
  simp only [List.getElem_cons_succ]
  exact tagKid_first (by simpa using h) (by simpa using h2) (by simpa using e) fun i hi => by simpa using hn (i + 1) (by omega)
def IdxOut (ts : List Int) (x : Int) (e : Ending) : Prop :=
 ∃ R : Int, e = .returned (.int .i64 R) ∧ ((R = -1 ∧ ∀ t ∈ ts, t ≠ x) ∨ ∃ j : Nat, R = (j : Int) ∧ ∃ h : j < ts.length, ts[j] = x ∧ ∀ i (hi : i < j), ts[i] ≠ x)
theorem index_impl (a : Option Addr) (ts : List Int) (cap : Nat) (x : Int) (w : World) (hl : ts.length ≤ 1048576) (h : RdI a ts w) :
  Calls Tryz.prog 135 #[.slice a ts.length cap, .int .i64 x] w fun e w' => IdxOut ts x e ∧ w = w' := by
 have H := kq h
 clear h
 go_enter Tryz.func135, Tryz.ntmps135
 go_wp2
 go_loop [8] (fun i => ∃ q : Nat, q ≤ ts.length ∧ i = .int .i64 q ∧ Hid (∀ i (hi : i < q) (hl : i < ts.length), ts[i] ≠ x)) (fun i => ts.length - (intOf i).toNat)
 case atStart => exact ⟨0, Nat.zero_le _, rfl, fun i hi => by omega⟩
 case round =>
  obtain ⟨q, hql, rfl, hno⟩ := hrel
  have q0 : (0 : Int) ≤ (q : Int) := by omega
  by_cases hlt : q < ts.length
  ·have q1 : (q : Int) < (ts.length : Int) := by omega
   obtain ⟨b6, o6, ha6, hc6⟩ := H.out.cellAt (j := q) hlt
   subst ha6
   obtain ⟨t, ht⟩ : ∃ t, t = ts[q] := ⟨_, rfl⟩
   rw [← ht] at hc6
   have HT := kq ht
   clear ht
   cases htx : (x == t) with
   | true =>
    have hyes : Hid (IdxOut ts x (.returned (.int .i64 (q : Int)))) := by
     have e : x = t := eq_of_beq htx
     exact ⟨_, rfl, .inr ⟨q, rfl, hlt, by rw [← HT.out, e], fun i hi => hno.out i hi (by omega)⟩⟩
    go_wp2
    go_ret
    exact ⟨hyes.out, rfl⟩
   | false =>
    have hnx : Hid (∀ i (hi : i < q + 1) (hl : i < ts.length), ts[i] ≠ x) := fun i hi hl => by
     by_cases e : i = q
     ·subst e
      have : x ≠ t := by simpa using htx
      rw [← HT.out]
      exact fun h => this h.symm
     ·exact hno.out i (by omega) hl
    go_wp2
    go_round
    case rel => exact ⟨q + 1, by omega, by go_num, hnx⟩
    case measure => simp [intOf]; omega
  ·have q1 : ¬ (q : Int) < (ts.length : Int) := by omega
   have hyes : Hid (IdxOut ts x (.returned (.int .i64 (-1)))) := ⟨_, rfl, .inl ⟨rfl, fun t ht => by
    obtain ⟨i, hi, rfl⟩ := List.mem_iff_getElem.1 ht
    exact hno.out i (by omega) hi⟩⟩
   go_wp2
   go_ret
   exact ⟨hyes.out, rfl⟩
set_option maxHeartbeats 4000000 in
theorem kidof_impl (rs : List RuleV) (r : RuleV) (cs : List Value) (x : Int) (i : Nat) (w : World) (hi : i ≤ 1048576) (hki : kindI rs r = true) (h : IsRule r cs w) :
  Calls Tryz.prog 91 #[.agg cs.toArray, .int .i64 x, .int .i64 (i : Int)] w fun e w' => e = .returned (.int .i64 (kidI r x i)) ∧ Below w.heap.size w w' := by
 obtain ⟨a4, c4, a5, c5, a6, c6, a7, c7, rfl, h4, h5, h6, h7⟩ := h
 obtain ⟨w0, hw0⟩ : ∃ w0, w0 = w.alloc (.cells #[.string r.name, .int .i64 r.kind, .int .i64 r.size, .bool r.little, .slice a4 r.bytes.length c4, .slice a5 r.names.length c5, .slice a6 r.tags.length c6, .slice a7 r.kids.length c7] 42) := ⟨_, rfl⟩
 have hB : Below w.heap.size w w0 := by subst hw0; exact (Below.refl _ _).alloc (Nat.le_refl _) _
 have HC : Hid (CellsAt w.heap.size [.string r.name, .int .i64 r.kind, .int .i64 r.size, .bool r.little, .slice a4 r.bytes.length c4, .slice a5 r.names.length c5, .slice a6 r.tags.length c6, .slice a7 r.kids.length c7] w0) := by subst hw0; exact CellsAt.new w _ _
 have HR6 := kq (h6.below hB)
 have HR7 := kq (h7.below hB)
 have HB := kq hB
 have HKI := kq hki
 have hW := kq hw0
 have y1 := (HC.out 1 _ rfl).1
 have y7 := (HC.out 7 _ rfl).1
 have i0 : (0 : Int) ≤ (i : Int) := by omega
 clear hB hki hw0 h4 h5 h6 h7
 have hkn := kindI_known HKI.out
 have hlast : r.kind ≠ 5 → r.kind ≠ 6 → r.kind ≠ 7 → r.kind ≠ 8 → r.kind ≠ 9 → kidI r x i = -1 := fun k5 k6 k7 k8 k9 => by
  unfold kidI
  rw [if_neg k5, if_neg k7, if_neg (by omega)]
 have HLAST := kq hlast
 clear hlast
 rcases (by omega : r.kind = 5 ∨ r.kind = 7 ∨ r.kind = 6 ∨ r.kind = 8 ∨ r.kind = 9 ∨ r.kind = 1 ∨ r.kind = 2 ∨ r.kind = 3 ∨ r.kind = 4 ∨ r.kind = 10) with hk | hk | hk | hk | hk | hk | hk | hk | hk | hk
 case inl =>
  have h5 := kindI_5 HKI.out hk
  have g1 : (1 : Int) < (r.kids.length : Int) := by omega
  obtain ⟨b7, o7, ha7, hc7⟩ := HR7.out.cellAt (j := 1) (by omega)
  subst ha7
  have hr : Hid (kidI r x i = r.kids[1]'(by omega)) := by show _ = _; unfold kidI; rw [if_pos hk, getD_at (by omega)]
  generalize r.kids[1]'(by omega) = y at hc7 hr
  rw [hk] at y1
  have HKK := kq hk
  clear hk h5
  go_enter Tryz.func91, Tryz.ntmps91
  go_upto_region 1 with fail
  rw [← hW.out]
  clear hW
  go_wp2
  go_ret
  exact ⟨ret_int hr.out.symm, HB.out⟩
 case inr.inl =>
  have h7 := kindI_7 HKI.out hk
  have hk9 : r.kids.length ≤ 9 := by omega
  have ht8 : r.tags.length ≤ 8 := by omega
  have HL : Hid (r.kids.length = r.tags.length + 1) := h7.1
  have y6 := (HC.out 6 _ rfl).1
  rw [hk] at y1
  have hr : Hid (kidI r x i = if i = 0 then tagKid r.tags (r.kids.drop 1) x else -1) := by show _ = _; unfold kidI; rw [if_neg (by omega), if_pos hk]
  have HKK := kq hk
  clear hk h7
  go_enter Tryz.func91, Tryz.ntmps91
  go_upto_region 1 with fail
  rw [← hW.out]
  clear hW
  go_wp2_with fail
  refine (index_impl a6 r.tags c6 x _ (by omega) HR6.out).mono ?_
  rintro e w1 ⟨⟨R, rfl, hR⟩, rfl⟩
  rcases hR with ⟨rfl, hno⟩ | ⟨j, rfl, hj, hjx, hno⟩
  ·have hrr : Hid (kidI r x i = -1) := by show _ = _; rw [hr.out, tagKid_none hno]; split <;> rfl
   clear hno hr
   go_wp2
   go_ret
   exact ⟨ret_int hrr.out.symm, HB.out⟩
  ·have hj2 : j < (r.kids.drop 1).length := by have := HL.out; rw [List.length_drop]; omega
   have hj3 : j + 1 < r.kids.length := by have := HL.out; omega
   have j0 : (0 : Int) ≤ (j : Int) := by omega
   have j2 : (j : Int) + 1 < (r.kids.length : Int) := by omega
   obtain ⟨b7, o7, ha7, hc7⟩ := HR7.out.cellAt (j := j + 1) hj3
   subst ha7
   have hrr : Hid (kidI r x i = if i = 0 then r.kids[j + 1] else -1) := by
    show _ = _
    rw [hr.out, tagKid_first hj hj2 hjx hno, List.getElem_drop]
    simp only [Nat.add_comm]
   generalize r.kids[j + 1] = y at hc7 hrr
   clear hno hr hjx hj
   by_cases hi0 : i = 0
   ·have e0 : ((i : Int) == 0) = true := by simp [hi0]
    have hr2 : Hid (kidI r x i = y) := by show _ = _; rw [hrr.out, if_pos hi0]
    clear hrr
    have HI0 := kq hi0
    clear hi0
    go_wp2
    go_ret
    exact ⟨ret_int hr2.out.symm, HB.out⟩
   ·have e0 : ((i : Int) == 0) = false := by simp; omega
    have hr2 : Hid (kidI r x i = -1) := by show _ = _; rw [hrr.out, if_neg hi0]
    clear hrr
    have HI0 := kq hi0
    clear hi0
    go_wp2
    go_ret
    exact ⟨ret_int hr2.out.symm, HB.out⟩
 case inr.inr.inl =>
  have h6 := kindI_6 HKI.out hk
  have hk8 : r.kids.length ≤ 8 := by omega
  rw [hk] at y1
  by_cases hik : i < r.kids.length
  ·have g1 : (i : Int) < (r.kids.length : Int) := by omega
   obtain ⟨b7, o7, ha7, hc7⟩ := HR7.out.cellAt (j := i) hik
   subst ha7
   have hr : Hid (kidI r x i = r.kids[i]) := by show _ = _; unfold kidI; rw [if_neg (by omega), if_neg (by omega), if_pos (by omega), if_pos hik, getD_at hik]
   generalize r.kids[i] = y at hc7 hr
   have HKK := kq hk
   clear hk h6
   go_enter Tryz.func91, Tryz.ntmps91
   go_upto_region 1 with fail
   rw [← hW.out]
   clear hW
   go_wp2
   go_ret
   exact ⟨ret_int hr.out.symm, HB.out⟩
  ·have g1 : ¬ (i : Int) < (r.kids.length : Int) := by omega
   have hr : Hid (kidI r x i = -1) := by show _ = _; unfold kidI; rw [if_neg (by omega), if_neg (by omega), if_pos (by omega), if_neg hik]
   have HKK := kq hk
   clear hk h6
   go_enter Tryz.func91, Tryz.ntmps91
   go_upto_region 1 with fail
   rw [← hW.out]
   clear hW
   go_wp2
   go_ret
   exact ⟨ret_int hr.out.symm, HB.out⟩
 case inr.inr.inr.inl =>
  have hk8 : r.kids.length ≤ 8 := by have := kindI_8 HKI.out hk; omega
  rw [hk] at y1
  by_cases hik : i < r.kids.length
  ·have g1 : (i : Int) < (r.kids.length : Int) := by omega
   obtain ⟨b7, o7, ha7, hc7⟩ := HR7.out.cellAt (j := i) hik
   subst ha7
   have hr : Hid (kidI r x i = r.kids[i]) := by show _ = _; unfold kidI; rw [if_neg (by omega), if_neg (by omega), if_pos (by omega), if_pos hik, getD_at hik]
   generalize r.kids[i] = y at hc7 hr
   have HKK := kq hk
   clear hk
   go_enter Tryz.func91, Tryz.ntmps91
   go_upto_region 1 with fail
   rw [← hW.out]
   clear hW
   go_wp2
   go_ret
   exact ⟨ret_int hr.out.symm, HB.out⟩
  ·have g1 : ¬ (i : Int) < (r.kids.length : Int) := by omega
   have hr : Hid (kidI r x i = -1) := by show _ = _; unfold kidI; rw [if_neg (by omega), if_neg (by omega), if_pos (by omega), if_neg hik]
   have HKK := kq hk
   clear hk
   go_enter Tryz.func91, Tryz.ntmps91
   go_upto_region 1 with fail
   rw [← hW.out]
   clear hW
   go_wp2
   go_ret
   exact ⟨ret_int hr.out.symm, HB.out⟩
 case inr.inr.inr.inr.inl =>
  have hk8 : r.kids.length ≤ 8 := by have := kindI_9 HKI.out hk; omega
  rw [hk] at y1
  by_cases hik : i < r.kids.length
  ·have g1 : (i : Int) < (r.kids.length : Int) := by omega
   obtain ⟨b7, o7, ha7, hc7⟩ := HR7.out.cellAt (j := i) hik
   subst ha7
   have hr : Hid (kidI r x i = r.kids[i]) := by show _ = _; unfold kidI; rw [if_neg (by omega), if_neg (by omega), if_pos (by omega), if_pos hik, getD_at hik]
   generalize r.kids[i] = y at hc7 hr
   have HKK := kq hk
   clear hk
   go_enter Tryz.func91, Tryz.ntmps91
   go_upto_region 1 with fail
   rw [← hW.out]
   clear hW
   go_wp2
   go_ret
   exact ⟨ret_int hr.out.symm, HB.out⟩
  ·have g1 : ¬ (i : Int) < (r.kids.length : Int) := by omega
   have hr : Hid (kidI r x i = -1) := by show _ = _; unfold kidI; rw [if_neg (by omega), if_neg (by omega), if_pos (by omega), if_neg hik]
   have HKK := kq hk
   clear hk
   go_enter Tryz.func91, Tryz.ntmps91
   go_upto_region 1 with fail
   rw [← hW.out]
   clear hW
   go_wp2
   go_ret
   exact ⟨ret_int hr.out.symm, HB.out⟩
 all_goals
  have hr := kq (HLAST.out (by omega) (by omega) (by omega) (by omega) (by omega))
  rw [hk] at y1
  have HKK := kq hk
  clear hk
  go_enter Tryz.func91, Tryz.ntmps91
  go_upto_region 1 with fail
  rw [← hW.out]
  clear hW
  go_wp2
  go_ret
  exact ⟨ret_int hr.out.symm, HB.out⟩
def zeroVal : List Value := [.int .i64 0, .slice none 0 0, .slice none 0 0]
theorem make_vals (n : Nat) (hn : n ≤ 1073741824) (W : World) : (Instr.makeSlice 27 (.int .i64 (n : Int)) (.int .i64 (n : Int))).run Tryz.prog W = .ok (.slice (some ⟨W.heap.size, 0, none⟩) n n) (W.alloc (.cells (madeCells #[.int .i64 0, .slice none 0 0, .slice none 0 0] (n * 3)) 29)) := by
 obtain ⟨i0, hi, h⟩ := Option.map_eq_some_iff.1 infoVal
 simp only [Prod.mk.injEq] at h
 obtain ⟨hz0, hz1, hz2⟩ := h
 have hr := run_make (P := Tryz.prog) W 27 29 i0 _ Tryz.underlying27 hi hz0 .i64 .i64 (n : Int) (n : Int) (by omega) (by omega) (by rw [hz2]; omega) (by omega)
 rw [hr, hz1]
 simp [Value.cells]
def HalfT (n : Nat) (vs : List ValueV) (k N : Nat) (bls : List (List Nat)) (w W : World) : Prop :=
 Below w.heap.size w W ∧ N < W.heap.size ∧ bls.length = k ∧ (∀ j (h : j < vs.length) (h' : j < bls.length), ∃ cs', OwnT n bls[j] vs[j] cs' W ∧ ∀ i u, cs'[i]? = some u → W.cell? ⟨N, j * 3 + i, none⟩ = some u) ∧
  (∀ c, c < vs.length * 3 → W.frozen? ⟨N, c, none⟩ = false) ∧ (∀ j, k ≤ j → j < vs.length → ∀ i v, zeroVal[i]? = some v → W.cell? ⟨N, j * 3 + i, none⟩ = some v) ∧ bls.flatten.Nodup ∧ ∀ b ∈ bls.flatten, N < b ∧ b < W.heap.size
theorem HalfT.start (n : Nat) (vs : List ValueV) (t : TypeId) (w : World) : HalfT n vs 0 w.heap.size [] w (w.alloc (.cells (madeCells #[.int .i64 0, .slice none 0 0, .slice none 0 0] (vs.length * 3)) t)) := by
 refine ⟨(Below.refl _ _).alloc (Nat.le_refl _) _, by simp, rfl, fun j h h' => by simp at h', fun c _ => by simp, fun j _ hj i v hv => ?_, by simp, fun b hb => by simp at hb⟩
 have hi3 : i < 3 := by
  rcases Nat.lt_or_ge i 3 with h | h
  ·exact h
  ·rw [List.getElem?_eq_none (by simpa [zeroVal] using h)] at hv; cases hv
 refine (World.cell?_alloc_mark w _ t (0, 0) (j * 3 + i)).trans ?_
 rw [made_at _ _ (by omega)]
 have e : (j * 3 + i) % 3 = i := by omega
 show some (#[.int .i64 0, .slice none 0 0, .slice none 0 0] : Array Value)[(j * 3 + i) % 3]! = some v
 rw [e]
 rcases (by omega : i = 0 ∨ i = 1 ∨ i = 2) with rfl | rfl | rfl <;> exact hv
theorem HalfT.next {n : Nat} {vs : List ValueV} {k N : Nat} {bls : List (List Nat)} {bl : List Nat} {w W W1 : World} {cs : List Value} (h : HalfT n vs k N bls w W) (hN : w.heap.size ≤ N) (hk : k < vs.length) (hb : Below W.heap.size W W1) (hr : OwnT n bl vs[k] cs W1) (hbl : ∀ b ∈ bl, W.heap.size ≤ b) : HalfT n vs (k + 1) N (bls ++ [bl]) w (putList W1 N (k * 3) cs) := by
 obtain ⟨h1, h2, hl, ho, hf, hz, hn, hlt⟩ := h
 have hlen := hr.length
 have hs := hb.size
 have honly : Only [N] W1 (putList W1 N (k * 3) cs) := by
  have e : ∀ (l : List Value) (o : Nat) (V : World), Only [N] W1 V → Only [N] W1 (putList V N o l) := fun l => by
   induction l with
   | nil => intro o V h; exact h
   | cons v l ih => intro o V h; rw [putList]; exact ih _ _ (h.trans (Only.set (by simp)))
  exact e cs _ W1 (Only.refl _ _)
 have hzb : ∀ j, k ≤ j → j < vs.length → ∀ i v, zeroVal[i]? = some v → W1.cell? ⟨N, j * 3 + i, none⟩ = some v := fun j hj hj' i v hv => (hb.cell (p := ⟨N, j * 3 + i, none⟩) h2).trans (hz j hj hj' i v hv)
 have h3 : ∀ {i : Nat} {u : Value} {l : List Value}, l.length = 3 → l[i]? = some u → i < 3 := fun {i u l} hl hu => by
  rcases Nat.lt_or_ge i 3 with h | h
  ·exact h
  ·rw [List.getElem?_eq_none (by omega)] at hu; cases hu
 refine ⟨putList_below N cs _ _ _ _ (h1.trans (hb.mono h1.size)) hN, by rw [putList_size]; omega, by simp [hl], fun j hj hj' => ?_, fun c hc => ?_, fun j hj hj' i v hv => ?_, ?_, fun b hb2 => ?_⟩
 ·by_cases hjk : j < bls.length
  ·rw [List.getElem_append_left hjk]
   obtain ⟨cs', ho', hc'⟩ := ho j hj hjk
   refine ⟨cs', (ho'.below hb).keep honly fun b hb2 e => ?_, fun i u hu => ?_⟩
   ·simp at e
    have := (hlt b (List.mem_flatten.2 ⟨_, List.getElem_mem hjk, hb2⟩)).1
    omega
   ·have hi3 := h3 ho'.length hu
    rw [putList_far N _ cs _ _ (.inr (.inl (by show j * 3 + i < k * 3; omega)))]
    exact (hb.cell (p := ⟨N, j * 3 + i, none⟩) h2).trans (hc' i u hu)
  ·have e : j = bls.length := by simp at hj'; omega
   subst e
   have e2 : (bls ++ [bl])[bls.length]'hj' = bl := by simp
   rw [e2]
   refine ⟨cs, ?_, fun i u hu => ?_⟩
   ·have e3 : vs[bls.length]'hj = vs[k] := by congr 1
    rw [e3]
    exact hr.keep honly fun b hb2 e => by simp at e; have := hbl b hb2; omega
   ·have hi3 := h3 hlen hu
    rw [hl]
    obtain ⟨z, hz2⟩ : ∃ z, zeroVal[i]? = some z := by
     rcases (by omega : i = 0 ∨ i = 1 ∨ i = 2) with rfl | rfl | rfl <;> exact ⟨_, rfl⟩
    exact putList_at N cs (k * 3) i W1 u z hu (hzb k (Nat.le_refl _) hk i z hz2)
 ·rw [putList_frozen]
  exact (hb.frozen (p := ⟨N, c, none⟩) h2).trans (hf c hc)
 ·have hi3 := h3 (l := zeroVal) rfl hv
  rw [putList_far N _ cs _ _ (.inr (.inr (by rw [hlen]; show k * 3 + 3 ≤ j * 3 + i; omega)))]
  exact hzb j (by omega) hj' i v hv
 ·rw [List.flatten_append, List.flatten_cons, List.flatten_nil, List.append_nil]
  exact List.nodup_append.2 ⟨hn, hr.nodup, fun a ha b hb2 e => by have := (hlt a ha).2; have := hbl b hb2; omega⟩
 ·rw [List.flatten_append, List.flatten_cons, List.flatten_nil, List.append_nil] at hb2
  rw [putList_size]
  rcases List.mem_append.1 hb2 with hb2 | hb2
  ·have := hlt b hb2; omega
  ·have := hr.lt b hb2; have := hbl b hb2; omega
def ValsOut (n : Nat) (vs : List ValueV) (w : World) (e : Ending) (w' : World) : Prop :=
 ∃ x cp b0 bls, e = .returned (.slice x vs.length cp) ∧ OwnL n b0 bls x vs w' ∧ (b0 ++ bls.flatten).Nodup ∧ (∀ b ∈ b0 ++ bls.flatten, w.heap.size ≤ b) ∧ Below w.heap.size w w'
theorem HalfT.end {n : Nat} {vs : List ValueV} {bls : List (List Nat)} {w W : World} (h : HalfT n vs vs.length w.heap.size bls w W) : ValsOut n vs w (.returned (.slice (some ⟨w.heap.size, 0, none⟩) vs.length vs.length)) W := by
 obtain ⟨h1, h2, hl, ho, hf, hz, hn, hlt⟩ := h
 by_cases hv : vs = []
 ·subst hv
  have : bls = [] := List.eq_nil_of_length_eq_zero (by simpa using hl)
  subst this
  exact ⟨_, _, [], [], rfl, ⟨fun _ => rfl, rfl, fun j hj => by simp at hj⟩, by simp, fun b hb => by simp at hb, h1⟩
 ·refine ⟨_, _, [w.heap.size], bls, rfl, ⟨fun e => absurd e hv, hl, fun j hj hj' => ?_⟩, ?_, fun b hb => ?_, h1⟩
  ·obtain ⟨cs', ho', hc'⟩ := ho j hj hj'
   refine ⟨_, 0, cs', rfl, rfl, ho', fun i u hu => ?_⟩
   have hi3 : i < 3 := by
    have := ho'.length
    rcases Nat.lt_or_ge i 3 with h | h
    ·exact h
    ·rw [List.getElem?_eq_none (by omega)] at hu; cases hu
   rw [Nat.zero_add]
   exact ⟨hc' i u hu, hf _ (by omega)⟩
  ·refine List.nodup_append.2 ⟨by simp, hn, fun a ha b hb e => ?_⟩
   simp at ha
   have := (hlt b hb).1
   omega
  ·rcases List.mem_append.1 hb with hb | hb
   ·simp at hb; omega
   ·have := (hlt b hb).1; omega
end Go.Proofs.YtdccjobgfjoflaaGreatDoor
