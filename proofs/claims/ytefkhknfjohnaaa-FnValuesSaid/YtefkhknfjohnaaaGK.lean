/- What the program makes of the fields and the items of a value, beside what the model makes of them. No program is walked here. The contract of the program's boundsOf. Contracts of the laws' copies of values (toValue, toValueS). The contract of the program's fitsBounds. Contracts of the program's slices.Index and kidOfItem. -/
import Derived.Test.YtefkhknfjohnaaaGV
import Derived.Test.YtefkhknfjohnaaaGP
import Derived.Test.YtefkhknfjohnaaaGX
import Derived.Test.YtefkhknfjohnaaaGDI
import Derived.Deep.RegionWith
import Derived.Deep.CutRange
import Derived.Test.YtefkhknfjohnaaaGRul
import Derived.Deep.RegionHeld3
namespace Go.Proofs.Ytefkhknfjohnaaa
open Go Go.RowKit
/-- The bounds of the fields of a value: of its number, of how many bytes and how many items it has. -/
structure BndV where
  num : Int
  b0 : Int
  b1 : Int
  i0 : Int
  i1 : Int
/-- The bounds of the values of a rule. -/
def bndV (rs : List RuleV) (r : RuleV) : BndV :=
  if r.kind = 1 then ⟨pow256 r.size - 1, 0, 0, 0, 0⟩
  else if r.kind = 3 then ⟨0, r.size, r.size, 0, 0⟩
  else if r.kind = 4 then ⟨0, 0, min 400 (limitAt rs (r.kids.getD 0 0)), 0, 0⟩
  else if r.kind = 10 then ⟨0, 0, 400, 0, 0⟩
  else if r.kind = 5 then ⟨0, 0, 0, 0, min 40 (limitAt rs (r.kids.getD 0 0))⟩
  else if r.kind = 6 then ⟨0, 0, 0, (r.kids.length : Int), (r.kids.length : Int)⟩
  else if r.kind = 7 then ⟨limitAt rs (r.kids.getD 0 0), 0, 0, 1, 1⟩
  else if r.kind = 8 then ⟨0, 0, 0, 0, 1⟩
  else if r.kind = 9 then ⟨0, 0, 0, 1, 1⟩
  else ⟨0, 0, 0, 0, 0⟩
/-- Whether the fields of a value keep the bounds. -/
def fitB (b : BndV) (v : ValueV) : Bool :=
  decide (0 ≤ v.number ∧ v.number ≤ b.num) && (decide (b.b0 ≤ (v.bytes.length : Int) ∧ (v.bytes.length : Int) ≤ b.b1) && decide (b.i0 ≤ (v.items.length : Int) ∧ (v.items.length : Int) ≤ b.i1))
/-- The rule of an item, as the program finds it. -/
def kidI (r : RuleV) (x : Int) (i : Nat) : Int :=
  if r.kind = 5 then r.kids.getD 1 0
  else if r.kind = 7 then (if i = 0 then tagKid r.tags (r.kids.drop 1) x else -1)
  else if r.kind = 6 ∨ r.kind = 8 ∨ r.kind = 9 then (if i < r.kids.length then r.kids.getD i 0 else -1)
  else -1
theorem fit_tagsOk {lim : Int} : ∀ {ts : List Int} {lo : Int}, tagsOk lim lo ts = true → 0 ≤ lo → ∀ t ∈ ts, 0 ≤ t ∧ t ≤ lim
  | [], _, _, _, t, ht => by cases ht
  | a :: ts, lo, h, h0, t, ht => by
    unfold tagsOk at h
    simp at h
    rcases List.mem_cons.1 ht with rfl | ht
    · omega
    · exact fit_tagsOk h.2 (by omega) t ht
theorem fit_tag {x : Int} : ∀ {ts ks : List Int}, 0 ≤ tagKid ts ks x → x ∈ ts
  | [], ks, h => by cases ks <;> (simp [tagKid] at h)
  | t :: ts, [], h => by simp [tagKid] at h
  | t :: ts, k :: ks, h => by
    unfold tagKid at h
    by_cases e : t = x
    · simp [e]
    · rw [if_neg e] at h
      exact List.mem_cons_of_mem _ (fit_tag h)
theorem tagKid_none {x : Int} : ∀ {ts ks : List Int}, (∀ t ∈ ts, t ≠ x) → tagKid ts ks x = -1
  | [], ks, _ => by cases ks <;> rfl
  | t :: ts, [], _ => rfl
  | t :: ts, k :: ks, h => by
    unfold tagKid
    rw [if_neg (h t (by simp))]
    exact tagKid_none fun u hu => h u (by simp [hu])
theorem tagKid_first {x : Int} : ∀ {ts ks : List Int} {j : Nat} (h : j < ts.length) (h2 : j < ks.length), ts[j] = x → (∀ i (hi : i < j), ts[i] ≠ x) → tagKid ts ks x = ks[j]
  | [], _, j, h, _, _, _ => by simp at h
  | t :: ts, [], j, _, h2, _, _ => by simp at h2
  | t :: ts, k :: ks, 0, _, _, e, _ => by
    unfold tagKid
    simp at e
    rw [if_pos e]
    rfl
  | t :: ts, k :: ks, j + 1, h, h2, e, hn => by
    unfold tagKid
    have h0 := hn 0 (by omega)
    simp at h0
    rw [if_neg h0]
    simp only [List.getElem_cons_succ]
    exact tagKid_first (by simpa using h) (by simpa using h2) (by simpa using e) fun i hi => by simpa using hn (i + 1) (by omega)
/-- Where the program's bounds are not kept the model's are not. -/
theorem fit_no {rs : List RuleV} {r : RuleV} {v : ValueV} (hk : kindI rs r = true) (h : fitB (bndV rs r) v = false) : ownB rs r v = false := by
  have hkn := kindI_known hk
  rw [Bool.eq_false_iff] at h ⊢
  intro ho
  apply h
  rcases (by omega : r.kind = 1 ∨ r.kind = 2 ∨ r.kind = 3 ∨ r.kind = 4 ∨ r.kind = 5 ∨ r.kind = 6 ∨ r.kind = 7 ∨ r.kind = 8 ∨ r.kind = 9 ∨ r.kind = 10) with e | e | e | e | e | e | e | e | e | e
  case inr.inr.inr.inr.inr.inr.inl =>
    have h7 : tagsOk (limitAt rs (r.kids.headD 0)) 0 r.tags = true := by
      simp [kindI, meetsB, e, tagsB] at hk
      simpa using hk.1.2
    have h8 : r.kids.headD 0 = r.kids.getD 0 0 := by cases r.kids <;> rfl
    simp only [ownB, e, Int.reduceEq, reduceIte, Bool.and_eq_true, decide_eq_true_eq] at ho
    have h1 := ho.2.2
    unfold itemR at h1
    rw [if_neg (by omega), if_neg (by omega), if_pos e] at h1
    have h2 := fit_tagsOk h7 (by omega) _ (fit_tag h1)
    rw [h8] at h2
    simp only [fitB, bndV, e, Int.reduceEq, reduceIte, Bool.and_eq_true, decide_eq_true_eq]
    have ho1 := ho.1
    have ho2 := ho.2.1
    exact ⟨h2, by omega, by omega⟩
  all_goals
    simp only [ownB, e, Int.reduceEq, reduceIte, Bool.and_eq_true, decide_eq_true_eq] at ho
    simp only [fitB, bndV, e, Int.reduceEq, reduceIte, Bool.and_eq_true, decide_eq_true_eq]
    omega
/-- Where the program's bounds are kept, the rule of an item that is there is the model's; if there is none, the model's bounds are not kept; else they are. -/
theorem fit_kid {rs : List RuleV} {r : RuleV} {v : ValueV} (hk : kindI rs r = true) (hks : ∀ x ∈ r.kids, 0 ≤ x) (h : fitB (bndV rs r) v = true) {q : Nat} (hq : q < v.items.length) :
    kidI r v.number q = itemR r v.number q ∧ (itemR r v.number q < 0 → ownB rs r v = false) ∧ (0 ≤ itemR r v.number q → ownB rs r v = true) := by
  have hkn := kindI_known hk
  rcases (by omega : r.kind = 1 ∨ r.kind = 2 ∨ r.kind = 3 ∨ r.kind = 4 ∨ r.kind = 5 ∨ r.kind = 6 ∨ r.kind = 7 ∨ r.kind = 8 ∨ r.kind = 9 ∨ r.kind = 10) with e | e | e | e | e | e | e | e | e | e
  · simp only [fitB, bndV, e, Int.reduceEq, reduceIte, Bool.and_eq_true, decide_eq_true_eq] at h; omega
  · simp only [fitB, bndV, e, Int.reduceEq, reduceIte, Bool.and_eq_true, decide_eq_true_eq] at h; omega
  · simp only [fitB, bndV, e, Int.reduceEq, reduceIte, Bool.and_eq_true, decide_eq_true_eq] at h; omega
  · simp only [fitB, bndV, e, Int.reduceEq, reduceIte, Bool.and_eq_true, decide_eq_true_eq] at h; omega
  · have h5 := kindI_5 hk e
    have h6 := hks _ (getD_mem (ks := r.kids) (j := 1) (by omega))
    simp only [fitB, bndV, e, Int.reduceEq, reduceIte, Bool.and_eq_true, decide_eq_true_eq] at h
    refine ⟨by simp [kidI, itemR, e], fun hn => ?_, fun _ => ?_⟩
    · simp only [itemR, e, Int.reduceEq, reduceIte] at hn; omega
    · simp only [ownB, e, Int.reduceEq, reduceIte, Bool.and_eq_true, decide_eq_true_eq]; omega
  · have h5 := kindI_6 hk e
    simp only [fitB, bndV, e, Int.reduceEq, reduceIte, Bool.and_eq_true, decide_eq_true_eq] at h
    have hql : q < r.kids.length := by omega
    have h6 := hks _ (getD_mem (ks := r.kids) (j := q) hql)
    have hi : itemR r v.number q = r.kids.getD q 0 := by unfold itemR; rw [if_neg (by omega), if_pos e, if_pos hql]
    refine ⟨?_, fun hn => by omega, fun _ => ?_⟩
    · rw [hi]; unfold kidI; rw [if_neg (by omega), if_neg (by omega), if_pos (by omega), if_pos hql]
    · simp only [ownB, e, Int.reduceEq, reduceIte, Bool.and_eq_true, decide_eq_true_eq]; omega
  · simp only [fitB, bndV, e, Int.reduceEq, reduceIte, Bool.and_eq_true, decide_eq_true_eq] at h
    have h0 : q = 0 := by omega
    subst h0
    refine ⟨by simp [kidI, itemR, e], fun hn => ?_, fun hp => ?_⟩
    · rw [Bool.eq_false_iff]; intro ho; simp only [ownB, e, Int.reduceEq, reduceIte, Bool.and_eq_true, decide_eq_true_eq] at ho; omega
    · simp only [ownB, e, Int.reduceEq, reduceIte, Bool.and_eq_true, decide_eq_true_eq]; exact ⟨by omega, by omega, hp⟩
  · have h5 := kindI_8 hk e
    simp only [fitB, bndV, e, Int.reduceEq, reduceIte, Bool.and_eq_true, decide_eq_true_eq] at h
    have h0 : q = 0 := by omega
    subst h0
    have h6 := hks _ (getD_mem (ks := r.kids) (j := 0) (by omega))
    have hi : itemR r v.number 0 = r.kids.getD 0 0 := by unfold itemR; rw [if_neg (by omega), if_neg (by omega), if_neg (by omega), if_pos (by omega)]
    refine ⟨?_, fun hn => by omega, fun _ => ?_⟩
    · rw [hi]; unfold kidI; rw [if_neg (by omega), if_neg (by omega), if_pos (by omega), if_pos (by omega)]
    · simp only [ownB, e, Int.reduceEq, reduceIte, Bool.and_eq_true, decide_eq_true_eq]; omega
  · have h5 := kindI_9 hk e
    simp only [fitB, bndV, e, Int.reduceEq, reduceIte, Bool.and_eq_true, decide_eq_true_eq] at h
    have h0 : q = 0 := by omega
    subst h0
    have h6 := hks _ (getD_mem (ks := r.kids) (j := 0) (by omega))
    have hi : itemR r v.number 0 = r.kids.getD 0 0 := by unfold itemR; rw [if_neg (by omega), if_neg (by omega), if_neg (by omega), if_pos (by omega)]
    refine ⟨?_, fun hn => by omega, fun _ => ?_⟩
    · rw [hi]; unfold kidI; rw [if_neg (by omega), if_neg (by omega), if_pos (by omega), if_pos (by omega)]
    · simp only [ownB, e, Int.reduceEq, reduceIte, Bool.and_eq_true, decide_eq_true_eq]; omega
  · simp only [fitB, bndV, e, Int.reduceEq, reduceIte, Bool.and_eq_true, decide_eq_true_eq] at h; omega
/-- A value without items whose fields keep the program's bounds keeps the model's. -/
theorem fit_end {rs : List RuleV} {r : RuleV} {v : ValueV} (hk : kindI rs r = true) (h : fitB (bndV rs r) v = true) (h0 : v.items.length = 0) : ownB rs r v = true := by
  have hkn := kindI_known hk
  rcases (by omega : r.kind = 1 ∨ r.kind = 2 ∨ r.kind = 3 ∨ r.kind = 4 ∨ r.kind = 5 ∨ r.kind = 6 ∨ r.kind = 7 ∨ r.kind = 8 ∨ r.kind = 9 ∨ r.kind = 10) with e | e | e | e | e | e | e | e | e | e
  all_goals
    simp only [fitB, bndV, e, Int.reduceEq, reduceIte, Bool.and_eq_true, decide_eq_true_eq] at h
    simp only [ownB, e, Int.reduceEq, reduceIte, Bool.and_eq_true, decide_eq_true_eq]
    omega
/-- No value whose fields keep the bounds has more items. -/
theorem fit_len {rs : List RuleV} {r : RuleV} {v : ValueV} (hk : kindI rs r = true) (h : fitB (bndV rs r) v = true) : v.items.length ≤ 40 := by
  have hkn := kindI_known hk
  rcases (by omega : r.kind = 1 ∨ r.kind = 2 ∨ r.kind = 3 ∨ r.kind = 4 ∨ r.kind = 5 ∨ r.kind = 6 ∨ r.kind = 7 ∨ r.kind = 8 ∨ r.kind = 9 ∨ r.kind = 10) with e | e | e | e | e | e | e | e | e | e
  all_goals
    simp only [fitB, bndV, e, Int.reduceEq, reduceIte, Bool.and_eq_true, decide_eq_true_eq] at h
    try have := kindI_6 hk e
    omega
end Go.Proofs.Ytefkhknfjohnaaa
namespace Go.Proofs.Ytefkhknfjohnaaa
open Go Go.RowKit
set_option maxRecDepth 100000 in
set_option maxHeartbeats 4000000 in
theorem bnd_1 (a : Option Addr) (rs : List RuleV) (cap k : Nat) (r : RuleV) (w : World) (hl : rs.length ≤ 1048576) (hk : k < rs.length) (hr : r = rs[k]) (hki : kindI rs r = true) (hrd : RdR a rs w) (hkd : r.kind = 1) :
    Calls Try.prog 76 #[.agg #[.slice a rs.length cap], .int .i64 (k : Int)] w fun e w' => e = .returned (.agg #[.int .i64 (bndV rs r).num, .int .i64 (bndV rs r).b0, .int .i64 (bndV rs r).b1, .int .i64 (bndV rs r).i0, .int .i64 (bndV rs r).i1]) ∧ Below w.heap.size w w' := by
  have hdef : bndV rs r = ⟨pow256 r.size - 1, 0, 0, 0, 0⟩ := by unfold bndV; simp [hkd]
  obtain ⟨w0, hw0⟩ : ∃ w0, w0 = (w.alloc (.cells #[.slice a rs.length cap] 38)).alloc (.cells #[.int .i64 0, .int .i64 0, .int .i64 0, .int .i64 0, .int .i64 0] 100) := ⟨_, rfl⟩
  have hB : Below w.heap.size w w0 := by subst hw0; exact ((Below.refl _ _).alloc (Nat.le_refl _) _).alloc (by simp) _
  have hD : CellsAt w.heap.size [.slice a rs.length cap] w0 := by subst hw0; exact (CellsAt.new w _ _).below ((Below.refl _ _).alloc (Nat.le_refl _) _)
  have hZ : CellsAt (w.heap.size + 1) [.int .i64 0, .int .i64 0, .int .i64 0, .int .i64 0, .int .i64 0] w0 := by subst hw0; have h1 := CellsAt.new (w.alloc (.cells #[.slice a rs.length cap] 38)) [.int .i64 0, .int .i64 0, .int .i64 0, .int .i64 0, .int .i64 0] 100; rw [World.size_alloc] at h1; exact h1
  obtain ⟨b0, off, a4, c4, a5, c5, a6, c6, a7, c7, rfl, ⟨d0, d1, d2, d3, d4, d5, d6, d7⟩, r4, r5, r6, r7⟩ := (hrd.below hB).at k hk
  have hlim : limitAt rs (k : Int) = pow256 r.size - 1 := by have := kindI_size hki hkd; rw [limitAt_in hk, ← hr, if_pos ⟨hkd, this.1, this.2⟩]
  rw [← hr] at d0 d1 d2 d3 d4 d5 d6 d7 r4 r5 r6 r7
  obtain ⟨w2, hw2⟩ : ∃ w2, w2 = w0.alloc (.cells #[.string r.name, .int .i64 r.kind, .int .i64 r.size, .bool r.little, .slice a4 r.bytes.length c4, .slice a5 r.names.length c5, .slice a6 r.tags.length c6, .slice a7 r.kids.length c7] 76) := ⟨_, rfl⟩
  have hb2 : Below w0.heap.size w0 w2 := by subst hw2; exact (Below.refl _ _).alloc (Nat.le_refl _) _
  have HC : Hid (CellsAt w0.heap.size [.string r.name, .int .i64 r.kind, .int .i64 r.size, .bool r.little, .slice a4 r.bytes.length c4, .slice a5 r.names.length c5, .slice a6 r.tags.length c6, .slice a7 r.kids.length c7] w2) := by subst hw2; exact CellsAt.new w0 _ _
  have HD := Lib.hid (hD.below hb2)
  have HZ := Lib.hid (hZ.below hb2)
  have HR7 := Lib.hid (r7.below hb2)
  have HRD := Lib.hid ((hrd.below hB).below hb2)
  have HB := Lib.hid (hB.trans (hb2.mono hB.size))
  have hne : w0.heap.size ≠ w.heap.size + 1 := by subst hw0; simp
  have HNE := Lib.hid hne
  have HW := Lib.hid hw0
  have HW2 := Lib.hid hw2
  have HKI := Lib.hid hki
  have bx := (hD 0 _ rfl).1
  have k0 : (0 : Int) ≤ (k : Int) := by omega
  have k1 : (k : Int) < (rs.length : Int) := by omega
  have y1 := (HC.out 1 _ rfl).1
  rw [hkd] at y1
  obtain ⟨M, hM⟩ : ∃ M, M = pow256 r.size - 1 := ⟨_, rfl⟩
  rw [← hM] at hdef hlim
  have HL := Lib.hid hlim
  clear hM hlim
  have HDEF := Lib.hid hdef
  rw [hdef]
  simp only []
  have HKD := Lib.hid hkd
  clear hB hD hZ hb2 hrd r4 r5 r6 r7 hw0 hw2 hne hki hr hdef hkd
  go_enter Try.func76, Try.ntmps76
  go_upto_region 1 with fail
  rw [← HW.out]
  go_upto_region 2 with fail
  rw [← HW2.out]
  clear bx d0 d1 d2 d3 d4 d5 d6 d7
  have bx := (HD.out 0 _ rfl).1
  go_wp2_with fail
  refine (limit_impl (some ⟨b0, off, none⟩) rs cap (k : Int) _ (by omega) HRD.out).mono ?_
  rintro e w3 ⟨rfl, hb3⟩
  rw [HL.out]
  have HB3 := Lib.hid (HB.out.trans (hb3.mono HB.out.size))
  obtain ⟨z0, t0⟩ := HZ.out.below hb3 0 _ rfl
  obtain ⟨z1, t1⟩ := HZ.out.below hb3 1 _ rfl
  obtain ⟨z2, t2⟩ := HZ.out.below hb3 2 _ rfl
  obtain ⟨z3, t3⟩ := HZ.out.below hb3 3 _ rfl
  obtain ⟨z4, t4⟩ := HZ.out.below hb3 4 _ rfl
  clear hb3
  go_wp2
  (try simp only [Exit.inBlock, Exit.then])
  refine bodyPost_ret (v := .agg #[.int .i64 M, .int .i64 0, .int .i64 0, .int .i64 0, .int .i64 0]) ?_ rfl ?_
  · simp [results, Try.results76, go_sem, z0, z1, z2, z3, z4]
  · exact ⟨rfl, (((((HB3.out.setCell (p := ⟨w.heap.size + 1, _, none⟩) (by simp) _).setCell (p := ⟨w.heap.size + 1, _, none⟩) (by simp) _).setCell (p := ⟨w.heap.size + 1, _, none⟩) (by simp) _).setCell (p := ⟨w.heap.size + 1, _, none⟩) (by simp) _).setCell (p := ⟨w.heap.size + 1, _, none⟩) (by simp) _)⟩
set_option maxRecDepth 100000 in
set_option maxHeartbeats 4000000 in
theorem bnd_2 (a : Option Addr) (rs : List RuleV) (cap k : Nat) (r : RuleV) (w : World) (_hl : rs.length ≤ 1048576) (hk : k < rs.length) (hr : r = rs[k]) (hki : kindI rs r = true) (hrd : RdR a rs w) (hkd : r.kind = 2) :
    Calls Try.prog 76 #[.agg #[.slice a rs.length cap], .int .i64 (k : Int)] w fun e w' => e = .returned (.agg #[.int .i64 (bndV rs r).num, .int .i64 (bndV rs r).b0, .int .i64 (bndV rs r).b1, .int .i64 (bndV rs r).i0, .int .i64 (bndV rs r).i1]) ∧ Below w.heap.size w w' := by
  have hdef : bndV rs r = ⟨0, 0, 0, 0, 0⟩ := by unfold bndV; simp [hkd]
  obtain ⟨w0, hw0⟩ : ∃ w0, w0 = (w.alloc (.cells #[.slice a rs.length cap] 38)).alloc (.cells #[.int .i64 0, .int .i64 0, .int .i64 0, .int .i64 0, .int .i64 0] 100) := ⟨_, rfl⟩
  have hB : Below w.heap.size w w0 := by subst hw0; exact ((Below.refl _ _).alloc (Nat.le_refl _) _).alloc (by simp) _
  have hD : CellsAt w.heap.size [.slice a rs.length cap] w0 := by subst hw0; exact (CellsAt.new w _ _).below ((Below.refl _ _).alloc (Nat.le_refl _) _)
  have hZ : CellsAt (w.heap.size + 1) [.int .i64 0, .int .i64 0, .int .i64 0, .int .i64 0, .int .i64 0] w0 := by subst hw0; have h1 := CellsAt.new (w.alloc (.cells #[.slice a rs.length cap] 38)) [.int .i64 0, .int .i64 0, .int .i64 0, .int .i64 0, .int .i64 0] 100; rw [World.size_alloc] at h1; exact h1
  obtain ⟨b0, off, a4, c4, a5, c5, a6, c6, a7, c7, rfl, ⟨d0, d1, d2, d3, d4, d5, d6, d7⟩, r4, r5, r6, r7⟩ := (hrd.below hB).at k hk
  rw [← hr] at d0 d1 d2 d3 d4 d5 d6 d7 r4 r5 r6 r7
  obtain ⟨w2, hw2⟩ : ∃ w2, w2 = w0.alloc (.cells #[.string r.name, .int .i64 r.kind, .int .i64 r.size, .bool r.little, .slice a4 r.bytes.length c4, .slice a5 r.names.length c5, .slice a6 r.tags.length c6, .slice a7 r.kids.length c7] 76) := ⟨_, rfl⟩
  have hb2 : Below w0.heap.size w0 w2 := by subst hw2; exact (Below.refl _ _).alloc (Nat.le_refl _) _
  have HC : Hid (CellsAt w0.heap.size [.string r.name, .int .i64 r.kind, .int .i64 r.size, .bool r.little, .slice a4 r.bytes.length c4, .slice a5 r.names.length c5, .slice a6 r.tags.length c6, .slice a7 r.kids.length c7] w2) := by subst hw2; exact CellsAt.new w0 _ _
  have HD := Lib.hid (hD.below hb2)
  have HZ := Lib.hid (hZ.below hb2)
  have HR7 := Lib.hid (r7.below hb2)
  have HRD := Lib.hid ((hrd.below hB).below hb2)
  have HB := Lib.hid (hB.trans (hb2.mono hB.size))
  have hne : w0.heap.size ≠ w.heap.size + 1 := by subst hw0; simp
  have HNE := Lib.hid hne
  have HW := Lib.hid hw0
  have HW2 := Lib.hid hw2
  have HKI := Lib.hid hki
  have bx := (hD 0 _ rfl).1
  have k0 : (0 : Int) ≤ (k : Int) := by omega
  have k1 : (k : Int) < (rs.length : Int) := by omega
  have y1 := (HC.out 1 _ rfl).1
  rw [hkd] at y1
  have HDEF := Lib.hid hdef
  rw [hdef]
  simp only []
  have HKD := Lib.hid hkd
  clear hB hD hZ hb2 hrd r4 r5 r6 r7 hw0 hw2 hne hki hr hdef hkd
  go_enter Try.func76, Try.ntmps76
  go_upto_region 1 with fail
  rw [← HW.out]
  go_upto_region 2 with fail
  rw [← HW2.out]
  clear bx d0 d1 d2 d3 d4 d5 d6 d7
  have bx := (HD.out 0 _ rfl).1
  obtain ⟨z0, t0⟩ := HZ.out 0 _ rfl
  obtain ⟨z1, t1⟩ := HZ.out 1 _ rfl
  obtain ⟨z2, t2⟩ := HZ.out 2 _ rfl
  obtain ⟨z3, t3⟩ := HZ.out 3 _ rfl
  obtain ⟨z4, t4⟩ := HZ.out 4 _ rfl
  go_wp2
  (try simp only [Exit.inBlock, Exit.then])
  refine bodyPost_ret (v := .agg #[.int .i64 0, .int .i64 0, .int .i64 0, .int .i64 0, .int .i64 0]) ?_ rfl ?_
  · simp [results, Try.results76, go_sem, z0, z1, z2, z3, z4]
  · exact ⟨rfl, (((((HB.out.setCell (p := ⟨w.heap.size + 1, _, none⟩) (by simp) _).setCell (p := ⟨w.heap.size + 1, _, none⟩) (by simp) _).setCell (p := ⟨w.heap.size + 1, _, none⟩) (by simp) _).setCell (p := ⟨w.heap.size + 1, _, none⟩) (by simp) _).setCell (p := ⟨w.heap.size + 1, _, none⟩) (by simp) _)⟩
set_option maxRecDepth 100000 in
set_option maxHeartbeats 4000000 in
theorem bnd_3 (a : Option Addr) (rs : List RuleV) (cap k : Nat) (r : RuleV) (w : World) (_hl : rs.length ≤ 1048576) (hk : k < rs.length) (hr : r = rs[k]) (hki : kindI rs r = true) (hrd : RdR a rs w) (hkd : r.kind = 3) :
    Calls Try.prog 76 #[.agg #[.slice a rs.length cap], .int .i64 (k : Int)] w fun e w' => e = .returned (.agg #[.int .i64 (bndV rs r).num, .int .i64 (bndV rs r).b0, .int .i64 (bndV rs r).b1, .int .i64 (bndV rs r).i0, .int .i64 (bndV rs r).i1]) ∧ Below w.heap.size w w' := by
  have hdef : bndV rs r = ⟨0, r.size, r.size, 0, 0⟩ := by unfold bndV; simp [hkd]
  obtain ⟨w0, hw0⟩ : ∃ w0, w0 = (w.alloc (.cells #[.slice a rs.length cap] 38)).alloc (.cells #[.int .i64 0, .int .i64 0, .int .i64 0, .int .i64 0, .int .i64 0] 100) := ⟨_, rfl⟩
  have hB : Below w.heap.size w w0 := by subst hw0; exact ((Below.refl _ _).alloc (Nat.le_refl _) _).alloc (by simp) _
  have hD : CellsAt w.heap.size [.slice a rs.length cap] w0 := by subst hw0; exact (CellsAt.new w _ _).below ((Below.refl _ _).alloc (Nat.le_refl _) _)
  have hZ : CellsAt (w.heap.size + 1) [.int .i64 0, .int .i64 0, .int .i64 0, .int .i64 0, .int .i64 0] w0 := by subst hw0; have h1 := CellsAt.new (w.alloc (.cells #[.slice a rs.length cap] 38)) [.int .i64 0, .int .i64 0, .int .i64 0, .int .i64 0, .int .i64 0] 100; rw [World.size_alloc] at h1; exact h1
  obtain ⟨b0, off, a4, c4, a5, c5, a6, c6, a7, c7, rfl, ⟨d0, d1, d2, d3, d4, d5, d6, d7⟩, r4, r5, r6, r7⟩ := (hrd.below hB).at k hk
  rw [← hr] at d0 d1 d2 d3 d4 d5 d6 d7 r4 r5 r6 r7
  obtain ⟨w2, hw2⟩ : ∃ w2, w2 = w0.alloc (.cells #[.string r.name, .int .i64 r.kind, .int .i64 r.size, .bool r.little, .slice a4 r.bytes.length c4, .slice a5 r.names.length c5, .slice a6 r.tags.length c6, .slice a7 r.kids.length c7] 76) := ⟨_, rfl⟩
  have hb2 : Below w0.heap.size w0 w2 := by subst hw2; exact (Below.refl _ _).alloc (Nat.le_refl _) _
  have HC : Hid (CellsAt w0.heap.size [.string r.name, .int .i64 r.kind, .int .i64 r.size, .bool r.little, .slice a4 r.bytes.length c4, .slice a5 r.names.length c5, .slice a6 r.tags.length c6, .slice a7 r.kids.length c7] w2) := by subst hw2; exact CellsAt.new w0 _ _
  have HD := Lib.hid (hD.below hb2)
  have HZ := Lib.hid (hZ.below hb2)
  have HR7 := Lib.hid (r7.below hb2)
  have HRD := Lib.hid ((hrd.below hB).below hb2)
  have HB := Lib.hid (hB.trans (hb2.mono hB.size))
  have hne : w0.heap.size ≠ w.heap.size + 1 := by subst hw0; simp
  have HNE := Lib.hid hne
  have HW := Lib.hid hw0
  have HW2 := Lib.hid hw2
  have HKI := Lib.hid hki
  have bx := (hD 0 _ rfl).1
  have k0 : (0 : Int) ≤ (k : Int) := by omega
  have k1 : (k : Int) < (rs.length : Int) := by omega
  have y1 := (HC.out 1 _ rfl).1
  rw [hkd] at y1
  have y2 := (HC.out 2 _ rfl).1
  obtain ⟨sz, hsz⟩ : ∃ sz, sz = r.size := ⟨_, rfl⟩
  rw [← hsz] at y2 hdef
  clear hsz
  have HDEF := Lib.hid hdef
  rw [hdef]
  simp only []
  have HKD := Lib.hid hkd
  clear hB hD hZ hb2 hrd r4 r5 r6 r7 hw0 hw2 hne hki hr hdef hkd
  go_enter Try.func76, Try.ntmps76
  go_upto_region 1 with fail
  rw [← HW.out]
  go_upto_region 2 with fail
  rw [← HW2.out]
  clear bx d0 d1 d2 d3 d4 d5 d6 d7
  have bx := (HD.out 0 _ rfl).1
  obtain ⟨z0, t0⟩ := HZ.out 0 _ rfl
  obtain ⟨z1, t1⟩ := HZ.out 1 _ rfl
  obtain ⟨z2, t2⟩ := HZ.out 2 _ rfl
  obtain ⟨z3, t3⟩ := HZ.out 3 _ rfl
  obtain ⟨z4, t4⟩ := HZ.out 4 _ rfl
  go_wp2
  (try simp only [Exit.inBlock, Exit.then])
  refine bodyPost_ret (v := .agg #[.int .i64 0, .int .i64 sz, .int .i64 sz, .int .i64 0, .int .i64 0]) ?_ rfl ?_
  · simp [results, Try.results76, go_sem, z0, z1, z2, z3, z4]
  · exact ⟨rfl, (((((HB.out.setCell (p := ⟨w.heap.size + 1, _, none⟩) (by simp) _).setCell (p := ⟨w.heap.size + 1, _, none⟩) (by simp) _).setCell (p := ⟨w.heap.size + 1, _, none⟩) (by simp) _).setCell (p := ⟨w.heap.size + 1, _, none⟩) (by simp) _).setCell (p := ⟨w.heap.size + 1, _, none⟩) (by simp) _)⟩
set_option maxRecDepth 100000 in
set_option maxHeartbeats 4000000 in
theorem bnd_4 (a : Option Addr) (rs : List RuleV) (cap k : Nat) (r : RuleV) (w : World) (hl : rs.length ≤ 1048576) (hk : k < rs.length) (hr : r = rs[k]) (hki : kindI rs r = true) (hrd : RdR a rs w) (hkd : r.kind = 4) :
    Calls Try.prog 76 #[.agg #[.slice a rs.length cap], .int .i64 (k : Int)] w fun e w' => e = .returned (.agg #[.int .i64 (bndV rs r).num, .int .i64 (bndV rs r).b0, .int .i64 (bndV rs r).b1, .int .i64 (bndV rs r).i0, .int .i64 (bndV rs r).i1]) ∧ Below w.heap.size w w' := by
  have hdef : bndV rs r = ⟨0, 0, min 400 (limitAt rs (r.kids.getD 0 0)), 0, 0⟩ := by unfold bndV; simp [hkd]
  obtain ⟨w0, hw0⟩ : ∃ w0, w0 = (w.alloc (.cells #[.slice a rs.length cap] 38)).alloc (.cells #[.int .i64 0, .int .i64 0, .int .i64 0, .int .i64 0, .int .i64 0] 100) := ⟨_, rfl⟩
  have hB : Below w.heap.size w w0 := by subst hw0; exact ((Below.refl _ _).alloc (Nat.le_refl _) _).alloc (by simp) _
  have hD : CellsAt w.heap.size [.slice a rs.length cap] w0 := by subst hw0; exact (CellsAt.new w _ _).below ((Below.refl _ _).alloc (Nat.le_refl _) _)
  have hZ : CellsAt (w.heap.size + 1) [.int .i64 0, .int .i64 0, .int .i64 0, .int .i64 0, .int .i64 0] w0 := by subst hw0; have h1 := CellsAt.new (w.alloc (.cells #[.slice a rs.length cap] 38)) [.int .i64 0, .int .i64 0, .int .i64 0, .int .i64 0, .int .i64 0] 100; rw [World.size_alloc] at h1; exact h1
  obtain ⟨b0, off, a4, c4, a5, c5, a6, c6, a7, c7, rfl, ⟨d0, d1, d2, d3, d4, d5, d6, d7⟩, r4, r5, r6, r7⟩ := (hrd.below hB).at k hk
  rw [← hr] at d0 d1 d2 d3 d4 d5 d6 d7 r4 r5 r6 r7
  obtain ⟨w2, hw2⟩ : ∃ w2, w2 = w0.alloc (.cells #[.string r.name, .int .i64 r.kind, .int .i64 r.size, .bool r.little, .slice a4 r.bytes.length c4, .slice a5 r.names.length c5, .slice a6 r.tags.length c6, .slice a7 r.kids.length c7] 76) := ⟨_, rfl⟩
  have hb2 : Below w0.heap.size w0 w2 := by subst hw2; exact (Below.refl _ _).alloc (Nat.le_refl _) _
  have HC : Hid (CellsAt w0.heap.size [.string r.name, .int .i64 r.kind, .int .i64 r.size, .bool r.little, .slice a4 r.bytes.length c4, .slice a5 r.names.length c5, .slice a6 r.tags.length c6, .slice a7 r.kids.length c7] w2) := by subst hw2; exact CellsAt.new w0 _ _
  have HD := Lib.hid (hD.below hb2)
  have HZ := Lib.hid (hZ.below hb2)
  have HR7 := Lib.hid (r7.below hb2)
  have HRD := Lib.hid ((hrd.below hB).below hb2)
  have HB := Lib.hid (hB.trans (hb2.mono hB.size))
  have hne : w0.heap.size ≠ w.heap.size + 1 := by subst hw0; simp
  have HNE := Lib.hid hne
  have HW := Lib.hid hw0
  have HW2 := Lib.hid hw2
  have HKI := Lib.hid hki
  have bx := (hD 0 _ rfl).1
  have k0 : (0 : Int) ≤ (k : Int) := by omega
  have k1 : (k : Int) < (rs.length : Int) := by omega
  have y1 := (HC.out 1 _ rfl).1
  rw [hkd] at y1
  have h0 : 0 < r.kids.length := by have := kindI_4 hki hkd; omega
  have g0 : (0 : Int) < (r.kids.length : Int) := by omega
  obtain ⟨b7, o7, ha7, hc7⟩ := HR7.out.cellAt (j := 0) h0
  subst ha7
  simp only [Nat.add_zero] at hc7
  rw [getD_at h0] at hdef
  generalize r.kids[0] = kk at hc7 hdef
  have y7 := (HC.out 7 _ rfl).1
  obtain ⟨L, hL⟩ : ∃ L, L = limitAt rs kk := ⟨_, rfl⟩
  obtain ⟨M, hM⟩ : ∃ M, M = min 400 (limitAt rs kk) := ⟨_, rfl⟩
  rw [← hM] at hdef
  rw [← hL] at hM
  have HL := Lib.hid hL
  have HM := Lib.hid hM
  clear hM hL
  have HDEF := Lib.hid hdef
  rw [hdef]
  simp only []
  have HKD := Lib.hid hkd
  clear hB hD hZ hb2 hrd r4 r5 r6 r7 hw0 hw2 hne hki hr hdef hkd
  go_enter Try.func76, Try.ntmps76
  go_upto_region 1 with fail
  rw [← HW.out]
  go_upto_region 2 with fail
  rw [← HW2.out]
  clear bx d0 d1 d2 d3 d4 d5 d6 d7
  have bx := (HD.out 0 _ rfl).1
  go_upto_region 8 with fail
  have HSW : Hid (∀ W, Below w2.heap.size w2 W → W.cell? ⟨w.heap.size, 0, none⟩ = some (.slice (some ⟨b0, off, none⟩) rs.length cap) ∧ W.cell? ⟨w0.heap.size, 7, none⟩ = some (.slice (some ⟨b7, o7, none⟩) r.kids.length c7) ∧ W.cell? ⟨b7, o7, none⟩ = some (.int .i64 kk)) := fun W hW => ⟨(HD.out.below hW 0 _ rfl).1, (HC.out.below hW 7 _ rfl).1, cell_keep hW hc7⟩
  go_region_with (first | (go_at_call 96; refine (limit_impl (some ⟨b0, off, none⟩) rs cap kk _ (by omega) (HRD.out.below (below_drewN (Below.refl _ w2) 1))).mono ?_; rintro e w3 ⟨rfl, hb3⟩; rw [← HL.out]; replace hb3 := Lib.hid ((below_drewN (Below.refl _ w2) 1).trans hb3)) | (go_at_call 97; refine (min_impl 400 L _).mono ?_; rintro e w4 ⟨rfl, hb4⟩; rw [← HM.out]; have hb5 := Lib.hid (hb3.out.trans (hb4.mono hb3.out.size)); obtain ⟨z0, t0⟩ := HZ.out.below hb5.out 0 _ rfl; obtain ⟨z1, t1⟩ := HZ.out.below hb5.out 1 _ rfl; obtain ⟨z2, t2⟩ := HZ.out.below hb5.out 2 _ rfl; obtain ⟨z3, t3⟩ := HZ.out.below hb5.out 3 _ rfl; obtain ⟨z4, t4⟩ := HZ.out.below hb5.out 4 _ rfl; have HB5 := Lib.hid (HB.out.trans (hb5.out.mono HB.out.size)); clear hb3 hb4 hb5))
  all_goals (
    go_wp2
    (try simp only [Exit.inBlock, Exit.then])
    refine bodyPost_ret (v := .agg #[.int .i64 0, .int .i64 0, .int .i64 M, .int .i64 0, .int .i64 0]) ?_ rfl ?_
    · simp [results, Try.results76, go_sem, z0, z1, z2, z3, z4]
    · exact ⟨rfl, (((((HB5.out.setCell (p := ⟨w.heap.size + 1, _, none⟩) (by simp) _).setCell (p := ⟨w.heap.size + 1, _, none⟩) (by simp) _).setCell (p := ⟨w.heap.size + 1, _, none⟩) (by simp) _).setCell (p := ⟨w.heap.size + 1, _, none⟩) (by simp) _).setCell (p := ⟨w.heap.size + 1, _, none⟩) (by simp) _)⟩)
set_option maxRecDepth 100000 in
set_option maxHeartbeats 4000000 in
theorem bnd_5 (a : Option Addr) (rs : List RuleV) (cap k : Nat) (r : RuleV) (w : World) (hl : rs.length ≤ 1048576) (hk : k < rs.length) (hr : r = rs[k]) (hki : kindI rs r = true) (hrd : RdR a rs w) (hkd : r.kind = 5) :
    Calls Try.prog 76 #[.agg #[.slice a rs.length cap], .int .i64 (k : Int)] w fun e w' => e = .returned (.agg #[.int .i64 (bndV rs r).num, .int .i64 (bndV rs r).b0, .int .i64 (bndV rs r).b1, .int .i64 (bndV rs r).i0, .int .i64 (bndV rs r).i1]) ∧ Below w.heap.size w w' := by
  have hdef : bndV rs r = ⟨0, 0, 0, 0, min 40 (limitAt rs (r.kids.getD 0 0))⟩ := by unfold bndV; simp [hkd]
  obtain ⟨w0, hw0⟩ : ∃ w0, w0 = (w.alloc (.cells #[.slice a rs.length cap] 38)).alloc (.cells #[.int .i64 0, .int .i64 0, .int .i64 0, .int .i64 0, .int .i64 0] 100) := ⟨_, rfl⟩
  have hB : Below w.heap.size w w0 := by subst hw0; exact ((Below.refl _ _).alloc (Nat.le_refl _) _).alloc (by simp) _
  have hD : CellsAt w.heap.size [.slice a rs.length cap] w0 := by subst hw0; exact (CellsAt.new w _ _).below ((Below.refl _ _).alloc (Nat.le_refl _) _)
  have hZ : CellsAt (w.heap.size + 1) [.int .i64 0, .int .i64 0, .int .i64 0, .int .i64 0, .int .i64 0] w0 := by subst hw0; have h1 := CellsAt.new (w.alloc (.cells #[.slice a rs.length cap] 38)) [.int .i64 0, .int .i64 0, .int .i64 0, .int .i64 0, .int .i64 0] 100; rw [World.size_alloc] at h1; exact h1
  obtain ⟨b0, off, a4, c4, a5, c5, a6, c6, a7, c7, rfl, ⟨d0, d1, d2, d3, d4, d5, d6, d7⟩, r4, r5, r6, r7⟩ := (hrd.below hB).at k hk
  rw [← hr] at d0 d1 d2 d3 d4 d5 d6 d7 r4 r5 r6 r7
  obtain ⟨w2, hw2⟩ : ∃ w2, w2 = w0.alloc (.cells #[.string r.name, .int .i64 r.kind, .int .i64 r.size, .bool r.little, .slice a4 r.bytes.length c4, .slice a5 r.names.length c5, .slice a6 r.tags.length c6, .slice a7 r.kids.length c7] 76) := ⟨_, rfl⟩
  have hb2 : Below w0.heap.size w0 w2 := by subst hw2; exact (Below.refl _ _).alloc (Nat.le_refl _) _
  have HC : Hid (CellsAt w0.heap.size [.string r.name, .int .i64 r.kind, .int .i64 r.size, .bool r.little, .slice a4 r.bytes.length c4, .slice a5 r.names.length c5, .slice a6 r.tags.length c6, .slice a7 r.kids.length c7] w2) := by subst hw2; exact CellsAt.new w0 _ _
  have HD := Lib.hid (hD.below hb2)
  have HZ := Lib.hid (hZ.below hb2)
  have HR7 := Lib.hid (r7.below hb2)
  have HRD := Lib.hid ((hrd.below hB).below hb2)
  have HB := Lib.hid (hB.trans (hb2.mono hB.size))
  have hne : w0.heap.size ≠ w.heap.size + 1 := by subst hw0; simp
  have HNE := Lib.hid hne
  have HW := Lib.hid hw0
  have HW2 := Lib.hid hw2
  have HKI := Lib.hid hki
  have bx := (hD 0 _ rfl).1
  have k0 : (0 : Int) ≤ (k : Int) := by omega
  have k1 : (k : Int) < (rs.length : Int) := by omega
  have y1 := (HC.out 1 _ rfl).1
  rw [hkd] at y1
  have h0 : 0 < r.kids.length := by have := kindI_5 hki hkd; omega
  have g0 : (0 : Int) < (r.kids.length : Int) := by omega
  obtain ⟨b7, o7, ha7, hc7⟩ := HR7.out.cellAt (j := 0) h0
  subst ha7
  simp only [Nat.add_zero] at hc7
  rw [getD_at h0] at hdef
  generalize r.kids[0] = kk at hc7 hdef
  have y7 := (HC.out 7 _ rfl).1
  obtain ⟨L, hL⟩ : ∃ L, L = limitAt rs kk := ⟨_, rfl⟩
  obtain ⟨M, hM⟩ : ∃ M, M = min 40 (limitAt rs kk) := ⟨_, rfl⟩
  rw [← hM] at hdef
  rw [← hL] at hM
  have HL := Lib.hid hL
  have HM := Lib.hid hM
  clear hM hL
  have HDEF := Lib.hid hdef
  rw [hdef]
  simp only []
  have HKD := Lib.hid hkd
  clear hB hD hZ hb2 hrd r4 r5 r6 r7 hw0 hw2 hne hki hr hdef hkd
  go_enter Try.func76, Try.ntmps76
  go_upto_region 1 with fail
  rw [← HW.out]
  go_upto_region 2 with fail
  rw [← HW2.out]
  clear bx d0 d1 d2 d3 d4 d5 d6 d7
  have bx := (HD.out 0 _ rfl).1
  go_upto_region 12 with fail
  have HSW : Hid (∀ W, Below w2.heap.size w2 W → W.cell? ⟨w.heap.size, 0, none⟩ = some (.slice (some ⟨b0, off, none⟩) rs.length cap) ∧ W.cell? ⟨w0.heap.size, 7, none⟩ = some (.slice (some ⟨b7, o7, none⟩) r.kids.length c7) ∧ W.cell? ⟨b7, o7, none⟩ = some (.int .i64 kk)) := fun W hW => ⟨(HD.out.below hW 0 _ rfl).1, (HC.out.below hW 7 _ rfl).1, cell_keep hW hc7⟩
  go_region_with (first | (go_at_call 96; refine (limit_impl (some ⟨b0, off, none⟩) rs cap kk _ (by omega) (HRD.out.below (below_drewN (Below.refl _ w2) 1))).mono ?_; rintro e w3 ⟨rfl, hb3⟩; rw [← HL.out]; replace hb3 := Lib.hid ((below_drewN (Below.refl _ w2) 1).trans hb3)) | (go_at_call 97; refine (min_impl 40 L _).mono ?_; rintro e w4 ⟨rfl, hb4⟩; rw [← HM.out]; have hb5 := Lib.hid (hb3.out.trans (hb4.mono hb3.out.size)); obtain ⟨z0, t0⟩ := HZ.out.below hb5.out 0 _ rfl; obtain ⟨z1, t1⟩ := HZ.out.below hb5.out 1 _ rfl; obtain ⟨z2, t2⟩ := HZ.out.below hb5.out 2 _ rfl; obtain ⟨z3, t3⟩ := HZ.out.below hb5.out 3 _ rfl; obtain ⟨z4, t4⟩ := HZ.out.below hb5.out 4 _ rfl; have HB5 := Lib.hid (HB.out.trans (hb5.out.mono HB.out.size)); clear hb3 hb4 hb5))
  all_goals (
    go_wp2
    (try simp only [Exit.inBlock, Exit.then])
    refine bodyPost_ret (v := .agg #[.int .i64 0, .int .i64 0, .int .i64 0, .int .i64 0, .int .i64 M]) ?_ rfl ?_
    · simp [results, Try.results76, go_sem, z0, z1, z2, z3, z4]
    · exact ⟨rfl, (((((HB5.out.setCell (p := ⟨w.heap.size + 1, _, none⟩) (by simp) _).setCell (p := ⟨w.heap.size + 1, _, none⟩) (by simp) _).setCell (p := ⟨w.heap.size + 1, _, none⟩) (by simp) _).setCell (p := ⟨w.heap.size + 1, _, none⟩) (by simp) _).setCell (p := ⟨w.heap.size + 1, _, none⟩) (by simp) _)⟩)
set_option maxRecDepth 100000 in
set_option maxHeartbeats 4000000 in
theorem bnd_6 (a : Option Addr) (rs : List RuleV) (cap k : Nat) (r : RuleV) (w : World) (_hl : rs.length ≤ 1048576) (hk : k < rs.length) (hr : r = rs[k]) (hki : kindI rs r = true) (hrd : RdR a rs w) (hkd : r.kind = 6) :
    Calls Try.prog 76 #[.agg #[.slice a rs.length cap], .int .i64 (k : Int)] w fun e w' => e = .returned (.agg #[.int .i64 (bndV rs r).num, .int .i64 (bndV rs r).b0, .int .i64 (bndV rs r).b1, .int .i64 (bndV rs r).i0, .int .i64 (bndV rs r).i1]) ∧ Below w.heap.size w w' := by
  have hdef : bndV rs r = ⟨0, 0, 0, (r.kids.length : Int), (r.kids.length : Int)⟩ := by unfold bndV; simp [hkd]
  obtain ⟨w0, hw0⟩ : ∃ w0, w0 = (w.alloc (.cells #[.slice a rs.length cap] 38)).alloc (.cells #[.int .i64 0, .int .i64 0, .int .i64 0, .int .i64 0, .int .i64 0] 100) := ⟨_, rfl⟩
  have hB : Below w.heap.size w w0 := by subst hw0; exact ((Below.refl _ _).alloc (Nat.le_refl _) _).alloc (by simp) _
  have hD : CellsAt w.heap.size [.slice a rs.length cap] w0 := by subst hw0; exact (CellsAt.new w _ _).below ((Below.refl _ _).alloc (Nat.le_refl _) _)
  have hZ : CellsAt (w.heap.size + 1) [.int .i64 0, .int .i64 0, .int .i64 0, .int .i64 0, .int .i64 0] w0 := by subst hw0; have h1 := CellsAt.new (w.alloc (.cells #[.slice a rs.length cap] 38)) [.int .i64 0, .int .i64 0, .int .i64 0, .int .i64 0, .int .i64 0] 100; rw [World.size_alloc] at h1; exact h1
  obtain ⟨b0, off, a4, c4, a5, c5, a6, c6, a7, c7, rfl, ⟨d0, d1, d2, d3, d4, d5, d6, d7⟩, r4, r5, r6, r7⟩ := (hrd.below hB).at k hk
  rw [← hr] at d0 d1 d2 d3 d4 d5 d6 d7 r4 r5 r6 r7
  obtain ⟨w2, hw2⟩ : ∃ w2, w2 = w0.alloc (.cells #[.string r.name, .int .i64 r.kind, .int .i64 r.size, .bool r.little, .slice a4 r.bytes.length c4, .slice a5 r.names.length c5, .slice a6 r.tags.length c6, .slice a7 r.kids.length c7] 76) := ⟨_, rfl⟩
  have hb2 : Below w0.heap.size w0 w2 := by subst hw2; exact (Below.refl _ _).alloc (Nat.le_refl _) _
  have HC : Hid (CellsAt w0.heap.size [.string r.name, .int .i64 r.kind, .int .i64 r.size, .bool r.little, .slice a4 r.bytes.length c4, .slice a5 r.names.length c5, .slice a6 r.tags.length c6, .slice a7 r.kids.length c7] w2) := by subst hw2; exact CellsAt.new w0 _ _
  have HD := Lib.hid (hD.below hb2)
  have HZ := Lib.hid (hZ.below hb2)
  have HR7 := Lib.hid (r7.below hb2)
  have HRD := Lib.hid ((hrd.below hB).below hb2)
  have HB := Lib.hid (hB.trans (hb2.mono hB.size))
  have hne : w0.heap.size ≠ w.heap.size + 1 := by subst hw0; simp
  have HNE := Lib.hid hne
  have HW := Lib.hid hw0
  have HW2 := Lib.hid hw2
  have HKI := Lib.hid hki
  have bx := (hD 0 _ rfl).1
  have k0 : (0 : Int) ≤ (k : Int) := by omega
  have k1 : (k : Int) < (rs.length : Int) := by omega
  have y1 := (HC.out 1 _ rfl).1
  rw [hkd] at y1
  have y7 := (HC.out 7 _ rfl).1
  obtain ⟨kl, hkl⟩ : ∃ kl, kl = r.kids.length := ⟨_, rfl⟩
  have hkl2 : kl ≤ 8 := by have := kindI_6 hki hkd; omega
  rw [← hkl] at y7 hdef
  clear hkl
  have HDEF := Lib.hid hdef
  rw [hdef]
  simp only []
  have HKD := Lib.hid hkd
  clear hB hD hZ hb2 hrd r4 r5 r6 r7 hw0 hw2 hne hki hr hdef hkd
  go_enter Try.func76, Try.ntmps76
  go_upto_region 1 with fail
  rw [← HW.out]
  go_upto_region 2 with fail
  rw [← HW2.out]
  clear bx d0 d1 d2 d3 d4 d5 d6 d7
  have bx := (HD.out 0 _ rfl).1
  obtain ⟨z0, t0⟩ := HZ.out 0 _ rfl
  obtain ⟨z1, t1⟩ := HZ.out 1 _ rfl
  obtain ⟨z2, t2⟩ := HZ.out 2 _ rfl
  obtain ⟨z3, t3⟩ := HZ.out 3 _ rfl
  obtain ⟨z4, t4⟩ := HZ.out 4 _ rfl
  go_wp2
  (try simp only [Exit.inBlock, Exit.then])
  refine bodyPost_ret (v := .agg #[.int .i64 0, .int .i64 0, .int .i64 0, .int .i64 (kl : Int), .int .i64 (kl : Int)]) ?_ rfl ?_
  · simp [results, Try.results76, go_sem, z0, z1, z2, z3, z4]
  · exact ⟨rfl, (((((HB.out.setCell (p := ⟨w.heap.size + 1, _, none⟩) (by simp) _).setCell (p := ⟨w.heap.size + 1, _, none⟩) (by simp) _).setCell (p := ⟨w.heap.size + 1, _, none⟩) (by simp) _).setCell (p := ⟨w.heap.size + 1, _, none⟩) (by simp) _).setCell (p := ⟨w.heap.size + 1, _, none⟩) (by simp) _)⟩
set_option maxRecDepth 100000 in
set_option maxHeartbeats 4000000 in
theorem bnd_7 (a : Option Addr) (rs : List RuleV) (cap k : Nat) (r : RuleV) (w : World) (hl : rs.length ≤ 1048576) (hk : k < rs.length) (hr : r = rs[k]) (hki : kindI rs r = true) (hrd : RdR a rs w) (hkd : r.kind = 7) :
    Calls Try.prog 76 #[.agg #[.slice a rs.length cap], .int .i64 (k : Int)] w fun e w' => e = .returned (.agg #[.int .i64 (bndV rs r).num, .int .i64 (bndV rs r).b0, .int .i64 (bndV rs r).b1, .int .i64 (bndV rs r).i0, .int .i64 (bndV rs r).i1]) ∧ Below w.heap.size w w' := by
  have hdef : bndV rs r = ⟨limitAt rs (r.kids.getD 0 0), 0, 0, 1, 1⟩ := by unfold bndV; simp [hkd]
  obtain ⟨w0, hw0⟩ : ∃ w0, w0 = (w.alloc (.cells #[.slice a rs.length cap] 38)).alloc (.cells #[.int .i64 0, .int .i64 0, .int .i64 0, .int .i64 0, .int .i64 0] 100) := ⟨_, rfl⟩
  have hB : Below w.heap.size w w0 := by subst hw0; exact ((Below.refl _ _).alloc (Nat.le_refl _) _).alloc (by simp) _
  have hD : CellsAt w.heap.size [.slice a rs.length cap] w0 := by subst hw0; exact (CellsAt.new w _ _).below ((Below.refl _ _).alloc (Nat.le_refl _) _)
  have hZ : CellsAt (w.heap.size + 1) [.int .i64 0, .int .i64 0, .int .i64 0, .int .i64 0, .int .i64 0] w0 := by subst hw0; have h1 := CellsAt.new (w.alloc (.cells #[.slice a rs.length cap] 38)) [.int .i64 0, .int .i64 0, .int .i64 0, .int .i64 0, .int .i64 0] 100; rw [World.size_alloc] at h1; exact h1
  obtain ⟨b0, off, a4, c4, a5, c5, a6, c6, a7, c7, rfl, ⟨d0, d1, d2, d3, d4, d5, d6, d7⟩, r4, r5, r6, r7⟩ := (hrd.below hB).at k hk
  rw [← hr] at d0 d1 d2 d3 d4 d5 d6 d7 r4 r5 r6 r7
  obtain ⟨w2, hw2⟩ : ∃ w2, w2 = w0.alloc (.cells #[.string r.name, .int .i64 r.kind, .int .i64 r.size, .bool r.little, .slice a4 r.bytes.length c4, .slice a5 r.names.length c5, .slice a6 r.tags.length c6, .slice a7 r.kids.length c7] 76) := ⟨_, rfl⟩
  have hb2 : Below w0.heap.size w0 w2 := by subst hw2; exact (Below.refl _ _).alloc (Nat.le_refl _) _
  have HC : Hid (CellsAt w0.heap.size [.string r.name, .int .i64 r.kind, .int .i64 r.size, .bool r.little, .slice a4 r.bytes.length c4, .slice a5 r.names.length c5, .slice a6 r.tags.length c6, .slice a7 r.kids.length c7] w2) := by subst hw2; exact CellsAt.new w0 _ _
  have HD := Lib.hid (hD.below hb2)
  have HZ := Lib.hid (hZ.below hb2)
  have HR7 := Lib.hid (r7.below hb2)
  have HRD := Lib.hid ((hrd.below hB).below hb2)
  have HB := Lib.hid (hB.trans (hb2.mono hB.size))
  have hne : w0.heap.size ≠ w.heap.size + 1 := by subst hw0; simp
  have HNE := Lib.hid hne
  have HW := Lib.hid hw0
  have HW2 := Lib.hid hw2
  have HKI := Lib.hid hki
  have bx := (hD 0 _ rfl).1
  have k0 : (0 : Int) ≤ (k : Int) := by omega
  have k1 : (k : Int) < (rs.length : Int) := by omega
  have y1 := (HC.out 1 _ rfl).1
  rw [hkd] at y1
  have h0 : 0 < r.kids.length := by have := kindI_7 hki hkd; omega
  have g0 : (0 : Int) < (r.kids.length : Int) := by omega
  obtain ⟨b7, o7, ha7, hc7⟩ := HR7.out.cellAt (j := 0) h0
  subst ha7
  simp only [Nat.add_zero] at hc7
  rw [getD_at h0] at hdef
  generalize r.kids[0] = kk at hc7 hdef
  have y7 := (HC.out 7 _ rfl).1
  obtain ⟨M, hM⟩ : ∃ M, M = limitAt rs kk := ⟨_, rfl⟩
  rw [← hM] at hdef
  have HL := Lib.hid hM
  clear hM
  have HDEF := Lib.hid hdef
  rw [hdef]
  simp only []
  have HKD := Lib.hid hkd
  clear hB hD hZ hb2 hrd r4 r5 r6 r7 hw0 hw2 hne hki hr hdef hkd
  go_enter Try.func76, Try.ntmps76
  go_upto_region 1 with fail
  rw [← HW.out]
  go_upto_region 2 with fail
  rw [← HW2.out]
  clear bx d0 d1 d2 d3 d4 d5 d6 d7
  have bx := (HD.out 0 _ rfl).1
  go_upto_region 16 with fail
  have HSW : Hid (∀ W, Below w2.heap.size w2 W → W.cell? ⟨w.heap.size, 0, none⟩ = some (.slice (some ⟨b0, off, none⟩) rs.length cap) ∧ W.cell? ⟨w0.heap.size, 7, none⟩ = some (.slice (some ⟨b7, o7, none⟩) r.kids.length c7) ∧ W.cell? ⟨b7, o7, none⟩ = some (.int .i64 kk)) := fun W hW => ⟨(HD.out.below hW 0 _ rfl).1, (HC.out.below hW 7 _ rfl).1, cell_keep hW hc7⟩
  go_region_with (first | (go_at_call 96; refine (limit_impl (some ⟨b0, off, none⟩) rs cap kk _ (by omega) (HRD.out.below (below_drewN (Below.refl _ w2) 1))).mono ?_; rintro e w3 ⟨rfl, hb3⟩; rw [← HL.out]; replace hb3 := Lib.hid ((below_drewN (Below.refl _ w2) 1).trans hb3); obtain ⟨z0, t0⟩ := HZ.out.below hb3.out 0 _ rfl; obtain ⟨z1, t1⟩ := HZ.out.below hb3.out 1 _ rfl; obtain ⟨z2, t2⟩ := HZ.out.below hb3.out 2 _ rfl; obtain ⟨z3, t3⟩ := HZ.out.below hb3.out 3 _ rfl; obtain ⟨z4, t4⟩ := HZ.out.below hb3.out 4 _ rfl; have HB5 := Lib.hid (HB.out.trans (hb3.out.mono HB.out.size)); clear hb3))
  all_goals (
    go_wp2
    (try simp only [Exit.inBlock, Exit.then])
    refine bodyPost_ret (v := .agg #[.int .i64 M, .int .i64 0, .int .i64 0, .int .i64 1, .int .i64 1]) ?_ rfl ?_
    · simp [results, Try.results76, go_sem, z0, z1, z2, z3, z4]
    · exact ⟨rfl, (((((HB5.out.setCell (p := ⟨w.heap.size + 1, _, none⟩) (by simp) _).setCell (p := ⟨w.heap.size + 1, _, none⟩) (by simp) _).setCell (p := ⟨w.heap.size + 1, _, none⟩) (by simp) _).setCell (p := ⟨w.heap.size + 1, _, none⟩) (by simp) _).setCell (p := ⟨w.heap.size + 1, _, none⟩) (by simp) _)⟩)
set_option maxRecDepth 100000 in
set_option maxHeartbeats 4000000 in
theorem bnd_8 (a : Option Addr) (rs : List RuleV) (cap k : Nat) (r : RuleV) (w : World) (_hl : rs.length ≤ 1048576) (hk : k < rs.length) (hr : r = rs[k]) (hki : kindI rs r = true) (hrd : RdR a rs w) (hkd : r.kind = 8) :
    Calls Try.prog 76 #[.agg #[.slice a rs.length cap], .int .i64 (k : Int)] w fun e w' => e = .returned (.agg #[.int .i64 (bndV rs r).num, .int .i64 (bndV rs r).b0, .int .i64 (bndV rs r).b1, .int .i64 (bndV rs r).i0, .int .i64 (bndV rs r).i1]) ∧ Below w.heap.size w w' := by
  have hdef : bndV rs r = ⟨0, 0, 0, 0, 1⟩ := by unfold bndV; simp [hkd]
  obtain ⟨w0, hw0⟩ : ∃ w0, w0 = (w.alloc (.cells #[.slice a rs.length cap] 38)).alloc (.cells #[.int .i64 0, .int .i64 0, .int .i64 0, .int .i64 0, .int .i64 0] 100) := ⟨_, rfl⟩
  have hB : Below w.heap.size w w0 := by subst hw0; exact ((Below.refl _ _).alloc (Nat.le_refl _) _).alloc (by simp) _
  have hD : CellsAt w.heap.size [.slice a rs.length cap] w0 := by subst hw0; exact (CellsAt.new w _ _).below ((Below.refl _ _).alloc (Nat.le_refl _) _)
  have hZ : CellsAt (w.heap.size + 1) [.int .i64 0, .int .i64 0, .int .i64 0, .int .i64 0, .int .i64 0] w0 := by subst hw0; have h1 := CellsAt.new (w.alloc (.cells #[.slice a rs.length cap] 38)) [.int .i64 0, .int .i64 0, .int .i64 0, .int .i64 0, .int .i64 0] 100; rw [World.size_alloc] at h1; exact h1
  obtain ⟨b0, off, a4, c4, a5, c5, a6, c6, a7, c7, rfl, ⟨d0, d1, d2, d3, d4, d5, d6, d7⟩, r4, r5, r6, r7⟩ := (hrd.below hB).at k hk
  rw [← hr] at d0 d1 d2 d3 d4 d5 d6 d7 r4 r5 r6 r7
  obtain ⟨w2, hw2⟩ : ∃ w2, w2 = w0.alloc (.cells #[.string r.name, .int .i64 r.kind, .int .i64 r.size, .bool r.little, .slice a4 r.bytes.length c4, .slice a5 r.names.length c5, .slice a6 r.tags.length c6, .slice a7 r.kids.length c7] 76) := ⟨_, rfl⟩
  have hb2 : Below w0.heap.size w0 w2 := by subst hw2; exact (Below.refl _ _).alloc (Nat.le_refl _) _
  have HC : Hid (CellsAt w0.heap.size [.string r.name, .int .i64 r.kind, .int .i64 r.size, .bool r.little, .slice a4 r.bytes.length c4, .slice a5 r.names.length c5, .slice a6 r.tags.length c6, .slice a7 r.kids.length c7] w2) := by subst hw2; exact CellsAt.new w0 _ _
  have HD := Lib.hid (hD.below hb2)
  have HZ := Lib.hid (hZ.below hb2)
  have HR7 := Lib.hid (r7.below hb2)
  have HRD := Lib.hid ((hrd.below hB).below hb2)
  have HB := Lib.hid (hB.trans (hb2.mono hB.size))
  have hne : w0.heap.size ≠ w.heap.size + 1 := by subst hw0; simp
  have HNE := Lib.hid hne
  have HW := Lib.hid hw0
  have HW2 := Lib.hid hw2
  have HKI := Lib.hid hki
  have bx := (hD 0 _ rfl).1
  have k0 : (0 : Int) ≤ (k : Int) := by omega
  have k1 : (k : Int) < (rs.length : Int) := by omega
  have y1 := (HC.out 1 _ rfl).1
  rw [hkd] at y1
  have HDEF := Lib.hid hdef
  rw [hdef]
  simp only []
  have HKD := Lib.hid hkd
  clear hB hD hZ hb2 hrd r4 r5 r6 r7 hw0 hw2 hne hki hr hdef hkd
  go_enter Try.func76, Try.ntmps76
  go_upto_region 1 with fail
  rw [← HW.out]
  go_upto_region 2 with fail
  rw [← HW2.out]
  clear bx d0 d1 d2 d3 d4 d5 d6 d7
  have bx := (HD.out 0 _ rfl).1
  obtain ⟨z0, t0⟩ := HZ.out 0 _ rfl
  obtain ⟨z1, t1⟩ := HZ.out 1 _ rfl
  obtain ⟨z2, t2⟩ := HZ.out 2 _ rfl
  obtain ⟨z3, t3⟩ := HZ.out 3 _ rfl
  obtain ⟨z4, t4⟩ := HZ.out 4 _ rfl
  go_wp2
  (try simp only [Exit.inBlock, Exit.then])
  refine bodyPost_ret (v := .agg #[.int .i64 0, .int .i64 0, .int .i64 0, .int .i64 0, .int .i64 1]) ?_ rfl ?_
  · simp [results, Try.results76, go_sem, z0, z1, z2, z3, z4]
  · exact ⟨rfl, (((((HB.out.setCell (p := ⟨w.heap.size + 1, _, none⟩) (by simp) _).setCell (p := ⟨w.heap.size + 1, _, none⟩) (by simp) _).setCell (p := ⟨w.heap.size + 1, _, none⟩) (by simp) _).setCell (p := ⟨w.heap.size + 1, _, none⟩) (by simp) _).setCell (p := ⟨w.heap.size + 1, _, none⟩) (by simp) _)⟩
set_option maxRecDepth 100000 in
set_option maxHeartbeats 4000000 in
theorem bnd_9 (a : Option Addr) (rs : List RuleV) (cap k : Nat) (r : RuleV) (w : World) (_hl : rs.length ≤ 1048576) (hk : k < rs.length) (hr : r = rs[k]) (hki : kindI rs r = true) (hrd : RdR a rs w) (hkd : r.kind = 9) :
    Calls Try.prog 76 #[.agg #[.slice a rs.length cap], .int .i64 (k : Int)] w fun e w' => e = .returned (.agg #[.int .i64 (bndV rs r).num, .int .i64 (bndV rs r).b0, .int .i64 (bndV rs r).b1, .int .i64 (bndV rs r).i0, .int .i64 (bndV rs r).i1]) ∧ Below w.heap.size w w' := by
  have hdef : bndV rs r = ⟨0, 0, 0, 1, 1⟩ := by unfold bndV; simp [hkd]
  obtain ⟨w0, hw0⟩ : ∃ w0, w0 = (w.alloc (.cells #[.slice a rs.length cap] 38)).alloc (.cells #[.int .i64 0, .int .i64 0, .int .i64 0, .int .i64 0, .int .i64 0] 100) := ⟨_, rfl⟩
  have hB : Below w.heap.size w w0 := by subst hw0; exact ((Below.refl _ _).alloc (Nat.le_refl _) _).alloc (by simp) _
  have hD : CellsAt w.heap.size [.slice a rs.length cap] w0 := by subst hw0; exact (CellsAt.new w _ _).below ((Below.refl _ _).alloc (Nat.le_refl _) _)
  have hZ : CellsAt (w.heap.size + 1) [.int .i64 0, .int .i64 0, .int .i64 0, .int .i64 0, .int .i64 0] w0 := by subst hw0; have h1 := CellsAt.new (w.alloc (.cells #[.slice a rs.length cap] 38)) [.int .i64 0, .int .i64 0, .int .i64 0, .int .i64 0, .int .i64 0] 100; rw [World.size_alloc] at h1; exact h1
  obtain ⟨b0, off, a4, c4, a5, c5, a6, c6, a7, c7, rfl, ⟨d0, d1, d2, d3, d4, d5, d6, d7⟩, r4, r5, r6, r7⟩ := (hrd.below hB).at k hk
  rw [← hr] at d0 d1 d2 d3 d4 d5 d6 d7 r4 r5 r6 r7
  obtain ⟨w2, hw2⟩ : ∃ w2, w2 = w0.alloc (.cells #[.string r.name, .int .i64 r.kind, .int .i64 r.size, .bool r.little, .slice a4 r.bytes.length c4, .slice a5 r.names.length c5, .slice a6 r.tags.length c6, .slice a7 r.kids.length c7] 76) := ⟨_, rfl⟩
  have hb2 : Below w0.heap.size w0 w2 := by subst hw2; exact (Below.refl _ _).alloc (Nat.le_refl _) _
  have HC : Hid (CellsAt w0.heap.size [.string r.name, .int .i64 r.kind, .int .i64 r.size, .bool r.little, .slice a4 r.bytes.length c4, .slice a5 r.names.length c5, .slice a6 r.tags.length c6, .slice a7 r.kids.length c7] w2) := by subst hw2; exact CellsAt.new w0 _ _
  have HD := Lib.hid (hD.below hb2)
  have HZ := Lib.hid (hZ.below hb2)
  have HR7 := Lib.hid (r7.below hb2)
  have HRD := Lib.hid ((hrd.below hB).below hb2)
  have HB := Lib.hid (hB.trans (hb2.mono hB.size))
  have hne : w0.heap.size ≠ w.heap.size + 1 := by subst hw0; simp
  have HNE := Lib.hid hne
  have HW := Lib.hid hw0
  have HW2 := Lib.hid hw2
  have HKI := Lib.hid hki
  have bx := (hD 0 _ rfl).1
  have k0 : (0 : Int) ≤ (k : Int) := by omega
  have k1 : (k : Int) < (rs.length : Int) := by omega
  have y1 := (HC.out 1 _ rfl).1
  rw [hkd] at y1
  have HDEF := Lib.hid hdef
  rw [hdef]
  simp only []
  have HKD := Lib.hid hkd
  clear hB hD hZ hb2 hrd r4 r5 r6 r7 hw0 hw2 hne hki hr hdef hkd
  go_enter Try.func76, Try.ntmps76
  go_upto_region 1 with fail
  rw [← HW.out]
  go_upto_region 2 with fail
  rw [← HW2.out]
  clear bx d0 d1 d2 d3 d4 d5 d6 d7
  have bx := (HD.out 0 _ rfl).1
  obtain ⟨z0, t0⟩ := HZ.out 0 _ rfl
  obtain ⟨z1, t1⟩ := HZ.out 1 _ rfl
  obtain ⟨z2, t2⟩ := HZ.out 2 _ rfl
  obtain ⟨z3, t3⟩ := HZ.out 3 _ rfl
  obtain ⟨z4, t4⟩ := HZ.out 4 _ rfl
  go_wp2
  (try simp only [Exit.inBlock, Exit.then])
  refine bodyPost_ret (v := .agg #[.int .i64 0, .int .i64 0, .int .i64 0, .int .i64 1, .int .i64 1]) ?_ rfl ?_
  · simp [results, Try.results76, go_sem, z0, z1, z2, z3, z4]
  · exact ⟨rfl, (((((HB.out.setCell (p := ⟨w.heap.size + 1, _, none⟩) (by simp) _).setCell (p := ⟨w.heap.size + 1, _, none⟩) (by simp) _).setCell (p := ⟨w.heap.size + 1, _, none⟩) (by simp) _).setCell (p := ⟨w.heap.size + 1, _, none⟩) (by simp) _).setCell (p := ⟨w.heap.size + 1, _, none⟩) (by simp) _)⟩
set_option maxRecDepth 100000 in
set_option maxHeartbeats 4000000 in
theorem bnd_10 (a : Option Addr) (rs : List RuleV) (cap k : Nat) (r : RuleV) (w : World) (_hl : rs.length ≤ 1048576) (hk : k < rs.length) (hr : r = rs[k]) (hki : kindI rs r = true) (hrd : RdR a rs w) (hkd : r.kind = 10) :
    Calls Try.prog 76 #[.agg #[.slice a rs.length cap], .int .i64 (k : Int)] w fun e w' => e = .returned (.agg #[.int .i64 (bndV rs r).num, .int .i64 (bndV rs r).b0, .int .i64 (bndV rs r).b1, .int .i64 (bndV rs r).i0, .int .i64 (bndV rs r).i1]) ∧ Below w.heap.size w w' := by
  have hdef : bndV rs r = ⟨0, 0, 400, 0, 0⟩ := by unfold bndV; simp [hkd]
  obtain ⟨w0, hw0⟩ : ∃ w0, w0 = (w.alloc (.cells #[.slice a rs.length cap] 38)).alloc (.cells #[.int .i64 0, .int .i64 0, .int .i64 0, .int .i64 0, .int .i64 0] 100) := ⟨_, rfl⟩
  have hB : Below w.heap.size w w0 := by subst hw0; exact ((Below.refl _ _).alloc (Nat.le_refl _) _).alloc (by simp) _
  have hD : CellsAt w.heap.size [.slice a rs.length cap] w0 := by subst hw0; exact (CellsAt.new w _ _).below ((Below.refl _ _).alloc (Nat.le_refl _) _)
  have hZ : CellsAt (w.heap.size + 1) [.int .i64 0, .int .i64 0, .int .i64 0, .int .i64 0, .int .i64 0] w0 := by subst hw0; have h1 := CellsAt.new (w.alloc (.cells #[.slice a rs.length cap] 38)) [.int .i64 0, .int .i64 0, .int .i64 0, .int .i64 0, .int .i64 0] 100; rw [World.size_alloc] at h1; exact h1
  obtain ⟨b0, off, a4, c4, a5, c5, a6, c6, a7, c7, rfl, ⟨d0, d1, d2, d3, d4, d5, d6, d7⟩, r4, r5, r6, r7⟩ := (hrd.below hB).at k hk
  rw [← hr] at d0 d1 d2 d3 d4 d5 d6 d7 r4 r5 r6 r7
  obtain ⟨w2, hw2⟩ : ∃ w2, w2 = w0.alloc (.cells #[.string r.name, .int .i64 r.kind, .int .i64 r.size, .bool r.little, .slice a4 r.bytes.length c4, .slice a5 r.names.length c5, .slice a6 r.tags.length c6, .slice a7 r.kids.length c7] 76) := ⟨_, rfl⟩
  have hb2 : Below w0.heap.size w0 w2 := by subst hw2; exact (Below.refl _ _).alloc (Nat.le_refl _) _
  have HC : Hid (CellsAt w0.heap.size [.string r.name, .int .i64 r.kind, .int .i64 r.size, .bool r.little, .slice a4 r.bytes.length c4, .slice a5 r.names.length c5, .slice a6 r.tags.length c6, .slice a7 r.kids.length c7] w2) := by subst hw2; exact CellsAt.new w0 _ _
  have HD := Lib.hid (hD.below hb2)
  have HZ := Lib.hid (hZ.below hb2)
  have HR7 := Lib.hid (r7.below hb2)
  have HRD := Lib.hid ((hrd.below hB).below hb2)
  have HB := Lib.hid (hB.trans (hb2.mono hB.size))
  have hne : w0.heap.size ≠ w.heap.size + 1 := by subst hw0; simp
  have HNE := Lib.hid hne
  have HW := Lib.hid hw0
  have HW2 := Lib.hid hw2
  have HKI := Lib.hid hki
  have bx := (hD 0 _ rfl).1
  have k0 : (0 : Int) ≤ (k : Int) := by omega
  have k1 : (k : Int) < (rs.length : Int) := by omega
  have y1 := (HC.out 1 _ rfl).1
  rw [hkd] at y1
  have HDEF := Lib.hid hdef
  rw [hdef]
  simp only []
  have HKD := Lib.hid hkd
  clear hB hD hZ hb2 hrd r4 r5 r6 r7 hw0 hw2 hne hki hr hdef hkd
  go_enter Try.func76, Try.ntmps76
  go_upto_region 1 with fail
  rw [← HW.out]
  go_upto_region 2 with fail
  rw [← HW2.out]
  clear bx d0 d1 d2 d3 d4 d5 d6 d7
  have bx := (HD.out 0 _ rfl).1
  obtain ⟨z0, t0⟩ := HZ.out 0 _ rfl
  obtain ⟨z1, t1⟩ := HZ.out 1 _ rfl
  obtain ⟨z2, t2⟩ := HZ.out 2 _ rfl
  obtain ⟨z3, t3⟩ := HZ.out 3 _ rfl
  obtain ⟨z4, t4⟩ := HZ.out 4 _ rfl
  go_wp2
  (try simp only [Exit.inBlock, Exit.then])
  refine bodyPost_ret (v := .agg #[.int .i64 0, .int .i64 0, .int .i64 400, .int .i64 0, .int .i64 0]) ?_ rfl ?_
  · simp [results, Try.results76, go_sem, z0, z1, z2, z3, z4]
  · exact ⟨rfl, (((((HB.out.setCell (p := ⟨w.heap.size + 1, _, none⟩) (by simp) _).setCell (p := ⟨w.heap.size + 1, _, none⟩) (by simp) _).setCell (p := ⟨w.heap.size + 1, _, none⟩) (by simp) _).setCell (p := ⟨w.heap.size + 1, _, none⟩) (by simp) _).setCell (p := ⟨w.heap.size + 1, _, none⟩) (by simp) _)⟩
theorem bnd_impl (a : Option Addr) (rs : List RuleV) (cap k : Nat) (r : RuleV) (w : World) (hl : rs.length ≤ 1048576) (hk : k < rs.length) (hr : r = rs[k]) (hki : kindI rs r = true) (hrd : RdR a rs w) :
    Calls Try.prog 76 #[.agg #[.slice a rs.length cap], .int .i64 (k : Int)] w fun e w' => e = .returned (.agg #[.int .i64 (bndV rs r).num, .int .i64 (bndV rs r).b0, .int .i64 (bndV rs r).b1, .int .i64 (bndV rs r).i0, .int .i64 (bndV rs r).i1]) ∧ Below w.heap.size w w' := by
  have hkn := kindI_known hki
  rcases (by omega : r.kind = 1 ∨ r.kind = 2 ∨ r.kind = 3 ∨ r.kind = 4 ∨ r.kind = 5 ∨ r.kind = 6 ∨ r.kind = 7 ∨ r.kind = 8 ∨ r.kind = 9 ∨ r.kind = 10) with e | e | e | e | e | e | e | e | e | e
  · exact bnd_1 a rs cap k r w hl hk hr hki hrd e
  · exact bnd_2 a rs cap k r w hl hk hr hki hrd e
  · exact bnd_3 a rs cap k r w hl hk hr hki hrd e
  · exact bnd_4 a rs cap k r w hl hk hr hki hrd e
  · exact bnd_5 a rs cap k r w hl hk hr hki hrd e
  · exact bnd_6 a rs cap k r w hl hk hr hki hrd e
  · exact bnd_7 a rs cap k r w hl hk hr hki hrd e
  · exact bnd_8 a rs cap k r w hl hk hr hki hrd e
  · exact bnd_9 a rs cap k r w hl hk hr hki hrd e
  · exact bnd_10 a rs cap k r w hl hk hr hki hrd e
end Go.Proofs.Ytefkhknfjohnaaa
namespace Go.Proofs.Ytefkhknfjohnaaa
open Go Go.RowKit
def zeroVal : List Value := [.int .i64 0, .slice none 0 0, .slice none 0 0]
theorem make_vals (n : Nat) (hn : n ≤ 1073741824) (W : World) : (Instr.makeSlice 45 (.int .i64 (n : Int)) (.int .i64 (n : Int))).run Try.prog W = .ok (.slice (some ⟨W.heap.size, 0, none⟩) n n) (W.alloc (.cells (madeCells #[.int .i64 0, .slice none 0 0, .slice none 0 0] (n * 3)) 47)) := by
  obtain ⟨i0, hi, h⟩ := Option.map_eq_some_iff.1 infoVal
  simp only [Prod.mk.injEq] at h
  obtain ⟨hz0, hz1, hz2⟩ := h
  have hr := run_make (P := Try.prog) W 45 47 i0 _ Try.underlying45 hi hz0 .i64 .i64 (n : Int) (n : Int) (by omega) (by omega) (by rw [hz2]; omega) (by omega)
  rw [hr, hz1]
  simp [Value.cells]
/-- The first k values are copied into the row at block N. -/
def HalfT (n : Nat) (vs : List ValueV) (k N : Nat) (bls : List (List Nat)) (w W : World) : Prop :=
  Below w.heap.size w W ∧ N < W.heap.size ∧ bls.length = k ∧ (∀ j (h : j < vs.length) (h' : j < bls.length), ∃ cs', OwnT n bls[j] vs[j] cs' W ∧ ∀ i u, cs'[i]? = some u → W.cell? ⟨N, j * 3 + i, none⟩ = some u) ∧
    (∀ c, c < vs.length * 3 → W.frozen? ⟨N, c, none⟩ = false) ∧ (∀ j, k ≤ j → j < vs.length → ∀ i v, zeroVal[i]? = some v → W.cell? ⟨N, j * 3 + i, none⟩ = some v) ∧ bls.flatten.Nodup ∧ ∀ b ∈ bls.flatten, N < b ∧ b < W.heap.size
theorem HalfT.start (n : Nat) (vs : List ValueV) (t : TypeId) (w : World) : HalfT n vs 0 w.heap.size [] w (w.alloc (.cells (madeCells #[.int .i64 0, .slice none 0 0, .slice none 0 0] (vs.length * 3)) t)) := by
  refine ⟨(Below.refl _ _).alloc (Nat.le_refl _) _, by simp, rfl, fun j h h' => by simp at h', fun c _ => by simp, fun j _ hj i v hv => ?_, by simp, fun b hb => by simp at hb⟩
  have hi3 : i < 3 := by
    rcases Nat.lt_or_ge i 3 with h | h
    · exact h
    · rw [List.getElem?_eq_none (by simpa [zeroVal] using h)] at hv; cases hv
  refine (World.cell?_alloc_mark w _ t (0, 0) (j * 3 + i)).trans ?_
  rw [made_at _ _ (by omega)]
  have e : (j * 3 + i) % 3 = i := by omega
  show some (#[.int .i64 0, .slice none 0 0, .slice none 0 0] : Array Value)[(j * 3 + i) % 3]! = some v
  rw [e]
  rcases (by omega : i = 0 ∨ i = 1 ∨ i = 2) with rfl | rfl | rfl <;> exact hv
theorem HalfT.next {n : Nat} {vs : List ValueV} {k N : Nat} {bls : List (List Nat)} {bl : List Nat} {w W W1 : World} {cs : List Value} (h : HalfT n vs k N bls w W) (hN : w.heap.size ≤ N) (hk : k < vs.length) (hb : Below W.heap.size W W1) (hr : OwnT n bl vs[k] cs W1) (hbl : ∀ b ∈ bl, W.heap.size ≤ b) : HalfT n vs (k + 1) N (bls ++ [bl]) w (putList W1 N (k * 3) cs) := by
  obtain ⟨h1, h2, hl, ho, hf, hz, hn, hlt⟩ := h
  have hlen := hr.length
  have hs := hb.size
  have honly : Only [N] W1 (putList W1 N (k * 3) cs) := by
    have e : ∀ (l : List Value) (o : Nat) (V : World), Only [N] W1 V → Only [N] W1 (putList V N o l) := fun l => by
      induction l with
      | nil => intro o V h; exact h
      | cons v l ih => intro o V h; rw [putList]; exact ih _ _ (h.trans (Only.set (by simp)))
    exact e cs _ W1 (Only.refl _ _)
  have hzb : ∀ j, k ≤ j → j < vs.length → ∀ i v, zeroVal[i]? = some v → W1.cell? ⟨N, j * 3 + i, none⟩ = some v := fun j hj hj' i v hv => (hb.cell (p := ⟨N, j * 3 + i, none⟩) h2).trans (hz j hj hj' i v hv)
  have h3 : ∀ {i : Nat} {u : Value} {l : List Value}, l.length = 3 → l[i]? = some u → i < 3 := fun {i u l} hl hu => by
    rcases Nat.lt_or_ge i 3 with h | h
    · exact h
    · rw [List.getElem?_eq_none (by omega)] at hu; cases hu
  refine ⟨putList_below N cs _ _ _ _ (h1.trans (hb.mono h1.size)) hN, by rw [putList_size]; omega, by simp [hl], fun j hj hj' => ?_, fun c hc => ?_, fun j hj hj' i v hv => ?_, ?_, fun b hb2 => ?_⟩
  · by_cases hjk : j < bls.length
    · rw [List.getElem_append_left hjk]
      obtain ⟨cs', ho', hc'⟩ := ho j hj hjk
      refine ⟨cs', (ho'.below hb).keep honly fun b hb2 e => ?_, fun i u hu => ?_⟩
      · simp at e
        have := (hlt b (List.mem_flatten.2 ⟨_, List.getElem_mem hjk, hb2⟩)).1
        omega
      · have hi3 := h3 ho'.length hu
        rw [putList_far N _ cs _ _ (.inr (.inl (by show j * 3 + i < k * 3; omega)))]
        exact (hb.cell (p := ⟨N, j * 3 + i, none⟩) h2).trans (hc' i u hu)
    · have e : j = bls.length := by simp at hj'; omega
      subst e
      have e2 : (bls ++ [bl])[bls.length]'hj' = bl := by simp
      rw [e2]
      refine ⟨cs, ?_, fun i u hu => ?_⟩
      · have e3 : vs[bls.length]'hj = vs[k] := by congr 1
        rw [e3]
        exact hr.keep honly fun b hb2 e => by simp at e; have := hbl b hb2; omega
      · have hi3 := h3 hlen hu
        rw [hl]
        obtain ⟨z, hz2⟩ : ∃ z, zeroVal[i]? = some z := by
          rcases (by omega : i = 0 ∨ i = 1 ∨ i = 2) with rfl | rfl | rfl <;> exact ⟨_, rfl⟩
        exact putList_at N cs (k * 3) i W1 u z hu (hzb k (Nat.le_refl _) hk i z hz2)
  · rw [putList_frozen]
    exact (hb.frozen (p := ⟨N, c, none⟩) h2).trans (hf c hc)
  · have hi3 := h3 (l := zeroVal) rfl hv
    rw [putList_far N _ cs _ _ (.inr (.inr (by rw [hlen]; show k * 3 + 3 ≤ j * 3 + i; omega)))]
    exact hzb j (by omega) hj' i v hv
  · rw [List.flatten_append, List.flatten_cons, List.flatten_nil, List.append_nil]
    exact List.nodup_append.2 ⟨hn, hr.nodup, fun a ha b hb2 e => by have := (hlt a ha).2; have := hbl b hb2; omega⟩
  · rw [List.flatten_append, List.flatten_cons, List.flatten_nil, List.append_nil] at hb2
    rw [putList_size]
    rcases List.mem_append.1 hb2 with hb2 | hb2
    · have := hlt b hb2; omega
    · have := hr.lt b hb2; have := hbl b hb2; omega
/-- Values in new memory come back. -/
def ValsOut (n : Nat) (vs : List ValueV) (w : World) (e : Ending) (w' : World) : Prop :=
  ∃ x cp b0 bls, e = .returned (.slice x vs.length cp) ∧ OwnL n b0 bls x vs w' ∧ (b0 ++ bls.flatten).Nodup ∧ (∀ b ∈ b0 ++ bls.flatten, w.heap.size ≤ b) ∧ Below w.heap.size w w'
def ValOut (n : Nat) (v : ValueV) (w : World) (e : Ending) (w' : World) : Prop :=
  ∃ cs bl, e = .returned (.agg cs.toArray) ∧ OwnT n bl v cs w' ∧ (∀ b ∈ bl, w.heap.size ≤ b) ∧ Below w.heap.size w w'
theorem HalfT.end {n : Nat} {vs : List ValueV} {bls : List (List Nat)} {w W : World} (h : HalfT n vs vs.length w.heap.size bls w W) : ValsOut n vs w (.returned (.slice (some ⟨w.heap.size, 0, none⟩) vs.length vs.length)) W := by
  obtain ⟨h1, h2, hl, ho, hf, hz, hn, hlt⟩ := h
  by_cases hv : vs = []
  · subst hv
    have : bls = [] := List.eq_nil_of_length_eq_zero (by simpa using hl)
    subst this
    exact ⟨_, _, [], [], rfl, ⟨fun _ => rfl, rfl, fun j hj => by simp at hj⟩, by simp, fun b hb => by simp at hb, h1⟩
  · refine ⟨_, _, [w.heap.size], bls, rfl, ⟨fun e => absurd e hv, hl, fun j hj hj' => ?_⟩, ?_, fun b hb => ?_, h1⟩
    · obtain ⟨cs', ho', hc'⟩ := ho j hj hj'
      refine ⟨_, 0, cs', rfl, rfl, ho', fun i u hu => ?_⟩
      have hi3 : i < 3 := by
        have := ho'.length
        rcases Nat.lt_or_ge i 3 with h | h
        · exact h
        · rw [List.getElem?_eq_none (by omega)] at hu; cases hu
      rw [Nat.zero_add]
      exact ⟨hc' i u hu, hf _ (by omega)⟩
    · refine List.nodup_append.2 ⟨by simp, hn, fun a ha b hb e => ?_⟩
      simp at ha
      have := (hlt b hb).1
      omega
    · rcases List.mem_append.1 hb with hb | hb
      · simp at hb; omega
      · have := (hlt b hb).1; omega
end Go.Proofs.Ytefkhknfjohnaaa
namespace Go.Proofs.Ytefkhknfjohnaaa
open Go Go.RowKit
set_option maxRecDepth 100000 in
set_option maxHeartbeats 8000000 in
theorem fit_impl (B : BndV) (v : ValueV) (b o : Nat) (ab : Option Addr) (cb : Nat) (ai : Option Addr) (ci : Nat) (w : World) (x0 : w.cell? ⟨b, o, none⟩ = some (.int .i64 v.number)) (x1 : w.cell? ⟨b, o + 1, none⟩ = some (.slice ab v.bytes.length cb)) (x2 : w.cell? ⟨b, o + 2, none⟩ = some (.slice ai v.items.length ci)) :
    Calls Try.prog 75 #[.pointer (some ⟨b, o, none⟩), .agg #[.int .i64 B.num, .int .i64 B.b0, .int .i64 B.b1, .int .i64 B.i0, .int .i64 B.i1]] w fun e w' => e = .returned (.bool (fitB B v)) ∧ Below w.heap.size w w' := by
  obtain ⟨n0, n1, n2, n3, n4⟩ := B
  simp only []
  have hdef : fitB ⟨n0, n1, n2, n3, n4⟩ v = (decide (0 ≤ v.number ∧ v.number ≤ n0) && (decide (n1 ≤ (v.bytes.length : Int) ∧ (v.bytes.length : Int) ≤ n2) && decide (n3 ≤ (v.items.length : Int) ∧ (v.items.length : Int) ≤ n4))) := rfl
  obtain ⟨x, hx⟩ : ∃ x, x = v.number := ⟨_, rfl⟩
  obtain ⟨bl, hbl⟩ : ∃ bl, bl = v.bytes.length := ⟨_, rfl⟩
  obtain ⟨il, hil⟩ : ∃ il, il = v.items.length := ⟨_, rfl⟩
  rw [← hx] at x0 hdef
  rw [← hbl] at x1 hdef
  rw [← hil] at x2 hdef
  obtain ⟨c0, h0⟩ : ∃ c, c = decide (0 ≤ x ∧ x ≤ n0) := ⟨_, rfl⟩
  obtain ⟨c1, h1⟩ : ∃ c, c = decide (n1 ≤ (bl : Int) ∧ (bl : Int) ≤ n2) := ⟨_, rfl⟩
  obtain ⟨c2, h2⟩ : ∃ c, c = decide (n3 ≤ (il : Int) ∧ (il : Int) ≤ n4) := ⟨_, rfl⟩
  rw [← h0, ← h1, ← h2] at hdef
  have HDEF := Lib.hid hdef
  have H0 := Lib.hid h0.symm
  have H1 := Lib.hid h1.symm
  have H2 := Lib.hid h2.symm
  obtain ⟨w0, hw0⟩ : ∃ w0, w0 = w.alloc (.cells #[.int .i64 n0, .int .i64 n1, .int .i64 n2, .int .i64 n3, .int .i64 n4] 100) := ⟨_, rfl⟩
  have hB : Below w.heap.size w w0 := by subst hw0; exact (Below.refl _ _).alloc (Nat.le_refl _) _
  have hD : CellsAt w.heap.size [.int .i64 n0, .int .i64 n1, .int .i64 n2, .int .i64 n3, .int .i64 n4] w0 := by subst hw0; exact CellsAt.new w _ _
  have HS : Hid ((w0.drewN 1).cell? ⟨b, o, none⟩ = some (.int .i64 x) ∧ (w0.drewN 1).cell? ⟨b, o + 1, none⟩ = some (.slice ab bl cb) ∧ (w0.drewN 1).cell? ⟨b, o + 2, none⟩ = some (.slice ai il ci) ∧ (w0.drewN 1).cell? ⟨w.heap.size, 0, none⟩ = some (.int .i64 n0) ∧ (w0.drewN 1).cell? ⟨w.heap.size, 1, none⟩ = some (.int .i64 n1) ∧ (w0.drewN 1).cell? ⟨w.heap.size, 2, none⟩ = some (.int .i64 n2) ∧ (w0.drewN 1).cell? ⟨w.heap.size, 3, none⟩ = some (.int .i64 n3) ∧ (w0.drewN 1).cell? ⟨w.heap.size, 4, none⟩ = some (.int .i64 n4)) := ⟨cell_keepV (below_drewN hB 1) x0, cell_keepV (below_drewN hB 1) x1, cell_keepV (below_drewN hB 1) x2, (hD.below (below_drewN (Below.refl _ _) 1) 0 _ rfl).1, (hD.below (below_drewN (Below.refl _ _) 1) 1 _ rfl).1, (hD.below (below_drewN (Below.refl _ _) 1) 2 _ rfl).1, (hD.below (below_drewN (Below.refl _ _) 1) 3 _ rfl).1, (hD.below (below_drewN (Below.refl _ _) 1) 4 _ rfl).1⟩
  have HBW : Hid (Below w.heap.size w w0.drew) := below_drewN hB 1
  have HW := Lib.hid hw0
  clear hdef hx hbl hil h0 h1 h2 hB hD hw0 x0 x1 x2
  cases c0 with
  | false =>
    have hr : Hid (fitB ⟨n0, n1, n2, n3, n4⟩ v = false) := by show _ = _; rw [HDEF.out]; first | rfl | simp
    go_enter Try.func75, Try.ntmps75
    go_upto_region 1 with fail
    rw [← HW.out]
    clear HW
    refine wp_region_held_drew (S := (fun W => W.cell? ⟨b, o, none⟩ = some (.int .i64 x) ∧ W.cell? ⟨b, o + 1, none⟩ = some (.slice ab bl cb) ∧ W.cell? ⟨b, o + 2, none⟩ = some (.slice ai il ci) ∧ W.cell? ⟨w.heap.size, 0, none⟩ = some (.int .i64 n0) ∧ W.cell? ⟨w.heap.size, 1, none⟩ = some (.int .i64 n1) ∧ W.cell? ⟨w.heap.size, 2, none⟩ = some (.int .i64 n2) ∧ W.cell? ⟨w.heap.size, 3, none⟩ = some (.int .i64 n3) ∧ W.cell? ⟨w.heap.size, 4, none⟩ = some (.int .i64 n4))) (by kernel_rfl) ?_ (fun hHeld => ?_)
    · (try dsimp only); exact HS.out
    refine wpAnyH_take (i := 0) (v := ?v1) (by simp only [List.getElem?_toArray, List.getElem?_cons_zero]; rfl) (by kernel_rfl) (by kernel_rfl) (by kernel_rfl) (by exact fun _ _ _ h => h) (Or.inl ⟨by rfl, ?hy1⟩) (by assumption) ?rest1
    case hy1 => ((intro W hSw; (try dsimp only at hSw); go_simp); (try with_reducible rfl))
    simp only [Act.put, List.setIfInBounds_toArray, List.set_cons_zero, List.set_cons_succ]
    refine wpAnyH_take (i := 1) (v := ?v2) (by simp only [List.getElem?_toArray, List.getElem?_cons_succ, List.getElem?_cons_zero]; rfl) (by kernel_rfl) (by kernel_rfl) (by kernel_rfl) (by exact fun _ _ _ h => h) (Or.inl ⟨by rfl, ?hy2⟩) (by assumption) ?rest2
    case hy2 => ((intro W hSw; (try dsimp only at hSw); go_simp); (try with_reducible rfl))
    simp only [Act.put, List.setIfInBounds_toArray, List.set_cons_zero, List.set_cons_succ]
    refine wpAnyH_take (i := 2) (v := ?v3) (by simp only [List.getElem?_toArray, List.getElem?_cons_succ, List.getElem?_cons_zero]; rfl) (by kernel_rfl) (by kernel_rfl) (by kernel_rfl) (by exact fun _ _ _ h => h) (Or.inl ⟨by rfl, ?hy3⟩) (by assumption) ?rest3
    case hy3 => ((intro W hSw; (try dsimp only at hSw); go_simp); (try with_reducible rfl))
    simp only [Act.put, List.setIfInBounds_toArray, List.set_cons_zero, List.set_cons_succ]
    refine wpAnyH_take (i := 3) (v := ?v4) (by simp only [List.getElem?_toArray, List.getElem?_cons_succ, List.getElem?_cons_zero]; rfl) (by kernel_rfl) (by kernel_rfl) (by kernel_rfl) (by exact fun _ _ _ h => h) (Or.inl ⟨by rfl, ?hy4⟩) (by assumption) ?rest4
    case hy4 => ((intro W hSw; (try dsimp only at hSw); go_simp); (try with_reducible rfl))
    simp only [Act.put, List.setIfInBounds_toArray, List.set_cons_zero, List.set_cons_succ]
    refine wpAnyH_take (i := 4) (v := ?v5) (by simp only [List.getElem?_toArray, List.getElem?_cons_succ, List.getElem?_cons_zero]; rfl) (by kernel_rfl) (by kernel_rfl) (by kernel_rfl) (by exact fun _ _ _ h => h) (Or.inl ⟨by rfl, ?hy5⟩) (by assumption) ?rest5
    case hy5 => ((intro W hSw; (try dsimp only at hSw); go_simp); (try with_reducible rfl))
    simp only [Act.put, List.setIfInBounds_toArray, List.set_cons_zero, List.set_cons_succ]
    refine wpAnyH_take (i := 5) (v := ?v6) (by simp only [List.getElem?_toArray, List.getElem?_cons_succ, List.getElem?_cons_zero]; rfl) (by kernel_rfl) (by kernel_rfl) (by kernel_rfl) (by exact fun _ _ _ h => h) (Or.inl ⟨by rfl, ?hy6⟩) (by assumption) ?rest6
    case hy6 => ((intro W hSw; (try dsimp only at hSw); go_simp); (try with_reducible rfl))
    simp only [Act.put, List.setIfInBounds_toArray, List.set_cons_zero, List.set_cons_succ]
    refine wpAnyH_ready (rs := [6]) (by kernel_rfl) (by simp) ?_
    refine AllReadyH.cons (by simp only [List.getElem?_toArray, List.getElem?_cons_succ, List.getElem?_cons_zero]; rfl) (fun K hK => ?_) AllReadyH.nil
    go_simp
    (go_at_call 34; refine (inI_any _ _ _ false _ H0.out).mono ?_; rintro e wx ⟨rfl, rfl⟩)
    go_wp2_with fail
    refine hK.out _ _ ?_ (fun hHeld => ?_)
    · (try dsimp only); exact HS.out
    clear hK K
    refine wpAnyH_take (i := 7) (v := ?v7) (by simp only [List.getElem?_toArray, List.getElem?_cons_succ, List.getElem?_cons_zero]; rfl) (by kernel_rfl) (by kernel_rfl) (by kernel_rfl) (by exact fun _ _ _ h => h) (Or.inl ⟨by rfl, ?hy7⟩) (by assumption) ?rest7
    case hy7 => ((intro W hSw; (try dsimp only at hSw); go_simp); (try with_reducible rfl))
    simp only [Act.put, List.setIfInBounds_toArray, List.set_cons_zero, List.set_cons_succ]
    refine wpAnyH_take (i := 8) (v := undef) (by simp only [List.getElem?_toArray, List.getElem?_cons_succ, List.getElem?_cons_zero]; rfl) (by kernel_rfl) (by kernel_rfl) (by kernel_rfl) (by exact fun _ _ _ h => h) (Or.inr ⟨by rfl, rfl⟩) (by assumption) ?_
    simp only [Act.put, List.setIfInBounds_toArray, List.set_cons_zero, List.set_cons_succ]
    refine wpAnyH_take (i := 9) (v := undef) (by simp only [List.getElem?_toArray, List.getElem?_cons_succ, List.getElem?_cons_zero]; rfl) (by kernel_rfl) (by kernel_rfl) (by kernel_rfl) (by exact fun _ _ _ h => h) (Or.inr ⟨by rfl, rfl⟩) (by assumption) ?_
    simp only [Act.put, List.setIfInBounds_toArray, List.set_cons_zero, List.set_cons_succ]
    refine wpAnyH_take (i := 10) (v := undef) (by simp only [List.getElem?_toArray, List.getElem?_cons_succ, List.getElem?_cons_zero]; rfl) (by kernel_rfl) (by kernel_rfl) (by kernel_rfl) (by exact fun _ _ _ h => h) (Or.inr ⟨by rfl, rfl⟩) (by assumption) ?_
    simp only [Act.put, List.setIfInBounds_toArray, List.set_cons_zero, List.set_cons_succ]
    refine wpAnyH_take (i := 11) (v := undef) (by simp only [List.getElem?_toArray, List.getElem?_cons_succ, List.getElem?_cons_zero]; rfl) (by kernel_rfl) (by kernel_rfl) (by kernel_rfl) (by exact fun _ _ _ h => h) (Or.inr ⟨by rfl, rfl⟩) (by assumption) ?_
    simp only [Act.put, List.setIfInBounds_toArray, List.set_cons_zero, List.set_cons_succ]
    refine wpAnyH_take (i := 12) (v := undef) (by simp only [List.getElem?_toArray, List.getElem?_cons_succ, List.getElem?_cons_zero]; rfl) (by kernel_rfl) (by kernel_rfl) (by kernel_rfl) (by exact fun _ _ _ h => h) (Or.inr ⟨by rfl, rfl⟩) (by assumption) ?_
    simp only [Act.put, List.setIfInBounds_toArray, List.set_cons_zero, List.set_cons_succ]
    refine wpAnyH_take (i := 13) (v := undef) (by simp only [List.getElem?_toArray, List.getElem?_cons_succ, List.getElem?_cons_zero]; rfl) (by kernel_rfl) (by kernel_rfl) (by kernel_rfl) (by exact fun _ _ _ h => h) (Or.inr ⟨by rfl, rfl⟩) (by assumption) ?_
    simp only [Act.put, List.setIfInBounds_toArray, List.set_cons_zero, List.set_cons_succ]
    refine wpAnyH_take (i := 14) (v := undef) (by simp only [List.getElem?_toArray, List.getElem?_cons_succ, List.getElem?_cons_zero]; rfl) (by kernel_rfl) (by kernel_rfl) (by kernel_rfl) (by exact fun _ _ _ h => h) (Or.inr ⟨by rfl, rfl⟩) (by assumption) ?_
    simp only [Act.put, List.setIfInBounds_toArray, List.set_cons_zero, List.set_cons_succ]
    refine wpAnyH_take (i := 15) (v := undef) (by simp only [List.getElem?_toArray, List.getElem?_cons_succ, List.getElem?_cons_zero]; rfl) (by kernel_rfl) (by kernel_rfl) (by kernel_rfl) (by exact fun _ _ _ h => h) (Or.inr ⟨by rfl, rfl⟩) (by assumption) ?_
    simp only [Act.put, List.setIfInBounds_toArray, List.set_cons_zero, List.set_cons_succ]
    refine wpAnyH_take (i := 16) (v := undef) (by simp only [List.getElem?_toArray, List.getElem?_cons_succ, List.getElem?_cons_zero]; rfl) (by kernel_rfl) (by kernel_rfl) (by kernel_rfl) (by exact fun _ _ _ h => h) (Or.inr ⟨by rfl, rfl⟩) (by assumption) ?_
    simp only [Act.put, List.setIfInBounds_toArray, List.set_cons_zero, List.set_cons_succ]
    refine wpAnyH_take (i := 17) (v := undef) (by simp only [List.getElem?_toArray, List.getElem?_cons_succ, List.getElem?_cons_zero]; rfl) (by kernel_rfl) (by kernel_rfl) (by kernel_rfl) (by exact fun _ _ _ h => h) (Or.inr ⟨by rfl, rfl⟩) (by assumption) ?_
    simp only [Act.put, List.setIfInBounds_toArray, List.set_cons_zero, List.set_cons_succ]
    refine wpAnyH_take (i := 18) (v := ?v8) (by simp only [List.getElem?_toArray, List.getElem?_cons_succ, List.getElem?_cons_zero]; rfl) (by kernel_rfl) (by kernel_rfl) (by kernel_rfl) (by exact fun _ _ _ h => h) (Or.inl ⟨by rfl, ?hy8⟩) (by assumption) ?rest8
    case hy8 => ((intro W hSw; (try dsimp only at hSw); go_simp); (try with_reducible rfl))
    simp only [Act.put, List.setIfInBounds_toArray, List.set_cons_zero, List.set_cons_succ]
    refine wpAnyH_take (i := 19) (v := ?v9) (by simp only [List.getElem?_toArray, List.getElem?_cons_succ, List.getElem?_cons_zero]; rfl) (by kernel_rfl) (by kernel_rfl) (by kernel_rfl) (by exact fun _ _ _ h => h) (Or.inl ⟨by rfl, ?hy9⟩) (by assumption) ?rest9
    case hy9 => ((intro W hSw; (try dsimp only at hSw); go_simp); (try with_reducible rfl))
    simp only [Act.put, List.setIfInBounds_toArray, List.set_cons_zero, List.set_cons_succ]
    refine wpAnyH_take (i := 20) (v := undef) (by simp only [List.getElem?_toArray, List.getElem?_cons_succ, List.getElem?_cons_zero]; rfl) (by kernel_rfl) (by kernel_rfl) (by kernel_rfl) (by exact fun _ _ _ h => h) (Or.inr ⟨by rfl, rfl⟩) (by assumption) ?_
    simp only [Act.put, List.setIfInBounds_toArray, List.set_cons_zero, List.set_cons_succ]
    refine wpAnyH_take (i := 21) (v := undef) (by simp only [List.getElem?_toArray, List.getElem?_cons_succ, List.getElem?_cons_zero]; rfl) (by kernel_rfl) (by kernel_rfl) (by kernel_rfl) (by exact fun _ _ _ h => h) (Or.inr ⟨by rfl, rfl⟩) (by assumption) ?_
    simp only [Act.put, List.setIfInBounds_toArray, List.set_cons_zero, List.set_cons_succ]
    refine wpAnyH_take (i := 22) (v := undef) (by simp only [List.getElem?_toArray, List.getElem?_cons_succ, List.getElem?_cons_zero]; rfl) (by kernel_rfl) (by kernel_rfl) (by kernel_rfl) (by exact fun _ _ _ h => h) (Or.inr ⟨by rfl, rfl⟩) (by assumption) ?_
    simp only [Act.put, List.setIfInBounds_toArray, List.set_cons_zero, List.set_cons_succ]
    refine wpAnyH_take (i := 23) (v := undef) (by simp only [List.getElem?_toArray, List.getElem?_cons_succ, List.getElem?_cons_zero]; rfl) (by kernel_rfl) (by kernel_rfl) (by kernel_rfl) (by exact fun _ _ _ h => h) (Or.inr ⟨by rfl, rfl⟩) (by assumption) ?_
    simp only [Act.put, List.setIfInBounds_toArray, List.set_cons_zero, List.set_cons_succ]
    refine wpAnyH_take (i := 24) (v := undef) (by simp only [List.getElem?_toArray, List.getElem?_cons_succ, List.getElem?_cons_zero]; rfl) (by kernel_rfl) (by kernel_rfl) (by kernel_rfl) (by exact fun _ _ _ h => h) (Or.inr ⟨by rfl, rfl⟩) (by assumption) ?_
    simp only [Act.put, List.setIfInBounds_toArray, List.set_cons_zero, List.set_cons_succ]
    refine wpAnyH_take (i := 25) (v := undef) (by simp only [List.getElem?_toArray, List.getElem?_cons_succ, List.getElem?_cons_zero]; rfl) (by kernel_rfl) (by kernel_rfl) (by kernel_rfl) (by exact fun _ _ _ h => h) (Or.inr ⟨by rfl, rfl⟩) (by assumption) ?_
    simp only [Act.put, List.setIfInBounds_toArray, List.set_cons_zero, List.set_cons_succ]
    refine wpAnyH_take (i := 26) (v := undef) (by simp only [List.getElem?_toArray, List.getElem?_cons_succ, List.getElem?_cons_zero]; rfl) (by kernel_rfl) (by kernel_rfl) (by kernel_rfl) (by exact fun _ _ _ h => h) (Or.inr ⟨by rfl, rfl⟩) (by assumption) ?_
    simp only [Act.put, List.setIfInBounds_toArray, List.set_cons_zero, List.set_cons_succ]
    refine wpAnyH_take (i := 27) (v := undef) (by simp only [List.getElem?_toArray, List.getElem?_cons_succ, List.getElem?_cons_zero]; rfl) (by kernel_rfl) (by kernel_rfl) (by kernel_rfl) (by exact fun _ _ _ h => h) (Or.inr ⟨by rfl, rfl⟩) (by assumption) ?_
    simp only [Act.put, List.setIfInBounds_toArray, List.set_cons_zero, List.set_cons_succ]
    refine wpAnyH_take (i := 28) (v := undef) (by simp only [List.getElem?_toArray, List.getElem?_cons_succ, List.getElem?_cons_zero]; rfl) (by kernel_rfl) (by kernel_rfl) (by kernel_rfl) (by exact fun _ _ _ h => h) (Or.inr ⟨by rfl, rfl⟩) (by assumption) ?_
    simp only [Act.put, List.setIfInBounds_toArray, List.set_cons_zero, List.set_cons_succ]
    refine wpAnyH_take (i := 29) (v := undef) (by simp only [List.getElem?_toArray, List.getElem?_cons_succ, List.getElem?_cons_zero]; rfl) (by kernel_rfl) (by kernel_rfl) (by kernel_rfl) (by exact fun _ _ _ h => h) (Or.inr ⟨by rfl, rfl⟩) (by assumption) ?_
    simp only [Act.put, List.setIfInBounds_toArray, List.set_cons_zero, List.set_cons_succ]
    refine wpAnyH_take (i := 30) (v := ?v10) (by simp only [List.getElem?_toArray, List.getElem?_cons_succ, List.getElem?_cons_zero]; rfl) (by kernel_rfl) (by kernel_rfl) (by kernel_rfl) (by exact fun _ _ _ h => h) (Or.inl ⟨by rfl, ?hy10⟩) (by assumption) ?rest10
    case hy10 => ((intro W hSw; (try dsimp only at hSw); go_simp); (try with_reducible rfl))
    simp only [Act.put, List.setIfInBounds_toArray, List.set_cons_zero, List.set_cons_succ]
    refine wpAnyH_take (i := 31) (v := ?v11) (by simp only [List.getElem?_toArray, List.getElem?_cons_succ, List.getElem?_cons_zero]; rfl) (by kernel_rfl) (by kernel_rfl) (by kernel_rfl) (by exact fun _ _ _ h => h) (Or.inl ⟨by rfl, ?hy11⟩) (by assumption) ?rest11
    case hy11 => ((intro W hSw; (try dsimp only at hSw); go_simp); (try with_reducible rfl))
    simp only [Act.put, List.setIfInBounds_toArray, List.set_cons_zero, List.set_cons_succ]
    refine wpAnyH_done (by kernel_rfl) ?_ _
    go_wp2
    go_ret
    exact ⟨ret_bool hr.out.symm, HBW.out⟩
  | true =>
    cases c1 with
    | false =>
      have hr : Hid (fitB ⟨n0, n1, n2, n3, n4⟩ v = false) := by show _ = _; rw [HDEF.out]; first | rfl | simp
      go_enter Try.func75, Try.ntmps75
      go_upto_region 1 with fail
      rw [← HW.out]
      clear HW
      refine wp_region_held_drew (S := (fun W => W.cell? ⟨b, o, none⟩ = some (.int .i64 x) ∧ W.cell? ⟨b, o + 1, none⟩ = some (.slice ab bl cb) ∧ W.cell? ⟨b, o + 2, none⟩ = some (.slice ai il ci) ∧ W.cell? ⟨w.heap.size, 0, none⟩ = some (.int .i64 n0) ∧ W.cell? ⟨w.heap.size, 1, none⟩ = some (.int .i64 n1) ∧ W.cell? ⟨w.heap.size, 2, none⟩ = some (.int .i64 n2) ∧ W.cell? ⟨w.heap.size, 3, none⟩ = some (.int .i64 n3) ∧ W.cell? ⟨w.heap.size, 4, none⟩ = some (.int .i64 n4))) (by kernel_rfl) ?_ (fun hHeld => ?_)
      · (try dsimp only); exact HS.out
      refine wpAnyH_take (i := 0) (v := ?v12) (by simp only [List.getElem?_toArray, List.getElem?_cons_zero]; rfl) (by kernel_rfl) (by kernel_rfl) (by kernel_rfl) (by exact fun _ _ _ h => h) (Or.inl ⟨by rfl, ?hy12⟩) (by assumption) ?rest12
      case hy12 => ((intro W hSw; (try dsimp only at hSw); go_simp); (try with_reducible rfl))
      simp only [Act.put, List.setIfInBounds_toArray, List.set_cons_zero, List.set_cons_succ]
      refine wpAnyH_take (i := 1) (v := ?v13) (by simp only [List.getElem?_toArray, List.getElem?_cons_succ, List.getElem?_cons_zero]; rfl) (by kernel_rfl) (by kernel_rfl) (by kernel_rfl) (by exact fun _ _ _ h => h) (Or.inl ⟨by rfl, ?hy13⟩) (by assumption) ?rest13
      case hy13 => ((intro W hSw; (try dsimp only at hSw); go_simp); (try with_reducible rfl))
      simp only [Act.put, List.setIfInBounds_toArray, List.set_cons_zero, List.set_cons_succ]
      refine wpAnyH_take (i := 2) (v := ?v14) (by simp only [List.getElem?_toArray, List.getElem?_cons_succ, List.getElem?_cons_zero]; rfl) (by kernel_rfl) (by kernel_rfl) (by kernel_rfl) (by exact fun _ _ _ h => h) (Or.inl ⟨by rfl, ?hy14⟩) (by assumption) ?rest14
      case hy14 => ((intro W hSw; (try dsimp only at hSw); go_simp); (try with_reducible rfl))
      simp only [Act.put, List.setIfInBounds_toArray, List.set_cons_zero, List.set_cons_succ]
      refine wpAnyH_take (i := 3) (v := ?v15) (by simp only [List.getElem?_toArray, List.getElem?_cons_succ, List.getElem?_cons_zero]; rfl) (by kernel_rfl) (by kernel_rfl) (by kernel_rfl) (by exact fun _ _ _ h => h) (Or.inl ⟨by rfl, ?hy15⟩) (by assumption) ?rest15
      case hy15 => ((intro W hSw; (try dsimp only at hSw); go_simp); (try with_reducible rfl))
      simp only [Act.put, List.setIfInBounds_toArray, List.set_cons_zero, List.set_cons_succ]
      refine wpAnyH_take (i := 4) (v := ?v16) (by simp only [List.getElem?_toArray, List.getElem?_cons_succ, List.getElem?_cons_zero]; rfl) (by kernel_rfl) (by kernel_rfl) (by kernel_rfl) (by exact fun _ _ _ h => h) (Or.inl ⟨by rfl, ?hy16⟩) (by assumption) ?rest16
      case hy16 => ((intro W hSw; (try dsimp only at hSw); go_simp); (try with_reducible rfl))
      simp only [Act.put, List.setIfInBounds_toArray, List.set_cons_zero, List.set_cons_succ]
      refine wpAnyH_take (i := 5) (v := ?v17) (by simp only [List.getElem?_toArray, List.getElem?_cons_succ, List.getElem?_cons_zero]; rfl) (by kernel_rfl) (by kernel_rfl) (by kernel_rfl) (by exact fun _ _ _ h => h) (Or.inl ⟨by rfl, ?hy17⟩) (by assumption) ?rest17
      case hy17 => ((intro W hSw; (try dsimp only at hSw); go_simp); (try with_reducible rfl))
      simp only [Act.put, List.setIfInBounds_toArray, List.set_cons_zero, List.set_cons_succ]
      refine wpAnyH_ready (rs := [6]) (by kernel_rfl) (by simp) ?_
      refine AllReadyH.cons (by simp only [List.getElem?_toArray, List.getElem?_cons_succ, List.getElem?_cons_zero]; rfl) (fun K hK => ?_) AllReadyH.nil
      go_simp
      (go_at_call 34; refine (inI_any _ _ _ true _ H0.out).mono ?_; rintro e wx ⟨rfl, rfl⟩)
      go_wp2_with fail
      refine hK.out _ _ ?_ (fun hHeld => ?_)
      · (try dsimp only); exact HS.out
      clear hK K
      refine wpAnyH_take (i := 7) (v := ?v18) (by simp only [List.getElem?_toArray, List.getElem?_cons_succ, List.getElem?_cons_zero]; rfl) (by kernel_rfl) (by kernel_rfl) (by kernel_rfl) (by exact fun _ _ _ h => h) (Or.inl ⟨by rfl, ?hy18⟩) (by assumption) ?rest18
      case hy18 => ((intro W hSw; (try dsimp only at hSw); go_simp); (try with_reducible rfl))
      simp only [Act.put, List.setIfInBounds_toArray, List.set_cons_zero, List.set_cons_succ]
      refine wpAnyH_take (i := 8) (v := ?v19) (by simp only [List.getElem?_toArray, List.getElem?_cons_succ, List.getElem?_cons_zero]; rfl) (by kernel_rfl) (by kernel_rfl) (by kernel_rfl) (by exact fun _ _ _ h => h) (Or.inl ⟨by rfl, ?hy19⟩) (by assumption) ?rest19
      case hy19 => ((intro W hSw; (try dsimp only at hSw); go_simp); (try with_reducible rfl))
      simp only [Act.put, List.setIfInBounds_toArray, List.set_cons_zero, List.set_cons_succ]
      refine wpAnyH_take (i := 9) (v := ?v20) (by simp only [List.getElem?_toArray, List.getElem?_cons_succ, List.getElem?_cons_zero]; rfl) (by kernel_rfl) (by kernel_rfl) (by kernel_rfl) (by exact fun _ _ _ h => h) (Or.inl ⟨by rfl, ?hy20⟩) (by assumption) ?rest20
      case hy20 => ((intro W hSw; (try dsimp only at hSw); go_simp); (try with_reducible rfl))
      simp only [Act.put, List.setIfInBounds_toArray, List.set_cons_zero, List.set_cons_succ]
      refine wpAnyH_take (i := 10) (v := ?v21) (by simp only [List.getElem?_toArray, List.getElem?_cons_succ, List.getElem?_cons_zero]; rfl) (by kernel_rfl) (by kernel_rfl) (by kernel_rfl) (by exact fun _ _ _ h => h) (Or.inl ⟨by rfl, ?hy21⟩) (by assumption) ?rest21
      case hy21 => ((intro W hSw; (try dsimp only at hSw); go_simp); (try with_reducible rfl))
      simp only [Act.put, List.setIfInBounds_toArray, List.set_cons_zero, List.set_cons_succ]
      refine wpAnyH_take (i := 11) (v := ?v22) (by simp only [List.getElem?_toArray, List.getElem?_cons_succ, List.getElem?_cons_zero]; rfl) (by kernel_rfl) (by kernel_rfl) (by kernel_rfl) (by exact fun _ _ _ h => h) (Or.inl ⟨by rfl, ?hy22⟩) (by assumption) ?rest22
      case hy22 => ((intro W hSw; (try dsimp only at hSw); go_simp); (try with_reducible rfl))
      simp only [Act.put, List.setIfInBounds_toArray, List.set_cons_zero, List.set_cons_succ]
      refine wpAnyH_take (i := 12) (v := ?v23) (by simp only [List.getElem?_toArray, List.getElem?_cons_succ, List.getElem?_cons_zero]; rfl) (by kernel_rfl) (by kernel_rfl) (by kernel_rfl) (by exact fun _ _ _ h => h) (Or.inl ⟨by rfl, ?hy23⟩) (by assumption) ?rest23
      case hy23 => ((intro W hSw; (try dsimp only at hSw); go_simp); (try with_reducible rfl))
      simp only [Act.put, List.setIfInBounds_toArray, List.set_cons_zero, List.set_cons_succ]
      refine wpAnyH_take (i := 13) (v := ?v24) (by simp only [List.getElem?_toArray, List.getElem?_cons_succ, List.getElem?_cons_zero]; rfl) (by kernel_rfl) (by kernel_rfl) (by kernel_rfl) (by exact fun _ _ _ h => h) (Or.inl ⟨by rfl, ?hy24⟩) (by assumption) ?rest24
      case hy24 => ((intro W hSw; (try dsimp only at hSw); go_simp); (try with_reducible rfl))
      simp only [Act.put, List.setIfInBounds_toArray, List.set_cons_zero, List.set_cons_succ]
      refine wpAnyH_take (i := 14) (v := ?v25) (by simp only [List.getElem?_toArray, List.getElem?_cons_succ, List.getElem?_cons_zero]; rfl) (by kernel_rfl) (by kernel_rfl) (by kernel_rfl) (by exact fun _ _ _ h => h) (Or.inl ⟨by rfl, ?hy25⟩) (by assumption) ?rest25
      case hy25 => ((intro W hSw; (try dsimp only at hSw); go_simp); (try with_reducible rfl))
      simp only [Act.put, List.setIfInBounds_toArray, List.set_cons_zero, List.set_cons_succ]
      refine wpAnyH_take (i := 15) (v := ?v26) (by simp only [List.getElem?_toArray, List.getElem?_cons_succ, List.getElem?_cons_zero]; rfl) (by kernel_rfl) (by kernel_rfl) (by kernel_rfl) (by exact fun _ _ _ h => h) (Or.inl ⟨by rfl, ?hy26⟩) (by assumption) ?rest26
      case hy26 => ((intro W hSw; (try dsimp only at hSw); go_simp); (try with_reducible rfl))
      simp only [Act.put, List.setIfInBounds_toArray, List.set_cons_zero, List.set_cons_succ]
      refine wpAnyH_take (i := 16) (v := ?v27) (by simp only [List.getElem?_toArray, List.getElem?_cons_succ, List.getElem?_cons_zero]; rfl) (by kernel_rfl) (by kernel_rfl) (by kernel_rfl) (by exact fun _ _ _ h => h) (Or.inl ⟨by rfl, ?hy27⟩) (by assumption) ?rest27
      case hy27 => ((intro W hSw; (try dsimp only at hSw); go_simp); (try with_reducible rfl))
      simp only [Act.put, List.setIfInBounds_toArray, List.set_cons_zero, List.set_cons_succ]
      refine wpAnyH_ready (rs := [17]) (by kernel_rfl) (by simp) ?_
      refine AllReadyH.cons (by simp only [List.getElem?_toArray, List.getElem?_cons_succ, List.getElem?_cons_zero]; rfl) (fun K hK => ?_) AllReadyH.nil
      go_simp
      (go_at_call 34; refine (inI_any _ _ _ false _ H1.out).mono ?_; rintro e wx ⟨rfl, rfl⟩)
      go_wp2_with fail
      refine hK.out _ _ ?_ (fun hHeld => ?_)
      · (try dsimp only); exact HS.out
      clear hK K
      refine wpAnyH_take (i := 18) (v := ?v28) (by simp only [List.getElem?_toArray, List.getElem?_cons_succ, List.getElem?_cons_zero]; rfl) (by kernel_rfl) (by kernel_rfl) (by kernel_rfl) (by exact fun _ _ _ h => h) (Or.inl ⟨by rfl, ?hy28⟩) (by assumption) ?rest28
      case hy28 => ((intro W hSw; (try dsimp only at hSw); go_simp); (try with_reducible rfl))
      simp only [Act.put, List.setIfInBounds_toArray, List.set_cons_zero, List.set_cons_succ]
      refine wpAnyH_take (i := 19) (v := ?v29) (by simp only [List.getElem?_toArray, List.getElem?_cons_succ, List.getElem?_cons_zero]; rfl) (by kernel_rfl) (by kernel_rfl) (by kernel_rfl) (by exact fun _ _ _ h => h) (Or.inl ⟨by rfl, ?hy29⟩) (by assumption) ?rest29
      case hy29 => ((intro W hSw; (try dsimp only at hSw); go_simp); (try with_reducible rfl))
      simp only [Act.put, List.setIfInBounds_toArray, List.set_cons_zero, List.set_cons_succ]
      refine wpAnyH_take (i := 20) (v := undef) (by simp only [List.getElem?_toArray, List.getElem?_cons_succ, List.getElem?_cons_zero]; rfl) (by kernel_rfl) (by kernel_rfl) (by kernel_rfl) (by exact fun _ _ _ h => h) (Or.inr ⟨by rfl, rfl⟩) (by assumption) ?_
      simp only [Act.put, List.setIfInBounds_toArray, List.set_cons_zero, List.set_cons_succ]
      refine wpAnyH_take (i := 21) (v := undef) (by simp only [List.getElem?_toArray, List.getElem?_cons_succ, List.getElem?_cons_zero]; rfl) (by kernel_rfl) (by kernel_rfl) (by kernel_rfl) (by exact fun _ _ _ h => h) (Or.inr ⟨by rfl, rfl⟩) (by assumption) ?_
      simp only [Act.put, List.setIfInBounds_toArray, List.set_cons_zero, List.set_cons_succ]
      refine wpAnyH_take (i := 22) (v := undef) (by simp only [List.getElem?_toArray, List.getElem?_cons_succ, List.getElem?_cons_zero]; rfl) (by kernel_rfl) (by kernel_rfl) (by kernel_rfl) (by exact fun _ _ _ h => h) (Or.inr ⟨by rfl, rfl⟩) (by assumption) ?_
      simp only [Act.put, List.setIfInBounds_toArray, List.set_cons_zero, List.set_cons_succ]
      refine wpAnyH_take (i := 23) (v := undef) (by simp only [List.getElem?_toArray, List.getElem?_cons_succ, List.getElem?_cons_zero]; rfl) (by kernel_rfl) (by kernel_rfl) (by kernel_rfl) (by exact fun _ _ _ h => h) (Or.inr ⟨by rfl, rfl⟩) (by assumption) ?_
      simp only [Act.put, List.setIfInBounds_toArray, List.set_cons_zero, List.set_cons_succ]
      refine wpAnyH_take (i := 24) (v := undef) (by simp only [List.getElem?_toArray, List.getElem?_cons_succ, List.getElem?_cons_zero]; rfl) (by kernel_rfl) (by kernel_rfl) (by kernel_rfl) (by exact fun _ _ _ h => h) (Or.inr ⟨by rfl, rfl⟩) (by assumption) ?_
      simp only [Act.put, List.setIfInBounds_toArray, List.set_cons_zero, List.set_cons_succ]
      refine wpAnyH_take (i := 25) (v := undef) (by simp only [List.getElem?_toArray, List.getElem?_cons_succ, List.getElem?_cons_zero]; rfl) (by kernel_rfl) (by kernel_rfl) (by kernel_rfl) (by exact fun _ _ _ h => h) (Or.inr ⟨by rfl, rfl⟩) (by assumption) ?_
      simp only [Act.put, List.setIfInBounds_toArray, List.set_cons_zero, List.set_cons_succ]
      refine wpAnyH_take (i := 26) (v := undef) (by simp only [List.getElem?_toArray, List.getElem?_cons_succ, List.getElem?_cons_zero]; rfl) (by kernel_rfl) (by kernel_rfl) (by kernel_rfl) (by exact fun _ _ _ h => h) (Or.inr ⟨by rfl, rfl⟩) (by assumption) ?_
      simp only [Act.put, List.setIfInBounds_toArray, List.set_cons_zero, List.set_cons_succ]
      refine wpAnyH_take (i := 27) (v := undef) (by simp only [List.getElem?_toArray, List.getElem?_cons_succ, List.getElem?_cons_zero]; rfl) (by kernel_rfl) (by kernel_rfl) (by kernel_rfl) (by exact fun _ _ _ h => h) (Or.inr ⟨by rfl, rfl⟩) (by assumption) ?_
      simp only [Act.put, List.setIfInBounds_toArray, List.set_cons_zero, List.set_cons_succ]
      refine wpAnyH_take (i := 28) (v := undef) (by simp only [List.getElem?_toArray, List.getElem?_cons_succ, List.getElem?_cons_zero]; rfl) (by kernel_rfl) (by kernel_rfl) (by kernel_rfl) (by exact fun _ _ _ h => h) (Or.inr ⟨by rfl, rfl⟩) (by assumption) ?_
      simp only [Act.put, List.setIfInBounds_toArray, List.set_cons_zero, List.set_cons_succ]
      refine wpAnyH_take (i := 29) (v := undef) (by simp only [List.getElem?_toArray, List.getElem?_cons_succ, List.getElem?_cons_zero]; rfl) (by kernel_rfl) (by kernel_rfl) (by kernel_rfl) (by exact fun _ _ _ h => h) (Or.inr ⟨by rfl, rfl⟩) (by assumption) ?_
      simp only [Act.put, List.setIfInBounds_toArray, List.set_cons_zero, List.set_cons_succ]
      refine wpAnyH_take (i := 30) (v := ?v30) (by simp only [List.getElem?_toArray, List.getElem?_cons_succ, List.getElem?_cons_zero]; rfl) (by kernel_rfl) (by kernel_rfl) (by kernel_rfl) (by exact fun _ _ _ h => h) (Or.inl ⟨by rfl, ?hy30⟩) (by assumption) ?rest30
      case hy30 => ((intro W hSw; (try dsimp only at hSw); go_simp); (try with_reducible rfl))
      simp only [Act.put, List.setIfInBounds_toArray, List.set_cons_zero, List.set_cons_succ]
      refine wpAnyH_take (i := 31) (v := ?v31) (by simp only [List.getElem?_toArray, List.getElem?_cons_succ, List.getElem?_cons_zero]; rfl) (by kernel_rfl) (by kernel_rfl) (by kernel_rfl) (by exact fun _ _ _ h => h) (Or.inl ⟨by rfl, ?hy31⟩) (by assumption) ?rest31
      case hy31 => ((intro W hSw; (try dsimp only at hSw); go_simp); (try with_reducible rfl))
      simp only [Act.put, List.setIfInBounds_toArray, List.set_cons_zero, List.set_cons_succ]
      refine wpAnyH_done (by kernel_rfl) ?_ _
      go_wp2
      go_ret
      exact ⟨ret_bool hr.out.symm, HBW.out⟩
    | true =>
      have hr : Hid (fitB ⟨n0, n1, n2, n3, n4⟩ v = c2) := by show _ = _; rw [HDEF.out]; first | rfl | simp
      go_enter Try.func75, Try.ntmps75
      go_upto_region 1 with fail
      rw [← HW.out]
      clear HW
      refine wp_region_held_drew (S := (fun W => W.cell? ⟨b, o, none⟩ = some (.int .i64 x) ∧ W.cell? ⟨b, o + 1, none⟩ = some (.slice ab bl cb) ∧ W.cell? ⟨b, o + 2, none⟩ = some (.slice ai il ci) ∧ W.cell? ⟨w.heap.size, 0, none⟩ = some (.int .i64 n0) ∧ W.cell? ⟨w.heap.size, 1, none⟩ = some (.int .i64 n1) ∧ W.cell? ⟨w.heap.size, 2, none⟩ = some (.int .i64 n2) ∧ W.cell? ⟨w.heap.size, 3, none⟩ = some (.int .i64 n3) ∧ W.cell? ⟨w.heap.size, 4, none⟩ = some (.int .i64 n4))) (by kernel_rfl) ?_ (fun hHeld => ?_)
      · (try dsimp only); exact HS.out
      refine wpAnyH_take (i := 0) (v := ?v32) (by simp only [List.getElem?_toArray, List.getElem?_cons_zero]; rfl) (by kernel_rfl) (by kernel_rfl) (by kernel_rfl) (by exact fun _ _ _ h => h) (Or.inl ⟨by rfl, ?hy32⟩) (by assumption) ?rest32
      case hy32 => ((intro W hSw; (try dsimp only at hSw); go_simp); (try with_reducible rfl))
      simp only [Act.put, List.setIfInBounds_toArray, List.set_cons_zero, List.set_cons_succ]
      refine wpAnyH_take (i := 1) (v := ?v33) (by simp only [List.getElem?_toArray, List.getElem?_cons_succ, List.getElem?_cons_zero]; rfl) (by kernel_rfl) (by kernel_rfl) (by kernel_rfl) (by exact fun _ _ _ h => h) (Or.inl ⟨by rfl, ?hy33⟩) (by assumption) ?rest33
      case hy33 => ((intro W hSw; (try dsimp only at hSw); go_simp); (try with_reducible rfl))
      simp only [Act.put, List.setIfInBounds_toArray, List.set_cons_zero, List.set_cons_succ]
      refine wpAnyH_take (i := 2) (v := ?v34) (by simp only [List.getElem?_toArray, List.getElem?_cons_succ, List.getElem?_cons_zero]; rfl) (by kernel_rfl) (by kernel_rfl) (by kernel_rfl) (by exact fun _ _ _ h => h) (Or.inl ⟨by rfl, ?hy34⟩) (by assumption) ?rest34
      case hy34 => ((intro W hSw; (try dsimp only at hSw); go_simp); (try with_reducible rfl))
      simp only [Act.put, List.setIfInBounds_toArray, List.set_cons_zero, List.set_cons_succ]
      refine wpAnyH_take (i := 3) (v := ?v35) (by simp only [List.getElem?_toArray, List.getElem?_cons_succ, List.getElem?_cons_zero]; rfl) (by kernel_rfl) (by kernel_rfl) (by kernel_rfl) (by exact fun _ _ _ h => h) (Or.inl ⟨by rfl, ?hy35⟩) (by assumption) ?rest35
      case hy35 => ((intro W hSw; (try dsimp only at hSw); go_simp); (try with_reducible rfl))
      simp only [Act.put, List.setIfInBounds_toArray, List.set_cons_zero, List.set_cons_succ]
      refine wpAnyH_take (i := 4) (v := ?v36) (by simp only [List.getElem?_toArray, List.getElem?_cons_succ, List.getElem?_cons_zero]; rfl) (by kernel_rfl) (by kernel_rfl) (by kernel_rfl) (by exact fun _ _ _ h => h) (Or.inl ⟨by rfl, ?hy36⟩) (by assumption) ?rest36
      case hy36 => ((intro W hSw; (try dsimp only at hSw); go_simp); (try with_reducible rfl))
      simp only [Act.put, List.setIfInBounds_toArray, List.set_cons_zero, List.set_cons_succ]
      refine wpAnyH_take (i := 5) (v := ?v37) (by simp only [List.getElem?_toArray, List.getElem?_cons_succ, List.getElem?_cons_zero]; rfl) (by kernel_rfl) (by kernel_rfl) (by kernel_rfl) (by exact fun _ _ _ h => h) (Or.inl ⟨by rfl, ?hy37⟩) (by assumption) ?rest37
      case hy37 => ((intro W hSw; (try dsimp only at hSw); go_simp); (try with_reducible rfl))
      simp only [Act.put, List.setIfInBounds_toArray, List.set_cons_zero, List.set_cons_succ]
      refine wpAnyH_ready (rs := [6]) (by kernel_rfl) (by simp) ?_
      refine AllReadyH.cons (by simp only [List.getElem?_toArray, List.getElem?_cons_succ, List.getElem?_cons_zero]; rfl) (fun K hK => ?_) AllReadyH.nil
      go_simp
      (go_at_call 34; refine (inI_any _ _ _ true _ H0.out).mono ?_; rintro e wx ⟨rfl, rfl⟩)
      go_wp2_with fail
      refine hK.out _ _ ?_ (fun hHeld => ?_)
      · (try dsimp only); exact HS.out
      clear hK K
      refine wpAnyH_take (i := 7) (v := ?v38) (by simp only [List.getElem?_toArray, List.getElem?_cons_succ, List.getElem?_cons_zero]; rfl) (by kernel_rfl) (by kernel_rfl) (by kernel_rfl) (by exact fun _ _ _ h => h) (Or.inl ⟨by rfl, ?hy38⟩) (by assumption) ?rest38
      case hy38 => ((intro W hSw; (try dsimp only at hSw); go_simp); (try with_reducible rfl))
      simp only [Act.put, List.setIfInBounds_toArray, List.set_cons_zero, List.set_cons_succ]
      refine wpAnyH_take (i := 8) (v := ?v39) (by simp only [List.getElem?_toArray, List.getElem?_cons_succ, List.getElem?_cons_zero]; rfl) (by kernel_rfl) (by kernel_rfl) (by kernel_rfl) (by exact fun _ _ _ h => h) (Or.inl ⟨by rfl, ?hy39⟩) (by assumption) ?rest39
      case hy39 => ((intro W hSw; (try dsimp only at hSw); go_simp); (try with_reducible rfl))
      simp only [Act.put, List.setIfInBounds_toArray, List.set_cons_zero, List.set_cons_succ]
      refine wpAnyH_take (i := 9) (v := ?v40) (by simp only [List.getElem?_toArray, List.getElem?_cons_succ, List.getElem?_cons_zero]; rfl) (by kernel_rfl) (by kernel_rfl) (by kernel_rfl) (by exact fun _ _ _ h => h) (Or.inl ⟨by rfl, ?hy40⟩) (by assumption) ?rest40
      case hy40 => ((intro W hSw; (try dsimp only at hSw); go_simp); (try with_reducible rfl))
      simp only [Act.put, List.setIfInBounds_toArray, List.set_cons_zero, List.set_cons_succ]
      refine wpAnyH_take (i := 10) (v := ?v41) (by simp only [List.getElem?_toArray, List.getElem?_cons_succ, List.getElem?_cons_zero]; rfl) (by kernel_rfl) (by kernel_rfl) (by kernel_rfl) (by exact fun _ _ _ h => h) (Or.inl ⟨by rfl, ?hy41⟩) (by assumption) ?rest41
      case hy41 => ((intro W hSw; (try dsimp only at hSw); go_simp); (try with_reducible rfl))
      simp only [Act.put, List.setIfInBounds_toArray, List.set_cons_zero, List.set_cons_succ]
      refine wpAnyH_take (i := 11) (v := ?v42) (by simp only [List.getElem?_toArray, List.getElem?_cons_succ, List.getElem?_cons_zero]; rfl) (by kernel_rfl) (by kernel_rfl) (by kernel_rfl) (by exact fun _ _ _ h => h) (Or.inl ⟨by rfl, ?hy42⟩) (by assumption) ?rest42
      case hy42 => ((intro W hSw; (try dsimp only at hSw); go_simp); (try with_reducible rfl))
      simp only [Act.put, List.setIfInBounds_toArray, List.set_cons_zero, List.set_cons_succ]
      refine wpAnyH_take (i := 12) (v := ?v43) (by simp only [List.getElem?_toArray, List.getElem?_cons_succ, List.getElem?_cons_zero]; rfl) (by kernel_rfl) (by kernel_rfl) (by kernel_rfl) (by exact fun _ _ _ h => h) (Or.inl ⟨by rfl, ?hy43⟩) (by assumption) ?rest43
      case hy43 => ((intro W hSw; (try dsimp only at hSw); go_simp); (try with_reducible rfl))
      simp only [Act.put, List.setIfInBounds_toArray, List.set_cons_zero, List.set_cons_succ]
      refine wpAnyH_take (i := 13) (v := ?v44) (by simp only [List.getElem?_toArray, List.getElem?_cons_succ, List.getElem?_cons_zero]; rfl) (by kernel_rfl) (by kernel_rfl) (by kernel_rfl) (by exact fun _ _ _ h => h) (Or.inl ⟨by rfl, ?hy44⟩) (by assumption) ?rest44
      case hy44 => ((intro W hSw; (try dsimp only at hSw); go_simp); (try with_reducible rfl))
      simp only [Act.put, List.setIfInBounds_toArray, List.set_cons_zero, List.set_cons_succ]
      refine wpAnyH_take (i := 14) (v := ?v45) (by simp only [List.getElem?_toArray, List.getElem?_cons_succ, List.getElem?_cons_zero]; rfl) (by kernel_rfl) (by kernel_rfl) (by kernel_rfl) (by exact fun _ _ _ h => h) (Or.inl ⟨by rfl, ?hy45⟩) (by assumption) ?rest45
      case hy45 => ((intro W hSw; (try dsimp only at hSw); go_simp); (try with_reducible rfl))
      simp only [Act.put, List.setIfInBounds_toArray, List.set_cons_zero, List.set_cons_succ]
      refine wpAnyH_take (i := 15) (v := ?v46) (by simp only [List.getElem?_toArray, List.getElem?_cons_succ, List.getElem?_cons_zero]; rfl) (by kernel_rfl) (by kernel_rfl) (by kernel_rfl) (by exact fun _ _ _ h => h) (Or.inl ⟨by rfl, ?hy46⟩) (by assumption) ?rest46
      case hy46 => ((intro W hSw; (try dsimp only at hSw); go_simp); (try with_reducible rfl))
      simp only [Act.put, List.setIfInBounds_toArray, List.set_cons_zero, List.set_cons_succ]
      refine wpAnyH_take (i := 16) (v := ?v47) (by simp only [List.getElem?_toArray, List.getElem?_cons_succ, List.getElem?_cons_zero]; rfl) (by kernel_rfl) (by kernel_rfl) (by kernel_rfl) (by exact fun _ _ _ h => h) (Or.inl ⟨by rfl, ?hy47⟩) (by assumption) ?rest47
      case hy47 => ((intro W hSw; (try dsimp only at hSw); go_simp); (try with_reducible rfl))
      simp only [Act.put, List.setIfInBounds_toArray, List.set_cons_zero, List.set_cons_succ]
      refine wpAnyH_ready (rs := [17]) (by kernel_rfl) (by simp) ?_
      refine AllReadyH.cons (by simp only [List.getElem?_toArray, List.getElem?_cons_succ, List.getElem?_cons_zero]; rfl) (fun K hK => ?_) AllReadyH.nil
      go_simp
      (go_at_call 34; refine (inI_any _ _ _ true _ H1.out).mono ?_; rintro e wx ⟨rfl, rfl⟩)
      go_wp2_with fail
      refine hK.out _ _ ?_ (fun hHeld => ?_)
      · (try dsimp only); exact HS.out
      clear hK K
      refine wpAnyH_take (i := 18) (v := ?v48) (by simp only [List.getElem?_toArray, List.getElem?_cons_succ, List.getElem?_cons_zero]; rfl) (by kernel_rfl) (by kernel_rfl) (by kernel_rfl) (by exact fun _ _ _ h => h) (Or.inl ⟨by rfl, ?hy48⟩) (by assumption) ?rest48
      case hy48 => ((intro W hSw; (try dsimp only at hSw); go_simp); (try with_reducible rfl))
      simp only [Act.put, List.setIfInBounds_toArray, List.set_cons_zero, List.set_cons_succ]
      refine wpAnyH_take (i := 19) (v := ?v49) (by simp only [List.getElem?_toArray, List.getElem?_cons_succ, List.getElem?_cons_zero]; rfl) (by kernel_rfl) (by kernel_rfl) (by kernel_rfl) (by exact fun _ _ _ h => h) (Or.inl ⟨by rfl, ?hy49⟩) (by assumption) ?rest49
      case hy49 => ((intro W hSw; (try dsimp only at hSw); go_simp); (try with_reducible rfl))
      simp only [Act.put, List.setIfInBounds_toArray, List.set_cons_zero, List.set_cons_succ]
      refine wpAnyH_take (i := 20) (v := ?v50) (by simp only [List.getElem?_toArray, List.getElem?_cons_succ, List.getElem?_cons_zero]; rfl) (by kernel_rfl) (by kernel_rfl) (by kernel_rfl) (by exact fun _ _ _ h => h) (Or.inl ⟨by rfl, ?hy50⟩) (by assumption) ?rest50
      case hy50 => ((intro W hSw; (try dsimp only at hSw); go_simp); (try with_reducible rfl))
      simp only [Act.put, List.setIfInBounds_toArray, List.set_cons_zero, List.set_cons_succ]
      refine wpAnyH_take (i := 21) (v := ?v51) (by simp only [List.getElem?_toArray, List.getElem?_cons_succ, List.getElem?_cons_zero]; rfl) (by kernel_rfl) (by kernel_rfl) (by kernel_rfl) (by exact fun _ _ _ h => h) (Or.inl ⟨by rfl, ?hy51⟩) (by assumption) ?rest51
      case hy51 => ((intro W hSw; (try dsimp only at hSw); go_simp); (try with_reducible rfl))
      simp only [Act.put, List.setIfInBounds_toArray, List.set_cons_zero, List.set_cons_succ]
      refine wpAnyH_take (i := 22) (v := ?v52) (by simp only [List.getElem?_toArray, List.getElem?_cons_succ, List.getElem?_cons_zero]; rfl) (by kernel_rfl) (by kernel_rfl) (by kernel_rfl) (by exact fun _ _ _ h => h) (Or.inl ⟨by rfl, ?hy52⟩) (by assumption) ?rest52
      case hy52 => ((intro W hSw; (try dsimp only at hSw); go_simp); (try with_reducible rfl))
      simp only [Act.put, List.setIfInBounds_toArray, List.set_cons_zero, List.set_cons_succ]
      refine wpAnyH_take (i := 23) (v := ?v53) (by simp only [List.getElem?_toArray, List.getElem?_cons_succ, List.getElem?_cons_zero]; rfl) (by kernel_rfl) (by kernel_rfl) (by kernel_rfl) (by exact fun _ _ _ h => h) (Or.inl ⟨by rfl, ?hy53⟩) (by assumption) ?rest53
      case hy53 => ((intro W hSw; (try dsimp only at hSw); go_simp); (try with_reducible rfl))
      simp only [Act.put, List.setIfInBounds_toArray, List.set_cons_zero, List.set_cons_succ]
      refine wpAnyH_take (i := 24) (v := ?v54) (by simp only [List.getElem?_toArray, List.getElem?_cons_succ, List.getElem?_cons_zero]; rfl) (by kernel_rfl) (by kernel_rfl) (by kernel_rfl) (by exact fun _ _ _ h => h) (Or.inl ⟨by rfl, ?hy54⟩) (by assumption) ?rest54
      case hy54 => ((intro W hSw; (try dsimp only at hSw); go_simp); (try with_reducible rfl))
      simp only [Act.put, List.setIfInBounds_toArray, List.set_cons_zero, List.set_cons_succ]
      refine wpAnyH_take (i := 25) (v := ?v55) (by simp only [List.getElem?_toArray, List.getElem?_cons_succ, List.getElem?_cons_zero]; rfl) (by kernel_rfl) (by kernel_rfl) (by kernel_rfl) (by exact fun _ _ _ h => h) (Or.inl ⟨by rfl, ?hy55⟩) (by assumption) ?rest55
      case hy55 => ((intro W hSw; (try dsimp only at hSw); go_simp); (try with_reducible rfl))
      simp only [Act.put, List.setIfInBounds_toArray, List.set_cons_zero, List.set_cons_succ]
      refine wpAnyH_take (i := 26) (v := ?v56) (by simp only [List.getElem?_toArray, List.getElem?_cons_succ, List.getElem?_cons_zero]; rfl) (by kernel_rfl) (by kernel_rfl) (by kernel_rfl) (by exact fun _ _ _ h => h) (Or.inl ⟨by rfl, ?hy56⟩) (by assumption) ?rest56
      case hy56 => ((intro W hSw; (try dsimp only at hSw); go_simp); (try with_reducible rfl))
      simp only [Act.put, List.setIfInBounds_toArray, List.set_cons_zero, List.set_cons_succ]
      refine wpAnyH_take (i := 27) (v := ?v57) (by simp only [List.getElem?_toArray, List.getElem?_cons_succ, List.getElem?_cons_zero]; rfl) (by kernel_rfl) (by kernel_rfl) (by kernel_rfl) (by exact fun _ _ _ h => h) (Or.inl ⟨by rfl, ?hy57⟩) (by assumption) ?rest57
      case hy57 => ((intro W hSw; (try dsimp only at hSw); go_simp); (try with_reducible rfl))
      simp only [Act.put, List.setIfInBounds_toArray, List.set_cons_zero, List.set_cons_succ]
      refine wpAnyH_take (i := 28) (v := ?v58) (by simp only [List.getElem?_toArray, List.getElem?_cons_succ, List.getElem?_cons_zero]; rfl) (by kernel_rfl) (by kernel_rfl) (by kernel_rfl) (by exact fun _ _ _ h => h) (Or.inl ⟨by rfl, ?hy58⟩) (by assumption) ?rest58
      case hy58 => ((intro W hSw; (try dsimp only at hSw); go_simp); (try with_reducible rfl))
      simp only [Act.put, List.setIfInBounds_toArray, List.set_cons_zero, List.set_cons_succ]
      refine wpAnyH_ready (rs := [29]) (by kernel_rfl) (by simp) ?_
      refine AllReadyH.cons (by simp only [List.getElem?_toArray, List.getElem?_cons_succ, List.getElem?_cons_zero]; rfl) (fun K hK => ?_) AllReadyH.nil
      go_simp
      (go_at_call 34; refine (inI_any _ _ _ c2 _ H2.out).mono ?_; rintro e wx ⟨rfl, rfl⟩)
      go_wp2_with fail
      refine hK.out _ _ ?_ (fun hHeld => ?_)
      · (try dsimp only); exact HS.out
      clear hK K
      refine wpAnyH_take (i := 30) (v := ?v59) (by simp only [List.getElem?_toArray, List.getElem?_cons_succ, List.getElem?_cons_zero]; rfl) (by kernel_rfl) (by kernel_rfl) (by kernel_rfl) (by exact fun _ _ _ h => h) (Or.inl ⟨by rfl, ?hy59⟩) (by assumption) ?rest59
      case hy59 => ((intro W hSw; (try dsimp only at hSw); go_simp); (try with_reducible rfl))
      simp only [Act.put, List.setIfInBounds_toArray, List.set_cons_zero, List.set_cons_succ]
      refine wpAnyH_take (i := 31) (v := ?v60) (by simp only [List.getElem?_toArray, List.getElem?_cons_succ, List.getElem?_cons_zero]; rfl) (by kernel_rfl) (by kernel_rfl) (by kernel_rfl) (by exact fun _ _ _ h => h) (Or.inl ⟨by rfl, ?hy60⟩) (by assumption) ?rest60
      case hy60 => ((intro W hSw; (try dsimp only at hSw); go_simp); (try with_reducible rfl))
      simp only [Act.put, List.setIfInBounds_toArray, List.set_cons_zero, List.set_cons_succ]
      refine wpAnyH_done (by kernel_rfl) ?_ _
      go_wp2
      go_ret
      exact ⟨ret_bool hr.out.symm, HBW.out⟩
end Go.Proofs.Ytefkhknfjohnaaa
namespace Go.Proofs.Ytefkhknfjohnaaa
open Go Go.RowKit
/-- What slices.Index answers: the first place at which the tag stands, or -1. -/
def IdxOut (ts : List Int) (x : Int) (e : Ending) : Prop :=
  ∃ R : Int, e = .returned (.int .i64 R) ∧ ((R = -1 ∧ ∀ t ∈ ts, t ≠ x) ∨ ∃ j : Nat, R = (j : Int) ∧ ∃ h : j < ts.length, ts[j] = x ∧ ∀ i (hi : i < j), ts[i] ≠ x)
set_option maxRecDepth 100000 in
theorem index_impl (a : Option Addr) (ts : List Int) (cap : Nat) (x : Int) (w : World) (hl : ts.length ≤ 1048576) (h : RdI a ts w) :
    Calls Try.prog 73 #[.slice a ts.length cap, .int .i64 x] w fun e w' => IdxOut ts x e ∧ w = w' := by
  have H := Lib.hid h
  clear h
  go_enter Try.func73, Try.ntmps73
  go_wp2
  go_loop [8] (fun i => ∃ q : Nat, q ≤ ts.length ∧ i = .int .i64 q ∧ Hid (∀ i (hi : i < q) (hl : i < ts.length), ts[i] ≠ x)) (fun i => ts.length - (intOf i).toNat)
  case atStart => exact ⟨0, Nat.zero_le _, rfl, fun i hi => by omega⟩
  case round =>
    obtain ⟨q, hql, rfl, hno⟩ := hrel
    have q0 : (0 : Int) ≤ (q : Int) := by omega
    by_cases hlt : q < ts.length
    · have q1 : (q : Int) < (ts.length : Int) := by omega
      obtain ⟨b6, o6, ha6, hc6⟩ := H.out.cellAt (j := q) hlt
      subst ha6
      obtain ⟨t, ht⟩ : ∃ t, t = ts[q] := ⟨_, rfl⟩
      rw [← ht] at hc6
      have HT := Lib.hid ht
      clear ht
      cases htx : (x == t) with
      | true =>
        have hyes : Hid (IdxOut ts x (.returned (.int .i64 (q : Int)))) := by
          have e : x = t := eq_of_beq htx
          exact ⟨_, rfl, .inr ⟨q, rfl, hlt, by rw [← HT.out, e], fun i hi => hno.out i hi (by omega)⟩⟩
        go_wp2
        go_ret
        exact ⟨hyes.out, rfl⟩
      | false =>
        have hnx : Hid (∀ i (hi : i < q + 1) (hl : i < ts.length), ts[i] ≠ x) := fun i hi hl => by
          by_cases e : i = q
          · subst e
            have : x ≠ t := by simpa using htx
            rw [← HT.out]
            exact fun h => this h.symm
          · exact hno.out i (by omega) hl
        go_wp2
        go_round
        case rel => exact ⟨q + 1, by omega, by go_num, hnx⟩
        case measure => simp [intOf]; omega
    · have q1 : ¬ (q : Int) < (ts.length : Int) := by omega
      have hyes : Hid (IdxOut ts x (.returned (.int .i64 (-1)))) := ⟨_, rfl, .inl ⟨rfl, fun t ht => by
        obtain ⟨i, hi, rfl⟩ := List.mem_iff_getElem.1 ht
        exact hno.out i (by omega) hi⟩⟩
      go_wp2
      go_ret
      exact ⟨hyes.out, rfl⟩
set_option maxRecDepth 100000 in
set_option maxHeartbeats 4000000 in
theorem kidof_impl (rs : List RuleV) (r : RuleV) (cs : List Value) (x : Int) (i : Nat) (w : World) (hi : i ≤ 1048576) (hki : kindI rs r = true) (h : IsRule r cs w) :
    Calls Try.prog 50 #[.agg cs.toArray, .int .i64 x, .int .i64 (i : Int)] w fun e w' => e = .returned (.int .i64 (kidI r x i)) ∧ Below w.heap.size w w' := by
  obtain ⟨a4, c4, a5, c5, a6, c6, a7, c7, rfl, h4, h5, h6, h7⟩ := h
  obtain ⟨w0, hw0⟩ : ∃ w0, w0 = w.alloc (.cells #[.string r.name, .int .i64 r.kind, .int .i64 r.size, .bool r.little, .slice a4 r.bytes.length c4, .slice a5 r.names.length c5, .slice a6 r.tags.length c6, .slice a7 r.kids.length c7] 76) := ⟨_, rfl⟩
  have hB : Below w.heap.size w w0 := by subst hw0; exact (Below.refl _ _).alloc (Nat.le_refl _) _
  have HC : Hid (CellsAt w.heap.size [.string r.name, .int .i64 r.kind, .int .i64 r.size, .bool r.little, .slice a4 r.bytes.length c4, .slice a5 r.names.length c5, .slice a6 r.tags.length c6, .slice a7 r.kids.length c7] w0) := by subst hw0; exact CellsAt.new w _ _
  have HR6 := Lib.hid (h6.below hB)
  have HR7 := Lib.hid (h7.below hB)
  have HB := Lib.hid hB
  have HKI := Lib.hid hki
  have hW := Lib.hid hw0
  have y1 := (HC.out 1 _ rfl).1
  have y7 := (HC.out 7 _ rfl).1
  have i0 : (0 : Int) ≤ (i : Int) := by omega
  clear hB hki hw0 h4 h5 h6 h7
  have hkn := kindI_known HKI.out
  have hlast : r.kind ≠ 5 → r.kind ≠ 6 → r.kind ≠ 7 → r.kind ≠ 8 → r.kind ≠ 9 → kidI r x i = -1 := fun k5 k6 k7 k8 k9 => by
    unfold kidI
    rw [if_neg k5, if_neg k7, if_neg (by omega)]
  have HLAST := Lib.hid hlast
  clear hlast
  rcases (by omega : r.kind = 5 ∨ r.kind = 7 ∨ r.kind = 6 ∨ r.kind = 8 ∨ r.kind = 9 ∨ r.kind = 1 ∨ r.kind = 2 ∨ r.kind = 3 ∨ r.kind = 4 ∨ r.kind = 10) with hk | hk | hk | hk | hk | hk | hk | hk | hk | hk
  case inl =>
    have h5 := kindI_5 HKI.out hk
    have g1 : (1 : Int) < (r.kids.length : Int) := by omega
    obtain ⟨b7, o7, ha7, hc7⟩ := HR7.out.cellAt (j := 1) (by omega)
    subst ha7
    have hr : Hid (kidI r x i = r.kids[1]'(by omega)) := by show _ = _; unfold kidI; rw [if_pos hk, getD_at (by omega)]
    generalize r.kids[1]'(by omega) = y at hc7 hr
    rw [hk] at y1
    have HKK := Lib.hid hk
    clear hk h5
    go_enter Try.func50, Try.ntmps50
    go_upto_region 1 with fail
    rw [← hW.out]
    clear hW
    go_wp2
    go_ret
    exact ⟨ret_int hr.out.symm, HB.out⟩
  case inr.inl =>
    have h7 := kindI_7 HKI.out hk
    have hk9 : r.kids.length ≤ 9 := by omega
    have ht8 : r.tags.length ≤ 8 := by omega
    have HL : Hid (r.kids.length = r.tags.length + 1) := h7.1
    have y6 := (HC.out 6 _ rfl).1
    rw [hk] at y1
    have hr : Hid (kidI r x i = if i = 0 then tagKid r.tags (r.kids.drop 1) x else -1) := by show _ = _; unfold kidI; rw [if_neg (by omega), if_pos hk]
    have HKK := Lib.hid hk
    clear hk h7
    go_enter Try.func50, Try.ntmps50
    go_upto_region 1 with fail
    rw [← hW.out]
    clear hW
    go_wp2_with fail
    refine (index_impl a6 r.tags c6 x _ (by omega) HR6.out).mono ?_
    rintro e w1 ⟨⟨R, rfl, hR⟩, rfl⟩
    rcases hR with ⟨rfl, hno⟩ | ⟨j, rfl, hj, hjx, hno⟩
    · have hrr : Hid (kidI r x i = -1) := by show _ = _; rw [hr.out, tagKid_none hno]; split <;> rfl
      clear hno hr
      go_wp2
      go_ret
      exact ⟨ret_int hrr.out.symm, HB.out⟩
    · have hj2 : j < (r.kids.drop 1).length := by have := HL.out; rw [List.length_drop]; omega
      have hj3 : j + 1 < r.kids.length := by have := HL.out; omega
      have j0 : (0 : Int) ≤ (j : Int) := by omega
      have j2 : (j : Int) + 1 < (r.kids.length : Int) := by omega
      obtain ⟨b7, o7, ha7, hc7⟩ := HR7.out.cellAt (j := j + 1) hj3
      subst ha7
      have hrr : Hid (kidI r x i = if i = 0 then r.kids[j + 1] else -1) := by
        show _ = _
        rw [hr.out, tagKid_first hj hj2 hjx hno, List.getElem_drop]
        simp only [Nat.add_comm]
      generalize r.kids[j + 1] = y at hc7 hrr
      clear hno hr hjx hj
      by_cases hi0 : i = 0
      · have e0 : ((i : Int) == 0) = true := by simp [hi0]
        have hr2 : Hid (kidI r x i = y) := by show _ = _; rw [hrr.out, if_pos hi0]
        clear hrr
        have HI0 := Lib.hid hi0
        clear hi0
        go_wp2
        go_ret
        exact ⟨ret_int hr2.out.symm, HB.out⟩
      · have e0 : ((i : Int) == 0) = false := by simp; omega
        have hr2 : Hid (kidI r x i = -1) := by show _ = _; rw [hrr.out, if_neg hi0]
        clear hrr
        have HI0 := Lib.hid hi0
        clear hi0
        go_wp2
        go_ret
        exact ⟨ret_int hr2.out.symm, HB.out⟩
  case inr.inr.inl =>
    have h6 := kindI_6 HKI.out hk
    have hk8 : r.kids.length ≤ 8 := by omega
    rw [hk] at y1
    by_cases hik : i < r.kids.length
    · have g1 : (i : Int) < (r.kids.length : Int) := by omega
      obtain ⟨b7, o7, ha7, hc7⟩ := HR7.out.cellAt (j := i) hik
      subst ha7
      have hr : Hid (kidI r x i = r.kids[i]) := by show _ = _; unfold kidI; rw [if_neg (by omega), if_neg (by omega), if_pos (by omega), if_pos hik, getD_at hik]
      generalize r.kids[i] = y at hc7 hr
      have HKK := Lib.hid hk
      clear hk h6
      go_enter Try.func50, Try.ntmps50
      go_upto_region 1 with fail
      rw [← hW.out]
      clear hW
      go_wp2
      go_ret
      exact ⟨ret_int hr.out.symm, HB.out⟩
    · have g1 : ¬ (i : Int) < (r.kids.length : Int) := by omega
      have hr : Hid (kidI r x i = -1) := by show _ = _; unfold kidI; rw [if_neg (by omega), if_neg (by omega), if_pos (by omega), if_neg hik]
      have HKK := Lib.hid hk
      clear hk h6
      go_enter Try.func50, Try.ntmps50
      go_upto_region 1 with fail
      rw [← hW.out]
      clear hW
      go_wp2
      go_ret
      exact ⟨ret_int hr.out.symm, HB.out⟩
  case inr.inr.inr.inl =>
    have hk8 : r.kids.length ≤ 8 := by have := kindI_8 HKI.out hk; omega
    rw [hk] at y1
    by_cases hik : i < r.kids.length
    · have g1 : (i : Int) < (r.kids.length : Int) := by omega
      obtain ⟨b7, o7, ha7, hc7⟩ := HR7.out.cellAt (j := i) hik
      subst ha7
      have hr : Hid (kidI r x i = r.kids[i]) := by show _ = _; unfold kidI; rw [if_neg (by omega), if_neg (by omega), if_pos (by omega), if_pos hik, getD_at hik]
      generalize r.kids[i] = y at hc7 hr
      have HKK := Lib.hid hk
      clear hk
      go_enter Try.func50, Try.ntmps50
      go_upto_region 1 with fail
      rw [← hW.out]
      clear hW
      go_wp2
      go_ret
      exact ⟨ret_int hr.out.symm, HB.out⟩
    · have g1 : ¬ (i : Int) < (r.kids.length : Int) := by omega
      have hr : Hid (kidI r x i = -1) := by show _ = _; unfold kidI; rw [if_neg (by omega), if_neg (by omega), if_pos (by omega), if_neg hik]
      have HKK := Lib.hid hk
      clear hk
      go_enter Try.func50, Try.ntmps50
      go_upto_region 1 with fail
      rw [← hW.out]
      clear hW
      go_wp2
      go_ret
      exact ⟨ret_int hr.out.symm, HB.out⟩
  case inr.inr.inr.inr.inl =>
    have hk8 : r.kids.length ≤ 8 := by have := kindI_9 HKI.out hk; omega
    rw [hk] at y1
    by_cases hik : i < r.kids.length
    · have g1 : (i : Int) < (r.kids.length : Int) := by omega
      obtain ⟨b7, o7, ha7, hc7⟩ := HR7.out.cellAt (j := i) hik
      subst ha7
      have hr : Hid (kidI r x i = r.kids[i]) := by show _ = _; unfold kidI; rw [if_neg (by omega), if_neg (by omega), if_pos (by omega), if_pos hik, getD_at hik]
      generalize r.kids[i] = y at hc7 hr
      have HKK := Lib.hid hk
      clear hk
      go_enter Try.func50, Try.ntmps50
      go_upto_region 1 with fail
      rw [← hW.out]
      clear hW
      go_wp2
      go_ret
      exact ⟨ret_int hr.out.symm, HB.out⟩
    · have g1 : ¬ (i : Int) < (r.kids.length : Int) := by omega
      have hr : Hid (kidI r x i = -1) := by show _ = _; unfold kidI; rw [if_neg (by omega), if_neg (by omega), if_pos (by omega), if_neg hik]
      have HKK := Lib.hid hk
      clear hk
      go_enter Try.func50, Try.ntmps50
      go_upto_region 1 with fail
      rw [← hW.out]
      clear hW
      go_wp2
      go_ret
      exact ⟨ret_int hr.out.symm, HB.out⟩
  all_goals
    have hr := Lib.hid (HLAST.out (by omega) (by omega) (by omega) (by omega) (by omega))
    rw [hk] at y1
    have HKK := Lib.hid hk
    clear hk
    go_enter Try.func50, Try.ntmps50
    go_upto_region 1 with fail
    rw [← hW.out]
    clear hW
    go_wp2
    go_ret
    exact ⟨ret_int hr.out.symm, HB.out⟩
end Go.Proofs.Ytefkhknfjohnaaa
