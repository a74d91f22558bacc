/- Contracts of the program's CountParts and TotalBytes. -/
import Derived.Test.YtefkhknfjohnaaaVisit
namespace Go.Proofs.Ytefkhknfjohnaaa
open Go Go.RowKit
/-- A part that can be read. -/
def ReadsAt (n : Nat) (p : Node) (w : World) : Prop := ∃ cs, IsVal n p.2.2 cs w ∧ ∀ i u, cs[i]? = some u → w.cell? ⟨p.1, p.2.1 + i, none⟩ = some u
theorem ReadsAt.below {n : Nat} {p : Node} {w w' : World} (h : ReadsAt n p w) (hb : Below w.heap.size w w') : ReadsAt n p w' := by
  obtain ⟨cs, h1, h2⟩ := h
  exact ⟨cs, h1.below hb, fun i u hu => cell_keepV hb (h2 i u hu)⟩
theorem ReadsAt.open {n b o : Nat} {v : ValueV} {w : World} (h : ReadsAt n (b, o, v) w) : ∃ ab cb ai ci b' o', (w.cell? ⟨b, o, none⟩ = some (.int .i64 v.number) ∧ w.cell? ⟨b, o + 1, none⟩ = some (.slice ab v.bytes.length cb) ∧ w.cell? ⟨b, o + 2, none⟩ = some (.slice ai v.items.length ci)) ∧ RdN ab v.bytes cb w ∧
    (v.items ≠ [] → ai = some ⟨b', o', none⟩) ∧ ∀ p ∈ kidsAt b' o' v.items, ReadsAt (n - 1) p w := by
  obtain ⟨cs, h1, h2⟩ := h
  cases n with
  | zero => exact h1.elim
  | succ n =>
    obtain ⟨ab, cb, ai, ci, rfl, hb, hit⟩ := h1.open
    have c0 := h2 0 _ rfl
    have c1 := h2 1 _ rfl
    have c2 := h2 2 _ rfl
    by_cases hv : v.items = []
    · exact ⟨ab, cb, ai, ci, 0, 0, ⟨c0, c1, c2⟩, hb, fun h => absurd hv h, fun p hp => by rw [hv] at hp; cases hp⟩
    · have hp : 0 < v.items.length := (by cases hw : v.items with | nil => exact absurd hw hv | cons x r => simp)
      obtain ⟨b', o', _, rfl, _, _⟩ := hit 0 hp
      refine ⟨ab, cb, _, ci, b', o', ⟨c0, c1, c2⟩, hb, fun _ => rfl, fun p hp => ?_⟩
      obtain ⟨j, hj, rfl⟩ := kidsAt_mem hp
      obtain ⟨b2, o2, cs', e, h3, h4⟩ := hit j hj
      injection e with e
      injection e with e1 e2
      subst e1 e2
      exact ⟨cs', h3, h4⟩
theorem ReadsAt.lt {n : Nat} {p : Node} {w : World} (h : ReadsAt n p w) : p.1 < w.heap.size := by
  obtain ⟨ab, cb, ai, ci, b', o', ⟨c0, _⟩, _⟩ := ReadsAt.open (b := p.1) (o := p.2.1) (v := p.2.2) h
  exact cell_lt c0
set_option maxRecDepth 100000 in
/-- One visit. -/
theorem count_clo (b o c m : Nat) (w : World) (hc : w.cell? ⟨c, 0, none⟩ = some (.int .i64 (m : Int))) (hf : w.frozen? ⟨c, 0, none⟩ = false) (hm : m + 1 ≤ 16777217) :
    Calls Try.prog 52 #[.pointer (some ⟨b, o, none⟩), .pointer (some ⟨c, 0, none⟩)] w fun e w' => e = .returned (.tuple #[]) ∧ w' = w.setCell ⟨c, 0, none⟩ (.int .i64 ((m + 1 : Nat) : Int)) := by
  obtain ⟨m1, hm1⟩ : ∃ m1, m1 = m + 1 := ⟨_, rfl⟩
  have hq : (m : Int) + 1 = (m1 : Int) := by omega
  have hb : m1 ≤ 16777217 := by omega
  rw [← hm1]
  clear hm hm1
  go_enter Try.func52, Try.ntmps52
  go_wp2
  first | go_end0 | go_ret
  all_goals exact ⟨rfl, rfl⟩
/-- What is kept while the parts are counted: the variable lies behind w1, all parts before it. -/
def Icount (T : Nat) (w1 : World) (bt : List Nat) (ps : List Node) (w : World) : Prop :=
  bt = [w1.heap.size] ∧ Below w1.heap.size w1 w ∧ (∃ m : Nat, w.cell? ⟨w1.heap.size, 0, none⟩ = some (.int .i64 (m : Int)) ∧ w.frozen? ⟨w1.heap.size, 0, none⟩ = false ∧ m + cntP ps = T) ∧ ∀ p ∈ ps, ∃ k, ReadsAt k p w1
theorem Icount.keeps (T : Nat) (w1 : World) : Keeps (w1.heap.size + 1) (Icount T w1) where
  stay := fun bt ps w w' row h hg hr => by
    obtain ⟨rfl, hb, ⟨m, h1, h2, h3⟩, h4⟩ := h
    have hne : some w1.heap.size ≠ row := fun e => (hr _ e.symm).1 (by simp)
    refine ⟨rfl, hb.grown hg hb.size (fun k hk => by have := (hr k hk).2; omega), ⟨m, hg.cell h1 hne, ?_, h3⟩, h4⟩
    exact (World.frozen?_of_block (a := ⟨w1.heap.size, 0, none⟩) (hg.block _ (cell_lt h1) hne)).trans h2
  lt := fun bt ps w h b hb => by
    obtain ⟨rfl, _, ⟨m, h1, _⟩, _⟩ := h
    simp at hb
    subst hb
    exact cell_lt h1
theorem Icount.visit (T : Nat) (hT : T ≤ 16777217) (w1 : World) (bt : List Nat) (ps : List Node) (b o : Nat) (v : ValueV) (w : World) (h : Icount T w1 bt (ps ++ [(b, o, v)]) w) (_ : cntP (ps ++ [(b, o, v)]) ≤ 16777217) (_ : w1.heap.size + 1 ≤ w.heap.size) :
    Calls Try.prog 52 #[.pointer (some ⟨b, o, none⟩), .pointer (some ⟨w1.heap.size, 0, none⟩)] w (Visited (w1.heap.size + 1) (Icount T w1) bt ps b o v w) := by
  obtain ⟨rfl, hb, ⟨m, h1, h2, h3⟩, h4⟩ := h
  obtain ⟨k, hk⟩ := h4 (b, o, v) (by simp)
  have hlt := hk.lt
  simp only at hlt
  obtain ⟨ab, cb, ai, ci, b', o', ⟨c0, c1, c2⟩, _, hai, hkids⟩ := ReadsAt.open hk
  have hst := cntP_step ps b o b' o' v
  have hne : b ≠ w1.heap.size := by omega
  refine (count_clo b o w1.heap.size m w h1 h2 (by omega)).mono ?_
  rintro e w' ⟨rfl, rfl⟩
  have hon : Only [w1.heap.size] w (w.setCell ⟨w1.heap.size, 0, none⟩ (.int .i64 ((m + 1 : Nat) : Int))) := Only.set (by simp)
  refine ⟨rfl, [w1.heap.size], ai, ci, b', o', hon, fun x hx => .inl hx, .inr (by omega), by simp; have := hb.size; omega, ?_, hai, rfl, ?_, ⟨m + 1, ?_, ?_, by omega⟩, fun p hp => ?_⟩
  · rw [World.cell?_setCell_other (h := show (⟨w1.heap.size, 0, none⟩ : Addr) ≠ ⟨b, o + 2, none⟩ from fun e => by injection e with e1; exact hne e1.symm)]
    exact cell_keepV hb c2
  · exact Below.setCell hb (p := ⟨w1.heap.size, 0, none⟩) (Nat.le_refl _) _
  · exact World.cell?_setCell_same _ _ _ h1
  · rw [World.frozen?_setCell]
    exact h2
  · rcases List.mem_append.1 hp with hp | hp
    · exact h4 p (List.mem_append_left _ hp)
    · exact ⟨_, hkids p hp⟩
set_option maxRecDepth 100000 in
set_option maxHeartbeats 4000000 in
/-- The program's CountParts. -/
theorem count_impl (n : Nat) (v : ValueV) (cs : List Value) (w : World) (h : IsVal n v cs w) (hs : sizV v ≤ 16777216) :
    Calls Try.prog 30 #[.agg cs.toArray] w fun e w' => e = .returned (.int .i64 (cntV v : Nat)) ∧ Below w.heap.size w w' := by
  obtain ⟨ab, cb, ai, ci, rfl⟩ := h.three
  obtain ⟨w1, hw1⟩ : ∃ w1, w1 = w.alloc (.cells #[.int .i64 v.number, .slice ab v.bytes.length cb, .slice ai v.items.length ci] 47) := ⟨_, rfl⟩
  have hB : Below w.heap.size w w1 := by subst hw1; exact (Below.refl _ _).alloc (Nat.le_refl _) _
  have hX : CellsAt w.heap.size [.int .i64 v.number, .slice ab v.bytes.length cb, .slice ai v.items.length ci] w1 := by subst hw1; exact CellsAt.new w _ _
  have hz : w1.heap.size = w.heap.size + 1 := by subst hw1; simp
  obtain ⟨w2, hw2⟩ : ∃ w2, w2 = w1.alloc (.cells #[.int .i64 0] 3) := ⟨_, rfl⟩
  have hB2 : Below w1.heap.size w1 w2 := by subst hw2; exact (Below.refl _ _).alloc (Nat.le_refl _) _
  have hC : CellsAt w1.heap.size [.int .i64 0] w2 := by subst hw2; exact CellsAt.new w1 _ _
  have hsz2 : w2.heap.size = w1.heap.size + 1 := by subst hw2; simp
  have hvs := cnt_siz v
  have hI : Icount (cntV v) w1 [w1.heap.size] [(w.heap.size, 0, v)] w2 := by
    refine ⟨rfl, hB2, ⟨0, (hC 0 _ rfl).1, (hC 0 _ rfl).2, by simp [cntP]⟩, fun p hp => ?_⟩
    simp at hp
    subst hp
    refine ⟨n, _, h.below hB, fun i u hu => ?_⟩
    have := (hX i u hu).1
    simpa using this
  have hcall := visit_count w1.heap.size (w1.heap.size + 1) (Icount (cntV v) w1) (Icount.keeps _ w1) (fun bt ps b o u W => Icount.visit _ (by omega) w1 bt ps b o u W) w.heap.size 0 v [w1.heap.size] w2 hI (by omega) (by have := cnt_siz v; omega)
  have HCALL := Lib.hid hcall
  have HB := Lib.hid hB
  have hW1 := Lib.hid hw1
  have hW2 := Lib.hid hw2
  have HZ := Lib.hid hz
  obtain ⟨N, hN⟩ : ∃ N, N = cntV v := ⟨_, rfl⟩
  have HN := Lib.hid hN
  have HBB := Lib.hid hB2
  rw [← hN]
  clear hcall hI hC hX hB2 h hs hvs hN
  clear hB hw1 hw2 hz hsz2
  go_enter Try.func30, Try.ntmps30
  go_upto_region 1 with fail
  rw [← hW1.out]
  go_upto_region 2 with fail
  rw [← hW2.out]
  go_wp2_with fail
  refine HCALL.out.mono ?_
  rintro e w3 ⟨rfl, bt, rfl, hb3, ⟨m, h1, h2, h3⟩, -⟩
  have HM : Hid (m = N) := by show _ = _; rw [HN.out]; simpa [cntP] using h3
  have HB3 := Lib.hid (HB.out.trans (hb3.mono HB.out.size))
  clear hb3 h2 h3
  go_wp2
  go_ret
  exact ⟨ret_int (by have := HM.out; omega), HB3.out⟩
/-- How many bytes are still to come. -/
def totP : List Node → Nat
  | [] => 0
  | p :: ps => totV p.2.2 + totP ps
theorem totP_append : ∀ (ps qs : List Node), totP (ps ++ qs) = totP ps + totP qs
  | [], qs => by simp [totP]
  | p :: ps, qs => by rw [List.cons_append, totP, totP, totP_append ps qs]; omega
theorem totP_kids : ∀ (b o : Nat) (vs : List ValueV), totP (kidsAt b o vs) = totL vs
  | _, _, [] => rfl
  | b, o, v :: vs => by rw [kidsAt, totP, totL, totP_kids]
theorem totP_step (ps : List Node) (b o b' o' : Nat) (v : ValueV) : totP (ps ++ kidsAt b' o' v.items) + v.bytes.length = totP (ps ++ [(b, o, v)]) := by
  rw [totP_append, totP_append, totP_kids]
  have := totV_eq v
  simp only [totP]
  omega
set_option maxRecDepth 100000 in
/-- One visit. -/
theorem total_clo (b o c m : Nat) (v : ValueV) (ab : Option Addr) (cb : Nat) (w : World) (hc : w.cell? ⟨c, 0, none⟩ = some (.int .i64 (m : Int))) (hf : w.frozen? ⟨c, 0, none⟩ = false) (h1 : w.cell? ⟨b, o + 1, none⟩ = some (.slice ab v.bytes.length cb)) (hm : m + v.bytes.length ≤ 16777217) :
    Calls Try.prog 54 #[.pointer (some ⟨b, o, none⟩), .pointer (some ⟨c, 0, none⟩)] w fun e w' => e = .returned (.tuple #[]) ∧ ∃ k, w' = (w.drewN k).setCell ⟨c, 0, none⟩ (.int .i64 ((m + v.bytes.length : Nat) : Int)) := by
  obtain ⟨m1, hm1⟩ : ∃ m1, m1 = m + v.bytes.length := ⟨_, rfl⟩
  obtain ⟨l, hl⟩ : ∃ l, l = v.bytes.length := ⟨_, rfl⟩
  rw [← hl] at h1
  have hq : (m : Int) + (l : Int) = (m1 : Int) := by omega
  have hb : m1 ≤ 16777217 := by omega
  rw [← hm1]
  clear hm hm1 hl
  go_enter Try.func54, Try.ntmps54
  go_region
  all_goals (try go_wp2)
  all_goals (first | go_end0 | go_ret | skip)
  all_goals exact ⟨rfl, 1, rfl⟩
/-- What is kept while the parts are counted: the variable lies behind w1, all parts before it. -/
def Itotal (T : Nat) (w1 : World) (bt : List Nat) (ps : List Node) (w : World) : Prop :=
  bt = [w1.heap.size] ∧ Below w1.heap.size w1 w ∧ (∃ m : Nat, w.cell? ⟨w1.heap.size, 0, none⟩ = some (.int .i64 (m : Int)) ∧ w.frozen? ⟨w1.heap.size, 0, none⟩ = false ∧ m + totP ps = T) ∧ ∀ p ∈ ps, ∃ k, ReadsAt k p w1
theorem Itotal.keeps (T : Nat) (w1 : World) : Keeps (w1.heap.size + 1) (Itotal T w1) where
  stay := fun bt ps w w' row h hg hr => by
    obtain ⟨rfl, hb, ⟨m, h1, h2, h3⟩, h4⟩ := h
    have hne : some w1.heap.size ≠ row := fun e => (hr _ e.symm).1 (by simp)
    refine ⟨rfl, hb.grown hg hb.size (fun k hk => by have := (hr k hk).2; omega), ⟨m, hg.cell h1 hne, ?_, h3⟩, h4⟩
    exact (World.frozen?_of_block (a := ⟨w1.heap.size, 0, none⟩) (hg.block _ (cell_lt h1) hne)).trans h2
  lt := fun bt ps w h b hb => by
    obtain ⟨rfl, _, ⟨m, h1, _⟩, _⟩ := h
    simp at hb
    subst hb
    exact cell_lt h1
theorem Itotal.visit (T : Nat) (hT : T ≤ 16777217) (w1 : World) (bt : List Nat) (ps : List Node) (b o : Nat) (v : ValueV) (w : World) (h : Itotal T w1 bt (ps ++ [(b, o, v)]) w) (_ : cntP (ps ++ [(b, o, v)]) ≤ 16777217) (_ : w1.heap.size + 1 ≤ w.heap.size) :
    Calls Try.prog 54 #[.pointer (some ⟨b, o, none⟩), .pointer (some ⟨w1.heap.size, 0, none⟩)] w (Visited (w1.heap.size + 1) (Itotal T w1) bt ps b o v w) := by
  obtain ⟨rfl, hb, ⟨m, h1, h2, h3⟩, h4⟩ := h
  obtain ⟨k, hk⟩ := h4 (b, o, v) (by simp)
  have hlt := hk.lt
  simp only at hlt
  obtain ⟨ab, cb, ai, ci, b', o', ⟨c0, c1, c2⟩, _, hai, hkids⟩ := ReadsAt.open hk
  have hst := totP_step ps b o b' o' v
  have hne : b ≠ w1.heap.size := by omega
  refine (total_clo b o w1.heap.size m v ab cb w h1 h2 (cell_keepV hb c1) (by omega)).mono ?_
  rintro e w' ⟨rfl, k', rfl⟩
  have hon : Only [w1.heap.size] w ((w.drewN k').setCell ⟨w1.heap.size, 0, none⟩ (.int .i64 ((m + v.bytes.length : Nat) : Int))) := (Only.of_below _ (below_drewN (Below.refl _ _) k')).trans (Only.set (by simp))
  refine ⟨rfl, [w1.heap.size], ai, ci, b', o', hon, fun x hx => .inl hx, .inr (by omega), by simp; have := hb.size; omega, ?_, hai, rfl, ?_, ⟨m + v.bytes.length, ?_, ?_, by omega⟩, fun p hp => ?_⟩
  · rw [World.cell?_setCell_other (h := show (⟨w1.heap.size, 0, none⟩ : Addr) ≠ ⟨b, o + 2, none⟩ from fun e => by injection e with e1; exact hne e1.symm)]
    exact cell_keepV (below_drewN hb k') c2
  · exact Below.setCell (below_drewN hb k') (p := ⟨w1.heap.size, 0, none⟩) (Nat.le_refl _) _
  · exact World.cell?_setCell_same _ _ _ ((below_drewN (Below.refl _ w) k').cell (cell_lt h1) |>.trans h1)
  · rw [World.frozen?_setCell]
    exact ((below_drewN (Below.refl _ w) k').frozen (cell_lt h1) |>.trans h2)
  · rcases List.mem_append.1 hp with hp | hp
    · exact h4 p (List.mem_append_left _ hp)
    · exact ⟨_, hkids p hp⟩
set_option maxRecDepth 100000 in
set_option maxHeartbeats 4000000 in
/-- The program's TotalBytes. -/
theorem total_impl (n : Nat) (v : ValueV) (cs : List Value) (w : World) (h : IsVal n v cs w) (hs : sizV v ≤ 16777216) :
    Calls Try.prog 32 #[.agg cs.toArray] w fun e w' => e = .returned (.int .i64 (totV v : Nat)) ∧ Below w.heap.size w w' := by
  obtain ⟨ab, cb, ai, ci, rfl⟩ := h.three
  obtain ⟨w1, hw1⟩ : ∃ w1, w1 = w.alloc (.cells #[.int .i64 v.number, .slice ab v.bytes.length cb, .slice ai v.items.length ci] 47) := ⟨_, rfl⟩
  have hB : Below w.heap.size w w1 := by subst hw1; exact (Below.refl _ _).alloc (Nat.le_refl _) _
  have hX : CellsAt w.heap.size [.int .i64 v.number, .slice ab v.bytes.length cb, .slice ai v.items.length ci] w1 := by subst hw1; exact CellsAt.new w _ _
  have hz : w1.heap.size = w.heap.size + 1 := by subst hw1; simp
  obtain ⟨w2, hw2⟩ : ∃ w2, w2 = w1.alloc (.cells #[.int .i64 0] 3) := ⟨_, rfl⟩
  have hB2 : Below w1.heap.size w1 w2 := by subst hw2; exact (Below.refl _ _).alloc (Nat.le_refl _) _
  have hC : CellsAt w1.heap.size [.int .i64 0] w2 := by subst hw2; exact CellsAt.new w1 _ _
  have hsz2 : w2.heap.size = w1.heap.size + 1 := by subst hw2; simp
  have hvs := tot_siz v
  have hI : Itotal (totV v) w1 [w1.heap.size] [(w.heap.size, 0, v)] w2 := by
    refine ⟨rfl, hB2, ⟨0, (hC 0 _ rfl).1, (hC 0 _ rfl).2, by simp [totP]⟩, fun p hp => ?_⟩
    simp at hp
    subst hp
    refine ⟨n, _, h.below hB, fun i u hu => ?_⟩
    have := (hX i u hu).1
    simpa using this
  have hcall := visit_total w1.heap.size (w1.heap.size + 1) (Itotal (totV v) w1) (Itotal.keeps _ w1) (fun bt ps b o u W => Itotal.visit _ (by omega) w1 bt ps b o u W) w.heap.size 0 v [w1.heap.size] w2 hI (by omega) (by have := cnt_siz v; omega)
  have HCALL := Lib.hid hcall
  have HB := Lib.hid hB
  have hW1 := Lib.hid hw1
  have hW2 := Lib.hid hw2
  have HZ := Lib.hid hz
  obtain ⟨N, hN⟩ : ∃ N, N = totV v := ⟨_, rfl⟩
  have HN := Lib.hid hN
  have HBB := Lib.hid hB2
  rw [← hN]
  clear hcall hI hC hX hB2 h hs hvs hN
  clear hB hw1 hw2 hz hsz2
  go_enter Try.func32, Try.ntmps32
  go_upto_region 1 with fail
  rw [← hW1.out]
  go_upto_region 2 with fail
  rw [← hW2.out]
  go_wp2_with fail
  refine HCALL.out.mono ?_
  rintro e w3 ⟨rfl, bt, rfl, hb3, ⟨m, h1, h2, h3⟩, -⟩
  have HM : Hid (m = N) := by show _ = _; rw [HN.out]; simpa [totP] using h3
  have HB3 := Lib.hid (HB.out.trans (hb3.mono HB.out.size))
  clear hb3 h2 h3
  go_wp2
  go_ret
  exact ⟨ret_int (by have := HM.out; omega), HB3.out⟩
end Go.Proofs.Ytefkhknfjohnaaa
