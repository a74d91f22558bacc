/- Arrays of 24 ints and of 24 bools, by value. -/
import Derived.Test.YtefkhknfjohnaaaGP
import Derived.Deep.MidRow
namespace Go.Proofs.Ytefkhknfjohnaaa
open Go Go.RowKit
/-- The cells of a table in an array of 24. -/
def arr24 (t : List Int) : List Value := (List.range 24).map fun (i : Nat) => Value.int .i64 (tabAt t (i : Int))
theorem arr24_length (t : List Int) : (arr24 t).length = 24 := by simp [arr24]
theorem arr24_at (t : List Int) {i : Nat} (h : i < 24) : (arr24 t)[i]? = some (.int .i64 (tabAt t (i : Int))) := by
  simp [arr24, h]
theorem tabAt_snoc (t : List Int) (x : Int) (i : Nat) : tabAt (t ++ [x]) (i : Int) = if i = t.length then x else tabAt t (i : Int) := by
  unfold tabAt
  simp only [List.getD, Int.toNat_natCast]
  by_cases h : i < t.length
  · rw [List.getElem?_append_left h, if_neg (by omega)]
  · rw [List.getElem?_append_right (by omega)]
    by_cases h2 : i = t.length
    · subst h2; simp
    · rw [if_neg h2, List.getElem?_eq_none (by simp; omega), List.getElem?_eq_none (by omega)]
theorem arr24_set (t : List Int) (x : Int) : (arr24 t).set t.length (.int .i64 x) = arr24 (t ++ [x]) := by
  refine List.ext_getElem? fun i => ?_
  by_cases hi : i < 24
  · rw [arr24_at _ hi, List.getElem?_set, tabAt_snoc]
    by_cases h : t.length = i
    · subst h
      rw [if_pos rfl, if_pos (by rw [arr24_length]; exact hi), if_pos rfl]
    · rw [if_neg h, if_neg (fun e => h e.symm), arr24_at _ hi]
  · rw [List.getElem?_eq_none (by rw [List.length_set, arr24_length]; omega), List.getElem?_eq_none (by rw [arr24_length]; omega)]
theorem arr24_nil : arr24 [] = [.int .i64 0, .int .i64 0, .int .i64 0, .int .i64 0, .int .i64 0, .int .i64 0, .int .i64 0, .int .i64 0, .int .i64 0, .int .i64 0, .int .i64 0, .int .i64 0, .int .i64 0, .int .i64 0, .int .i64 0, .int .i64 0, .int .i64 0, .int .i64 0, .int .i64 0, .int .i64 0, .int .i64 0, .int .i64 0, .int .i64 0, .int .i64 0] := rfl
/-- The cells of marks in an array of n. -/
def arrB (u : Nat → Bool) (n : Nat) : List Value := (List.range n).map fun (i : Nat) => Value.bool (u i)
theorem arrB_length (u : Nat → Bool) (n : Nat) : (arrB u n).length = n := by simp [arrB]
theorem arrB_at (u : Nat → Bool) {n i : Nat} (h : i < n) : (arrB u n)[i]? = some (.bool (u i)) := by
  simp [arrB, h]
theorem arrB_set (u : Nat → Bool) (n m : Nat) : (arrB u n).set m (.bool true) = arrB (fun i => if i = m then true else u i) n := by
  refine List.ext_getElem? fun i => ?_
  by_cases hi : i < n
  · rw [arrB_at _ hi, List.getElem?_set]
    by_cases h : m = i
    · subst h
      rw [if_pos rfl, if_pos (by rw [arrB_length]; exact hi), if_pos rfl]
    · rw [if_neg h, if_neg (fun e => h e.symm), arrB_at _ hi]
  · rw [List.getElem?_eq_none (by rw [List.length_set, arrB_length]; omega), List.getElem?_eq_none (by rw [arrB_length]; omega)]
theorem CellsAt.range {b : Nat} {vs : List Value} {w : World} (h : CellsAt b vs w) : w.rangeAt b 0 vs := fun j v hv => by
  rw [Nat.zero_add]
  exact (h j v hv).1
/-- The cells of a table, one by one. -/
theorem arr24_cells {t : List Int} {b : Nat} {w : World} (h : CellsAt b (arr24 t) w) : ∃ x0 x1 x2 x3 x4 x5 x6 x7 x8 x9 x10 x11 x12 x13 x14 x15 x16 x17 x18 x19 x20 x21 x22 x23 : Int, (arr24 t).toArray = #[.int .i64 x0, .int .i64 x1, .int .i64 x2, .int .i64 x3, .int .i64 x4, .int .i64 x5, .int .i64 x6, .int .i64 x7, .int .i64 x8, .int .i64 x9, .int .i64 x10, .int .i64 x11, .int .i64 x12, .int .i64 x13, .int .i64 x14, .int .i64 x15, .int .i64 x16, .int .i64 x17, .int .i64 x18, .int .i64 x19, .int .i64 x20, .int .i64 x21, .int .i64 x22, .int .i64 x23] ∧
    w.cell? ⟨b, 0, none⟩ = some (.int .i64 x0) ∧ w.cell? ⟨b, 1, none⟩ = some (.int .i64 x1) ∧ w.cell? ⟨b, 2, none⟩ = some (.int .i64 x2) ∧ w.cell? ⟨b, 3, none⟩ = some (.int .i64 x3) ∧ w.cell? ⟨b, 4, none⟩ = some (.int .i64 x4) ∧ w.cell? ⟨b, 5, none⟩ = some (.int .i64 x5) ∧ w.cell? ⟨b, 6, none⟩ = some (.int .i64 x6) ∧ w.cell? ⟨b, 7, none⟩ = some (.int .i64 x7) ∧ w.cell? ⟨b, 8, none⟩ = some (.int .i64 x8) ∧ w.cell? ⟨b, 9, none⟩ = some (.int .i64 x9) ∧ w.cell? ⟨b, 10, none⟩ = some (.int .i64 x10) ∧ w.cell? ⟨b, 11, none⟩ = some (.int .i64 x11) ∧ w.cell? ⟨b, 12, none⟩ = some (.int .i64 x12) ∧ w.cell? ⟨b, 13, none⟩ = some (.int .i64 x13) ∧ w.cell? ⟨b, 14, none⟩ = some (.int .i64 x14) ∧ w.cell? ⟨b, 15, none⟩ = some (.int .i64 x15) ∧ w.cell? ⟨b, 16, none⟩ = some (.int .i64 x16) ∧ w.cell? ⟨b, 17, none⟩ = some (.int .i64 x17) ∧ w.cell? ⟨b, 18, none⟩ = some (.int .i64 x18) ∧ w.cell? ⟨b, 19, none⟩ = some (.int .i64 x19) ∧ w.cell? ⟨b, 20, none⟩ = some (.int .i64 x20) ∧ w.cell? ⟨b, 21, none⟩ = some (.int .i64 x21) ∧ w.cell? ⟨b, 22, none⟩ = some (.int .i64 x22) ∧ w.cell? ⟨b, 23, none⟩ = some (.int .i64 x23) :=
  ⟨tabAt t 0, tabAt t 1, tabAt t 2, tabAt t 3, tabAt t 4, tabAt t 5, tabAt t 6, tabAt t 7, tabAt t 8, tabAt t 9, tabAt t 10, tabAt t 11, tabAt t 12, tabAt t 13, tabAt t 14, tabAt t 15, tabAt t 16, tabAt t 17, tabAt t 18, tabAt t 19, tabAt t 20, tabAt t 21, tabAt t 22, tabAt t 23, rfl, (h 0 _ rfl).1, (h 1 _ rfl).1, (h 2 _ rfl).1, (h 3 _ rfl).1, (h 4 _ rfl).1, (h 5 _ rfl).1, (h 6 _ rfl).1, (h 7 _ rfl).1, (h 8 _ rfl).1, (h 9 _ rfl).1, (h 10 _ rfl).1, (h 11 _ rfl).1, (h 12 _ rfl).1, (h 13 _ rfl).1, (h 14 _ rfl).1, (h 15 _ rfl).1, (h 16 _ rfl).1, (h 17 _ rfl).1, (h 18 _ rfl).1, (h 19 _ rfl).1, (h 20 _ rfl).1, (h 21 _ rfl).1, (h 22 _ rfl).1, (h 23 _ rfl).1⟩
theorem cell_keepB {B : Nat} {w w' : World} {p : Addr} {v : Value} (hb : Below B w w') (hp : p.block < B) (h : w.cell? p = some v) : w'.cell? p = some v := (hb.cell hp).trans h
/-- The slice at a reads as these rules, and their names' and kids' slices have room for them. -/
def RdK (a : Option Addr) (rs : List RuleV) (w : World) : Prop :=
  ∀ j (h : j < rs.length), ∃ b off cs, a = some ⟨b, off, none⟩ ∧ IsRule rs[j] cs w ∧ Cap5 cs ∧ Cap7 cs ∧ ∀ i v, cs[i]? = some v → w.cell? ⟨b, off + j * 8 + i, none⟩ = some v
theorem RdK.rdc {a : Option Addr} {rs : List RuleV} {w : World} (h : RdK a rs w) : RdC a rs w := fun j hj => by
  obtain ⟨b, off, cs, h1, h2, h3, _, h4⟩ := h j hj
  exact ⟨b, off, cs, h1, h2, h3, h4⟩
theorem RdK.rd {a : Option Addr} {rs : List RuleV} {w : World} (h : RdK a rs w) : RdR a rs w := h.rdc.rd
theorem RdK.below {a : Option Addr} {rs : List RuleV} {w w' : World} (h : RdK a rs w) (hb : Below w.heap.size w w') : RdK a rs w' := fun j hj => by
  obtain ⟨b, off, cs, ha, hr, hp, hq, hc⟩ := h j hj
  exact ⟨b, off, cs, ha, hr.below hb, hp, hq, fun i v hi => (hb.cell (cell_lt (hc i v hi))).trans (hc i v hi)⟩
theorem OwnRule.cap7 {lo hi : Nat} {r : RuleV} {cs : List Value} {w : World} (h : OwnRule lo hi r cs w) : Cap7 cs := fun a n c hc => by
  obtain ⟨a4, c4, a5, c5, a6, c6, a7, c7, rfl, _, _, _, h7, _⟩ := h
  simp at hc
  obtain ⟨_, rfl, rfl⟩ := hc
  exact h7.2.1
theorem OwnR.rdk {lo hi : Nat} {a : Option Addr} {rs : List RuleV} {cap : Nat} {w : World} (h : OwnR lo hi a rs cap w) : RdK a rs w := fun j hj => by
  obtain ⟨css, hl, ho, hr, _⟩ := h
  rcases hr with rfl | ⟨b, off, ha, _, _, hc, _⟩
  · simp at hj
  · exact ⟨b, off, css[j]'(by omega), ha, (ho j hj (by omega)).is, (ho j hj (by omega)).cap, (ho j hj (by omega)).cap7, fun i v hv => (hc j (by omega) i v hv).1⟩
/-- One rule of a slice, cell by cell. -/
theorem RdK.at {a : Option Addr} {rs : List RuleV} {w : World} (h : RdK a rs w) (j : Nat) (hj : j < rs.length) : ∃ b off a4 c4 a5 c5 a6 c6 a7 c7, a = some ⟨b, off, none⟩ ∧
    (w.cell? ⟨b, off + j * 8, none⟩ = some (.string rs[j].name) ∧ w.cell? ⟨b, off + j * 8 + 1, none⟩ = some (.int .i64 rs[j].kind) ∧ w.cell? ⟨b, off + j * 8 + 2, none⟩ = some (.int .i64 rs[j].size) ∧ w.cell? ⟨b, off + j * 8 + 3, none⟩ = some (.bool rs[j].little) ∧
    w.cell? ⟨b, off + j * 8 + 4, none⟩ = some (.slice a4 rs[j].bytes.length c4) ∧ w.cell? ⟨b, off + j * 8 + 5, none⟩ = some (.slice a5 rs[j].names.length c5) ∧ w.cell? ⟨b, off + j * 8 + 6, none⟩ = some (.slice a6 rs[j].tags.length c6) ∧ w.cell? ⟨b, off + j * 8 + 7, none⟩ = some (.slice a7 rs[j].kids.length c7)) ∧
    (Rd a4 rs[j].bytes w ∧ RdStr a5 rs[j].names w ∧ RdI a6 rs[j].tags w ∧ RdI a7 rs[j].kids w) ∧ rs[j].kids.length ≤ c7 := by
  obtain ⟨b, off, cs, ha, ⟨a4, c4, a5, c5, a6, c6, a7, c7, rfl, h4, h5, h6, h7⟩, _, hq, hc⟩ := h j hj
  exact ⟨b, off, a4, c4, a5, c5, a6, c6, a7, c7, ha, ⟨hc 0 _ rfl, hc 1 _ rfl, hc 2 _ rfl, hc 3 _ rfl, hc 4 _ rfl, hc 5 _ rfl, hc 6 _ rfl, hc 7 _ rfl⟩, ⟨h4, h5, h6, h7⟩, hq a7 _ c7 rfl⟩
theorem infoB24 (u : Nat → Bool) : (Try.prog.info? 109).map (·.size) = some (arrB u 24).length := by rw [arrB_length]; kernel_rfl
end Go.Proofs.Ytefkhknfjohnaaa
