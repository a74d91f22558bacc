/- What lies in memory while a default value is set in place. No function of the program is walked here. -/
import Derived.Test.YtefkhknfjohnaaaGT
import Derived.Test.YtefkhknfjohnaaaDefP
import Derived.Test.YtefkhknfjohnaaaArr
import Derived.Test.YtefkhknfjohnaaaGK
namespace Go.Proofs.Ytefkhknfjohnaaa
open Go Go.RowKit
theorem made_zeroD (n : Nat) (t : TypeId) (w : World) : ∀ j, j < n → PlacedAt w.heap.size (j * 3) zeroVal (w.alloc (.cells (madeCells #[.int .i64 0, .slice none 0 0, .slice none 0 0] (n * 3)) t)) := fun j hj i v hv => by
  have hi3 : i < 3 := by
    rcases Nat.lt_or_ge i 3 with h | h
    · exact h
    · rw [List.getElem?_eq_none (by simpa [zeroVal] using h)] at hv; cases hv
  refine ⟨(World.cell?_alloc_mark w _ t (0, 0) (j * 3 + i)).trans ?_, by simp⟩
  rw [made_at _ _ (by omega)]
  have e : (j * 3 + i) % 3 = i := by omega
  show some (#[.int .i64 0, .slice none 0 0, .slice none 0 0] : Array Value)[(j * 3 + i) % 3]! = some v
  rw [e]
  rcases (by omega : i = 0 ∨ i = 1 ∨ i = 2) with rfl | rfl | rfl <;> exact hv
theorem make_bytesD (h : Nat) (hh : h ≤ 1000000) (W : World) : (Instr.makeSlice 22 (.int .i64 (h : Int)) (.int .i64 (h : Int))).run Try.prog W = .ok (.slice (some ⟨W.heap.size, 0, none⟩) h h) (W.alloc (.cells (madeCells #[.int .u8 0] h) 5)) := by
  obtain ⟨i0, hi, hz0, hz1, hz2⟩ := infoParts
  have hr := run_make (P := Try.prog) W 22 5 i0 (.int .u8 0) Try.underlying22 hi hz0 .i64 .i64 (h : Int) (h : Int) (by omega) (by omega) (by rw [hz2]; omega) (by omega)
  rw [hr, hz1]
  simp [Value.cells]
/-- Zero bytes that were made. -/
theorem made_byt (n : Nat) (w : World) : ∃ b1, BytT b1 (some ⟨w.heap.size, 0, none⟩) (List.replicate n 0) (w.alloc (.cells (madeCells #[.int .u8 0] n) 5)) ∧ b1.Nodup ∧ ∀ b ∈ b1, b = w.heap.size := by
  by_cases h0 : n = 0
  · subst h0
    exact ⟨[], .inl ⟨rfl, rfl⟩, List.nodup_nil, fun b hb => by cases hb⟩
  · refine ⟨[w.heap.size], .inr ⟨⟨w.heap.size, 0, rfl, rfl, fun j hj => ?_⟩, fun e => h0 (by simpa using e)⟩, by simp, fun b hb => by simpa using hb⟩
    have hj2 : j < n := by simpa using hj
    refine ⟨(World.cell?_alloc_mark w _ 5 (0, 0) (0 + j)).trans ?_, by simp⟩
    rw [Nat.zero_add, made_at _ _ hj2]
    simp
    rw [Nat.mod_one]
    rfl
/-- What setDefault leaves: the value in place. -/
def DefAt (Z o n : Nat) (v : ValueV) (w : World) (e : Ending) (w' : World) : Prop :=
  e = .returned (.tuple #[]) ∧ ∃ bl cs, PlacedAt Z o cs w' ∧ OwnT n bl v cs w' ∧ (∀ b ∈ bl, w.heap.size ≤ b) ∧ Turn (InV Z o) w w'
theorem defV_eq (rs : List RuleV) (n : Nat) {k : Nat} (hk : k < rs.length) : defV rs (n + 1) (k : Int) = .mk (defNum rs[k]) (defBytes rs[k]) ((defKids rs[k]).map (defV rs n)) := by
  rw [defV, ruleAt_at hk]
/-- The default value of a rule; the zero value if there is none. -/
noncomputable def defD (rs : List RuleV) (k : Int) : ValueV := if okAt rs k = true then defV rs (k.toNat + 1) k else .mk 0 [] []
theorem defV_fuel {rs : List RuleV} (hall : allV (kindI rs) rs) : ∀ (n m k : Nat), k < rs.length → k < n → k < m → defV rs n (k : Int) = defV rs m (k : Int)
  | 0, _, _, _, h, _ => by omega
  | _, 0, _, _, _, h => by omega
  | n + 1, m + 1, k, hk, hn, hm => by
    rw [defV_eq rs n hk, defV_eq rs m hk]
    congr 1
    refine List.map_congr_left fun x hx => ?_
    have hki := allV_kind hall hk
    have h1 := allV_kids hall hk x (defKids_mem hki x hx)
    obtain ⟨j, rfl⟩ : ∃ j : Nat, x = (j : Int) := ⟨x.toNat, by omega⟩
    exact defV_fuel hall n m j (by omega) (by omega) (by omega)
end Go.Proofs.Ytefkhknfjohnaaa
