/- Contracts of the functions that draw: the cursor over the bytes of a code. -/
import Derived.Test.YtikpbeealeofaaaDoorChecked
import Derived.WalkKit
import Derived.ProofKit
import Derived.LoopTactic
import Derived.Lib.Hide
import Derived.Deep.QuietTactic
import Derived.BigQuiet
import Derived.Laws.AppendOwn
import Derived.OwnWalk
import Derived.Lib.BufferOwn
namespace Go.Proofs.YtikpbeealeofaaaDoor
open Go Go.RowKit
/-- The bytes that the cursor reads, outside the cursor's own block c. -/
def Src (a : Option Addr) (len c : Nat) (w : World) : Prop := ∀ j, j < len → ∃ b off x : Nat, a = some ⟨b, off, none⟩ ∧ b ≠ c ∧ x < 256 ∧ w.cell? ⟨b, off + j, none⟩ = some (.int .u8 x)
/-- Block c is a cursor over the bytes of the slice. -/
def Cur (a : Option Addr) (len cap c : Nat) (w : World) : Prop :=
  ∃ (k : Nat) (h : Int), k ≤ len ∧ w.cell? ⟨c, 0, none⟩ = some (.slice a len cap) ∧ w.cell? ⟨c, 1, none⟩ = some (.int .i64 k) ∧ w.cell? ⟨c, 2, none⟩ = some (.int .i64 h)
    ∧ w.frozen? ⟨c, 1, none⟩ = false ∧ w.frozen? ⟨c, 2, none⟩ = false ∧ Src a len c w
/-- An int of which P holds is drawn; only the cursor's block has turned. -/
def DrawOut (P : Int → Prop) (a : Option Addr) (len cap c : Nat) (w : World) (e : Ending) (w' : World) : Prop :=
  ∃ x : Int, P x ∧ e = .returned (.int .i64 x) ∧ Cur a len cap c w' ∧ w.grownBy w' (some c)
theorem and255 (x : Int) : 0 ≤ bits .and .i64 x 255 ∧ bits .and .i64 x 255 < 256 := by
  show 0 ≤ IntKind.i64.wrap ((BitVec.ofInt 64 x &&& BitVec.ofInt 64 255).toNat : Int) ∧ IntKind.i64.wrap ((BitVec.ofInt 64 x &&& BitVec.ofInt 64 255).toNat : Int) < 256
  have e : (BitVec.ofInt 64 255).toNat = 255 := by decide
  have h : (BitVec.ofInt 64 x &&& BitVec.ofInt 64 255).toNat ≤ 255 := by
    rw [BitVec.toNat_and, e]; exact Nat.and_le_right
  rw [IntKind.wrap_i64]
  omega
theorem Src.grown {a : Option Addr} {len c : Nat} {w w' : World} (h : Src a len c w) (hg : w.grownBy w' (some c)) : Src a len c w' := fun j hj => by
  obtain ⟨b, off, x, ha, hb, hx, hc⟩ := h j hj
  exact ⟨b, off, x, ha, hb, hx, hg.cell hc (by simpa using hb)⟩
theorem grown_drewN {a w : World} {row : Option Nat} (h : a.grownBy w row) (n : Nat) : a.grownBy (w.drewN n) row := ⟨h.os, h.tape, h.output, h.size, h.block⟩
theorem grown_set {a w : World} {c : Nat} (h : a.grownBy w (some c)) (i : Nat) (v : Value) : a.grownBy (w.setCell ⟨c, i, none⟩ v) (some c) := Lib.grownBy_setB h i v
theorem grown_refl (w : World) (c : Nat) : w.grownBy w (some c) := World.grownBy.refl w _
/-- The cursor behind a store of its number. -/
theorem cur_set2 {a : Option Addr} {len cap c k : Nat} {h x : Int} {w : World} (hk : k ≤ len)
    (c0 : w.cell? ⟨c, 0, none⟩ = some (.slice a len cap)) (c1 : w.cell? ⟨c, 1, none⟩ = some (.int .i64 k)) (c2 : w.cell? ⟨c, 2, none⟩ = some (.int .i64 h))
    (f1 : w.frozen? ⟨c, 1, none⟩ = false) (f2 : w.frozen? ⟨c, 2, none⟩ = false) (hs : Src a len c w) : Cur a len cap c (w.setCell ⟨c, 2, none⟩ (.int .i64 x)) :=
  ⟨k, x, hk, (World.cell?_setCell_other _ _ _ _ (by simp)).trans c0, (World.cell?_setCell_other _ _ _ _ (by simp)).trans c1, World.cell?_setCell_same _ _ _ c2, by simpa using f1, by simpa using f2, hs.grown (grown_set (grown_refl w c) 2 _)⟩
theorem cur_set1 {a : Option Addr} {len cap c k : Nat} {w : World} (h : Cur a len cap c w) (hk : k ≤ len) : Cur a len cap c (w.setCell ⟨c, 1, none⟩ (.int .i64 k)) := by
  obtain ⟨k0, h0, _, c0, c1, c2, f1, f2, hs⟩ := h
  exact ⟨k, h0, hk, (World.cell?_setCell_other _ _ _ _ (by simp)).trans c0, World.cell?_setCell_same _ _ _ c1, (World.cell?_setCell_other _ _ _ _ (by simp)).trans c2, by simpa using f1, by simpa using f2, hs.grown (grown_set (grown_refl w c) 1 _)⟩
theorem cur_drewN {a : Option Addr} {len cap c : Nat} {w : World} (h : Cur a len cap c w) (n : Nat) : Cur a len cap c (w.drewN n) := h
/-- A string of which P holds is drawn. -/
def StrOut (P : ByteArray → Prop) (a : Option Addr) (len cap c : Nat) (w : World) (e : Ending) (w' : World) : Prop :=
  ∃ x : ByteArray, P x ∧ e = .returned (.string x) ∧ Cur a len cap c w' ∧ w.grownBy w' (some c)
/-- The bytes of the code that a law is called with. -/
def Code (a : Option Addr) (len : Nat) (w : World) : Prop := ∀ j, j < len → ∃ b off x : Nat, a = some ⟨b, off, none⟩ ∧ x < 256 ∧ w.cell? ⟨b, off + j, none⟩ = some (.int .u8 x)
theorem cell_lt {w : World} {p : Addr} {v : Value} (h : w.cell? p = some v) : p.block < w.heap.size := by
  rcases Nat.lt_or_ge p.block w.heap.size with h1 | h1
  · exact h1
  · unfold World.cell? at h
    simp [Array.getElem?_eq_none h1] at h
theorem Code.below {a : Option Addr} {len : Nat} {w w' : World} (h : Code a len w) (hb : Below w.heap.size w w') : Code a len w' := fun j hj => by
  obtain ⟨b, off, x, ha, hx, hc⟩ := h j hj
  exact ⟨b, off, x, ha, hx, (hb.cell (cell_lt hc)).trans hc⟩
theorem Code.src {a : Option Addr} {len c : Nat} {w : World} (h : Code a len w) (hc : w.heap.size ≤ c) : Src a len c w := fun j hj => by
  obtain ⟨b, off, x, ha, hx, hcell⟩ := h j hj
  have := cell_lt hcell
  exact ⟨b, off, x, ha, (by intro e; subst e; simp at this; omega), hx, hcell⟩
/-- A new cursor. -/
def NewOut (a : Option Addr) (len cap : Nat) (w : World) (e : Ending) (w' : World) : Prop :=
  e = .returned (.pointer (some ⟨w.heap.size, 0, none⟩)) ∧ Cur a len cap w.heap.size w' ∧ Below w.heap.size w w' ∧ w'.heap.size = w.heap.size + 1
end Go.Proofs.YtikpbeealeofaaaDoor
