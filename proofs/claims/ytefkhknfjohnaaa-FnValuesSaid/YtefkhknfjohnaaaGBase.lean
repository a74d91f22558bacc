/- Contracts of the functions that draw: the cursor over the bytes of a code. Rows of values of one cell each: what a slice reads, what lies in new memory, what a call touches. No function of the program is named here. Texts as lists of bytes: dividing, joining, cutting. No program. Contracts of the laws' helpers on slices of strings: copying, comparing, counting. Contracts of the laws' helpers on slices of ints: copying, comparing, marking, looking for the marks, the size. Rules and descriptions in memory: what a slice of rules reads as. Drawing one of a list that stands in the text; the cursor behind other work. Contracts of the laws' helpers on slices of bytes: copying, comparing, marking, looking for the marks. Plain facts on decimal digits (no program in this text). Drawing a bool: l1Once. -/
import Derived.Test.YtefkhknfjohnaaaChecked
import Derived.WalkKit
import Derived.ProofKit
import Derived.LoopTactic
import Derived.Lib.Hide
import Derived.Deep.QuietTactic
import Derived.BigQuiet
import Derived.Laws.AppendOwn
import Derived.OwnWalk
import Derived.Lib.BufferOwn
import Derived.Deep.AppendLies
import Derived.Deep.OwnRows
import Derived.Lib.Strings
import Derived.Laws.Strings2
import Derived.Lib.ItoaNum
namespace Go.Proofs.Ytefkhknfjohnaaa
open Go Go.RowKit
/-- The bytes that the cursor reads, outside the cursor's own block c. -/
def Src (a : Option Addr) (len c : Nat) (w : World) : Prop := ∀ j, j < len → ∃ b off x : Nat, a = some ⟨b, off, none⟩ ∧ b ≠ c ∧ x < 256 ∧ w.cell? ⟨b, off + j, none⟩ = some (.int .u8 x)
/-- Block c is a cursor over the bytes of the slice. -/
def Cur (a : Option Addr) (len cap c : Nat) (w : World) : Prop :=
  ∃ (k : Nat) (h : Int), k ≤ len ∧ w.cell? ⟨c, 0, none⟩ = some (.slice a len cap) ∧ w.cell? ⟨c, 1, none⟩ = some (.int .i64 k) ∧ w.cell? ⟨c, 2, none⟩ = some (.int .i64 h)
    ∧ w.frozen? ⟨c, 1, none⟩ = false ∧ w.frozen? ⟨c, 2, none⟩ = false ∧ Src a len c w
/-- An int of which P holds is drawn; only the cursor's block has turned. -/
def DrawOut (P : Int → Prop) (a : Option Addr) (len cap c : Nat) (w : World) (e : Ending) (w' : World) : Prop :=
  ∃ x : Int, P x ∧ e = .returned (.int .i64 x) ∧ Cur a len cap c w' ∧ w.grownBy w' (some c)
theorem and255 (x : Int) : 0 ≤ bits .and .i64 x 255 ∧ bits .and .i64 x 255 < 256 := by
  show 0 ≤ IntKind.i64.wrap ((BitVec.ofInt 64 x &&& BitVec.ofInt 64 255).toNat : Int) ∧ IntKind.i64.wrap ((BitVec.ofInt 64 x &&& BitVec.ofInt 64 255).toNat : Int) < 256
  have e : (BitVec.ofInt 64 255).toNat = 255 := by decide
  have h : (BitVec.ofInt 64 x &&& BitVec.ofInt 64 255).toNat ≤ 255 := by
    rw [BitVec.toNat_and, e]; exact Nat.and_le_right
  rw [IntKind.wrap_i64]
  omega
theorem Src.grown {a : Option Addr} {len c : Nat} {w w' : World} (h : Src a len c w) (hg : w.grownBy w' (some c)) : Src a len c w' := fun j hj => by
  obtain ⟨b, off, x, ha, hb, hx, hc⟩ := h j hj
  exact ⟨b, off, x, ha, hb, hx, hg.cell hc (by simpa using hb)⟩
theorem grown_drewN {a w : World} {row : Option Nat} (h : a.grownBy w row) (n : Nat) : a.grownBy (w.drewN n) row := ⟨h.os, h.tape, h.output, h.size, h.block⟩
theorem grown_set {a w : World} {c : Nat} (h : a.grownBy w (some c)) (i : Nat) (v : Value) : a.grownBy (w.setCell ⟨c, i, none⟩ v) (some c) := Lib.grownBy_setB h i v
theorem grown_refl (w : World) (c : Nat) : w.grownBy w (some c) := World.grownBy.refl w _
/-- The cursor behind a store of its number. -/
theorem cur_set2 {a : Option Addr} {len cap c k : Nat} {h x : Int} {w : World} (hk : k ≤ len)
    (c0 : w.cell? ⟨c, 0, none⟩ = some (.slice a len cap)) (c1 : w.cell? ⟨c, 1, none⟩ = some (.int .i64 k)) (c2 : w.cell? ⟨c, 2, none⟩ = some (.int .i64 h))
    (f1 : w.frozen? ⟨c, 1, none⟩ = false) (f2 : w.frozen? ⟨c, 2, none⟩ = false) (hs : Src a len c w) : Cur a len cap c (w.setCell ⟨c, 2, none⟩ (.int .i64 x)) :=
  ⟨k, x, hk, (World.cell?_setCell_other _ _ _ _ (by simp)).trans c0, (World.cell?_setCell_other _ _ _ _ (by simp)).trans c1, World.cell?_setCell_same _ _ _ c2, by simpa using f1, by simpa using f2, hs.grown (grown_set (grown_refl w c) 2 _)⟩
theorem cur_set1 {a : Option Addr} {len cap c k : Nat} {w : World} (h : Cur a len cap c w) (hk : k ≤ len) : Cur a len cap c (w.setCell ⟨c, 1, none⟩ (.int .i64 k)) := by
  obtain ⟨k0, h0, _, c0, c1, c2, f1, f2, hs⟩ := h
  exact ⟨k, h0, hk, (World.cell?_setCell_other _ _ _ _ (by simp)).trans c0, World.cell?_setCell_same _ _ _ c1, (World.cell?_setCell_other _ _ _ _ (by simp)).trans c2, by simpa using f1, by simpa using f2, hs.grown (grown_set (grown_refl w c) 1 _)⟩
theorem cur_drewN {a : Option Addr} {len cap c : Nat} {w : World} (h : Cur a len cap c w) (n : Nat) : Cur a len cap c (w.drewN n) := h
set_option maxRecDepth 100000 in
theorem byte_end (a : Option Addr) (len cap c : Nat) (h : Int) (w : World)
    (c0 : w.cell? ⟨c, 0, none⟩ = some (.slice a len cap)) (c1 : w.cell? ⟨c, 1, none⟩ = some (.int .i64 len)) (c2 : w.cell? ⟨c, 2, none⟩ = some (.int .i64 h))
    (f1 : w.frozen? ⟨c, 1, none⟩ = false) (f2 : w.frozen? ⟨c, 2, none⟩ = false) (hs : Src a len c w) :
    Calls Try.prog 79 #[.pointer (some ⟨c, 0, none⟩)] w (DrawOut (fun x => 0 ≤ x ∧ x < 256) a len cap c w) := by
  have HC := fun x : Int => Lib.hid (cur_set2 (x := x) (Nat.le_refl len) c0 c1 c2 f1 f2 hs)
  have HS := Lib.hid hs
  clear hs
  go_enter Try.func79, Try.ntmps79
  go_wp2
  go_quiet (fail)
  go_wp2
  go_quiet (fail)
  go_wp2
  go_ret
  exact ⟨_, and255 _, rfl, (HC _).out, grown_drewN (grown_drewN (grown_set (grown_refl w c) 2 _) _) _⟩
set_option maxRecDepth 100000 in
theorem byte_more (b off len cap c k x : Nat) (h : Int) (w : World) (hl : len ≤ 140737488355328) (hk : k < len) (hx : x < 256) (hne : b ≠ c) (hb : w.cell? ⟨b, off + k, none⟩ = some (.int .u8 x))
    (c0 : w.cell? ⟨c, 0, none⟩ = some (.slice (some ⟨b, off, none⟩) len cap)) (c1 : w.cell? ⟨c, 1, none⟩ = some (.int .i64 k)) (c2 : w.cell? ⟨c, 2, none⟩ = some (.int .i64 h))
    (f1 : w.frozen? ⟨c, 1, none⟩ = false) (f2 : w.frozen? ⟨c, 2, none⟩ = false) (hs : Src (some ⟨b, off, none⟩) len c w) :
    Calls Try.prog 79 #[.pointer (some ⟨c, 0, none⟩)] w (DrawOut (fun x => 0 ≤ x ∧ x < 256) (some ⟨b, off, none⟩) len cap c w) := by
  have HC := fun x : Int => Lib.hid (cur_set1 (k := k + 1) (cur_set2 (x := x) (Nat.le_of_lt hk) c0 c1 c2 f1 f2 hs) hk)
  have HS := Lib.hid hs
  clear hs
  have hcb : c ≠ b := fun e => hne e.symm
  have k0 : (0 : Int) ≤ (k : Int) := by omega
  have k1 : (k : Int) < (len : Int) := by omega
  go_enter Try.func79, Try.ntmps79
  go_wp2
  go_quiet (fail)
  go_wp2
  go_quiet (fail)
  go_wp2
  go_quiet (fail)
  go_wp2
  go_ret
  exact ⟨_, and255 _, rfl, (HC _).out, grown_set (grown_drewN (grown_set (grown_refl w c) 2 _) _) 1 _⟩
theorem byte_draw (a : Option Addr) (len cap c : Nat) (w : World) (hl : len ≤ 140737488355328) (hc : Cur a len cap c w) :
    Calls Try.prog 79 #[.pointer (some ⟨c, 0, none⟩)] w (DrawOut (fun x => 0 ≤ x ∧ x < 256) a len cap c w) := by
  obtain ⟨k, h, hk, c0, c1, c2, f1, f2, hs⟩ := hc
  rcases Nat.lt_or_ge k len with hlt | hge
  · obtain ⟨b, off, x, rfl, hne, hx, hb⟩ := hs k hlt
    exact byte_more b off len cap c k x h w hl hlt hx hne hb c0 c1 c2 f1 f2 hs
  · obtain rfl : k = len := by omega
    exact byte_end a k cap c h w c0 c1 c2 f1 f2 hs
set_option maxRecDepth 100000 in
theorem below_draw (a : Option Addr) (len cap c : Nat) (n : Int) (w : World) (hl : len ≤ 140737488355328) (h1 : 1 ≤ n) (h2 : n ≤ 1000000000) (hc : Cur a len cap c w) :
    Calls Try.prog 55 #[.pointer (some ⟨c, 0, none⟩), .int .i64 n] w (DrawOut (fun x => 0 ≤ x ∧ x < n) a len cap c w) := by
  have HC := Lib.hid hc
  clear hc
  by_cases h3 : n ≤ 256
  · go_enter Try.func55, Try.ntmps55
    go_wp2_with fail
    refine (byte_draw a len cap c _ hl HC.out).mono ?_
    rintro e w1 ⟨x, ⟨x0, x1⟩, rfl, hc1, hg1⟩
    have HC1 := Lib.hid hc1
    have HG1 := Lib.hid hg1
    clear hc1 hg1
    go_wp2_with fail
    go_ret
    exact ⟨_, ⟨Int.emod_nonneg _ (by omega), Int.emod_lt_of_pos _ (by omega)⟩, rfl, HC1.out, HG1.out⟩
  · go_enter Try.func55, Try.ntmps55
    go_wp2_with fail
    refine (byte_draw a len cap c _ hl HC.out).mono ?_
    rintro e w1 ⟨x, ⟨x0, x1⟩, rfl, hc1, hg1⟩
    have HC1 := Lib.hid hc1
    have HG1 := Lib.hid hg1
    clear hc1 hg1
    go_wp2_with fail
    refine (byte_draw a len cap c _ hl HC1.out).mono ?_
    rintro e w2 ⟨y, ⟨y0, y1⟩, rfl, hc2, hg2⟩
    have HC2 := Lib.hid hc2
    have HG2 := Lib.hid (Lib.grownBy_trans HG1.out hg2)
    clear hc2 hg2
    go_wp2_with fail
    refine (byte_draw a len cap c _ hl HC2.out).mono ?_
    rintro e w3 ⟨z, ⟨z0, z1⟩, rfl, hc3, hg3⟩
    have HC3 := Lib.hid hc3
    have HG3 := Lib.hid (Lib.grownBy_trans HG2.out hg3)
    clear hc3 hg3
    go_wp2_with fail
    go_ret
    exact ⟨_, ⟨Int.emod_nonneg _ (by omega), Int.emod_lt_of_pos _ (by omega)⟩, rfl, HC3.out, HG3.out⟩
/-- One of a list of ints is drawn. -/
theorem int_draw (a : Option Addr) (len cap c g : Nat) (zs : List Int) (w : World) (hl : len ≤ 140737488355328) (h1 : 1 ≤ zs.length) (h2 : zs.length ≤ 100000) (hc : Cur a len cap c w) (hg : g ≠ c)
    (hz : ∀ j, j < zs.length → w.cell? ⟨g, j, none⟩ = some (.int .i64 (zs.getD j 0))) :
    Calls Try.prog 56 #[.pointer (some ⟨c, 0, none⟩), .slice (some ⟨g, 0, none⟩) zs.length zs.length] w (DrawOut (fun x => x ∈ zs) a len cap c w) := by
  have HC := Lib.hid hc
  have HZ := Lib.hid hz
  clear hc hz
  go_enter Try.func56, Try.ntmps56
  go_wp2_with fail
  refine (below_draw a len cap c (zs.length : Int) _ hl (by omega) (by omega) HC.out).mono ?_
  rintro e w1 ⟨x, ⟨x0, x1⟩, rfl, hc1, hg1⟩
  have HC1 := Lib.hid hc1
  have HG1 := Lib.hid hg1
  clear hc1 hg1
  obtain ⟨k, rfl⟩ : ∃ k : Nat, x = (k : Int) := ⟨x.toNat, by omega⟩
  have hk : k < zs.length := by omega
  have hcell : w1.cell? ⟨g, k, none⟩ = some (.int .i64 (zs.getD k 0)) := HG1.out.cell (HZ.out k hk) (by simpa using hg)
  go_wp2_with fail
  go_ret
  refine ⟨_, ?_, rfl, HC1.out, HG1.out⟩
  simp
/-- A string of which P holds is drawn. -/
def StrOut (P : ByteArray → Prop) (a : Option Addr) (len cap c : Nat) (w : World) (e : Ending) (w' : World) : Prop :=
  ∃ x : ByteArray, P x ∧ e = .returned (.string x) ∧ Cur a len cap c w' ∧ w.grownBy w' (some c)
/-- One of a list of strings is drawn. -/
theorem str_draw (a : Option Addr) (len cap c g : Nat) (zs : List ByteArray) (w : World) (hl : len ≤ 140737488355328) (h1 : 1 ≤ zs.length) (h2 : zs.length ≤ 100000) (hc : Cur a len cap c w) (hg : g ≠ c)
    (hz : ∀ j, j < zs.length → w.cell? ⟨g, j, none⟩ = some (.string (zs.getD j ⟨#[]⟩))) :
    Calls Try.prog 93 #[.pointer (some ⟨c, 0, none⟩), .slice (some ⟨g, 0, none⟩) zs.length zs.length] w (StrOut (fun x => x ∈ zs) a len cap c w) := by
  have HC := Lib.hid hc
  have HZ := Lib.hid hz
  clear hc hz
  go_enter Try.func93, Try.ntmps93
  go_wp2_with fail
  refine (below_draw a len cap c (zs.length : Int) _ hl (by omega) (by omega) HC.out).mono ?_
  rintro e w1 ⟨x, ⟨x0, x1⟩, rfl, hc1, hg1⟩
  have HC1 := Lib.hid hc1
  have HG1 := Lib.hid hg1
  clear hc1 hg1
  obtain ⟨k, rfl⟩ : ∃ k : Nat, x = (k : Int) := ⟨x.toNat, by omega⟩
  have hk : k < zs.length := by omega
  have hcell : w1.cell? ⟨g, k, none⟩ = some (.string (zs.getD k ⟨#[]⟩)) := HG1.out.cell (HZ.out k hk) (by simpa using hg)
  go_wp2_with fail
  go_ret
  refine ⟨_, ?_, rfl, HC1.out, HG1.out⟩
  simp
/-- The bytes of the code that a law is called with. -/
def Code (a : Option Addr) (len : Nat) (w : World) : Prop := ∀ j, j < len → ∃ b off x : Nat, a = some ⟨b, off, none⟩ ∧ x < 256 ∧ w.cell? ⟨b, off + j, none⟩ = some (.int .u8 x)
theorem cell_lt {w : World} {p : Addr} {v : Value} (h : w.cell? p = some v) : p.block < w.heap.size := by
  rcases Nat.lt_or_ge p.block w.heap.size with h1 | h1
  · exact h1
  · unfold World.cell? at h
    simp [Array.getElem?_eq_none h1] at h
theorem Code.below {a : Option Addr} {len : Nat} {w w' : World} (h : Code a len w) (hb : Below w.heap.size w w') : Code a len w' := fun j hj => by
  obtain ⟨b, off, x, ha, hx, hc⟩ := h j hj
  exact ⟨b, off, x, ha, hx, (hb.cell (cell_lt hc)).trans hc⟩
theorem Code.src {a : Option Addr} {len c : Nat} {w : World} (h : Code a len w) (hc : w.heap.size ≤ c) : Src a len c w := fun j hj => by
  obtain ⟨b, off, x, ha, hx, hcell⟩ := h j hj
  have := cell_lt hcell
  exact ⟨b, off, x, ha, (by intro e; subst e; simp at this; omega), hx, hcell⟩
/-- A new cursor. -/
def NewOut (a : Option Addr) (len cap : Nat) (w : World) (e : Ending) (w' : World) : Prop :=
  e = .returned (.pointer (some ⟨w.heap.size, 0, none⟩)) ∧ Cur a len cap w.heap.size w' ∧ Below w.heap.size w w' ∧ w'.heap.size = w.heap.size + 1
theorem cur_new {a : Option Addr} {len cap : Nat} {h : Int} {w : World} (hs : Code a len w) : Cur a len cap w.heap.size (w.alloc (.cells #[.slice a len cap, .int .i64 0, .int .i64 h] 89)) := by
  refine ⟨0, h, Nat.zero_le _, by simp, by simp, by simp, by simp, by simp, fun j hj => ?_⟩
  obtain ⟨b, off, x, ha, hx, hcell⟩ := hs j hj
  have hlt : b < w.heap.size := cell_lt hcell
  exact ⟨b, off, x, ha, by omega, hx, (((Below.refl w.heap.size w).alloc (Nat.le_refl _) _).cell (p := ⟨b, off + j, none⟩) hlt).trans hcell⟩
set_option maxRecDepth 100000 in
theorem new_draw (a : Option Addr) (len cap : Nat) (w : World) (hl : len ≤ 140737488355328) (hs : Code a len w) :
    Calls Try.prog 40 #[.slice a len cap] w (NewOut a len cap w) := by
  have HS := Lib.hid hs
  clear hs
  go_enter Try.func40, Try.ntmps40
  go_wp2
  go_loop [3, 4] (fun h i => ∃ (k : Nat) (x : Int), k ≤ len ∧ i = .int .i64 k ∧ h = .int .i64 x) (fun _ i => len - (intOf i).toNat)
  case atStart => exact ⟨0, _, Nat.zero_le _, rfl, rfl⟩
  case round =>
    obtain ⟨k, x, hk, rfl, rfl⟩ := hrel
    by_cases hlt : k < len
    · by_cases h4 : k < 4000
      · obtain ⟨b, off, y, rfl, hy, hcell⟩ := HS.out k hlt
        have k0 : (0 : Int) ≤ (k : Int) := by omega
        have k1 : (k : Int) < (len : Int) := by omega
        have k2 : (k : Int) < 4000 := by omega
        go_wp2
        go_round
        case rel => exact ⟨k + 1, _, by omega, by go_num, rfl⟩
        case measure => simp [intOf]; omega
      · have k1 : (k : Int) < (len : Int) := by omega
        have k2 : ¬ (k : Int) < 4000 := by omega
        go_wp2
        go_ret
        exact ⟨rfl, cur_new HS.out, (Below.refl _ _).alloc (Nat.le_refl _) _, by simp⟩
    · have k1 : ¬ (k : Int) < (len : Int) := by omega
      go_wp2
      go_ret
      exact ⟨rfl, cur_new HS.out, (Below.refl _ _).alloc (Nat.le_refl _) _, by simp⟩
end Go.Proofs.Ytefkhknfjohnaaa
namespace Go.Proofs.Ytefkhknfjohnaaa
open Go Go.RowKit
section
variable {α : Type} {f : α → Value}
/-- The slice at a reads as these values. -/
def RdF (f : α → Value) (a : Option Addr) (xs : List α) (w : World) : Prop := ∀ j (h : j < xs.length), ∃ b off, a = some ⟨b, off, none⟩ ∧ w.cell? ⟨b, off + j, none⟩ = some (f xs[j])
/-- A row that may be written, in a block from B on, holds these values. -/
def FreshF (f : α → Value) (B : Nat) (a : Option Addr) (xs : List α) (w : World) : Prop :=
  xs = [] ∨ ∃ b off, a = some ⟨b, off, none⟩ ∧ B ≤ b ∧ ∀ j (h : j < xs.length), w.cell? ⟨b, off + j, none⟩ = some (f xs[j]) ∧ w.frozen? ⟨b, off + j, none⟩ = false
theorem FreshF.rd {B : Nat} {a : Option Addr} {xs : List α} {w : World} (h : FreshF f B a xs w) : RdF f a xs w := fun j hj => by
  rcases h with rfl | ⟨b, off, ha, _, hc⟩
  · simp at hj
  · exact ⟨b, off, ha, (hc j hj).1⟩
theorem RdF.below {a : Option Addr} {xs : List α} {w w' : World} (h : RdF f a xs w) (hb : Below w.heap.size w w') : RdF f a xs w' := fun j hj => by
  obtain ⟨b, off, ha, hc⟩ := h j hj
  exact ⟨b, off, ha, (hb.cell (cell_lt hc)).trans hc⟩
theorem FreshF.below {B : Nat} {a : Option Addr} {xs : List α} {w w' : World} (h : FreshF f B a xs w) (hb : Below w.heap.size w w') : FreshF f B a xs w' := by
  rcases h with rfl | ⟨b, off, ha, hB, hc⟩
  · exact .inl rfl
  · exact .inr ⟨b, off, ha, hB, fun j hj => ⟨(hb.cell (cell_lt (hc j hj).1)).trans (hc j hj).1, (hb.frozen (p := ⟨b, off + j, none⟩) (cell_lt (hc j hj).1)).trans (hc j hj).2⟩⟩
theorem FreshF.more {B B' : Nat} {a : Option Addr} {xs : List α} {w : World} (h : FreshF f B a xs w) (hB : B' ≤ B) : FreshF f B' a xs w := by
  rcases h with rfl | ⟨b, off, ha, hb, hc⟩
  · exact .inl rfl
  · exact .inr ⟨b, off, ha, Nat.le_trans hB hb, hc⟩
/-- A slice of these values in new memory: where it lies and how much it may hold. -/
def RowF (f : α → Value) (B : Nat) (a : Option Addr) (xs : List α) (cap : Nat) (w : World) : Prop := FreshF f B a xs w ∧ xs.length ≤ cap ∧ (a = none → cap = 0)
theorem RowF.rd {B cap : Nat} {a : Option Addr} {xs : List α} {w : World} (h : RowF f B a xs cap w) : RdF f a xs w := h.1.rd
theorem RowF.below {B cap : Nat} {a : Option Addr} {xs : List α} {w w' : World} (h : RowF f B a xs cap w) (hb : Below w.heap.size w w') : RowF f B a xs cap w' := ⟨h.1.below hb, h.2⟩
theorem RowF.more {B B' cap : Nat} {a : Option Addr} {xs : List α} {w : World} (h : RowF f B a xs cap w) (hB : B' ≤ B) : RowF f B' a xs cap w := ⟨h.1.more hB, h.2⟩
/-- The first values of a row are a row. -/
theorem FreshF.take {B : Nat} {a : Option Addr} {xs : List α} {w : World} (h : FreshF f B a xs w) (n : Nat) : FreshF f B a (xs.take n) w := by
  rcases h with rfl | ⟨b, off, ha, hB, hc⟩
  · exact .inl (by simp)
  · exact .inr ⟨b, off, ha, hB, fun j hj => by
      have hj2 : j < xs.length := by simp at hj; omega
      have := hc j hj2
      rw [List.getElem_take]
      exact this⟩
/-- New values come back in a slice; what was there is as it was. -/
def ListOut (f : α → Value) (xs : List α) (w : World) (e : Ending) (w' : World) : Prop :=
  ∃ a cap, e = .returned (.slice a xs.length cap) ∧ RowF f w.heap.size a xs cap w' ∧ Below w.heap.size w w'
/-- The first k values copied, the rest z. -/
def HalfF (f : α → Value) (z : Value) (xs : List α) (k N : Nat) (w W : World) : Prop :=
  Below w.heap.size w W ∧ ∀ j (h : j < xs.length), W.cell? ⟨N, j, none⟩ = some (if j < k then f xs[j] else z) ∧ W.frozen? ⟨N, j, none⟩ = false
theorem HalfF.next {z : Value} {xs : List α} {k N : Nat} {w W : World} (h : HalfF f z xs k N w W) (hN : w.heap.size ≤ N) (hk : k < xs.length) : HalfF f z xs (k + 1) N w (W.setCell ⟨N, k, none⟩ (f xs[k])) := by
  refine ⟨h.1.setCell (p := ⟨N, k, none⟩) hN _, fun j hj => ⟨?_, by simpa using (h.2 j hj).2⟩⟩
  by_cases e : j = k
  · subst e
    rw [World.cell?_setCell_same _ _ _ (h.2 j hj).1, if_pos (by omega)]
  · rw [World.cell?_setCell_other _ _ _ _ (fun he => e (by have := congrArg Addr.off he; simpa using this.symm)), (h.2 j hj).1]
    by_cases hlt : j < k
    · rw [if_pos hlt, if_pos (by omega)]
    · rw [if_neg hlt, if_neg (by omega)]
theorem HalfF.start (z : Value) (xs : List α) (t : TypeId) (w : World) : HalfF f z xs 0 w.heap.size w (w.alloc (.cells (madeCells #[z] xs.length) t)) := by
  have hr := World.rowIs_made w z xs.length t
  exact ⟨(Below.refl _ _).alloc (Nat.le_refl _) _, fun j hj => ⟨by rw [hr.cell hj, if_neg (by omega)], hr.frozen j⟩⟩
theorem HalfF.end {z : Value} {xs : List α} {w W : World} (h : HalfF f z xs xs.length w.heap.size w W) : FreshF f w.heap.size (some ⟨w.heap.size, 0, none⟩) xs W := by
  refine .inr ⟨w.heap.size, 0, rfl, Nat.le_refl _, fun j hj => ?_⟩
  have := h.2 j hj
  rw [if_pos hj] at this
  simpa using this
theorem takeNext {bs cs : List α} {k : Nat} (h : bs.take k = cs.take k) (hb : k < bs.length) (hc : k < cs.length) (e : bs[k] = cs[k]) : bs.take (k + 1) = cs.take (k + 1) := by
  rw [List.take_succ_eq_append_getElem hb, List.take_succ_eq_append_getElem hc, h, e]
theorem takeNot {bs cs : List α} {k : Nat} (hb : k < bs.length) (hc : k < cs.length) (e : bs[k] ≠ cs[k]) : bs ≠ cs := fun h => e (by subst h; rfl)
end
theorem ret_int {k : IntKind} {x y : Int} (h : x = y) : Ending.returned (.int k x) = .returned (.int k y) := by rw [h]
theorem ret_str {x y : ByteArray} (h : x = y) : Ending.returned (.string x) = .returned (.string y) := by rw [h]
theorem ret_bool {x y : Bool} (h : x = y) : Ending.returned (.bool x) = .returned (.bool y) := by rw [h]
theorem below_drewN {B : Nat} {a w : World} (h : Below B a w) (n : Nat) : Below B a (w.drewN n) := ⟨h.os, h.tape, h.output, h.size, h.block⟩
theorem grown_below {w W W' : World} {row : Option Nat} (hg : w.grownBy W row) (hb : Below W.heap.size W W') : w.grownBy W' row :=
  ⟨hb.os.trans hg.os, hb.tape.trans hg.tape, hb.output.trans hg.output, Nat.le_trans hg.size hb.size, fun k hk hr => (hb.block k (Nat.lt_of_lt_of_le hk hg.size)).trans (hg.block k hk hr)⟩
/-- Only the block of this row has turned, if anything. -/
def Touch (B : Nat) (a : Option Addr) (n : Nat) (w w' : World) : Prop := w' = w ∨ (n ≠ 0 ∧ ∃ b off, a = some ⟨b, off, none⟩ ∧ B ≤ b ∧ w.grownBy w' (some b))
/-- The row lies below block B, if it holds anything. -/
def Old (B : Nat) (a : Option Addr) (n : Nat) : Prop := n = 0 ∨ ∃ b off, a = some ⟨b, off, none⟩ ∧ b < B
theorem Touch.below {B0 B : Nat} {a : Option Addr} {n : Nat} {w0 w w' : World} (ht : Touch B a n w w') (hb : Below B0 w0 w) (hs : B0 ≤ w.heap.size) (hB : B0 ≤ B) : Below B0 w0 w' := by
  rcases ht with rfl | ⟨_, c, off, _, hc, hg⟩
  · exact hb
  · exact hb.grown hg hs fun k hk => by injection hk with hk; omega
theorem Touch.size {B : Nat} {a : Option Addr} {n : Nat} {w w' : World} (ht : Touch B a n w w') : w.heap.size ≤ w'.heap.size := by
  rcases ht with rfl | ⟨_, c, off, _, hc, hg⟩
  · exact Nat.le_refl _
  · exact hg.size
section
variable {α : Type} {f : α → Value}
theorem FreshF.old {B : Nat} {a : Option Addr} {xs : List α} {w : World} (h : FreshF f B a xs w) : Old w.heap.size a xs.length := by
  cases xs with
  | nil => exact .inl rfl
  | cons x r =>
    rcases h with h | ⟨b, off, ha, _, hc⟩
    · cases h
    · exact .inr ⟨b, off, ha, cell_lt (hc 0 (by simp)).1⟩
theorem FreshF.grown {B : Nat} {a : Option Addr} {xs : List α} {w w' : World} {c : Nat} (h : FreshF f B a xs w) (hg : w.grownBy w' (some c)) (hne : ∀ b off, a = some ⟨b, off, none⟩ → xs ≠ [] → b ≠ c) : FreshF f B a xs w' := by
  rcases h with rfl | ⟨b, off, ha, hB, hc⟩
  · exact .inl rfl
  · by_cases hbs : xs = []
    · exact .inl hbs
    · have hb := hne b off ha hbs
      refine .inr ⟨b, off, ha, hB, fun j hj => ⟨hg.cell (hc j hj).1 (by simpa using hb), ?_⟩⟩
      exact (World.frozen?_of_block (a := ⟨b, off + j, none⟩) (hg.block b (cell_lt (hc j hj).1) (by simpa using hb))).trans (hc j hj).2
/-- An older row stays when a newer one is touched. -/
theorem FreshF.keepOld {BX BY : Nat} {aX aY : Option Addr} {xs : List α} {n : Nat} {w w' : World} (h : FreshF f BX aX xs w) (ho : Old BY aX xs.length) (ht : Touch BY aY n w w') : FreshF f BX aX xs w' := by
  rcases ht with rfl | ⟨_, c, off, _, hB, hg⟩
  · exact h
  · refine h.grown hg fun b off ha hbs => ?_
    rcases ho with h0 | ⟨b', off', ha', hlt⟩
    · exact absurd (List.eq_nil_of_length_eq_zero h0) hbs
    · rw [ha] at ha'
      injection ha' with ha'
      injection ha' with h1
      omega
/-- A newer row stays when an older one is touched. -/
theorem FreshF.keepNew {BX BY : Nat} {aX aY : Option Addr} {xs : List α} {n : Nat} {w w' : World} (h : FreshF f BX aX xs w) (ho : Old BX aY n) (ht : Touch BY aY n w w') : FreshF f BX aX xs w' := by
  rcases ht with rfl | ⟨hn, c, off, hc, hB, hg⟩
  · exact h
  · rcases ho with h0 | ⟨b', off', ha', hlt⟩
    · exact absurd h0 hn
    · rw [hc] at ha'
      injection ha' with ha'
      injection ha' with h1
      subst h1
      rcases h with rfl | ⟨b, off2, ha, hBX, hcell⟩
      · exact .inl rfl
      · exact (show FreshF f BX aX xs w from .inr ⟨b, off2, ha, hBX, hcell⟩).grown hg fun b2 off3 ha2 _ => by
          rw [ha] at ha2
          injection ha2 with ha2
          injection ha2 with h2
          omega
theorem RowF.old {B cap : Nat} {a : Option Addr} {xs : List α} {w : World} (h : RowF f B a xs cap w) : Old w.heap.size a xs.length := h.1.old
theorem RowF.keepOld {BX BY cap : Nat} {aX aY : Option Addr} {xs : List α} {n : Nat} {w w' : World} (h : RowF f BX aX xs cap w) (ho : Old BY aX xs.length) (ht : Touch BY aY n w w') : RowF f BX aX xs cap w' := ⟨h.1.keepOld ho ht, h.2⟩
theorem RowF.keepNew {BX BY cap : Nat} {aX aY : Option Addr} {xs : List α} {n : Nat} {w w' : World} (h : RowF f BX aX xs cap w) (ho : Old BX aY n) (ht : Touch BY aY n w w') : RowF f BX aX xs cap w' := ⟨h.1.keepNew ho ht, h.2⟩
/-- A row that a call owns, as a slice of values. -/
theorem own_row {base : Nat} {t : TypeId} {v : Value} {xs : List α} {w : World} (h : w.ownsRow base t 1 v xs.length (xs.map f)) : ∃ a cap, v = .slice a xs.length cap ∧ RowF f base a xs cap w := by
  have h0 := h
  rcases h.2 with ⟨rfl, hn⟩ | ⟨g, cap, cur, rfl, hb, hg, hnc, hcm, hcs, ht⟩
  · have : xs = [] := List.eq_nil_of_length_eq_zero hn
    subst this
    exact ⟨none, 0, rfl, .inl rfl, Nat.le_refl _, fun _ => rfl⟩
  · refine ⟨_, cap, rfl, .inr ⟨g, 0, rfl, hb, fun j hj => ⟨?_, ?_⟩⟩, hnc, fun e => by cases e⟩
    · rw [Nat.zero_add, h0.cellAt j (by omega)]
      simp [hj]
    · rw [Nat.zero_add]; exact h0.frozenAt j
/-- The row that a call owns stays through a change elsewhere below. -/
theorem own_far {base c : Nat} {t : TypeId} {n : Nat} {v : Value} {vs : List Value} {w w' : World} (h : w.ownsRow base t 1 v n vs) (hc : c < base) (hg : w.grownBy w' (some c)) : w'.ownsRow base t 1 v n vs := by
  refine World.ownsRow.kept (w := w) h hg ?_
  cases hv : v.ownBlock with
  | none => exact .inl rfl
  | some g =>
    have := (World.ownsRow.lt (w := w) h g hv).1
    exact .inr (by intro e; injection e with e; omega)
/-- One value more is appended to a row that a call owns. -/
theorem own_push {base : Nat} {t : TypeId} {v v' : Value} {xs : List α} {x : α} {w0 w1 w2 : World} {o : Obj} (ho : w1.ownsRow base t 1 v xs.length (xs.map f)) (hb : Below base w0 w1) (hs : base ≤ w1.heap.size)
    (ho' : w2.ownsRow base t 1 v' (xs.length + 1) (xs.map f ++ [f x])) (hg : (w1.alloc o).grownBy w2 v.ownBlock) :
    w2.ownsRow base t 1 v' (xs ++ [x]).length ((xs ++ [x]).map f) ∧ Below base w0 w2 := by
  refine ⟨by simpa using ho', ?_⟩
  exact (hb.alloc hs o).grown hg (by simp; omega) (fun k hk => (World.ownsRow.lt (w := w1) ho k hk).1)
end
/-- The slice at a reads as these bytes. -/
def Rd (a : Option Addr) (bs : List UInt8) (w : World) : Prop := ∀ j (h : j < bs.length), ∃ b off, a = some ⟨b, off, none⟩ ∧ w.cell? ⟨b, off + j, none⟩ = some (.int .u8 (bs[j].toNat : Int))
theorem Rd.below {a : Option Addr} {bs : List UInt8} {w w' : World} (h : Rd a bs w) (hb : Below w.heap.size w w') : Rd a bs w' := fun j hj => by
  obtain ⟨b, off, ha, hc⟩ := h j hj
  exact ⟨b, off, ha, (hb.cell (cell_lt hc)).trans hc⟩
/-- The cells of a block, from its beginning; they may be written. -/
def CellsAt (b : Nat) (vs : List Value) (w : World) : Prop := ∀ i v, vs[i]? = some v → w.cell? ⟨b, i, none⟩ = some v ∧ w.frozen? ⟨b, i, none⟩ = false
theorem CellsAt.new (w : World) (vs : List Value) (t : TypeId) : CellsAt w.heap.size vs (w.alloc (.cells vs.toArray t)) := fun i v hv => by
  have h1 := World.cell?_alloc_mark w vs.toArray t (0, 0) i
  refine ⟨h1.trans (by simpa using hv), ?_⟩
  simp
theorem CellsAt.below {b : Nat} {vs : List Value} {w w' : World} (h : CellsAt b vs w) (hb : Below w.heap.size w w') : CellsAt b vs w' := fun i v hv => by
  obtain ⟨h1, h2⟩ := h i v hv
  exact ⟨(hb.cell (cell_lt h1)).trans h1, (hb.frozen (p := ⟨b, i, none⟩) (cell_lt h1)).trans h2⟩
theorem CellsAt.set {b : Nat} {vs : List Value} {w : World} (h : CellsAt b vs w) (i : Nat) (v : Value) (hi : i < vs.length) : CellsAt b (vs.set i v) (w.setCell ⟨b, i, none⟩ v) := fun j u hu => by
  rw [List.getElem?_set] at hu
  by_cases e : i = j
  · subst e
    rw [if_pos rfl, if_pos hi] at hu
    injection hu with hu
    subst hu
    obtain ⟨h1, h2⟩ := h i _ (List.getElem?_eq_getElem hi)
    exact ⟨World.cell?_setCell_same _ _ _ h1, by simpa using h2⟩
  · rw [if_neg e] at hu
    obtain ⟨h1, h2⟩ := h j u hu
    exact ⟨(World.cell?_setCell_other _ _ _ _ (fun he => e (by have := congrArg Addr.off he; simpa using this))).trans h1, by simpa using h2⟩
theorem CellsAt.far {b b' j : Nat} {vs : List Value} {w : World} {v : Value} (h : CellsAt b vs w) (hne : b' ≠ b) : CellsAt b vs (w.setCell ⟨b', j, none⟩ v) := fun i u hu => by
  obtain ⟨h1, h2⟩ := h i u hu
  exact ⟨(World.cell?_setCell_other _ _ _ _ (fun he => hne (by have := congrArg Addr.block he; simpa using this))).trans h1, by simpa using h2⟩
end Go.Proofs.Ytefkhknfjohnaaa
namespace Go.Proofs.Ytefkhknfjohnaaa
open Go
/-- A list of bytes as a string. -/
def txt (l : List UInt8) : ByteArray := ⟨l.toArray⟩
/-- A string's bytes. -/
def lst (s : ByteArray) : List UInt8 := s.data.toList
theorem txt_lst (s : ByteArray) : txt (lst s) = s := by cases s; simp [txt, lst]
theorem lst_txt (l : List UInt8) : lst (txt l) = l := by simp [txt, lst]
theorem lst_length (s : ByteArray) : (lst s).length = s.size := by cases s; rfl
theorem txt_size (l : List UInt8) : (txt l).size = l.length := by rw [← lst_length, lst_txt]
theorem lst_at (s : ByteArray) (k : Nat) (h : k < s.size) : (lst s)[k]'(by rw [lst_length]; exact h) = s[k] := by cases s; simp [lst]; rfl
theorem txt_inj {a b : List UInt8} (h : txt a = txt b) : a = b := by rw [← lst_txt a, h, lst_txt]
theorem lst_inj {a b : ByteArray} (h : lst a = lst b) : a = b := by rw [← txt_lst a, h, txt_lst]
theorem extract_txt (s : ByteArray) (a b : Nat) : s.extract a b = txt (((lst s).drop a).take (b - a)) := by
  have h := ByteArray.extract_mk (lst s) a b
  rw [show ByteArray.mk (lst s).toArray = s from txt_lst s] at h
  exact h
theorem append_txt (a b : ByteArray) : a ++ b = txt (lst a ++ lst b) := by
  apply ByteArray.ext
  simp [txt, lst]
theorem drop_at (s : ByteArray) (k : Nat) (h : k < s.size) : (lst s).drop k = s[k] :: (lst s).drop (k + 1) := by
  rw [List.drop_eq_getElem_cons (by rw [lst_length]; exact h), lst_at s k h]
theorem drop_end (s : ByteArray) : (lst s).drop s.size = [] := by rw [← lst_length]; simp
theorem str_ne {x y : ByteArray} (h : x ≠ y) : (x.toList == y.toList) = false := by
  rw [beq_eq_false_iff_ne, ByteArray.toList_eq, ByteArray.toList_eq]
  exact fun e => h (lst_inj e)
theorem str_eq {x y : ByteArray} (h : x = y) : (x.toList == y.toList) = true := by rw [h, beq_self_eq_true]
/-- A text divided at every c. -/
def splitL (c : UInt8) : List UInt8 → List (List UInt8)
  | [] => [[]]
  | x :: r => if x = c then [] :: splitL c r else
    match splitL c r with
    | [] => [[x]]
    | h :: t => (x :: h) :: t
theorem splitL_ne (c : UInt8) : ∀ l, splitL c l ≠ []
  | [] => by simp [splitL]
  | x :: r => by
    unfold splitL
    split
    · simp
    · split <;> simp
/-- A text without c is one part. -/
theorem splitL_none {c : UInt8} : ∀ {l : List UInt8}, (∀ x ∈ l, x ≠ c) → splitL c l = [l]
  | [], _ => rfl
  | x :: r, h => by
    unfold splitL
    rw [if_neg (h x (by simp)), splitL_none (l := r) (fun y hy => h y (by simp [hy]))]
/-- A text up to its first c. -/
theorem splitL_cut {c : UInt8} {r : List UInt8} : ∀ {l : List UInt8}, (∀ x ∈ l, x ≠ c) → splitL c (l ++ c :: r) = l :: splitL c r
  | [], _ => by simp [splitL]
  | x :: l, h => by
    rw [List.cons_append, splitL.eq_2, if_neg (h x (by simp)), splitL_cut (l := l) (fun y hy => h y (by simp [hy]))]
theorem splitL_part {c : UInt8} : ∀ {l : List UInt8}, ∀ p ∈ splitL c l, ∀ x ∈ p, x ≠ c
  | [], p, hp, x, hx => by simp [splitL] at hp; subst hp; simp at hx
  | y :: r, p, hp, x, hx => by
    unfold splitL at hp
    split at hp
    · simp only [List.mem_cons] at hp
      rcases hp with rfl | hp
      · simp at hx
      · exact splitL_part p hp x hx
    · rename_i hy
      have ih := @splitL_part c r
      cases hr : splitL c r with
      | nil => exact absurd hr (splitL_ne c r)
      | cons h t =>
        rw [hr] at hp ih
        simp only [List.mem_cons] at hp
        rcases hp with rfl | hp
        · simp only [List.mem_cons] at hx
          rcases hx with rfl | hx
          · exact hy
          · exact ih h (by simp) x hx
        · exact ih p (by simp [hp]) x hx
theorem splitL_lens {c : UInt8} : ∀ (l : List UInt8), (splitL c l).length ≤ l.length + 1
  | [] => by simp [splitL]
  | y :: r => by
    unfold splitL
    have ih := splitL_lens (c := c) r
    split
    · simp; omega
    · cases hr : splitL c r with
      | nil => simp
      | cons h t => rw [hr] at ih; simp at ih ⊢; omega
/-- Parts joined by a separator. -/
def joinL (sep : List UInt8) : List (List UInt8) → List UInt8
  | [] => []
  | [x] => x
  | x :: y :: r => x ++ sep ++ joinL sep (y :: r)
theorem joinL_cons (sep x : List UInt8) {r : List (List UInt8)} (h : r ≠ []) : joinL sep (x :: r) = x ++ sep ++ joinL sep r := by
  cases r with
  | nil => exact absurd rfl h
  | cons y t => rfl
theorem joinL_head (sep : List UInt8) (x : UInt8) (h : List UInt8) (t : List (List UInt8)) : joinL sep ((x :: h) :: t) = x :: joinL sep (h :: t) := by
  cases t with
  | nil => rfl
  | cons y t => simp [joinL]
/-- What is divided is joined to itself. -/
theorem join_split (c : UInt8) : ∀ l, joinL [c] (splitL c l) = l
  | [] => rfl
  | x :: r => by
    have ih := join_split c r
    unfold splitL
    split
    · rename_i h
      rw [joinL_cons _ _ (splitL_ne c r), ih, h]; rfl
    · cases hr : splitL c r with
      | nil => exact absurd hr (splitL_ne c r)
      | cons h t => rw [hr] at ih; simp only; rw [joinL_head, ih]
theorem joinL_snoc (sep x : List UInt8) : ∀ {l : List (List UInt8)}, l ≠ [] → joinL sep (l ++ [x]) = joinL sep l ++ sep ++ x
  | [], h => absurd rfl h
  | [y], _ => by simp [joinL]
  | y :: z :: r, _ => by
    have ih := joinL_snoc sep x (l := z :: r) (by simp)
    simp only [List.cons_append] at ih ⊢
    simp only [joinL]
    rw [ih]
    simp
/-- The lines of a text: divided at the line feed, without an empty last one. -/
def linesL (l : List UInt8) : List (List UInt8) := let p := splitL 10 l; if p.getLastD [] = [] then p.dropLast else p
/-- The words of a text. -/
def wordsL (l : List UInt8) : List (List UInt8) := (splitL 32 l).filter (fun p => decide (p ≠ []))
/-- The text ahead of the first c, what follows it, and whether there is one. -/
def cutL (c : UInt8) : List UInt8 → List UInt8 × List UInt8 × Bool
  | [] => ([], [], false)
  | x :: r => if x = c then ([], r, true) else (x :: (cutL c r).1, (cutL c r).2.1, (cutL c r).2.2)
theorem cutL_none {c : UInt8} : ∀ {l : List UInt8}, (∀ x ∈ l, x ≠ c) → cutL c l = (l, [], false)
  | [], _ => rfl
  | x :: r, h => by
    unfold cutL
    rw [if_neg (h x (by simp)), cutL_none (l := r) (fun y hy => h y (by simp [hy]))]
theorem cutL_cut {c : UInt8} {r : List UInt8} : ∀ {l : List UInt8}, (∀ x ∈ l, x ≠ c) → cutL c (l ++ c :: r) = (l, r, true)
  | [], _ => by simp [cutL]
  | x :: l, h => by
    rw [List.cons_append]
    unfold cutL
    rw [if_neg (h x (by simp)), cutL_cut (l := l) (fun y hy => h y (by simp [hy]))]
/-- No c among the bytes from a to b. -/
def NoC (c : UInt8) (l : List UInt8) (a b : Nat) : Prop := ∀ x ∈ (l.drop a).take (b - a), x ≠ c
theorem NoC.start (c : UInt8) (l : List UInt8) (a : Nat) : NoC c l a a := fun x hx => by simp at hx
theorem NoC.next {c : UInt8} {s : ByteArray} {a b : Nat} (h : NoC c (lst s) a b) (hab : a ≤ b) (hb : b < s.size) (hne : s[b] ≠ c) : NoC c (lst s) a (b + 1) := fun x hx => by
  have e : ((lst s).drop a).take (b + 1 - a) = ((lst s).drop a).take (b - a) ++ [s[b]] := by
    rw [show b + 1 - a = (b - a) + 1 by omega, List.take_succ_eq_append_getElem (by rw [List.length_drop, lst_length]; omega)]
    congr 1
    simp only [List.getElem_drop, show a + (b - a) = b by omega]
    rw [lst_at s b hb]
  rw [e] at hx
  simp only [List.mem_append, List.mem_singleton] at hx
  rcases hx with hx | rfl
  · exact h x hx
  · exact hne
theorem cut_drop (s : ByteArray) (a b : Nat) (hab : a ≤ b) (hb : b < s.size) : (lst s).drop a = ((lst s).drop a).take (b - a) ++ s[b] :: (lst s).drop (b + 1) := by
  have h := (List.take_append_drop (b - a) ((lst s).drop a)).symm
  rw [List.drop_drop, show a + (b - a) = b by omega, drop_at s b hb] at h
  exact h
theorem split_at {c : UInt8} {s : ByteArray} {a b : Nat} (h : NoC c (lst s) a b) (hab : a ≤ b) (hb : b < s.size) (he : s[b] = c) : splitL c ((lst s).drop a) = lst (s.extract a b) :: splitL c ((lst s).drop (b + 1)) := by
  have e := cut_drop s a b hab hb
  rw [e, he, splitL_cut h, extract_txt, lst_txt]
theorem split_end {c : UInt8} {s : ByteArray} {a : Nat} (h : NoC c (lst s) a s.size) : splitL c ((lst s).drop a) = [lst (s.extract a s.size)] := by
  have e : ((lst s).drop a).take (s.size - a) = (lst s).drop a := List.take_of_length_le (by rw [List.length_drop, lst_length]; omega)
  have h' : ∀ x ∈ (lst s).drop a, x ≠ c := by
    unfold NoC at h
    rw [e] at h
    exact h
  rw [splitL_none h', extract_txt, lst_txt, e]
/-- Texts as strings. -/
def txts (l : List (List UInt8)) : List ByteArray := l.map txt
/-- The parts of a string. -/
def parts (c : UInt8) (s : ByteArray) : List ByteArray := txts (splitL c (lst s))
theorem parts_lens (c : UInt8) (s : ByteArray) : (parts c s).length ≤ s.size + 1 := by
  have := splitL_lens (c := c) (lst s)
  rw [lst_length] at this
  simpa [parts, txts] using this
theorem parts_ne (c : UInt8) (s : ByteArray) : 0 < (parts c s).length := by
  have := splitL_ne c (lst s)
  simp only [parts, txts, List.length_map]
  exact List.length_pos_iff.2 this
/-- The text that is left to divide stands behind what has been divided. -/
def Divd (c : UInt8) (s : ByteArray) (acc : List ByteArray) (a : Nat) : Prop := parts c s = acc ++ txts (splitL c ((lst s).drop a))
theorem Divd.start (c : UInt8) (s : ByteArray) : Divd c s [] 0 := by simp [Divd, parts]
theorem Divd.next {c : UInt8} {s : ByteArray} {acc : List ByteArray} {a b : Nat} (hd : Divd c s acc a) (h : NoC c (lst s) a b) (hab : a ≤ b) (hb : b < s.size) (he : s[b] = c) : Divd c s (acc ++ [s.extract a b]) (b + 1) := by
  unfold Divd at hd ⊢
  rw [hd, split_at h hab hb he]
  simp [txts, txt_lst]
theorem Divd.end {c : UInt8} {s : ByteArray} {acc : List ByteArray} {a : Nat} (hd : Divd c s acc a) (h : NoC c (lst s) a s.size) : parts c s = acc ++ [s.extract a s.size] := by
  unfold Divd at hd
  rw [hd, split_end h]
  simp [txts, txt_lst]
theorem Divd.lens {c : UInt8} {s : ByteArray} {acc : List ByteArray} {a : Nat} (hd : Divd c s acc a) : acc.length < s.size + 1 := by
  have h1 := parts_lens c s
  unfold Divd at hd
  rw [hd] at h1
  have h2 := splitL_ne c ((lst s).drop a)
  have h3 : 0 < (txts (splitL c ((lst s).drop a))).length := by simp only [txts, List.length_map]; exact List.length_pos_iff.2 h2
  simp at h1
  omega
end Go.Proofs.Ytefkhknfjohnaaa
namespace Go.Proofs.Ytefkhknfjohnaaa
open Go Go.RowKit
theorem infoStr : (Try.prog.info? 9).map (fun i => (i.zero, i.size, i.bytes)) = some (some (.string ⟨#[]⟩), 1, 16) := by kernel_rfl
theorem infoPartsS : ∃ i, Try.prog.info? 9 = some i ∧ i.zero = some (.string ⟨#[]⟩) ∧ i.size = 1 ∧ i.bytes = 16 := by
  obtain ⟨i, hi, h⟩ := Option.map_eq_some_iff.1 infoStr
  simp only [Prod.mk.injEq] at h
  exact ⟨i, hi, h.1, h.2.1, h.2.2⟩
abbrev RdS := RdF Value.string
abbrev RowS := RowF Value.string
abbrev StrsOut := ListOut Value.string
theorem make_strs (n : Nat) (hn : n ≤ 1099511627776) (W : World) : (Instr.makeSlice 73 (.int .i64 (n : Int)) (.int .i64 (n : Int))).run Try.prog W = .ok (.slice (some ⟨W.heap.size, 0, none⟩) n n) (W.alloc (.cells (madeCells #[.string ⟨#[]⟩] n) 9)) := by
  obtain ⟨i0, hi, hz0, hz1, hz2⟩ := infoPartsS
  have hr := run_make (P := Try.prog) W 73 9 i0 (.string ⟨#[]⟩) Try.underlying73 hi hz0 .i64 .i64 (n : Int) (n : Int) (by omega) (by omega) (by rw [hz2]; omega) (by omega)
  rw [hr, hz1]
  simp [Value.cells]
set_option maxRecDepth 100000 in
theorem to_strs (a : Option Addr) (ss : List ByteArray) (cap : Nat) (w : World) (hl : ss.length ≤ 1099511627776) (h : RdS a ss w) :
    Calls Try.prog 86 #[.slice a ss.length cap] w (StrsOut ss w) := by
  have H := Lib.hid h
  clear h
  have hmk := make_strs ss.length hl
  go_enter Try.func86, Try.ntmps86
  go_wp2
  clear hmk
  go_loopw [4] (fun i W => ∃ k : Nat, k ≤ ss.length ∧ i = .int .i64 k ∧ Hid (HalfF Value.string (.string ⟨#[]⟩) ss k w.heap.size w W)) (fun i _ => ss.length - (intOf i).toNat)
  case atStart => exact ⟨0, Nat.zero_le _, rfl, HalfF.start _ ss _ w⟩
  case round =>
    obtain ⟨k, hk, rfl, hh⟩ := hrel
    by_cases hlt : k < ss.length
    · obtain ⟨b, off, rfl, hc0⟩ := H.out k hlt
      have hc : wr.cell? ⟨b, off + k, none⟩ = some (.string ss[k]) := (hh.out.1.cell (cell_lt hc0)).trans hc0
      have hbn : b < w.heap.size := cell_lt hc0
      clear hc0
      obtain ⟨hd, hf⟩ := hh.out.2 k hlt
      rw [if_neg (by omega)] at hd
      have hn := Lib.hid (hh.out.next (Nat.le_refl _) hlt)
      have k0 : (0 : Int) ≤ (k : Int) := by omega
      have k1 : (k : Int) < (ss.length : Int) := by omega
      generalize ss[k] = sk at hc hn
      go_wp2
      go_roundw
      case rel => exact ⟨k + 1, by omega, by go_num, hn⟩
      case measure => simp [intOf]; omega
    · have k1 : ¬ (k : Int) < (ss.length : Int) := by omega
      obtain rfl : k = ss.length := by omega
      go_wp2
      go_ret
      exact ⟨_, _, rfl, ⟨hh.out.end, Nat.le_refl _, (fun e => by cases e)⟩, hh.out.1⟩
/-- Whether two slices hold the same strings; only draws. -/
def EqOutS (bs cs : List ByteArray) (w : World) (e : Ending) (w' : World) : Prop := e = .returned (.bool (decide (bs = cs))) ∧ ∃ n, w' = w.drewN n
set_option maxRecDepth 100000 in
theorem eq_strs (a b : Option Addr) (bs cs : List ByteArray) (ca cb : Nat) (w : World) (hl : bs.length ≤ 1099511627776) (ha : RdS a bs w) (hb : RdS b cs w) :
    Calls Try.prog 91 #[.slice a bs.length ca, .slice b cs.length cb] w (EqOutS bs cs w) := by
  have HA := Lib.hid ha
  have HB := Lib.hid hb
  clear ha hb
  by_cases hlen : bs.length = cs.length
  · have h1 : ((bs.length : Int) != (cs.length : Int)) = false := by simp [hlen]
    have HL := Lib.hid hlen
    have hle : cs.length ≤ bs.length := by omega
    have hge : bs.length ≤ cs.length := by omega
    clear hlen
    go_enter Try.func91, Try.ntmps91
    go_wp2
    clear h1
    go_loopw [5] (fun i W => ∃ k n : Nat, k ≤ bs.length ∧ i = .int .i64 k ∧ W = w.drewN n ∧ Hid (bs.take k = cs.take k)) (fun i _ => bs.length - (intOf i).toNat)
    case atStart => exact ⟨0, 0, Nat.zero_le _, rfl, rfl, rfl⟩
    case round =>
      obtain ⟨k, n, hk, rfl, rfl, ht⟩ := hrel
      have k0 : (0 : Int) ≤ (k : Int) := by omega
      by_cases hlt : k < bs.length
      · obtain ⟨b1, o1, rfl, c1⟩ := HA.out k hlt
        obtain ⟨b2, o2, rfl, c2⟩ := HB.out k (by omega)
        have k1 : (k : Int) < (bs.length : Int) := by omega
        have k2 : (k : Int) < (cs.length : Int) := by omega
        by_cases he : bs[k] = cs[k]
        · have ht' := Lib.hid (takeNext ht.out hlt (by omega) he)
          rw [← he] at c2
          clear he
          generalize bs[k] = x at c1 c2
          go_wp2
          go_quiet (fail)
          go_wp2
          go_roundw
          case rel => exact ⟨k + 1, _, by omega, by go_num, rfl, ht'⟩
          case measure => simp [intOf]; omega
        · have hne := Lib.hid (takeNot hlt (by omega) he)
          have he' : Hid (bs[k] ≠ cs[k]) := he
          clear he
          generalize bs[k] = x at c1 he'
          generalize cs[k] = y at c2 he'
          have e1 := str_ne he'.out
          go_wp2
          go_quiet (fail)
          go_wp2
          go_ret
          exact ⟨ret_bool (decide_eq_false hne.out).symm, _, by rw [World.drewN_drewN]⟩
      · have k1 : ¬ (k : Int) < (bs.length : Int) := by omega
        have heq : Hid (bs = cs) := by
          have h2 := ht.out
          rw [List.take_of_length_le (by omega), List.take_of_length_le (by omega)] at h2
          exact h2
        go_wp2
        go_ret
        exact ⟨ret_bool (decide_eq_true heq.out).symm, _, rfl⟩
  · have h1 : ((bs.length : Int) != (cs.length : Int)) = true := by simp; omega
    have hne : Hid (bs ≠ cs) := fun h => hlen (by rw [h])
    clear hlen
    go_enter Try.func91, Try.ntmps91
    go_wp2
    go_ret
    exact ⟨ret_bool (decide_eq_false hne.out).symm, 0, rfl⟩
end Go.Proofs.Ytefkhknfjohnaaa
namespace Go.Proofs.Ytefkhknfjohnaaa
open Go Go.RowKit
theorem infoInt : (Try.prog.info? 3).map (fun i => (i.zero, i.size, i.bytes)) = some (some (.int .i64 0), 1, 8) := by kernel_rfl
theorem infoPartsI : ∃ i, Try.prog.info? 3 = some i ∧ i.zero = some (.int .i64 0) ∧ i.size = 1 ∧ i.bytes = 8 := by
  obtain ⟨i, hi, h⟩ := Option.map_eq_some_iff.1 infoInt
  simp only [Prod.mk.injEq] at h
  exact ⟨i, hi, h.1, h.2.1, h.2.2⟩
abbrev RdI := RdF (Value.int .i64)
abbrev RowI := RowF (Value.int .i64)
abbrev IntsOut := ListOut (Value.int .i64)
theorem make_ints (n : Nat) (hn : n ≤ 1099511627776) (W : World) : (Instr.makeSlice 74 (.int .i64 (n : Int)) (.int .i64 (n : Int))).run Try.prog W = .ok (.slice (some ⟨W.heap.size, 0, none⟩) n n) (W.alloc (.cells (madeCells #[.int .i64 0] n) 3)) := by
  obtain ⟨i0, hi, hz0, hz1, hz2⟩ := infoPartsI
  have hr := run_make (P := Try.prog) W 74 3 i0 (.int .i64 0) Try.underlying74 hi hz0 .i64 .i64 (n : Int) (n : Int) (by omega) (by omega) (by rw [hz2]; omega) (by omega)
  rw [hr, hz1]
  simp [Value.cells]
set_option maxRecDepth 100000 in
theorem to_ints (a : Option Addr) (ss : List Int) (cap : Nat) (w : World) (hl : ss.length ≤ 1099511627776) (h : RdI a ss w) :
    Calls Try.prog 87 #[.slice a ss.length cap] w (IntsOut ss w) := by
  have H := Lib.hid h
  clear h
  have hmk := make_ints ss.length hl
  go_enter Try.func87, Try.ntmps87
  go_wp2
  clear hmk
  go_loopw [4] (fun i W => ∃ k : Nat, k ≤ ss.length ∧ i = .int .i64 k ∧ Hid (HalfF (Value.int .i64) (.int .i64 0) ss k w.heap.size w W)) (fun i _ => ss.length - (intOf i).toNat)
  case atStart => exact ⟨0, Nat.zero_le _, rfl, HalfF.start _ ss _ w⟩
  case round =>
    obtain ⟨k, hk, rfl, hh⟩ := hrel
    by_cases hlt : k < ss.length
    · obtain ⟨b, off, rfl, hc0⟩ := H.out k hlt
      have hc : wr.cell? ⟨b, off + k, none⟩ = some (.int .i64 ss[k]) := (hh.out.1.cell (cell_lt hc0)).trans hc0
      have hbn : b < w.heap.size := cell_lt hc0
      clear hc0
      obtain ⟨hd, hf⟩ := hh.out.2 k hlt
      rw [if_neg (by omega)] at hd
      have hn := Lib.hid (hh.out.next (Nat.le_refl _) hlt)
      have k0 : (0 : Int) ≤ (k : Int) := by omega
      have k1 : (k : Int) < (ss.length : Int) := by omega
      generalize ss[k] = sk at hc hn
      go_wp2
      go_roundw
      case rel => exact ⟨k + 1, by omega, by go_num, hn⟩
      case measure => simp [intOf]; omega
    · have k1 : ¬ (k : Int) < (ss.length : Int) := by omega
      obtain rfl : k = ss.length := by omega
      go_wp2
      go_ret
      exact ⟨_, _, rfl, ⟨hh.out.end, Nat.le_refl _, (fun e => by cases e)⟩, hh.out.1⟩
/-- Whether two slices hold the same ints; only draws. -/
def EqOutI (bs cs : List Int) (w : World) (e : Ending) (w' : World) : Prop := e = .returned (.bool (decide (bs = cs))) ∧ ∃ n, w' = w.drewN n
set_option maxRecDepth 100000 in
theorem eq_ints (a b : Option Addr) (bs cs : List Int) (ca cb : Nat) (w : World) (hl : bs.length ≤ 1099511627776) (ha : RdI a bs w) (hb : RdI b cs w) :
    Calls Try.prog 92 #[.slice a bs.length ca, .slice b cs.length cb] w (EqOutI bs cs w) := by
  have HA := Lib.hid ha
  have HB := Lib.hid hb
  clear ha hb
  by_cases hlen : bs.length = cs.length
  · have h1 : ((bs.length : Int) != (cs.length : Int)) = false := by simp [hlen]
    have HL := Lib.hid hlen
    have hle : cs.length ≤ bs.length := by omega
    have hge : bs.length ≤ cs.length := by omega
    clear hlen
    go_enter Try.func92, Try.ntmps92
    go_wp2
    clear h1
    go_loopw [5] (fun i W => ∃ k n : Nat, k ≤ bs.length ∧ i = .int .i64 k ∧ W = w.drewN n ∧ Hid (bs.take k = cs.take k)) (fun i _ => bs.length - (intOf i).toNat)
    case atStart => exact ⟨0, 0, Nat.zero_le _, rfl, rfl, rfl⟩
    case round =>
      obtain ⟨k, n, hk, rfl, rfl, ht⟩ := hrel
      have k0 : (0 : Int) ≤ (k : Int) := by omega
      by_cases hlt : k < bs.length
      · obtain ⟨b1, o1, rfl, c1⟩ := HA.out k hlt
        obtain ⟨b2, o2, rfl, c2⟩ := HB.out k (by omega)
        have k1 : (k : Int) < (bs.length : Int) := by omega
        have k2 : (k : Int) < (cs.length : Int) := by omega
        by_cases he : bs[k] = cs[k]
        · have ht' := Lib.hid (takeNext ht.out hlt (by omega) he)
          rw [← he] at c2
          clear he
          generalize bs[k] = x at c1 c2
          go_wp2
          go_quiet (fail)
          go_wp2
          go_roundw
          case rel => exact ⟨k + 1, _, by omega, by go_num, rfl, ht'⟩
          case measure => simp [intOf]; omega
        · have hne := Lib.hid (takeNot hlt (by omega) he)
          have he' : Hid (bs[k] ≠ cs[k]) := he
          clear he
          generalize bs[k] = x at c1 he'
          generalize cs[k] = y at c2 he'
          have e1 : (x != y) = true := by simpa using he'.out
          go_wp2
          go_quiet (fail)
          go_wp2
          go_ret
          exact ⟨ret_bool (decide_eq_false hne.out).symm, _, by rw [World.drewN_drewN]⟩
      · have k1 : ¬ (k : Int) < (bs.length : Int) := by omega
        have heq : Hid (bs = cs) := by
          have h2 := ht.out
          rw [List.take_of_length_le (by omega), List.take_of_length_le (by omega)] at h2
          exact h2
        go_wp2
        go_ret
        exact ⟨ret_bool (decide_eq_true heq.out).symm, _, rfl⟩
  · have h1 : ((bs.length : Int) != (cs.length : Int)) = true := by simp; omega
    have hne : Hid (bs ≠ cs) := fun h => hlen (by rw [h])
    clear hlen
    go_enter Try.func92, Try.ntmps92
    go_wp2
    go_ret
    exact ⟨ret_bool (decide_eq_false hne.out).symm, 0, rfl⟩
/-- The marks k, k + 1, .. as ints. -/
def marksI (k n : Nat) : List Int := (List.range n).map fun j => ((k + j : Nat) : Int)
theorem marksI_length (k n : Nat) : (marksI k n).length = n := by simp [marksI]
theorem marksI_at (k n j : Nat) (h : j < (marksI k n).length) : (marksI k n)[j] = ((k + j : Nat) : Int) := by simp [marksI]
/-- The first i cells are marked. -/
def MarkedI (b off n k i : Nat) (w W : World) : Prop :=
  w.grownBy W (some b) ∧ ∀ j, j < n → (∃ x : Int, W.cell? ⟨b, off + j, none⟩ = some (.int .i64 x) ∧ (j < i → x = ((k + j : Nat) : Int))) ∧ W.frozen? ⟨b, off + j, none⟩ = false
theorem MarkedI.next {b off n k i : Nat} {w W : World} (h : MarkedI b off n k i w W) (hi : i < n) : MarkedI b off n k (i + 1) w (W.setCell ⟨b, off + i, none⟩ (.int .i64 ((k + i : Nat) : Int))) := by
  refine ⟨grown_set h.1 (off + i) _, fun j hj => ⟨?_, by simpa using (h.2 j hj).2⟩⟩
  obtain ⟨⟨x, hx, hxi⟩, _⟩ := h.2 j hj
  by_cases e : j = i
  · subst e
    exact ⟨_, World.cell?_setCell_same _ _ _ hx, fun _ => rfl⟩
  · refine ⟨x, (World.cell?_setCell_other _ _ _ _ (fun he => e (by have := congrArg Addr.off he; simp at this; omega))).trans hx, fun hlt => hxi (by omega)⟩
/-- A row is marked: only its block has turned. -/
def MarkOutI (B : Nat) (a : Option Addr) (n cap k : Nat) (w : World) (e : Ending) (w' : World) : Prop :=
  e = .returned (.int .i64 ((k + n : Nat) : Int)) ∧ RowI B a (marksI k n) cap w' ∧ Touch B a n w w'
end Go.Proofs.Ytefkhknfjohnaaa
namespace Go.Proofs.Ytefkhknfjohnaaa
open Go Go.RowKit
/-- A rule, as a value. -/
structure RuleV where
  name : ByteArray
  kind : Int
  size : Int
  little : Bool
  bytes : List UInt8
  names : List ByteArray
  tags : List Int
  kids : List Int

abbrev RdStr := RdF Value.string
/-- Eight cells hold this rule. -/
def IsRule (r : RuleV) (cs : List Value) (w : World) : Prop :=
  ∃ a4 c4 a5 c5 a6 c6 a7 c7, cs = [.string r.name, .int .i64 r.kind, .int .i64 r.size, .bool r.little, .slice a4 r.bytes.length c4, .slice a5 r.names.length c5, .slice a6 r.tags.length c6, .slice a7 r.kids.length c7] ∧
    Rd a4 r.bytes w ∧ RdStr a5 r.names w ∧ RdI a6 r.tags w ∧ RdI a7 r.kids w
theorem IsRule.below {r : RuleV} {cs : List Value} {w w' : World} (h : IsRule r cs w) (hb : Below w.heap.size w w') : IsRule r cs w' := by
  obtain ⟨a4, c4, a5, c5, a6, c6, a7, c7, e, h4, h5, h6, h7⟩ := h
  exact ⟨a4, c4, a5, c5, a6, c6, a7, c7, e, h4.below hb, h5.below hb, h6.below hb, h7.below hb⟩
/-- The slice at a reads as these rules. -/
def RdR (a : Option Addr) (rs : List RuleV) (w : World) : Prop :=
  ∀ j (h : j < rs.length), ∃ b off cs, a = some ⟨b, off, none⟩ ∧ IsRule rs[j] cs w ∧ ∀ i v, cs[i]? = some v → w.cell? ⟨b, off + j * 8 + i, none⟩ = some v
theorem RdR.below {a : Option Addr} {rs : List RuleV} {w w' : World} (h : RdR a rs w) (hb : Below w.heap.size w w') : RdR a rs w' := fun j hj => by
  obtain ⟨b, off, cs, ha, hr, hc⟩ := h j hj
  exact ⟨b, off, cs, ha, hr.below hb, fun i v hi => (hb.cell (cell_lt (hc i v hi))).trans (hc i v hi)⟩
/-- One rule of a slice, cell by cell. -/
theorem RdR.at {a : Option Addr} {rs : List RuleV} {w : World} (h : RdR a rs w) (j : Nat) (hj : j < rs.length) : ∃ b off a4 c4 a5 c5 a6 c6 a7 c7, a = some ⟨b, off, none⟩ ∧
    (w.cell? ⟨b, off + j * 8, none⟩ = some (.string rs[j].name) ∧ w.cell? ⟨b, off + j * 8 + 1, none⟩ = some (.int .i64 rs[j].kind) ∧ w.cell? ⟨b, off + j * 8 + 2, none⟩ = some (.int .i64 rs[j].size) ∧ w.cell? ⟨b, off + j * 8 + 3, none⟩ = some (.bool rs[j].little) ∧
    w.cell? ⟨b, off + j * 8 + 4, none⟩ = some (.slice a4 rs[j].bytes.length c4) ∧ w.cell? ⟨b, off + j * 8 + 5, none⟩ = some (.slice a5 rs[j].names.length c5) ∧ w.cell? ⟨b, off + j * 8 + 6, none⟩ = some (.slice a6 rs[j].tags.length c6) ∧ w.cell? ⟨b, off + j * 8 + 7, none⟩ = some (.slice a7 rs[j].kids.length c7)) ∧
    Rd a4 rs[j].bytes w ∧ RdStr a5 rs[j].names w ∧ RdI a6 rs[j].tags w ∧ RdI a7 rs[j].kids w := by
  obtain ⟨b, off, cs, ha, ⟨a4, c4, a5, c5, a6, c6, a7, c7, rfl, h4, h5, h6, h7⟩, hc⟩ := h j hj
  exact ⟨b, off, a4, c4, a5, c5, a6, c6, a7, c7, ha, ⟨hc 0 _ rfl, hc 1 _ rfl, hc 2 _ rfl, hc 3 _ rfl, hc 4 _ rfl, hc 5 _ rfl, hc 6 _ rfl, hc 7 _ rfl⟩, h4, h5, h6, h7⟩
/-- The first rule with a name, from k on. -/
def findFrom (x : ByteArray) : List RuleV → Nat → Int
  | [], _ => -1
  | r :: rs, k => if r.name = x then (k : Int) else findFrom x rs (k + 1)
theorem findFrom_yes {x : ByteArray} {rs : List RuleV} {k : Nat} (h : k < rs.length) (hx : rs[k].name = x) : findFrom x (rs.drop k) k = (k : Int) := by
  rw [List.drop_eq_getElem_cons h]
  simp only [findFrom, if_pos hx]
theorem findFrom_no {x : ByteArray} {rs : List RuleV} {k : Nat} (h : k < rs.length) (hx : rs[k].name ≠ x) : findFrom x (rs.drop k) k = findFrom x (rs.drop (k + 1)) (k + 1) := by
  rw [List.drop_eq_getElem_cons h]
  simp only [findFrom, if_neg hx]
end Go.Proofs.Ytefkhknfjohnaaa
namespace Go.Proofs.Ytefkhknfjohnaaa
open Go Go.RowKit
def I64 (x : Int) : Prop := -9223372036854775808 ≤ x ∧ x ≤ 9223372036854775807
theorem Cur.below {a : Option Addr} {len cap c : Nat} {w w' : World} (h : Cur a len cap c w) (hb : Below w.heap.size w w') : Cur a len cap c w' := by
  obtain ⟨k, x, hk, c0, c1, c2, f1, f2, hs⟩ := h
  have hlt : c < w.heap.size := cell_lt c0
  refine ⟨k, x, hk, (hb.cell (p := ⟨c, 0, none⟩) hlt).trans c0, (hb.cell (p := ⟨c, 1, none⟩) hlt).trans c1, (hb.cell (p := ⟨c, 2, none⟩) hlt).trans c2, (hb.frozen (p := ⟨c, 1, none⟩) hlt).trans f1, (hb.frozen (p := ⟨c, 2, none⟩) hlt).trans f2, fun j hj => ?_⟩
  obtain ⟨b, off, y, ha, hne, hy, hc⟩ := hs j hj
  exact ⟨b, off, y, ha, hne, hy, (hb.cell (cell_lt hc)).trans hc⟩
theorem Cur.lt {a : Option Addr} {len cap c : Nat} {w : World} (h : Cur a len cap c w) : c < w.heap.size := by
  obtain ⟨k, x, hk, c0, _⟩ := h
  exact cell_lt c0
theorem cell_new (w : World) (C : Array Value) (t : TypeId) (j : Nat) : (w.alloc (.cells C t)).cell? ⟨w.heap.size, j, none⟩ = C[j]? := World.cell?_alloc_mark w C t (0, 0) j
/-- One of a list that stands in the text is drawn. -/
theorem int_pick (a : Option Addr) (len cap c n : Nat) (zs : List Int) (C : Array Value) (hC : C = (zs.map (Value.int .i64)).toArray) (hn : zs.length = n) (w : World) (hl : len ≤ 140737488355328) (h1 : 1 ≤ n) (h2 : n ≤ 100000) (hc : Cur a len cap c w) :
    Calls Try.prog 56 #[.pointer (some ⟨c, 0, none⟩), .slice (some ⟨w.heap.size, 0, none⟩) n n] (w.alloc (.cells C 3)) (DrawOut (fun x => x ∈ zs) a len cap c w) := by
  subst hn hC
  have hlt := hc.lt
  refine (int_draw a len cap c w.heap.size zs _ hl h1 h2 (hc.below ((Below.refl _ _).alloc (Nat.le_refl _) _)) (by omega) ?_).mono ?_
  · intro j hj
    rw [cell_new]
    simp [hj]
  · rintro e w1 ⟨x, hx, he, hc1, hg⟩
    exact ⟨x, hx, he, hc1, Lib.grownBy_trans (World.grownBy_alloc w _ _) hg⟩
theorem str_pick (a : Option Addr) (len cap c n : Nat) (zs : List ByteArray) (C : Array Value) (hC : C = (zs.map Value.string).toArray) (hn : zs.length = n) (w : World) (hl : len ≤ 140737488355328) (h1 : 1 ≤ n) (h2 : n ≤ 100000) (hc : Cur a len cap c w) :
    Calls Try.prog 93 #[.pointer (some ⟨c, 0, none⟩), .slice (some ⟨w.heap.size, 0, none⟩) n n] (w.alloc (.cells C 9)) (StrOut (fun x => x ∈ zs) a len cap c w) := by
  subst hn hC
  have hlt := hc.lt
  refine (str_draw a len cap c w.heap.size zs _ hl h1 h2 (hc.below ((Below.refl _ _).alloc (Nat.le_refl _) _)) (by omega) ?_).mono ?_
  · intro j hj
    rw [cell_new]
    simp [hj]
  · rintro e w1 ⟨x, hx, he, hc1, hg⟩
    exact ⟨x, hx, he, hc1, Lib.grownBy_trans (World.grownBy_alloc w _ _) hg⟩
theorem below_grown {B c : Nat} {w0 w w' : World} (h : Below B w0 w) (hg : w.grownBy w' (some c)) (hB : B ≤ w.heap.size) (hc : B ≤ c) : Below B w0 w' :=
  h.grown hg hB fun k e => by injection e with e; omega
end Go.Proofs.Ytefkhknfjohnaaa
namespace Go.Proofs.Ytefkhknfjohnaaa
open Go Go.RowKit
/-- A row that may be written, in a block from B on, holds these bytes. -/
def Fresh (B : Nat) (a : Option Addr) (bs : List UInt8) (w : World) : Prop :=
  bs = [] ∨ ∃ b off, a = some ⟨b, off, none⟩ ∧ B ≤ b ∧ ∀ j (h : j < bs.length), w.cell? ⟨b, off + j, none⟩ = some (.int .u8 (bs[j].toNat : Int)) ∧ w.frozen? ⟨b, off + j, none⟩ = false
theorem Fresh.rd {B : Nat} {a : Option Addr} {bs : List UInt8} {w : World} (h : Fresh B a bs w) : Rd a bs w := fun j hj => by
  rcases h with rfl | ⟨b, off, ha, _, hc⟩
  · simp at hj
  · exact ⟨b, off, ha, (hc j hj).1⟩
theorem Fresh.below {B : Nat} {a : Option Addr} {bs : List UInt8} {w w' : World} (h : Fresh B a bs w) (hb : Below w.heap.size w w') : Fresh B a bs w' := by
  rcases h with rfl | ⟨b, off, ha, hB, hc⟩
  · exact .inl rfl
  · exact .inr ⟨b, off, ha, hB, fun j hj => ⟨(hb.cell (cell_lt (hc j hj).1)).trans (hc j hj).1, (hb.frozen (p := ⟨b, off + j, none⟩) (cell_lt (hc j hj).1)).trans (hc j hj).2⟩⟩
theorem Fresh.more {B B' : Nat} {a : Option Addr} {bs : List UInt8} {w : World} (h : Fresh B a bs w) (hB : B' ≤ B) : Fresh B' a bs w := by
  rcases h with rfl | ⟨b, off, ha, hb, hc⟩
  · exact .inl rfl
  · exact .inr ⟨b, off, ha, Nat.le_trans hB hb, hc⟩
/-- A slice of these bytes in new memory: where it lies and how much it may hold. -/
def Row (B : Nat) (a : Option Addr) (bs : List UInt8) (cap : Nat) (w : World) : Prop := Fresh B a bs w ∧ bs.length ≤ cap ∧ (a = none → cap = 0)
theorem Row.rd {B cap : Nat} {a : Option Addr} {bs : List UInt8} {w : World} (h : Row B a bs cap w) : Rd a bs w := h.1.rd
theorem Row.below {B cap : Nat} {a : Option Addr} {bs : List UInt8} {w w' : World} (h : Row B a bs cap w) (hb : Below w.heap.size w w') : Row B a bs cap w' := ⟨h.1.below hb, h.2⟩
theorem Row.more {B B' cap : Nat} {a : Option Addr} {bs : List UInt8} {w : World} (h : Row B a bs cap w) (hB : B' ≤ B) : Row B' a bs cap w := ⟨h.1.more hB, h.2⟩
/-- New bytes come back; what was there is as it was. -/
def BytesOut (bs : List UInt8) (w : World) (e : Ending) (w' : World) : Prop :=
  ∃ a cap, e = .returned (.slice a bs.length cap) ∧ Row w.heap.size a bs cap w' ∧ Below w.heap.size w w'
/-- The first k bytes copied, the rest 0. -/
def Half (bs : List UInt8) (k N : Nat) (w W : World) : Prop :=
  Below w.heap.size w W ∧ ∀ j (h : j < bs.length), W.cell? ⟨N, j, none⟩ = some (.int .u8 (if j < k then (bs[j].toNat : Int) else 0)) ∧ W.frozen? ⟨N, j, none⟩ = false
theorem Half.next {bs : List UInt8} {k N : Nat} {w W : World} (h : Half bs k N w W) (hN : w.heap.size ≤ N) (hk : k < bs.length) : Half bs (k + 1) N w (W.setCell ⟨N, k, none⟩ (.int .u8 (bs[k].toNat : Int))) := by
  refine ⟨h.1.setCell (p := ⟨N, k, none⟩) hN _, fun j hj => ⟨?_, by simpa using (h.2 j hj).2⟩⟩
  by_cases e : j = k
  · subst e
    rw [World.cell?_setCell_same _ _ _ (h.2 j hj).1, if_pos (by omega)]
  · rw [World.cell?_setCell_other _ _ _ _ (fun he => e (by have := congrArg Addr.off he; simpa using this.symm)), (h.2 j hj).1]
    by_cases hlt : j < k
    · rw [if_pos hlt, if_pos (by omega)]
    · rw [if_neg hlt, if_neg (by omega)]
theorem infoU8 : (Try.prog.info? 5).map (fun i => (i.zero, i.size, i.bytes)) = some (some (.int .u8 0), 1, 1) := by kernel_rfl
theorem half_start (bs : List UInt8) (w : World) : Half bs 0 w.heap.size w (w.alloc (.cells (madeCells #[.int .u8 0] bs.length) 5)) := by
  have hr := World.rowIs_made w (.int .u8 0) bs.length 5
  exact ⟨(Below.refl _ _).alloc (Nat.le_refl _) _, fun j hj => ⟨by rw [hr.cell hj, if_neg (by omega)], hr.frozen j⟩⟩
theorem half_end {bs : List UInt8} {w W : World} (h : Half bs bs.length w.heap.size w W) : Fresh w.heap.size (some ⟨w.heap.size, 0, none⟩) bs W := by
  refine .inr ⟨w.heap.size, 0, rfl, Nat.le_refl _, fun j hj => ?_⟩
  have := h.2 j hj
  rw [if_pos hj] at this
  simpa using this
set_option maxRecDepth 100000 in
theorem to_any (a : Option Addr) (bs : List UInt8) (cap : Nat) (w : World) (hl : bs.length ≤ 1099511627776) (h : Rd a bs w) :
    Calls Try.prog 20 #[.slice a bs.length cap] w (BytesOut bs w) := by
  have H := Lib.hid h
  clear h
  have hmk := run_make_row' (P := Try.prog) 22 5 (.int .u8 0) 1 Try.underlying22 infoU8 rfl .i64 .i64 bs.length (by omega) (by omega)
  go_enter Try.func20, Try.ntmps20
  go_wp2
  clear hmk
  go_loopw [4] (fun i W => ∃ k : Nat, k ≤ bs.length ∧ i = .int .i64 k ∧ Hid (Half bs k w.heap.size w W)) (fun i _ => bs.length - (intOf i).toNat)
  case atStart => exact ⟨0, Nat.zero_le _, rfl, half_start bs w⟩
  case round =>
    obtain ⟨k, hk, rfl, hh⟩ := hrel
    by_cases hlt : k < bs.length
    · obtain ⟨b, off, rfl, hc0⟩ := H.out k hlt
      have hc : wr.cell? ⟨b, off + k, none⟩ = some (.int .u8 (bs[k].toNat : Int)) := (hh.out.1.cell (cell_lt hc0)).trans hc0
      have hbn : b < w.heap.size := cell_lt hc0
      clear hc0
      obtain ⟨hd, hf⟩ := hh.out.2 k hlt
      have hn := Lib.hid (hh.out.next (Nat.le_refl _) hlt)
      have k0 : (0 : Int) ≤ (k : Int) := by omega
      have k1 : (k : Int) < (bs.length : Int) := by omega
      go_wp2
      go_roundw
      case rel => exact ⟨k + 1, by omega, by go_num, hn⟩
      case measure => simp [intOf]; omega
    · have k1 : ¬ (k : Int) < (bs.length : Int) := by omega
      obtain rfl : k = bs.length := by omega
      go_wp2
      go_ret
      exact ⟨_, _, rfl, ⟨half_end hh.out, Nat.le_refl _, (fun e => by cases e)⟩, hh.out.1⟩
theorem take_next {bs cs : List UInt8} {k : Nat} (h : bs.take k = cs.take k) (hb : k < bs.length) (hc : k < cs.length) (e : bs[k] = cs[k]) : bs.take (k + 1) = cs.take (k + 1) := by
  rw [List.take_succ_eq_append_getElem hb, List.take_succ_eq_append_getElem hc, h, e]
theorem take_not {bs cs : List UInt8} {k : Nat} (hb : k < bs.length) (hc : k < cs.length) (e : bs[k] ≠ cs[k]) : bs ≠ cs := fun h => e (by subst h; rfl)
theorem byte_ne {x y : UInt8} (h : x ≠ y) : ((x.toNat : Int) != (y.toNat : Int)) = true := by
  simp only [bne_iff_ne, ne_eq, Int.natCast_inj]
  exact fun e => h (UInt8.toNat_inj.1 e)
/-- Whether two slices hold the same bytes; only draws. -/
def EqOut (bs cs : List UInt8) (w : World) (e : Ending) (w' : World) : Prop := e = .returned (.bool (decide (bs = cs))) ∧ ∃ n, w' = w.drewN n
set_option maxRecDepth 100000 in
theorem eq_any (a b : Option Addr) (bs cs : List UInt8) (ca cb : Nat) (w : World) (hl : bs.length ≤ 1099511627776) (ha : Rd a bs w) (hb : Rd b cs w) :
    Calls Try.prog 21 #[.slice a bs.length ca, .slice b cs.length cb] w (EqOut bs cs w) := by
  have HA := Lib.hid ha
  have HB := Lib.hid hb
  clear ha hb
  by_cases hlen : bs.length = cs.length
  · have h1 : ((bs.length : Int) != (cs.length : Int)) = false := by simp [hlen]
    have HL := Lib.hid hlen
    have hle : cs.length ≤ bs.length := by omega
    have hge : bs.length ≤ cs.length := by omega
    clear hlen
    go_enter Try.func21, Try.ntmps21
    go_wp2
    clear h1
    go_loopw [5] (fun i W => ∃ k n : Nat, k ≤ bs.length ∧ i = .int .i64 k ∧ W = w.drewN n ∧ Hid (bs.take k = cs.take k)) (fun i _ => bs.length - (intOf i).toNat)
    case atStart => exact ⟨0, 0, Nat.zero_le _, rfl, rfl, rfl⟩
    case round =>
      obtain ⟨k, n, hk, rfl, rfl, ht⟩ := hrel
      have k0 : (0 : Int) ≤ (k : Int) := by omega
      by_cases hlt : k < bs.length
      · obtain ⟨b1, o1, rfl, c1⟩ := HA.out k hlt
        obtain ⟨b2, o2, rfl, c2⟩ := HB.out k (by omega)
        have k1 : (k : Int) < (bs.length : Int) := by omega
        have k2 : (k : Int) < (cs.length : Int) := by omega
        by_cases he : bs[k] = cs[k]
        · have ht' := Lib.hid (take_next ht.out hlt (by omega) he)
          have e1 : ((bs[k].toNat : Int) != ((cs[k]'(by omega)).toNat : Int)) = false := by simp [he]
          clear he
          go_wp2
          go_quiet (fail)
          go_wp2
          go_roundw
          case rel => exact ⟨k + 1, _, by omega, by go_num, rfl, ht'⟩
          case measure => simp [intOf]; omega
        · have hne := Lib.hid (take_not hlt (by omega) he)
          have e1 := byte_ne he
          clear he
          go_wp2
          go_quiet (fail)
          go_wp2
          go_ret
          exact ⟨ret_bool (decide_eq_false hne.out).symm, _, by rw [World.drewN_drewN]⟩
      · have k1 : ¬ (k : Int) < (bs.length : Int) := by omega
        have heq : Hid (bs = cs) := by
          have h2 := ht.out
          rw [List.take_of_length_le (by omega), List.take_of_length_le (by omega)] at h2
          exact h2
        go_wp2
        go_ret
        exact ⟨ret_bool (decide_eq_true heq.out).symm, _, rfl⟩
  · have h1 : ((bs.length : Int) != (cs.length : Int)) = true := by simp; omega
    have hne : Hid (bs ≠ cs) := fun h => hlen (by rw [h])
    clear hlen
    go_enter Try.func21, Try.ntmps21
    go_wp2
    go_ret
    exact ⟨ret_bool (decide_eq_false hne.out).symm, 0, rfl⟩
/-- The marks k, k + 1, .. -/
def marks (k : Nat) : Nat → List UInt8
  | 0 => []
  | n + 1 => UInt8.ofNat k :: marks (k + 1) n
theorem marks_length : ∀ (k n : Nat), (marks k n).length = n
  | _, 0 => rfl
  | k, n + 1 => by simp [marks, marks_length (k + 1) n]
theorem marks_at : ∀ (k n j : Nat) (h : j < (marks k n).length), (marks k n)[j] = UInt8.ofNat (k + j)
  | k, 0, j, h => by simp [marks] at h
  | k, n + 1, 0, h => by simp [marks]
  | k, n + 1, j + 1, h => by
    simp only [marks, List.getElem_cons_succ]
    rw [marks_at (k + 1) n j]
    congr 1; omega
/-- The first i cells are marked. -/
def Marked (b off n k i : Nat) (w W : World) : Prop :=
  w.grownBy W (some b) ∧ ∀ j, j < n → (∃ x : Int, W.cell? ⟨b, off + j, none⟩ = some (.int .u8 x) ∧ (j < i → x = ((k + j) % 256 : Nat))) ∧ W.frozen? ⟨b, off + j, none⟩ = false
theorem Marked.next {b off n k i : Nat} {w W : World} (h : Marked b off n k i w W) (hi : i < n) : Marked b off n k (i + 1) w (W.setCell ⟨b, off + i, none⟩ (.int .u8 (((k + i) % 256 : Nat) : Int))) := by
  refine ⟨grown_set h.1 (off + i) _, fun j hj => ⟨?_, by simpa using (h.2 j hj).2⟩⟩
  obtain ⟨⟨x, hx, hxi⟩, _⟩ := h.2 j hj
  by_cases e : j = i
  · subst e
    exact ⟨_, World.cell?_setCell_same _ _ _ hx, fun _ => rfl⟩
  · refine ⟨x, (World.cell?_setCell_other _ _ _ _ (fun he => e (by have := congrArg Addr.off he; simp at this; omega))).trans hx, fun hlt => hxi (by omega)⟩
set_option maxRecDepth 100000 in
theorem mark_some (b off n cap k : Nat) (w : World) (hn : n ≤ 1099511627776) (hk : k ≤ 1099511627776) (h0 : Marked b off n k 0 w w) :
    Calls Try.prog 22 #[.slice (some ⟨b, off, none⟩) n cap, .int .i64 k] w fun e w' => e = .returned (.int .i64 ((k + n : Nat) : Int)) ∧ Marked b off n k n w w' := by
  have H0 := Lib.hid h0
  clear h0
  go_enter Try.func22, Try.ntmps22
  go_wp2
  go_loopw [1, 5] (fun q i W => ∃ j : Nat, j ≤ n ∧ i = .int .i64 j ∧ q = .int .i64 ((k + j : Nat) : Int) ∧ Hid (Marked b off n k j w W)) (fun _ i _ => n - (intOf i).toNat)
  case atStart => exact ⟨0, Nat.zero_le _, rfl, rfl, H0.out⟩
  case round =>
    obtain ⟨j, hj, rfl, rfl, hm⟩ := hrel
    have k0 : (0 : Int) ≤ (j : Int) := by omega
    by_cases hlt : j < n
    · obtain ⟨⟨x, hc, -⟩, hf⟩ := hm.out.2 j hlt
      have hn' := Lib.hid (hm.out.next hlt)
      have k1 : (j : Int) < (n : Int) := by omega
      go_wp2
      go_roundw
      case rel => exact ⟨j + 1, by omega, by go_num, by go_num, hn'⟩
      case measure => simp [intOf]; omega
    · have k1 : ¬ (j : Int) < (n : Int) := by omega
      obtain rfl : j = n := by omega
      go_wp2
      go_ret
      exact ⟨rfl, hm.out⟩
theorem mark_none (a : Option Addr) (cap : Nat) (k : Int) (w : World) :
    Calls Try.prog 22 #[.slice a 0 cap, .int .i64 k] w fun e w' => e = .returned (.int .i64 k) ∧ w = w' := by
  go_enter Try.func22, Try.ntmps22
  go_wp2
  go_loop [1, 5] (fun q i => i = .int .i64 0 ∧ q = .int .i64 k) (fun _ _ => 0)
  case atStart => exact ⟨rfl, rfl⟩
  case round =>
    obtain ⟨rfl, rfl⟩ := hrel
    go_wp2
    go_ret
    exact ⟨rfl, rfl⟩
theorem Fresh.old {B : Nat} {a : Option Addr} {bs : List UInt8} {w : World} (h : Fresh B a bs w) : Old w.heap.size a bs.length := by
  cases bs with
  | nil => exact .inl rfl
  | cons x r =>
    rcases h with h | ⟨b, off, ha, _, hc⟩
    · cases h
    · exact .inr ⟨b, off, ha, cell_lt (hc 0 (by simp)).1⟩
theorem Fresh.grown {B : Nat} {a : Option Addr} {bs : List UInt8} {w w' : World} {c : Nat} (h : Fresh B a bs w) (hg : w.grownBy w' (some c)) (hne : ∀ b off, a = some ⟨b, off, none⟩ → bs ≠ [] → b ≠ c) : Fresh B a bs w' := by
  rcases h with rfl | ⟨b, off, ha, hB, hc⟩
  · exact .inl rfl
  · by_cases hbs : bs = []
    · exact .inl hbs
    · have hb := hne b off ha hbs
      refine .inr ⟨b, off, ha, hB, fun j hj => ⟨hg.cell (hc j hj).1 (by simpa using hb), ?_⟩⟩
      exact (World.frozen?_of_block (a := ⟨b, off + j, none⟩) (hg.block b (cell_lt (hc j hj).1) (by simpa using hb))).trans (hc j hj).2
/-- An older row stays when a newer one is touched. -/
theorem Fresh.keepOld {BX BY : Nat} {aX aY : Option Addr} {bs : List UInt8} {n : Nat} {w w' : World} (h : Fresh BX aX bs w) (ho : Old BY aX bs.length) (ht : Touch BY aY n w w') : Fresh BX aX bs w' := by
  rcases ht with rfl | ⟨_, c, off, _, hB, hg⟩
  · exact h
  · refine h.grown hg fun b off ha hbs => ?_
    rcases ho with h0 | ⟨b', off', ha', hlt⟩
    · exact absurd (List.eq_nil_of_length_eq_zero h0) hbs
    · rw [ha] at ha'
      injection ha' with ha'
      injection ha' with h1
      omega
/-- A newer row stays when an older one is touched. -/
theorem Fresh.keepNew {BX BY : Nat} {aX aY : Option Addr} {bs : List UInt8} {n : Nat} {w w' : World} (h : Fresh BX aX bs w) (ho : Old BX aY n) (ht : Touch BY aY n w w') : Fresh BX aX bs w' := by
  rcases ht with rfl | ⟨hn, c, off, hc, hB, hg⟩
  · exact h
  · rcases ho with h0 | ⟨b', off', ha', hlt⟩
    · exact absurd h0 hn
    · rw [hc] at ha'
      injection ha' with ha'
      injection ha' with h1
      subst h1
      rcases h with rfl | ⟨b, off2, ha, hBX, hcell⟩
      · exact .inl rfl
      · exact (show Fresh BX aX bs w from .inr ⟨b, off2, ha, hBX, hcell⟩).grown hg fun b2 off3 ha2 _ => by
          rw [ha] at ha2
          injection ha2 with ha2
          injection ha2 with h2
          omega
theorem Row.old {B cap : Nat} {a : Option Addr} {bs : List UInt8} {w : World} (h : Row B a bs cap w) : Old w.heap.size a bs.length := h.1.old
theorem Row.keepOld {BX BY cap : Nat} {aX aY : Option Addr} {bs : List UInt8} {n : Nat} {w w' : World} (h : Row BX aX bs cap w) (ho : Old BY aX bs.length) (ht : Touch BY aY n w w') : Row BX aX bs cap w' := ⟨h.1.keepOld ho ht, h.2⟩
theorem Row.keepNew {BX BY cap : Nat} {aX aY : Option Addr} {bs : List UInt8} {n : Nat} {w w' : World} (h : Row BX aX bs cap w) (ho : Old BX aY n) (ht : Touch BY aY n w w') : Row BX aX bs cap w' := ⟨h.1.keepNew ho ht, h.2⟩
/-- A row is marked: only its block has turned. -/
def MarkOut (B : Nat) (a : Option Addr) (n cap k : Nat) (w : World) (e : Ending) (w' : World) : Prop :=
  e = .returned (.int .i64 ((k + n : Nat) : Int)) ∧ Row B a (marks k n) cap w' ∧ Touch B a n w w'
theorem mark_any (B : Nat) (a : Option Addr) (bs : List UInt8) (cap k : Nat) (w : World) (hn : bs.length ≤ 1099511627776) (hk : k ≤ 1099511627776) (h : Row B a bs cap w) :
    Calls Try.prog 22 #[.slice a bs.length cap, .int .i64 k] w (MarkOut B a bs.length cap k w) := by
  have hcap : (marks k bs.length).length ≤ cap ∧ (a = none → cap = 0) := by rw [marks_length]; exact h.2
  by_cases hbs : bs = []
  · subst hbs
    refine (mark_none a cap k w).mono ?_
    rintro e w' ⟨rfl, rfl⟩
    exact ⟨rfl, ⟨.inl rfl, hcap⟩, .inl rfl⟩
  · rcases h.1 with h | ⟨b, off, rfl, hB, hc⟩
    · exact absurd h hbs
    · refine (mark_some b off bs.length cap k w hn hk ⟨grown_refl w b, fun j hj => ⟨⟨_, (hc j hj).1, fun h => by omega⟩, (hc j hj).2⟩⟩).mono ?_
      rintro e w' ⟨rfl, hg, hm⟩
      refine ⟨rfl, ⟨.inr ⟨b, off, rfl, hB, fun j hj => ?_⟩, hcap⟩, .inr ⟨fun h0 => hbs (List.eq_nil_of_length_eq_zero h0), b, off, rfl, hB, hg⟩⟩
      have hjn : j < bs.length := by rw [marks_length] at hj; exact hj
      obtain ⟨⟨x, hx, hx'⟩, hf⟩ := hm j hjn
      refine ⟨?_, hf⟩
      rw [hx, hx' hjn, marks_at, UInt8.toNat_ofNat']
set_option maxRecDepth 100000 in
theorem held_any (a : Option Addr) (n cap k : Nat) (w : World) (hn : n ≤ 1099511627776) (hk : k ≤ 1099511627776) (h : Rd a (marks k n) w) :
    Calls Try.prog 23 #[.slice a n cap, .int .i64 k] w fun e w' => e = .returned (.int .i64 ((k + n : Nat) : Int)) ∧ w = w' := by
  have H := Lib.hid h
  clear h
  go_enter Try.func23, Try.ntmps23
  go_wp2
  go_loop [1, 5] (fun q i => ∃ j : Nat, j ≤ n ∧ i = .int .i64 j ∧ q = .int .i64 ((k + j : Nat) : Int)) (fun _ i => n - (intOf i).toNat)
  case atStart => exact ⟨0, Nat.zero_le _, rfl, rfl⟩
  case round =>
    obtain ⟨j, hj, rfl, rfl⟩ := hrel
    have k0 : (0 : Int) ≤ (j : Int) := by omega
    by_cases hlt : j < n
    · have hl : j < (marks k n).length := by rw [marks_length]; exact hlt
      obtain ⟨b, off, rfl, hc0⟩ := H.out j hl
      have hc : w.cell? ⟨b, off + j, none⟩ = some (.int .u8 (((k + j) % 256 : Nat) : Int)) := by
        rw [hc0, marks_at, UInt8.toNat_ofNat']
      clear hc0
      have k1 : (j : Int) < (n : Int) := by omega
      go_wp2
      go_round
      case rel => exact ⟨j + 1, by omega, by go_num, by go_num⟩
      case measure => simp [intOf]; omega
    · have k1 : ¬ (j : Int) < (n : Int) := by omega
      obtain rfl : j = n := by omega
      go_wp2
      go_ret
      exact ⟨rfl, rfl⟩
end Go.Proofs.Ytefkhknfjohnaaa
namespace Go.Proofs.Ytefkhknfjohnaaa
open Go
/-- The digits of v, none for 0. -/
def digs (v : Nat) : List UInt8 := if v = 0 then [] else Lib.decDigits v
theorem digs_zero : digs 0 = [] := rfl
theorem digs_pos {v : Nat} (h : v ≠ 0) : digs v = Lib.decDigits v := if_neg h
theorem digs_step {v : Nat} (h : v ≠ 0) : digs v = digs (v / 10) ++ [UInt8.ofNat (48 + v % 10)] := by
  rw [digs_pos h]
  by_cases h10 : v < 10
  · have e : v / 10 = 0 := by omega
    rw [e, digs_zero, Lib.decDigits_one h10, Nat.mod_eq_of_lt h10]; rfl
  · rw [Lib.decDigits, dif_neg h10, digs_pos (by omega)]
theorem nDigits_le : ∀ (k v : Nat), v < 10 ^ k → 1 ≤ k → Lib.nDigits v ≤ k
  | 0, _, _, h => by omega
  | k + 1, v, hv, _ => by
    by_cases h10 : v < 10
    · rw [Lib.nDigits_small h10]; omega
    · rw [Lib.nDigits_big h10]
      rw [Nat.pow_succ] at hv
      have h1 : 1 ≤ k := by
        rcases k with _ | k
        · simp at hv; omega
        · omega
      have := nDigits_le k (v / 10) (by omega) h1
      omega
theorem digs_length (v : Nat) (h : v < 10 ^ 20) : (digs v).length ≤ 20 := by
  by_cases h0 : v = 0
  · subst h0; simp [digs_zero]
  · rw [digs_pos h0, Lib.decDigits_length]; exact nDigits_le 20 v h (by omega)
theorem rest_length {v u : Nat} {l : List UInt8} (h : digs v ++ l = digs u) (hu : u < 10 ^ 20) : l.length ≤ 20 := by
  have h1 := congrArg List.length h
  have h2 := digs_length u hu
  rw [List.length_append] at h1
  omega
theorem itoa_zero : Lib.itoa 0 = [48] := by unfold Lib.itoa; rw [if_neg (by omega)]; exact Lib.decDigits_one (i := 0) (by omega)
theorem itoa_pos {n : Int} (h : 0 < n) : Lib.itoa n = digs n.natAbs := by
  unfold Lib.itoa; rw [if_neg (by omega), digs_pos (by omega), show n.toNat = n.natAbs by omega]
theorem itoa_neg {n : Int} (h : n < 0) : Lib.itoa n = 45 :: digs n.natAbs := by
  unfold Lib.itoa; rw [if_pos h, digs_pos (by omega)]
end Go.Proofs.Ytefkhknfjohnaaa
namespace Go.Proofs.Ytefkhknfjohnaaa
open Go Go.RowKit
/-- A bool is drawn. -/
def OnceOut (a : Option Addr) (len cap c : Nat) (w : World) (e : Ending) (w' : World) : Prop :=
  ∃ x : Bool, e = .returned (.bool x) ∧ Cur a len cap c w' ∧ w.grownBy w' (some c)
theorem once_draw (a : Option Addr) (len cap c : Nat) (n : Int) (w : World) (hl : len ≤ 140737488355328) (h1 : 1 ≤ n) (h2 : n ≤ 1000000000) (hc : Cur a len cap c w) :
    Calls Try.prog 70 #[.pointer (some ⟨c, 0, none⟩), .int .i64 n] w (OnceOut a len cap c w) := by
  have HC := Lib.hid hc
  clear hc
  go_enter Try.func70, Try.ntmps70
  go_wp2_with fail
  refine (below_draw a len cap c n _ hl h1 h2 HC.out).mono ?_
  rintro e w1 ⟨x, ⟨x0, x1⟩, rfl, hc1, hg1⟩
  have HC1 := Lib.hid hc1
  have HG1 := Lib.hid hg1
  clear hc1 hg1
  go_wp2_with fail
  go_ret
  exact ⟨_, rfl, HC1.out, HG1.out⟩
end Go.Proofs.Ytefkhknfjohnaaa
