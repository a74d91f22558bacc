/- Contracts of the functions that draw: the cursor over the bytes of a code. -/
import Derived.Test.YtikpbeealeofaaaChecked
import Derived.WalkKit
import Derived.ProofKit
import Derived.LoopTactic
import Derived.Lib.Hide
import Derived.Deep.QuietTactic
import Derived.BigQuiet
import Derived.Laws.AppendOwn
import Derived.OwnWalk
import Derived.Lib.BufferOwn
namespace Go.Proofs.Ytikpbeealeofaaa
open Go Go.RowKit
/-- The bytes that the cursor reads, outside the cursor's own block c. -/
def Src (a : Option Addr) (len c : Nat) (w : World) : Prop := ∀ j, j < len → ∃ b off x : Nat, a = some ⟨b, off, none⟩ ∧ b ≠ c ∧ x < 256 ∧ w.cell? ⟨b, off + j, none⟩ = some (.int .u8 x)
/-- Block c is a cursor over the bytes of the slice. -/
def Cur (a : Option Addr) (len cap c : Nat) (w : World) : Prop :=
  ∃ (k : Nat) (h : Int), k ≤ len ∧ w.cell? ⟨c, 0, none⟩ = some (.slice a len cap) ∧ w.cell? ⟨c, 1, none⟩ = some (.int .i64 k) ∧ w.cell? ⟨c, 2, none⟩ = some (.int .i64 h)
    ∧ w.frozen? ⟨c, 1, none⟩ = false ∧ w.frozen? ⟨c, 2, none⟩ = false ∧ Src a len c w
/-- An int of which P holds is drawn; only the cursor's block has turned. -/
def DrawOut (P : Int → Prop) (a : Option Addr) (len cap c : Nat) (w : World) (e : Ending) (w' : World) : Prop :=
  ∃ x : Int, P x ∧ e = .returned (.int .i64 x) ∧ Cur a len cap c w' ∧ w.grownBy w' (some c)
theorem and255 (x : Int) : 0 ≤ bits .and .i64 x 255 ∧ bits .and .i64 x 255 < 256 := by
  show 0 ≤ IntKind.i64.wrap ((BitVec.ofInt 64 x &&& BitVec.ofInt 64 255).toNat : Int) ∧ IntKind.i64.wrap ((BitVec.ofInt 64 x &&& BitVec.ofInt 64 255).toNat : Int) < 256
  have e : (BitVec.ofInt 64 255).toNat = 255 := by decide
  have h : (BitVec.ofInt 64 x &&& BitVec.ofInt 64 255).toNat ≤ 255 := by
    rw [BitVec.toNat_and, e]; exact Nat.and_le_right
  rw [IntKind.wrap_i64]
  omega
theorem Src.grown {a : Option Addr} {len c : Nat} {w w' : World} (h : Src a len c w) (hg : w.grownBy w' (some c)) : Src a len c w' := fun j hj => by
  obtain ⟨b, off, x, ha, hb, hx, hc⟩ := h j hj
  exact ⟨b, off, x, ha, hb, hx, hg.cell hc (by simpa using hb)⟩
theorem grown_drewN {a w : World} {row : Option Nat} (h : a.grownBy w row) (n : Nat) : a.grownBy (w.drewN n) row := ⟨h.os, h.tape, h.output, h.size, h.block⟩
theorem grown_set {a w : World} {c : Nat} (h : a.grownBy w (some c)) (i : Nat) (v : Value) : a.grownBy (w.setCell ⟨c, i, none⟩ v) (some c) := Lib.grownBy_setB h i v
theorem grown_refl (w : World) (c : Nat) : w.grownBy w (some c) := World.grownBy.refl w _
/-- The cursor behind a store of its number. -/
theorem cur_set2 {a : Option Addr} {len cap c k : Nat} {h x : Int} {w : World} (hk : k ≤ len)
    (c0 : w.cell? ⟨c, 0, none⟩ = some (.slice a len cap)) (c1 : w.cell? ⟨c, 1, none⟩ = some (.int .i64 k)) (c2 : w.cell? ⟨c, 2, none⟩ = some (.int .i64 h))
    (f1 : w.frozen? ⟨c, 1, none⟩ = false) (f2 : w.frozen? ⟨c, 2, none⟩ = false) (hs : Src a len c w) : Cur a len cap c (w.setCell ⟨c, 2, none⟩ (.int .i64 x)) :=
  ⟨k, x, hk, (World.cell?_setCell_other _ _ _ _ (by simp)).trans c0, (World.cell?_setCell_other _ _ _ _ (by simp)).trans c1, World.cell?_setCell_same _ _ _ c2, by simpa using f1, by simpa using f2, hs.grown (grown_set (grown_refl w c) 2 _)⟩
theorem cur_set1 {a : Option Addr} {len cap c k : Nat} {w : World} (h : Cur a len cap c w) (hk : k ≤ len) : Cur a len cap c (w.setCell ⟨c, 1, none⟩ (.int .i64 k)) := by
  obtain ⟨k0, h0, _, c0, c1, c2, f1, f2, hs⟩ := h
  exact ⟨k, h0, hk, (World.cell?_setCell_other _ _ _ _ (by simp)).trans c0, World.cell?_setCell_same _ _ _ c1, (World.cell?_setCell_other _ _ _ _ (by simp)).trans c2, by simpa using f1, by simpa using f2, hs.grown (grown_set (grown_refl w c) 1 _)⟩
theorem cur_drewN {a : Option Addr} {len cap c : Nat} {w : World} (h : Cur a len cap c w) (n : Nat) : Cur a len cap c (w.drewN n) := h
set_option maxRecDepth 100000 in
theorem byte_end (a : Option Addr) (len cap c : Nat) (h : Int) (w : World)
    (c0 : w.cell? ⟨c, 0, none⟩ = some (.slice a len cap)) (c1 : w.cell? ⟨c, 1, none⟩ = some (.int .i64 len)) (c2 : w.cell? ⟨c, 2, none⟩ = some (.int .i64 h))
    (f1 : w.frozen? ⟨c, 1, none⟩ = false) (f2 : w.frozen? ⟨c, 2, none⟩ = false) (hs : Src a len c w) :
    Calls Try.prog 92 #[.pointer (some ⟨c, 0, none⟩)] w (DrawOut (fun x => 0 ≤ x ∧ x < 256) a len cap c w) := by
  have HC := fun x : Int => Lib.hid (cur_set2 (x := x) (Nat.le_refl len) c0 c1 c2 f1 f2 hs)
  have HS := Lib.hid hs
  clear hs
  go_enter Try.func92, Try.ntmps92
  go_wp2
  go_quiet (fail)
  go_wp2
  go_quiet (fail)
  go_wp2
  go_ret
  exact ⟨_, and255 _, rfl, (HC _).out, grown_drewN (grown_drewN (grown_set (grown_refl w c) 2 _) _) _⟩
set_option maxRecDepth 100000 in
theorem byte_more (b off len cap c k x : Nat) (h : Int) (w : World) (hl : len ≤ 140737488355328) (hk : k < len) (hx : x < 256) (hne : b ≠ c) (hb : w.cell? ⟨b, off + k, none⟩ = some (.int .u8 x))
    (c0 : w.cell? ⟨c, 0, none⟩ = some (.slice (some ⟨b, off, none⟩) len cap)) (c1 : w.cell? ⟨c, 1, none⟩ = some (.int .i64 k)) (c2 : w.cell? ⟨c, 2, none⟩ = some (.int .i64 h))
    (f1 : w.frozen? ⟨c, 1, none⟩ = false) (f2 : w.frozen? ⟨c, 2, none⟩ = false) (hs : Src (some ⟨b, off, none⟩) len c w) :
    Calls Try.prog 92 #[.pointer (some ⟨c, 0, none⟩)] w (DrawOut (fun x => 0 ≤ x ∧ x < 256) (some ⟨b, off, none⟩) len cap c w) := by
  have HC := fun x : Int => Lib.hid (cur_set1 (k := k + 1) (cur_set2 (x := x) (Nat.le_of_lt hk) c0 c1 c2 f1 f2 hs) hk)
  have HS := Lib.hid hs
  clear hs
  have hcb : c ≠ b := fun e => hne e.symm
  have k0 : (0 : Int) ≤ (k : Int) := by omega
  have k1 : (k : Int) < (len : Int) := by omega
  go_enter Try.func92, Try.ntmps92
  go_wp2
  go_quiet (fail)
  go_wp2
  go_quiet (fail)
  go_wp2
  go_quiet (fail)
  go_wp2
  go_ret
  exact ⟨_, and255 _, rfl, (HC _).out, grown_set (grown_drewN (grown_set (grown_refl w c) 2 _) _) 1 _⟩
theorem byte_draw (a : Option Addr) (len cap c : Nat) (w : World) (hl : len ≤ 140737488355328) (hc : Cur a len cap c w) :
    Calls Try.prog 92 #[.pointer (some ⟨c, 0, none⟩)] w (DrawOut (fun x => 0 ≤ x ∧ x < 256) a len cap c w) := by
  obtain ⟨k, h, hk, c0, c1, c2, f1, f2, hs⟩ := hc
  rcases Nat.lt_or_ge k len with hlt | hge
  · obtain ⟨b, off, x, rfl, hne, hx, hb⟩ := hs k hlt
    exact byte_more b off len cap c k x h w hl hlt hx hne hb c0 c1 c2 f1 f2 hs
  · obtain rfl : k = len := by omega
    exact byte_end a k cap c h w c0 c1 c2 f1 f2 hs
set_option maxRecDepth 100000 in
theorem below_draw (a : Option Addr) (len cap c : Nat) (n : Int) (w : World) (hl : len ≤ 140737488355328) (h1 : 1 ≤ n) (h2 : n ≤ 1000000000) (hc : Cur a len cap c w) :
    Calls Try.prog 70 #[.pointer (some ⟨c, 0, none⟩), .int .i64 n] w (DrawOut (fun x => 0 ≤ x ∧ x < n) a len cap c w) := by
  have HC := Lib.hid hc
  clear hc
  by_cases h3 : n ≤ 256
  · go_enter Try.func70, Try.ntmps70
    go_wp2_with fail
    refine (byte_draw a len cap c _ hl HC.out).mono ?_
    rintro e w1 ⟨x, ⟨x0, x1⟩, rfl, hc1, hg1⟩
    have HC1 := Lib.hid hc1
    have HG1 := Lib.hid hg1
    clear hc1 hg1
    go_wp2_with fail
    go_ret
    exact ⟨_, ⟨Int.emod_nonneg _ (by omega), Int.emod_lt_of_pos _ (by omega)⟩, rfl, HC1.out, HG1.out⟩
  · go_enter Try.func70, Try.ntmps70
    go_wp2_with fail
    refine (byte_draw a len cap c _ hl HC.out).mono ?_
    rintro e w1 ⟨x, ⟨x0, x1⟩, rfl, hc1, hg1⟩
    have HC1 := Lib.hid hc1
    have HG1 := Lib.hid hg1
    clear hc1 hg1
    go_wp2_with fail
    refine (byte_draw a len cap c _ hl HC1.out).mono ?_
    rintro e w2 ⟨y, ⟨y0, y1⟩, rfl, hc2, hg2⟩
    have HC2 := Lib.hid hc2
    have HG2 := Lib.hid (Lib.grownBy_trans HG1.out hg2)
    clear hc2 hg2
    go_wp2_with fail
    refine (byte_draw a len cap c _ hl HC2.out).mono ?_
    rintro e w3 ⟨z, ⟨z0, z1⟩, rfl, hc3, hg3⟩
    have HC3 := Lib.hid hc3
    have HG3 := Lib.hid (Lib.grownBy_trans HG2.out hg3)
    clear hc3 hg3
    go_wp2_with fail
    go_ret
    exact ⟨_, ⟨Int.emod_nonneg _ (by omega), Int.emod_lt_of_pos _ (by omega)⟩, rfl, HC3.out, HG3.out⟩
/-- One of a list of ints is drawn. -/
theorem int_draw (a : Option Addr) (len cap c g : Nat) (zs : List Int) (w : World) (hl : len ≤ 140737488355328) (h1 : 1 ≤ zs.length) (h2 : zs.length ≤ 100000) (hc : Cur a len cap c w) (hg : g ≠ c)
    (hz : ∀ j, j < zs.length → w.cell? ⟨g, j, none⟩ = some (.int .i64 (zs.getD j 0))) :
    Calls Try.prog 75 #[.pointer (some ⟨c, 0, none⟩), .slice (some ⟨g, 0, none⟩) zs.length zs.length] w (DrawOut (fun x => x ∈ zs) a len cap c w) := by
  have HC := Lib.hid hc
  have HZ := Lib.hid hz
  clear hc hz
  go_enter Try.func75, Try.ntmps75
  go_wp2_with fail
  refine (below_draw a len cap c (zs.length : Int) _ hl (by omega) (by omega) HC.out).mono ?_
  rintro e w1 ⟨x, ⟨x0, x1⟩, rfl, hc1, hg1⟩
  have HC1 := Lib.hid hc1
  have HG1 := Lib.hid hg1
  clear hc1 hg1
  obtain ⟨k, rfl⟩ : ∃ k : Nat, x = (k : Int) := ⟨x.toNat, by omega⟩
  have hk : k < zs.length := by omega
  have hcell : w1.cell? ⟨g, k, none⟩ = some (.int .i64 (zs.getD k 0)) := HG1.out.cell (HZ.out k hk) (by simpa using hg)
  go_wp2_with fail
  go_ret
  refine ⟨_, ?_, rfl, HC1.out, HG1.out⟩
  simp
/-- A string of which P holds is drawn. -/
def StrOut (P : ByteArray → Prop) (a : Option Addr) (len cap c : Nat) (w : World) (e : Ending) (w' : World) : Prop :=
  ∃ x : ByteArray, P x ∧ e = .returned (.string x) ∧ Cur a len cap c w' ∧ w.grownBy w' (some c)
/-- One of a list of strings is drawn. -/
theorem str_draw (a : Option Addr) (len cap c g : Nat) (zs : List ByteArray) (w : World) (hl : len ≤ 140737488355328) (h1 : 1 ≤ zs.length) (h2 : zs.length ≤ 100000) (hc : Cur a len cap c w) (hg : g ≠ c)
    (hz : ∀ j, j < zs.length → w.cell? ⟨g, j, none⟩ = some (.string (zs.getD j ⟨#[]⟩))) :
    Calls Try.prog 89 #[.pointer (some ⟨c, 0, none⟩), .slice (some ⟨g, 0, none⟩) zs.length zs.length] w (StrOut (fun x => x ∈ zs) a len cap c w) := by
  have HC := Lib.hid hc
  have HZ := Lib.hid hz
  clear hc hz
  go_enter Try.func89, Try.ntmps89
  go_wp2_with fail
  refine (below_draw a len cap c (zs.length : Int) _ hl (by omega) (by omega) HC.out).mono ?_
  rintro e w1 ⟨x, ⟨x0, x1⟩, rfl, hc1, hg1⟩
  have HC1 := Lib.hid hc1
  have HG1 := Lib.hid hg1
  clear hc1 hg1
  obtain ⟨k, rfl⟩ : ∃ k : Nat, x = (k : Int) := ⟨x.toNat, by omega⟩
  have hk : k < zs.length := by omega
  have hcell : w1.cell? ⟨g, k, none⟩ = some (.string (zs.getD k ⟨#[]⟩)) := HG1.out.cell (HZ.out k hk) (by simpa using hg)
  go_wp2_with fail
  go_ret
  refine ⟨_, ?_, rfl, HC1.out, HG1.out⟩
  simp
/-- The bytes of the code that a law is called with. -/
def Code (a : Option Addr) (len : Nat) (w : World) : Prop := ∀ j, j < len → ∃ b off x : Nat, a = some ⟨b, off, none⟩ ∧ x < 256 ∧ w.cell? ⟨b, off + j, none⟩ = some (.int .u8 x)
theorem cell_lt {w : World} {p : Addr} {v : Value} (h : w.cell? p = some v) : p.block < w.heap.size := by
  rcases Nat.lt_or_ge p.block w.heap.size with h1 | h1
  · exact h1
  · unfold World.cell? at h
    simp [Array.getElem?_eq_none h1] at h
theorem Code.below {a : Option Addr} {len : Nat} {w w' : World} (h : Code a len w) (hb : Below w.heap.size w w') : Code a len w' := fun j hj => by
  obtain ⟨b, off, x, ha, hx, hc⟩ := h j hj
  exact ⟨b, off, x, ha, hx, (hb.cell (cell_lt hc)).trans hc⟩
theorem Code.src {a : Option Addr} {len c : Nat} {w : World} (h : Code a len w) (hc : w.heap.size ≤ c) : Src a len c w := fun j hj => by
  obtain ⟨b, off, x, ha, hx, hcell⟩ := h j hj
  have := cell_lt hcell
  exact ⟨b, off, x, ha, (by intro e; subst e; simp at this; omega), hx, hcell⟩
/-- A new cursor. -/
def NewOut (a : Option Addr) (len cap : Nat) (w : World) (e : Ending) (w' : World) : Prop :=
  e = .returned (.pointer (some ⟨w.heap.size, 0, none⟩)) ∧ Cur a len cap w.heap.size w' ∧ Below w.heap.size w w' ∧ w'.heap.size = w.heap.size + 1
theorem cur_new {a : Option Addr} {len cap : Nat} {h : Int} {w : World} (hs : Code a len w) : Cur a len cap w.heap.size (w.alloc (.cells #[.slice a len cap, .int .i64 0, .int .i64 h] 89)) := by
  refine ⟨0, h, Nat.zero_le _, by simp, by simp, by simp, by simp, by simp, fun j hj => ?_⟩
  obtain ⟨b, off, x, ha, hx, hcell⟩ := hs j hj
  have hlt : b < w.heap.size := cell_lt hcell
  exact ⟨b, off, x, ha, by omega, hx, (((Below.refl w.heap.size w).alloc (Nat.le_refl _) _).cell (p := ⟨b, off + j, none⟩) hlt).trans hcell⟩
set_option maxRecDepth 100000 in
theorem new_draw (a : Option Addr) (len cap : Nat) (w : World) (hl : len ≤ 140737488355328) (hs : Code a len w) :
    Calls Try.prog 46 #[.slice a len cap] w (NewOut a len cap w) := by
  have HS := Lib.hid hs
  clear hs
  go_enter Try.func46, Try.ntmps46
  go_wp2
  go_loop [3, 4] (fun h i => ∃ (k : Nat) (x : Int), k ≤ len ∧ i = .int .i64 k ∧ h = .int .i64 x) (fun _ i => len - (intOf i).toNat)
  case atStart => exact ⟨0, _, Nat.zero_le _, rfl, rfl⟩
  case round =>
    obtain ⟨k, x, hk, rfl, rfl⟩ := hrel
    by_cases hlt : k < len
    · by_cases h4 : k < 4000
      · obtain ⟨b, off, y, rfl, hy, hcell⟩ := HS.out k hlt
        have k0 : (0 : Int) ≤ (k : Int) := by omega
        have k1 : (k : Int) < (len : Int) := by omega
        have k2 : (k : Int) < 4000 := by omega
        go_wp2
        go_round
        case rel => exact ⟨k + 1, _, by omega, by go_num, rfl⟩
        case measure => simp [intOf]; omega
      · have k1 : (k : Int) < (len : Int) := by omega
        have k2 : ¬ (k : Int) < 4000 := by omega
        go_wp2
        go_ret
        exact ⟨rfl, cur_new HS.out, (Below.refl _ _).alloc (Nat.le_refl _) _, by simp⟩
    · have k1 : ¬ (k : Int) < (len : Int) := by omega
      go_wp2
      go_ret
      exact ⟨rfl, cur_new HS.out, (Below.refl _ _).alloc (Nat.le_refl _) _, by simp⟩
end Go.Proofs.Ytikpbeealeofaaa
