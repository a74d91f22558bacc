/- Contracts of the functions that draw: -/
import Derived.Test.YtfmnjclnhppghaaGreatChecked
import Derived.WalkKit
import Derived.ProofKit
import Derived.LoopTactic
import Derived.Lib.Hide
import Derived.Deep.QuietTactic
import Derived.BigQuiet
import Derived.Laws.AppendOwn
import Derived.OwnWalk
import Derived.Lib.BufferOwn
import Derived.Deep.AppendLies
import Derived.Deep.OwnRows
import Derived.Lib.Strings
import Derived.Laws.Strings2
import Derived.Lib.ItoaNum
set_option maxRecDepth 100000
namespace Go.Proofs.YtfmnjclnhppghaaGreat
open Go Go.RowKit
theorem kq {p : Prop} (h : p) : Hid p := Lib.hid h
def Src (a : Option Addr) (len c : Nat) (w : World) : Prop := ∀ j, j < len → ∃ b off x : Nat, a = some ⟨b, off, none⟩ ∧ b ≠ c ∧ x < 256 ∧ w.cell? ⟨b, off + j, none⟩ = some (.int .u8 x)
def Cur (a : Option Addr) (len cap c : Nat) (w : World) : Prop :=
 ∃ (k : Nat) (h : Int), k ≤ len ∧ w.cell? ⟨c, 0, none⟩ = some (.slice a len cap) ∧ w.cell? ⟨c, 1, none⟩ = some (.int .i64 k) ∧ w.cell? ⟨c, 2, none⟩ = some (.int .i64 h)
  ∧ w.frozen? ⟨c, 1, none⟩ = false ∧ w.frozen? ⟨c, 2, none⟩ = false ∧ Src a len c w
def DrawOut (P : Int → Prop) (a : Option Addr) (len cap c : Nat) (w : World) (e : Ending) (w' : World) : Prop :=
 ∃ x : Int, P x ∧ e = .returned (.int .i64 x) ∧ Cur a len cap c w' ∧ w.grownBy w' (some c)
theorem and255 (x : Int) : 0 ≤ bits .and .i64 x 255 ∧ bits .and .i64 x 255 < 256 := by
 show 0 ≤ IntKind.i64.wrap ((BitVec.ofInt 64 x &&& BitVec.ofInt 64 255).toNat : Int) ∧ IntKind.i64.wrap ((BitVec.ofInt 64 x &&& BitVec.ofInt 64 255).toNat : Int) < 256
 have e : (BitVec.ofInt 64 255).toNat = 255 := by decide
 have h : (BitVec.ofInt 64 x &&& BitVec.ofInt 64 255).toNat ≤ 255 := by
  rw [BitVec.toNat_and, e]; exact Nat.and_le_right
 rw [IntKind.wrap_i64]
 omega
theorem Src.grown {a : Option Addr} {len c : Nat} {w w' : World} (h : Src a len c w) (hg : w.grownBy w' (some c)) : Src a len c w' := fun j hj => by
 obtain ⟨b, off, x, ha, hb, hx, hc⟩ := h j hj
 exact ⟨b, off, x, ha, hb, hx, hg.cell hc (by simpa using hb)⟩
theorem grown_drewN {a w : World} {row : Option Nat} (h : a.grownBy w row) (n : Nat) : a.grownBy (w.drewN n) row := ⟨h.os, h.tape, h.output, h.size, h.block⟩
theorem grown_set {a w : World} {c : Nat} (h : a.grownBy w (some c)) (i : Nat) (v : Value) : a.grownBy (w.setCell ⟨c, i, none⟩ v) (some c) := Lib.grownBy_setB h i v
theorem grown_refl (w : World) (c : Nat) : w.grownBy w (some c) := World.grownBy.refl w _
theorem cur_set2 {a : Option Addr} {len cap c k : Nat} {h x : Int} {w : World} (hk : k ≤ len)
  (c0 : w.cell? ⟨c, 0, none⟩ = some (.slice a len cap)) (c1 : w.cell? ⟨c, 1, none⟩ = some (.int .i64 k)) (c2 : w.cell? ⟨c, 2, none⟩ = some (.int .i64 h))
  (f1 : w.frozen? ⟨c, 1, none⟩ = false) (f2 : w.frozen? ⟨c, 2, none⟩ = false) (hs : Src a len c w) : Cur a len cap c (w.setCell ⟨c, 2, none⟩ (.int .i64 x)) :=
 ⟨k, x, hk, (World.cell?_setCell_other _ _ _ _ (by simp)).trans c0, (World.cell?_setCell_other _ _ _ _ (by simp)).trans c1, World.cell?_setCell_same _ _ _ c2, by simpa using f1, by simpa using f2, hs.grown (grown_set (grown_refl w c) 2 _)⟩
theorem cur_set1 {a : Option Addr} {len cap c k : Nat} {w : World} (h : Cur a len cap c w) (hk : k ≤ len) : Cur a len cap c (w.setCell ⟨c, 1, none⟩ (.int .i64 k)) := by
 obtain ⟨k0, h0, _, c0, c1, c2, f1, f2, hs⟩ := h
 exact ⟨k, h0, hk, (World.cell?_setCell_other _ _ _ _ (by simp)).trans c0, World.cell?_setCell_same _ _ _ c1, (World.cell?_setCell_other _ _ _ _ (by simp)).trans c2, by simpa using f1, by simpa using f2, hs.grown (grown_set (grown_refl w c) 1 _)⟩
theorem byte_end (a : Option Addr) (len cap c : Nat) (h : Int) (w : World)
  (c0 : w.cell? ⟨c, 0, none⟩ = some (.slice a len cap)) (c1 : w.cell? ⟨c, 1, none⟩ = some (.int .i64 len)) (c2 : w.cell? ⟨c, 2, none⟩ = some (.int .i64 h))
  (f1 : w.frozen? ⟨c, 1, none⟩ = false) (f2 : w.frozen? ⟨c, 2, none⟩ = false) (hs : Src a len c w) :
  Calls Tryz.prog 97 #[.pointer (some ⟨c, 0, none⟩)] w (DrawOut (fun x => 0 ≤ x ∧ x < 256) a len cap c w) := by
 have HC := fun x : Int => kq (cur_set2 (x := x) (Nat.le_refl len) c0 c1 c2 f1 f2 hs)
 have HS := kq hs
 clear hs
 go_enter Tryz.func97, Tryz.ntmps97
 go_wp2
 go_quiet (fail)
 go_wp2
 go_quiet (fail)
 go_wp2
 go_ret
 exact ⟨_, and255 _, rfl, (HC _).out, grown_drewN (grown_drewN (grown_set (grown_refl w c) 2 _) _) _⟩
theorem byte_more (b off len cap c k x : Nat) (h : Int) (w : World) (hl : len ≤ 140737488355328) (hk : k < len) (hx : x < 256) (hne : b ≠ c) (hb : w.cell? ⟨b, off + k, none⟩ = some (.int .u8 x))
  (c0 : w.cell? ⟨c, 0, none⟩ = some (.slice (some ⟨b, off, none⟩) len cap)) (c1 : w.cell? ⟨c, 1, none⟩ = some (.int .i64 k)) (c2 : w.cell? ⟨c, 2, none⟩ = some (.int .i64 h))
  (f1 : w.frozen? ⟨c, 1, none⟩ = false) (f2 : w.frozen? ⟨c, 2, none⟩ = false) (hs : Src (some ⟨b, off, none⟩) len c w) :
  Calls Tryz.prog 97 #[.pointer (some ⟨c, 0, none⟩)] w (DrawOut (fun x => 0 ≤ x ∧ x < 256) (some ⟨b, off, none⟩) len cap c w) := by
 have HC := fun x : Int => kq (cur_set1 (k := k + 1) (cur_set2 (x := x) (Nat.le_of_lt hk) c0 c1 c2 f1 f2 hs) hk)
 have HS := kq hs
 clear hs
 have hcb : c ≠ b := fun e => hne e.symm
 have k0 : (0 : Int) ≤ (k : Int) := by omega
 have k1 : (k : Int) < (len : Int) := by omega
 go_enter Tryz.func97, Tryz.ntmps97
 go_wp2
 go_quiet (fail)
 go_wp2
 go_quiet (fail)
 go_wp2
 go_quiet (fail)
 go_wp2
 go_ret
 exact ⟨_, and255 _, rfl, (HC _).out, grown_set (grown_drewN (grown_set (grown_refl w c) 2 _) _) 1 _⟩
theorem byte_draw (a : Option Addr) (len cap c : Nat) (w : World) (hl : len ≤ 140737488355328) (hc : Cur a len cap c w) :
  Calls Tryz.prog 97 #[.pointer (some ⟨c, 0, none⟩)] w (DrawOut (fun x => 0 ≤ x ∧ x < 256) a len cap c w) := by
 obtain ⟨k, h, hk, c0, c1, c2, f1, f2, hs⟩ := hc
 rcases Nat.lt_or_ge k len with hlt | hge
 ·obtain ⟨b, off, x, rfl, hne, hx, hb⟩ := hs k hlt
  exact byte_more b off len cap c k x h w hl hlt hx hne hb c0 c1 c2 f1 f2 hs
 ·obtain rfl : k = len := by omega
  exact byte_end a k cap c h w c0 c1 c2 f1 f2 hs
theorem below_draw (a : Option Addr) (len cap c : Nat) (n : Int) (w : World) (hl : len ≤ 140737488355328) (h1 : 1 ≤ n) (h2 : n ≤ 1000000000) (hc : Cur a len cap c w) :
  Calls Tryz.prog 48 #[.pointer (some ⟨c, 0, none⟩), .int .i64 n] w (DrawOut (fun x => 0 ≤ x ∧ x < n) a len cap c w) := by
 have HC := kq hc
 clear hc
 by_cases h3 : n ≤ 256
 ·go_enter Tryz.func48, Tryz.ntmps48
  go_wp2_with fail
  refine (byte_draw a len cap c _ hl HC.out).mono ?_
  rintro e w1 ⟨x, ⟨x0, x1⟩, rfl, hc1, hg1⟩
  have HC1 := kq hc1
  have HG1 := kq hg1
  clear hc1 hg1
  go_wp2_with fail
  go_ret
  exact ⟨_, ⟨Int.emod_nonneg _ (by omega), Int.emod_lt_of_pos _ (by omega)⟩, rfl, HC1.out, HG1.out⟩
 ·go_enter Tryz.func48, Tryz.ntmps48
  go_wp2_with fail
  refine (byte_draw a len cap c _ hl HC.out).mono ?_
  rintro e w1 ⟨x, ⟨x0, x1⟩, rfl, hc1, hg1⟩
  have HC1 := kq hc1
  have HG1 := kq hg1
  clear hc1 hg1
  go_wp2_with fail
  refine (byte_draw a len cap c _ hl HC1.out).mono ?_
  rintro e w2 ⟨y, ⟨y0, y1⟩, rfl, hc2, hg2⟩
  have HC2 := kq hc2
  have HG2 := kq (Lib.grownBy_trans HG1.out hg2)
  clear hc2 hg2
  go_wp2_with fail
  refine (byte_draw a len cap c _ hl HC2.out).mono ?_
  rintro e w3 ⟨z, ⟨z0, z1⟩, rfl, hc3, hg3⟩
  have HC3 := kq hc3
  have HG3 := kq (Lib.grownBy_trans HG2.out hg3)
  clear hc3 hg3
  go_wp2_with fail
  go_ret
  exact ⟨_, ⟨Int.emod_nonneg _ (by omega), Int.emod_lt_of_pos _ (by omega)⟩, rfl, HC3.out, HG3.out⟩
theorem int_draw (a : Option Addr) (len cap c g : Nat) (zs : List Int) (w : World) (hl : len ≤ 140737488355328) (h1 : 1 ≤ zs.length) (h2 : zs.length ≤ 100000) (hc : Cur a len cap c w) (hg : g ≠ c)
  (hz : ∀ j, j < zs.length → w.cell? ⟨g, j, none⟩ = some (.int .i64 (zs.getD j 0))) :
  Calls Tryz.prog 96 #[.pointer (some ⟨c, 0, none⟩), .slice (some ⟨g, 0, none⟩) zs.length zs.length] w (DrawOut (fun x => x ∈ zs) a len cap c w) := by
 have HC := kq hc
 have HZ := kq hz
 clear hc hz
 go_enter Tryz.func96, Tryz.ntmps96
 go_wp2_with fail
 refine (below_draw a len cap c (zs.length : Int) _ hl (by omega) (by omega) HC.out).mono ?_
 rintro e w1 ⟨x, ⟨x0, x1⟩, rfl, hc1, hg1⟩
 have HC1 := kq hc1
 have HG1 := kq hg1
 clear hc1 hg1
 obtain ⟨k, rfl⟩ : ∃ k : Nat, x = (k : Int) := ⟨x.toNat, by omega⟩
 have hk : k < zs.length := by omega
 have hcell : w1.cell? ⟨g, k, none⟩ = some (.int .i64 (zs.getD k 0)) := HG1.out.cell (HZ.out k hk) (by simpa using hg)
 go_wp2_with fail
 go_ret
 refine ⟨_, ?_, rfl, HC1.out, HG1.out⟩
 simp
def StrOut (P : ByteArray → Prop) (a : Option Addr) (len cap c : Nat) (w : World) (e : Ending) (w' : World) : Prop :=
 ∃ x : ByteArray, P x ∧ e = .returned (.string x) ∧ Cur a len cap c w' ∧ w.grownBy w' (some c)
theorem str_draw (a : Option Addr) (len cap c g : Nat) (zs : List ByteArray) (w : World) (hl : len ≤ 140737488355328) (h1 : 1 ≤ zs.length) (h2 : zs.length ≤ 100000) (hc : Cur a len cap c w) (hg : g ≠ c)
  (hz : ∀ j, j < zs.length → w.cell? ⟨g, j, none⟩ = some (.string (zs.getD j ⟨#[]⟩))) :
  Calls Tryz.prog 95 #[.pointer (some ⟨c, 0, none⟩), .slice (some ⟨g, 0, none⟩) zs.length zs.length] w (StrOut (fun x => x ∈ zs) a len cap c w) := by
 have HC := kq hc
 have HZ := kq hz
 clear hc hz
 go_enter Tryz.func95, Tryz.ntmps95
 go_wp2_with fail
 refine (below_draw a len cap c (zs.length : Int) _ hl (by omega) (by omega) HC.out).mono ?_
 rintro e w1 ⟨x, ⟨x0, x1⟩, rfl, hc1, hg1⟩
 have HC1 := kq hc1
 have HG1 := kq hg1
 clear hc1 hg1
 obtain ⟨k, rfl⟩ : ∃ k : Nat, x = (k : Int) := ⟨x.toNat, by omega⟩
 have hk : k < zs.length := by omega
 have hcell : w1.cell? ⟨g, k, none⟩ = some (.string (zs.getD k ⟨#[]⟩)) := HG1.out.cell (HZ.out k hk) (by simpa using hg)
 go_wp2_with fail
 go_ret
 refine ⟨_, ?_, rfl, HC1.out, HG1.out⟩
 simp
def Code (a : Option Addr) (len : Nat) (w : World) : Prop := ∀ j, j < len → ∃ b off x : Nat, a = some ⟨b, off, none⟩ ∧ x < 256 ∧ w.cell? ⟨b, off + j, none⟩ = some (.int .u8 x)
theorem cell_lt {w : World} {p : Addr} {v : Value} (h : w.cell? p = some v) : p.block < w.heap.size := by
 rcases Nat.lt_or_ge p.block w.heap.size with h1 | h1
 ·exact h1
 ·unfold World.cell? at h
  simp [Array.getElem?_eq_none h1] at h
theorem Code.below {a : Option Addr} {len : Nat} {w w' : World} (h : Code a len w) (hb : Below w.heap.size w w') : Code a len w' := fun j hj => by
 obtain ⟨b, off, x, ha, hx, hc⟩ := h j hj
 exact ⟨b, off, x, ha, hx, (hb.cell (cell_lt hc)).trans hc⟩
def NewOut (a : Option Addr) (len cap : Nat) (w : World) (e : Ending) (w' : World) : Prop :=
 e = .returned (.pointer (some ⟨w.heap.size, 0, none⟩)) ∧ Cur a len cap w.heap.size w' ∧ Below w.heap.size w w' ∧ w'.heap.size = w.heap.size + 1
theorem cur_new {a : Option Addr} {len cap : Nat} {h : Int} {w : World} (hs : Code a len w) : Cur a len cap w.heap.size (w.alloc (.cells #[.slice a len cap, .int .i64 0, .int .i64 h] 119)) := by
 refine ⟨0, h, Nat.zero_le _, by simp, by simp, by simp, by simp, by simp, fun j hj => ?_⟩
 obtain ⟨b, off, x, ha, hx, hcell⟩ := hs j hj
 have hlt : b < w.heap.size := cell_lt hcell
 exact ⟨b, off, x, ha, by omega, hx, (((Below.refl w.heap.size w).alloc (Nat.le_refl _) _).cell (p := ⟨b, off + j, none⟩) hlt).trans hcell⟩
theorem new_draw (a : Option Addr) (len cap : Nat) (w : World) (hl : len ≤ 140737488355328) (hs : Code a len w) :
  Calls Tryz.prog 46 #[.slice a len cap] w (NewOut a len cap w) := by
 have HS := kq hs
 clear hs
 go_enter Tryz.func46, Tryz.ntmps46
 go_wp2
 go_loop [3, 4] (fun h i => ∃ (k : Nat) (x : Int), k ≤ len ∧ i = .int .i64 k ∧ h = .int .i64 x) (fun _ i => len - (intOf i).toNat)
 case atStart => exact ⟨0, _, Nat.zero_le _, rfl, rfl⟩
 case round =>
  obtain ⟨k, x, hk, rfl, rfl⟩ := hrel
  by_cases hlt : k < len
  ·by_cases h4 : k < 4000
   ·obtain ⟨b, off, y, rfl, hy, hcell⟩ := HS.out k hlt
    have k0 : (0 : Int) ≤ (k : Int) := by omega
    have k1 : (k : Int) < (len : Int) := by omega
    have k2 : (k : Int) < 4000 := by omega
    go_wp2
    go_round
    case rel => exact ⟨k + 1, _, by omega, by go_num, rfl⟩
    case measure => simp [intOf]; omega
   ·have k1 : (k : Int) < (len : Int) := by omega
    have k2 : ¬ (k : Int) < 4000 := by omega
    go_wp2
    go_ret
    exact ⟨rfl, cur_new HS.out, (Below.refl _ _).alloc (Nat.le_refl _) _, by simp⟩
  ·have k1 : ¬ (k : Int) < (len : Int) := by omega
   go_wp2
   go_ret
   exact ⟨rfl, cur_new HS.out, (Below.refl _ _).alloc (Nat.le_refl _) _, by simp⟩
section
variable {α : Type} {f : α → Value}
def RdF (f : α → Value) (a : Option Addr) (xs : List α) (w : World) : Prop := ∀ j (h : j < xs.length), ∃ b off, a = some ⟨b, off, none⟩ ∧ w.cell? ⟨b, off + j, none⟩ = some (f xs[j])
def FreshF (f : α → Value) (B : Nat) (a : Option Addr) (xs : List α) (w : World) : Prop :=
 xs = [] ∨ ∃ b off, a = some ⟨b, off, none⟩ ∧ B ≤ b ∧ ∀ j (h : j < xs.length), w.cell? ⟨b, off + j, none⟩ = some (f xs[j]) ∧ w.frozen? ⟨b, off + j, none⟩ = false
theorem FreshF.rd {B : Nat} {a : Option Addr} {xs : List α} {w : World} (h : FreshF f B a xs w) : RdF f a xs w := fun j hj => by
 rcases h with rfl | ⟨b, off, ha, _, hc⟩
 ·simp at hj
 ·exact ⟨b, off, ha, (hc j hj).1⟩
theorem RdF.below {a : Option Addr} {xs : List α} {w w' : World} (h : RdF f a xs w) (hb : Below w.heap.size w w') : RdF f a xs w' := fun j hj => by
 obtain ⟨b, off, ha, hc⟩ := h j hj
 exact ⟨b, off, ha, (hb.cell (cell_lt hc)).trans hc⟩
theorem FreshF.below {B : Nat} {a : Option Addr} {xs : List α} {w w' : World} (h : FreshF f B a xs w) (hb : Below w.heap.size w w') : FreshF f B a xs w' := by
 rcases h with rfl | ⟨b, off, ha, hB, hc⟩
 ·exact .inl rfl
 ·exact .inr ⟨b, off, ha, hB, fun j hj => ⟨(hb.cell (cell_lt (hc j hj).1)).trans (hc j hj).1, (hb.frozen (p := ⟨b, off + j, none⟩) (cell_lt (hc j hj).1)).trans (hc j hj).2⟩⟩
theorem FreshF.more {B B' : Nat} {a : Option Addr} {xs : List α} {w : World} (h : FreshF f B a xs w) (hB : B' ≤ B) : FreshF f B' a xs w := by
 rcases h with rfl | ⟨b, off, ha, hb, hc⟩
 ·exact .inl rfl
 ·exact .inr ⟨b, off, ha, Nat.le_trans hB hb, hc⟩
def RowF (f : α → Value) (B : Nat) (a : Option Addr) (xs : List α) (cap : Nat) (w : World) : Prop := FreshF f B a xs w ∧ xs.length ≤ cap ∧ (a = none → cap = 0)
theorem RowF.rd {B cap : Nat} {a : Option Addr} {xs : List α} {w : World} (h : RowF f B a xs cap w) : RdF f a xs w := h.1.rd
theorem RowF.below {B cap : Nat} {a : Option Addr} {xs : List α} {w w' : World} (h : RowF f B a xs cap w) (hb : Below w.heap.size w w') : RowF f B a xs cap w' := ⟨h.1.below hb, h.2⟩
theorem RowF.more {B B' cap : Nat} {a : Option Addr} {xs : List α} {w : World} (h : RowF f B a xs cap w) (hB : B' ≤ B) : RowF f B' a xs cap w := ⟨h.1.more hB, h.2⟩
def ListOut (f : α → Value) (xs : List α) (w : World) (e : Ending) (w' : World) : Prop :=
 ∃ a cap, e = .returned (.slice a xs.length cap) ∧ RowF f w.heap.size a xs cap w' ∧ Below w.heap.size w w'
def HalfF (f : α → Value) (z : Value) (xs : List α) (k N : Nat) (w W : World) : Prop :=
 Below w.heap.size w W ∧ ∀ j (h : j < xs.length), W.cell? ⟨N, j, none⟩ = some (if j < k then f xs[j] else z) ∧ W.frozen? ⟨N, j, none⟩ = false
theorem HalfF.end {z : Value} {xs : List α} {w W : World} (h : HalfF f z xs xs.length w.heap.size w W) : FreshF f w.heap.size (some ⟨w.heap.size, 0, none⟩) xs W := by
 refine .inr ⟨w.heap.size, 0, rfl, Nat.le_refl _, fun j hj => ?_⟩
 have := h.2 j hj
 rw [if_pos hj] at this
 simpa using this
theorem takeNext {bs cs : List α} {k : Nat} (h : bs.take k = cs.take k) (hb : k < bs.length) (hc : k < cs.length) (e : bs[k] = cs[k]) : bs.take (k + 1) = cs.take (k + 1) := by
 rw [List.take_succ_eq_append_getElem hb, List.take_succ_eq_append_getElem hc, h, e]
theorem takeNot {bs cs : List α} {k : Nat} (hb : k < bs.length) (hc : k < cs.length) (e : bs[k] ≠ cs[k]) : bs ≠ cs := fun h => e (by subst h; rfl)
end
theorem ret_int {k : IntKind} {x y : Int} (h : x = y) : Ending.returned (.int k x) = .returned (.int k y) := by rw [h]
theorem ret_bool {x y : Bool} (h : x = y) : Ending.returned (.bool x) = .returned (.bool y) := by rw [h]
theorem below_drewN {B : Nat} {a w : World} (h : Below B a w) (n : Nat) : Below B a (w.drewN n) := ⟨h.os, h.tape, h.output, h.size, h.block⟩
theorem grown_below {w W W' : World} {row : Option Nat} (hg : w.grownBy W row) (hb : Below W.heap.size W W') : w.grownBy W' row :=
 ⟨hb.os.trans hg.os, hb.tape.trans hg.tape, hb.output.trans hg.output, Nat.le_trans hg.size hb.size, fun k hk hr => (hb.block k (Nat.lt_of_lt_of_le hk hg.size)).trans (hg.block k hk hr)⟩
def Touch (B : Nat) (a : Option Addr) (n : Nat) (w w' : World) : Prop := w' = w ∨ (n ≠ 0 ∧ ∃ b off, a = some ⟨b, off, none⟩ ∧ B ≤ b ∧ w.grownBy w' (some b))
theorem Touch.below {B0 B : Nat} {a : Option Addr} {n : Nat} {w0 w w' : World} (ht : Touch B a n w w') (hb : Below B0 w0 w) (hs : B0 ≤ w.heap.size) (hB : B0 ≤ B) : Below B0 w0 w' := by
 rcases ht with rfl | ⟨_, c, off, _, hc, hg⟩
 ·exact hb
 ·exact hb.grown hg hs fun k hk => by injection hk with hk; omega
theorem Touch.size {B : Nat} {a : Option Addr} {n : Nat} {w w' : World} (ht : Touch B a n w w') : w.heap.size ≤ w'.heap.size := by
 rcases ht with rfl | ⟨_, c, off, _, hc, hg⟩
 ·exact Nat.le_refl _
 ·exact hg.size
section
variable {α : Type} {f : α → Value}
theorem FreshF.grown {B : Nat} {a : Option Addr} {xs : List α} {w w' : World} {c : Nat} (h : FreshF f B a xs w) (hg : w.grownBy w' (some c)) (hne : ∀ b off, a = some ⟨b, off, none⟩ → xs ≠ [] → b ≠ c) : FreshF f B a xs w' := by
 rcases h with rfl | ⟨b, off, ha, hB, hc⟩
 ·exact .inl rfl
 ·by_cases hbs : xs = []
  ·exact .inl hbs
  ·have hb := hne b off ha hbs
   refine .inr ⟨b, off, ha, hB, fun j hj => ⟨hg.cell (hc j hj).1 (by simpa using hb), ?_⟩⟩
   exact (World.frozen?_of_block (a := ⟨b, off + j, none⟩) (hg.block b (cell_lt (hc j hj).1) (by simpa using hb))).trans (hc j hj).2
theorem own_row {base : Nat} {t : TypeId} {v : Value} {xs : List α} {w : World} (h : w.ownsRow base t 1 v xs.length (xs.map f)) : ∃ a cap, v = .slice a xs.length cap ∧ RowF f base a xs cap w := by
 have h0 := h
 rcases h.2 with ⟨rfl, hn⟩ | ⟨g, cap, cur, rfl, hb, hg, hnc, hcm, hcs, ht⟩
 ·have : xs = [] := List.eq_nil_of_length_eq_zero hn
  subst this
  exact ⟨none, 0, rfl, .inl rfl, Nat.le_refl _, fun _ => rfl⟩
 ·refine ⟨_, cap, rfl, .inr ⟨g, 0, rfl, hb, fun j hj => ⟨?_, ?_⟩⟩, hnc, fun e => by cases e⟩
  ·rw [Nat.zero_add, h0.cellAt j (by omega)]
   simp [hj]
  ·rw [Nat.zero_add]; exact h0.frozenAt j
end
def Rd (a : Option Addr) (bs : List UInt8) (w : World) : Prop := ∀ j (h : j < bs.length), ∃ b off, a = some ⟨b, off, none⟩ ∧ w.cell? ⟨b, off + j, none⟩ = some (.int .u8 (bs[j].toNat : Int))
theorem Rd.below {a : Option Addr} {bs : List UInt8} {w w' : World} (h : Rd a bs w) (hb : Below w.heap.size w w') : Rd a bs w' := fun j hj => by
 obtain ⟨b, off, ha, hc⟩ := h j hj
 exact ⟨b, off, ha, (hb.cell (cell_lt hc)).trans hc⟩
def CellsAt (b : Nat) (vs : List Value) (w : World) : Prop := ∀ i v, vs[i]? = some v → w.cell? ⟨b, i, none⟩ = some v ∧ w.frozen? ⟨b, i, none⟩ = false
theorem CellsAt.new (w : World) (vs : List Value) (t : TypeId) : CellsAt w.heap.size vs (w.alloc (.cells vs.toArray t)) := fun i v hv => by
 have h1 := World.cell?_alloc_mark w vs.toArray t (0, 0) i
 refine ⟨h1.trans (by simpa using hv), ?_⟩
 simp
theorem CellsAt.below {b : Nat} {vs : List Value} {w w' : World} (h : CellsAt b vs w) (hb : Below w.heap.size w w') : CellsAt b vs w' := fun i v hv => by
 obtain ⟨h1, h2⟩ := h i v hv
 exact ⟨(hb.cell (cell_lt h1)).trans h1, (hb.frozen (p := ⟨b, i, none⟩) (cell_lt h1)).trans h2⟩
theorem CellsAt.set {b : Nat} {vs : List Value} {w : World} (h : CellsAt b vs w) (i : Nat) (v : Value) (hi : i < vs.length) : CellsAt b (vs.set i v) (w.setCell ⟨b, i, none⟩ v) := fun j u hu => by
 rw [List.getElem?_set] at hu
 by_cases e : i = j
 ·subst e
  rw [if_pos rfl, if_pos hi] at hu
  injection hu with hu
  subst hu
  obtain ⟨h1, h2⟩ := h i _ (List.getElem?_eq_getElem hi)
  exact ⟨World.cell?_setCell_same _ _ _ h1, by simpa using h2⟩
 ·rw [if_neg e] at hu
  obtain ⟨h1, h2⟩ := h j u hu
  exact ⟨(World.cell?_setCell_other _ _ _ _ (fun he => e (by have := congrArg Addr.off he; simpa using this))).trans h1, by simpa using h2⟩
theorem CellsAt.far {b b' j : Nat} {vs : List Value} {w : World} {v : Value} (h : CellsAt b vs w) (hne : b' ≠ b) : CellsAt b vs (w.setCell ⟨b', j, none⟩ v) := fun i u hu => by
 obtain ⟨h1, h2⟩ := h i u hu
 exact ⟨(World.cell?_setCell_other _ _ _ _ (fun he => hne (by have := congrArg Addr.block he; simpa using this))).trans h1, by simpa using h2⟩
end Go.Proofs.YtfmnjclnhppghaaGreat
namespace Go.Proofs.YtfmnjclnhppghaaGreat
open Go
def txt (l : List UInt8) : ByteArray := ⟨l.toArray⟩
def lst (s : ByteArray) : List UInt8 := s.data.toList
theorem txt_lst (s : ByteArray) : txt (lst s) = s := by cases s; simp [txt, lst]
theorem lst_txt (l : List UInt8) : lst (txt l) = l := by simp [txt, lst]
theorem lst_length (s : ByteArray) : (lst s).length = s.size := by cases s; rfl
theorem lst_inj {a b : ByteArray} (h : lst a = lst b) : a = b := by rw [← txt_lst a, h, txt_lst]
theorem extract_txt (s : ByteArray) (a b : Nat) : s.extract a b = txt (((lst s).drop a).take (b - a)) := by
 have h := ByteArray.extract_mk (lst s) a b
 rw [show ByteArray.mk (lst s).toArray = s from txt_lst s] at h
 exact h
theorem str_ne {x y : ByteArray} (h : x ≠ y) : (x.toList == y.toList) = false := by
 rw [beq_eq_false_iff_ne, ByteArray.toList_eq, ByteArray.toList_eq]
 exact fun e => h (lst_inj e)
theorem str_eq {x y : ByteArray} (h : x = y) : (x.toList == y.toList) = true := by rw [h, beq_self_eq_true]
def splitL (c : UInt8) : List UInt8 → List (List UInt8)
 | [] => [[]]
 | x :: r => if x = c then [] :: splitL c r else
  match splitL c r with
  | [] => [[x]]
  | h :: t => (x :: h) :: t
theorem splitL_none {c : UInt8} : ∀ {l : List UInt8}, (∀ x ∈ l, x ≠ c) → splitL c l = [l]
 | [], _ => rfl
 | x :: r, h => by
  unfold splitL
  rw [if_neg (h x (by simp)), splitL_none (l := r) (fun y hy => h y (by simp [hy]))]
def NoC (c : UInt8) (l : List UInt8) (a b : Nat) : Prop := ∀ x ∈ (l.drop a).take (b - a), x ≠ c
theorem split_end {c : UInt8} {s : ByteArray} {a : Nat} (h : NoC c (lst s) a s.size) : splitL c ((lst s).drop a) = [lst (s.extract a s.size)] := by
 have e : ((lst s).drop a).take (s.size - a) = (lst s).drop a := List.take_of_length_le (by rw [List.length_drop, lst_length]; omega)
 have h' : ∀ x ∈ (lst s).drop a, x ≠ c := by
  unfold NoC at h
  rw [e] at h
  exact h
 rw [splitL_none h', extract_txt, lst_txt, e]
def txts (l : List (List UInt8)) : List ByteArray := l.map txt
def parts (c : UInt8) (s : ByteArray) : List ByteArray := txts (splitL c (lst s))
def Divd (c : UInt8) (s : ByteArray) (acc : List ByteArray) (a : Nat) : Prop := parts c s = acc ++ txts (splitL c ((lst s).drop a))
theorem Divd.end {c : UInt8} {s : ByteArray} {acc : List ByteArray} {a : Nat} (hd : Divd c s acc a) (h : NoC c (lst s) a s.size) : parts c s = acc ++ [s.extract a s.size] := by
 unfold Divd at hd
 rw [hd, split_end h]
 simp [txts, txt_lst]
end Go.Proofs.YtfmnjclnhppghaaGreat
namespace Go.Proofs.YtfmnjclnhppghaaGreat
open Go Go.RowKit
theorem infoStr : (Tryz.prog.info? 9).map (fun i => (i.zero, i.size, i.bytes)) = some (some (.string ⟨#[]⟩), 1, 16) := by kernel_rfl
abbrev RdS := RdF Value.string
def EqOutS (bs cs : List ByteArray) (w : World) (e : Ending) (w' : World) : Prop := e = .returned (.bool (decide (bs = cs))) ∧ ∃ n, w' = w.drewN n
theorem infoInt : (Tryz.prog.info? 3).map (fun i => (i.zero, i.size, i.bytes)) = some (some (.int .i64 0), 1, 8) := by kernel_rfl
abbrev RdI := RdF (Value.int .i64)
abbrev IntsOut := ListOut (Value.int .i64)
def EqOutI (bs cs : List Int) (w : World) (e : Ending) (w' : World) : Prop := e = .returned (.bool (decide (bs = cs))) ∧ ∃ n, w' = w.drewN n
structure RuleV where
 name : ByteArray
 kind : Int
 size : Int
 little : Bool
 bytes : List UInt8
 names : List ByteArray
 tags : List Int
 kids : List Int

abbrev RdStr := RdF Value.string
def IsRule (r : RuleV) (cs : List Value) (w : World) : Prop :=
 ∃ a4 c4 a5 c5 a6 c6 a7 c7, cs = [.string r.name, .int .i64 r.kind, .int .i64 r.size, .bool r.little, .slice a4 r.bytes.length c4, .slice a5 r.names.length c5, .slice a6 r.tags.length c6, .slice a7 r.kids.length c7] ∧
  Rd a4 r.bytes w ∧ RdStr a5 r.names w ∧ RdI a6 r.tags w ∧ RdI a7 r.kids w
theorem IsRule.below {r : RuleV} {cs : List Value} {w w' : World} (h : IsRule r cs w) (hb : Below w.heap.size w w') : IsRule r cs w' := by
 obtain ⟨a4, c4, a5, c5, a6, c6, a7, c7, e, h4, h5, h6, h7⟩ := h
 exact ⟨a4, c4, a5, c5, a6, c6, a7, c7, e, h4.below hb, h5.below hb, h6.below hb, h7.below hb⟩
def RdR (a : Option Addr) (rs : List RuleV) (w : World) : Prop :=
 ∀ j (h : j < rs.length), ∃ b off cs, a = some ⟨b, off, none⟩ ∧ IsRule rs[j] cs w ∧ ∀ i v, cs[i]? = some v → w.cell? ⟨b, off + j * 8 + i, none⟩ = some v
theorem RdR.below {a : Option Addr} {rs : List RuleV} {w w' : World} (h : RdR a rs w) (hb : Below w.heap.size w w') : RdR a rs w' := fun j hj => by
 obtain ⟨b, off, cs, ha, hr, hc⟩ := h j hj
 exact ⟨b, off, cs, ha, hr.below hb, fun i v hi => (hb.cell (cell_lt (hc i v hi))).trans (hc i v hi)⟩
theorem RdR.at {a : Option Addr} {rs : List RuleV} {w : World} (h : RdR a rs w) (j : Nat) (hj : j < rs.length) : ∃ b off a4 c4 a5 c5 a6 c6 a7 c7, a = some ⟨b, off, none⟩ ∧
  (w.cell? ⟨b, off + j * 8, none⟩ = some (.string rs[j].name) ∧ w.cell? ⟨b, off + j * 8 + 1, none⟩ = some (.int .i64 rs[j].kind) ∧ w.cell? ⟨b, off + j * 8 + 2, none⟩ = some (.int .i64 rs[j].size) ∧ w.cell? ⟨b, off + j * 8 + 3, none⟩ = some (.bool rs[j].little) ∧
  w.cell? ⟨b, off + j * 8 + 4, none⟩ = some (.slice a4 rs[j].bytes.length c4) ∧ w.cell? ⟨b, off + j * 8 + 5, none⟩ = some (.slice a5 rs[j].names.length c5) ∧ w.cell? ⟨b, off + j * 8 + 6, none⟩ = some (.slice a6 rs[j].tags.length c6) ∧ w.cell? ⟨b, off + j * 8 + 7, none⟩ = some (.slice a7 rs[j].kids.length c7)) ∧
  Rd a4 rs[j].bytes w ∧ RdStr a5 rs[j].names w ∧ RdI a6 rs[j].tags w ∧ RdI a7 rs[j].kids w := by
 obtain ⟨b, off, cs, ha, ⟨a4, c4, a5, c5, a6, c6, a7, c7, rfl, h4, h5, h6, h7⟩, hc⟩ := h j hj
 exact ⟨b, off, a4, c4, a5, c5, a6, c6, a7, c7, ha, ⟨hc 0 _ rfl, hc 1 _ rfl, hc 2 _ rfl, hc 3 _ rfl, hc 4 _ rfl, hc 5 _ rfl, hc 6 _ rfl, hc 7 _ rfl⟩, h4, h5, h6, h7⟩
def findFrom (x : ByteArray) : List RuleV → Nat → Int
 | [], _ => -1
 | r :: rs, k => if r.name = x then (k : Int) else findFrom x rs (k + 1)
theorem findFrom_yes {x : ByteArray} {rs : List RuleV} {k : Nat} (h : k < rs.length) (hx : rs[k].name = x) : findFrom x (rs.drop k) k = (k : Int) := by
 rw [List.drop_eq_getElem_cons h]
 simp only [findFrom, if_pos hx]
theorem findFrom_no {x : ByteArray} {rs : List RuleV} {k : Nat} (h : k < rs.length) (hx : rs[k].name ≠ x) : findFrom x (rs.drop k) k = findFrom x (rs.drop (k + 1)) (k + 1) := by
 rw [List.drop_eq_getElem_cons h]
 simp only [findFrom, if_neg hx]
theorem Cur.below {a : Option Addr} {len cap c : Nat} {w w' : World} (h : Cur a len cap c w) (hb : Below w.heap.size w w') : Cur a len cap c w' := by
 obtain ⟨k, x, hk, c0, c1, c2, f1, f2, hs⟩ := h
 have hlt : c < w.heap.size := cell_lt c0
 refine ⟨k, x, hk, (hb.cell (p := ⟨c, 0, none⟩) hlt).trans c0, (hb.cell (p := ⟨c, 1, none⟩) hlt).trans c1, (hb.cell (p := ⟨c, 2, none⟩) hlt).trans c2, (hb.frozen (p := ⟨c, 1, none⟩) hlt).trans f1, (hb.frozen (p := ⟨c, 2, none⟩) hlt).trans f2, fun j hj => ?_⟩
 obtain ⟨b, off, y, ha, hne, hy, hc⟩ := hs j hj
 exact ⟨b, off, y, ha, hne, hy, (hb.cell (cell_lt hc)).trans hc⟩
theorem Cur.lt {a : Option Addr} {len cap c : Nat} {w : World} (h : Cur a len cap c w) : c < w.heap.size := by
 obtain ⟨k, x, hk, c0, _⟩ := h
 exact cell_lt c0
theorem cell_new (w : World) (C : Array Value) (t : TypeId) (j : Nat) : (w.alloc (.cells C t)).cell? ⟨w.heap.size, j, none⟩ = C[j]? := World.cell?_alloc_mark w C t (0, 0) j
theorem int_pick (a : Option Addr) (len cap c n : Nat) (zs : List Int) (C : Array Value) (hC : C = (zs.map (Value.int .i64)).toArray) (hn : zs.length = n) (w : World) (hl : len ≤ 140737488355328) (h1 : 1 ≤ n) (h2 : n ≤ 100000) (hc : Cur a len cap c w) :
  Calls Tryz.prog 96 #[.pointer (some ⟨c, 0, none⟩), .slice (some ⟨w.heap.size, 0, none⟩) n n] (w.alloc (.cells C 3)) (DrawOut (fun x => x ∈ zs) a len cap c w) := by
 subst hn hC
 have hlt := hc.lt
 refine (int_draw a len cap c w.heap.size zs _ hl h1 h2 (hc.below ((Below.refl _ _).alloc (Nat.le_refl _) _)) (by omega) ?_).mono ?_
 ·intro j hj
  rw [cell_new]
  simp [hj]
 ·rintro e w1 ⟨x, hx, he, hc1, hg⟩
  exact ⟨x, hx, he, hc1, Lib.grownBy_trans (World.grownBy_alloc w _ _) hg⟩
theorem str_pick (a : Option Addr) (len cap c n : Nat) (zs : List ByteArray) (C : Array Value) (hC : C = (zs.map Value.string).toArray) (hn : zs.length = n) (w : World) (hl : len ≤ 140737488355328) (h1 : 1 ≤ n) (h2 : n ≤ 100000) (hc : Cur a len cap c w) :
  Calls Tryz.prog 95 #[.pointer (some ⟨c, 0, none⟩), .slice (some ⟨w.heap.size, 0, none⟩) n n] (w.alloc (.cells C 9)) (StrOut (fun x => x ∈ zs) a len cap c w) := by
 subst hn hC
 have hlt := hc.lt
 refine (str_draw a len cap c w.heap.size zs _ hl h1 h2 (hc.below ((Below.refl _ _).alloc (Nat.le_refl _) _)) (by omega) ?_).mono ?_
 ·intro j hj
  rw [cell_new]
  simp [hj]
 ·rintro e w1 ⟨x, hx, he, hc1, hg⟩
  exact ⟨x, hx, he, hc1, Lib.grownBy_trans (World.grownBy_alloc w _ _) hg⟩
def Fresh (B : Nat) (a : Option Addr) (bs : List UInt8) (w : World) : Prop :=
 bs = [] ∨ ∃ b off, a = some ⟨b, off, none⟩ ∧ B ≤ b ∧ ∀ j (h : j < bs.length), w.cell? ⟨b, off + j, none⟩ = some (.int .u8 (bs[j].toNat : Int)) ∧ w.frozen? ⟨b, off + j, none⟩ = false
theorem Fresh.rd {B : Nat} {a : Option Addr} {bs : List UInt8} {w : World} (h : Fresh B a bs w) : Rd a bs w := fun j hj => by
 rcases h with rfl | ⟨b, off, ha, _, hc⟩
 ·simp at hj
 ·exact ⟨b, off, ha, (hc j hj).1⟩
theorem Fresh.below {B : Nat} {a : Option Addr} {bs : List UInt8} {w w' : World} (h : Fresh B a bs w) (hb : Below w.heap.size w w') : Fresh B a bs w' := by
 rcases h with rfl | ⟨b, off, ha, hB, hc⟩
 ·exact .inl rfl
 ·exact .inr ⟨b, off, ha, hB, fun j hj => ⟨(hb.cell (cell_lt (hc j hj).1)).trans (hc j hj).1, (hb.frozen (p := ⟨b, off + j, none⟩) (cell_lt (hc j hj).1)).trans (hc j hj).2⟩⟩
theorem Fresh.more {B B' : Nat} {a : Option Addr} {bs : List UInt8} {w : World} (h : Fresh B a bs w) (hB : B' ≤ B) : Fresh B' a bs w := by
 rcases h with rfl | ⟨b, off, ha, hb, hc⟩
 ·exact .inl rfl
 ·exact .inr ⟨b, off, ha, Nat.le_trans hB hb, hc⟩
def Row (B : Nat) (a : Option Addr) (bs : List UInt8) (cap : Nat) (w : World) : Prop := Fresh B a bs w ∧ bs.length ≤ cap ∧ (a = none → cap = 0)
theorem Row.rd {B cap : Nat} {a : Option Addr} {bs : List UInt8} {w : World} (h : Row B a bs cap w) : Rd a bs w := h.1.rd
theorem Row.below {B cap : Nat} {a : Option Addr} {bs : List UInt8} {w w' : World} (h : Row B a bs cap w) (hb : Below w.heap.size w w') : Row B a bs cap w' := ⟨h.1.below hb, h.2⟩
theorem Row.more {B B' cap : Nat} {a : Option Addr} {bs : List UInt8} {w : World} (h : Row B a bs cap w) (hB : B' ≤ B) : Row B' a bs cap w := ⟨h.1.more hB, h.2⟩
def BytesOut (bs : List UInt8) (w : World) (e : Ending) (w' : World) : Prop :=
 ∃ a cap, e = .returned (.slice a bs.length cap) ∧ Row w.heap.size a bs cap w' ∧ Below w.heap.size w w'
def Half (bs : List UInt8) (k N : Nat) (w W : World) : Prop :=
 Below w.heap.size w W ∧ ∀ j (h : j < bs.length), W.cell? ⟨N, j, none⟩ = some (.int .u8 (if j < k then (bs[j].toNat : Int) else 0)) ∧ W.frozen? ⟨N, j, none⟩ = false
theorem Half.next {bs : List UInt8} {k N : Nat} {w W : World} (h : Half bs k N w W) (hN : w.heap.size ≤ N) (hk : k < bs.length) : Half bs (k + 1) N w (W.setCell ⟨N, k, none⟩ (.int .u8 (bs[k].toNat : Int))) := by
 refine ⟨h.1.setCell (p := ⟨N, k, none⟩) hN _, fun j hj => ⟨?_, by simpa using (h.2 j hj).2⟩⟩
 by_cases e : j = k
 ·subst e
  rw [World.cell?_setCell_same _ _ _ (h.2 j hj).1, if_pos (by omega)]
 ·rw [World.cell?_setCell_other _ _ _ _ (fun he => e (by have := congrArg Addr.off he; simpa using this.symm)), (h.2 j hj).1]
  by_cases hlt : j < k
  ·rw [if_pos hlt, if_pos (by omega)]
  ·rw [if_neg hlt, if_neg (by omega)]
theorem infoU8 : (Tryz.prog.info? 5).map (fun i => (i.zero, i.size, i.bytes)) = some (some (.int .u8 0), 1, 1) := by kernel_rfl
theorem half_start (bs : List UInt8) (w : World) : Half bs 0 w.heap.size w (w.alloc (.cells (madeCells #[.int .u8 0] bs.length) 5)) := by
 have hr := World.rowIs_made w (.int .u8 0) bs.length 5
 exact ⟨(Below.refl _ _).alloc (Nat.le_refl _) _, fun j hj => ⟨by rw [hr.cell hj, if_neg (by omega)], hr.frozen j⟩⟩
theorem half_end {bs : List UInt8} {w W : World} (h : Half bs bs.length w.heap.size w W) : Fresh w.heap.size (some ⟨w.heap.size, 0, none⟩) bs W := by
 refine .inr ⟨w.heap.size, 0, rfl, Nat.le_refl _, fun j hj => ?_⟩
 have := h.2 j hj
 rw [if_pos hj] at this
 simpa using this
theorem take_next {bs cs : List UInt8} {k : Nat} (h : bs.take k = cs.take k) (hb : k < bs.length) (hc : k < cs.length) (e : bs[k] = cs[k]) : bs.take (k + 1) = cs.take (k + 1) := by
 rw [List.take_succ_eq_append_getElem hb, List.take_succ_eq_append_getElem hc, h, e]
theorem take_not {bs cs : List UInt8} {k : Nat} (hb : k < bs.length) (hc : k < cs.length) (e : bs[k] ≠ cs[k]) : bs ≠ cs := fun h => e (by subst h; rfl)
theorem byte_ne {x y : UInt8} (h : x ≠ y) : ((x.toNat : Int) != (y.toNat : Int)) = true := by
 simp only [bne_iff_ne, ne_eq, Int.natCast_inj]
 exact fun e => h (UInt8.toNat_inj.1 e)
def EqOut (bs cs : List UInt8) (w : World) (e : Ending) (w' : World) : Prop := e = .returned (.bool (decide (bs = cs))) ∧ ∃ n, w' = w.drewN n
def marks (k : Nat) : Nat → List UInt8
 | 0 => []
 | n + 1 => UInt8.ofNat k :: marks (k + 1) n
theorem Fresh.grown {B : Nat} {a : Option Addr} {bs : List UInt8} {w w' : World} {c : Nat} (h : Fresh B a bs w) (hg : w.grownBy w' (some c)) (hne : ∀ b off, a = some ⟨b, off, none⟩ → bs ≠ [] → b ≠ c) : Fresh B a bs w' := by
 rcases h with rfl | ⟨b, off, ha, hB, hc⟩
 ·exact .inl rfl
 ·by_cases hbs : bs = []
  ·exact .inl hbs
  ·have hb := hne b off ha hbs
   refine .inr ⟨b, off, ha, hB, fun j hj => ⟨hg.cell (hc j hj).1 (by simpa using hb), ?_⟩⟩
   exact (World.frozen?_of_block (a := ⟨b, off + j, none⟩) (hg.block b (cell_lt (hc j hj).1) (by simpa using hb))).trans (hc j hj).2
end Go.Proofs.YtfmnjclnhppghaaGreat
namespace Go.Proofs.YtfmnjclnhppghaaGreat
open Go
def digs (v : Nat) : List UInt8 := if v = 0 then [] else Lib.decDigits v
theorem digs_zero : digs 0 = [] := rfl
theorem digs_pos {v : Nat} (h : v ≠ 0) : digs v = Lib.decDigits v := if_neg h
theorem digs_step {v : Nat} (h : v ≠ 0) : digs v = digs (v / 10) ++ [UInt8.ofNat (48 + v % 10)] := by
 rw [digs_pos h]
 by_cases h10 : v < 10
 ·have e : v / 10 = 0 := by omega
  rw [e, digs_zero, Lib.decDigits_one h10, Nat.mod_eq_of_lt h10]; rfl
 ·rw [Lib.decDigits, dif_neg h10, digs_pos (by omega)]
theorem nDigits_le : ∀ (k v : Nat), v < 10 ^ k → 1 ≤ k → Lib.nDigits v ≤ k
 | 0, _, _, h => by omega
 | k + 1, v, hv, _ => by
  by_cases h10 : v < 10
  ·rw [Lib.nDigits_small h10]; omega
  ·rw [Lib.nDigits_big h10]
   rw [Nat.pow_succ] at hv
   have h1 : 1 ≤ k := by
    rcases k with _ | k
    ·simp at hv; omega
    ·omega
   have := nDigits_le k (v / 10) (by omega) h1
   omega
theorem digs_length (v : Nat) (h : v < 10 ^ 20) : (digs v).length ≤ 20 := by
 by_cases h0 : v = 0
 ·subst h0; simp [digs_zero]
 ·rw [digs_pos h0, Lib.decDigits_length]; exact nDigits_le 20 v h (by omega)
theorem rest_length {v u : Nat} {l : List UInt8} (h : digs v ++ l = digs u) (hu : u < 10 ^ 20) : l.length ≤ 20 := by
 have h1 := congrArg List.length h
 have h2 := digs_length u hu
 rw [List.length_append] at h1
 omega
theorem itoa_zero : Lib.itoa 0 = [48] := by unfold Lib.itoa; rw [if_neg (by omega)]; exact Lib.decDigits_one (i := 0) (by omega)
theorem itoa_pos {n : Int} (h : 0 < n) : Lib.itoa n = digs n.natAbs := by
 unfold Lib.itoa; rw [if_neg (by omega), digs_pos (by omega), show n.toNat = n.natAbs by omega]
theorem itoa_neg {n : Int} (h : n < 0) : Lib.itoa n = 45 :: digs n.natAbs := by
 unfold Lib.itoa; rw [if_pos h, digs_pos (by omega)]
end Go.Proofs.YtfmnjclnhppghaaGreat
namespace Go.Proofs.YtfmnjclnhppghaaGreat
open Go Go.RowKit
def OnceOut (a : Option Addr) (len cap c : Nat) (w : World) (e : Ending) (w' : World) : Prop :=
 ∃ x : Bool, e = .returned (.bool x) ∧ Cur a len cap c w' ∧ w.grownBy w' (some c)
theorem once_draw (a : Option Addr) (len cap c : Nat) (n : Int) (w : World) (hl : len ≤ 140737488355328) (h1 : 1 ≤ n) (h2 : n ≤ 1000000000) (hc : Cur a len cap c w) :
  Calls Tryz.prog 49 #[.pointer (some ⟨c, 0, none⟩), .int .i64 n] w (OnceOut a len cap c w) := by
 have HC := kq hc
 clear hc
 go_enter Tryz.func49, Tryz.ntmps49
 go_wp2_with fail
 refine (below_draw a len cap c n _ hl h1 h2 HC.out).mono ?_
 rintro e w1 ⟨x, ⟨x0, x1⟩, rfl, hc1, hg1⟩
 have HC1 := kq hc1
 have HG1 := kq hg1
 clear hc1 hg1
 go_wp2_with fail
 go_ret
 exact ⟨_, rfl, HC1.out, HG1.out⟩
end Go.Proofs.YtfmnjclnhppghaaGreat
