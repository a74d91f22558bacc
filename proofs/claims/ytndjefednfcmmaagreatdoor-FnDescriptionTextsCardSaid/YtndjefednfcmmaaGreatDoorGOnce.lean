/- Drawing one of a list that stands in the text; the cursor behind other work. Drawing a bool: l1Once. -/
import Derived.Test.YtndjefednfcmmaaGreatDoorDraw
namespace Go.Proofs.YtndjefednfcmmaaGreatDoor
open Go Go.RowKit
theorem Cur.below {a : Option Addr} {len cap c : Nat} {w w' : World} (h : Cur a len cap c w) (hb : Below w.heap.size w w') : Cur a len cap c w' := by
 obtain ⟨k, x, hk, c0, c1, c2, f1, f2, hs⟩ := h
 have hlt : c < w.heap.size := cell_lt c0
 refine ⟨k, x, hk, (hb.cell (p := ⟨c, 0, none⟩) hlt).trans c0, (hb.cell (p := ⟨c, 1, none⟩) hlt).trans c1, (hb.cell (p := ⟨c, 2, none⟩) hlt).trans c2, (hb.frozen (p := ⟨c, 1, none⟩) hlt).trans f1, (hb.frozen (p := ⟨c, 2, none⟩) hlt).trans f2, fun j hj => ?_⟩
 obtain ⟨b, off, y, ha, hne, hy, hc⟩ := hs j hj
 exact ⟨b, off, y, ha, hne, hy, (hb.cell (cell_lt hc)).trans hc⟩
theorem Cur.lt {a : Option Addr} {len cap c : Nat} {w : World} (h : Cur a len cap c w) : c < w.heap.size := by
 obtain ⟨k, x, hk, c0, _⟩ := h
 exact cell_lt c0
theorem cell_new (w : World) (C : Array Value) (t : TypeId) (j : Nat) : (w.alloc (.cells C t)).cell? ⟨w.heap.size, j, none⟩ = C[j]? := World.cell?_alloc_mark w C t (0, 0) j
theorem int_pick (a : Option Addr) (len cap c n : Nat) (zs : List Int) (C : Array Value) (hC : C = (zs.map (Value.int .i64)).toArray) (hn : zs.length = n) (w : World) (hl : len ≤ 140737488355328) (h1 : 1 ≤ n) (h2 : n ≤ 100000) (hc : Cur a len cap c w) :
  Calls Tryz.prog 76 #[.pointer (some ⟨c, 0, none⟩), .slice (some ⟨w.heap.size, 0, none⟩) n n] (w.alloc (.cells C 3)) (DrawOut (fun x => x ∈ zs) a len cap c w) := by
 subst hn hC
 have hlt := hc.lt
 refine (int_draw a len cap c w.heap.size zs _ hl h1 h2 (hc.below ((Below.refl _ _).alloc (Nat.le_refl _) _)) (by omega) ?_).mono ?_
 ·intro j hj
  rw [cell_new]
  simp [hj]
 ·rintro e w1 ⟨x, hx, he, hc1, hg⟩
  exact ⟨x, hx, he, hc1, Lib.grownBy_trans (World.grownBy_alloc w _ _) hg⟩
theorem str_pick (a : Option Addr) (len cap c n : Nat) (zs : List ByteArray) (C : Array Value) (hC : C = (zs.map Value.string).toArray) (hn : zs.length = n) (w : World) (hl : len ≤ 140737488355328) (h1 : 1 ≤ n) (h2 : n ≤ 100000) (hc : Cur a len cap c w) :
  Calls Tryz.prog 54 #[.pointer (some ⟨c, 0, none⟩), .slice (some ⟨w.heap.size, 0, none⟩) n n] (w.alloc (.cells C 9)) (StrOut (fun x => x ∈ zs) a len cap c w) := by
 subst hn hC
 have hlt := hc.lt
 refine (str_draw a len cap c w.heap.size zs _ hl h1 h2 (hc.below ((Below.refl _ _).alloc (Nat.le_refl _) _)) (by omega) ?_).mono ?_
 ·intro j hj
  rw [cell_new]
  simp [hj]
 ·rintro e w1 ⟨x, hx, he, hc1, hg⟩
  exact ⟨x, hx, he, hc1, Lib.grownBy_trans (World.grownBy_alloc w _ _) hg⟩
def OnceOut (a : Option Addr) (len cap c : Nat) (w : World) (e : Ending) (w' : World) : Prop :=
 ∃ x : Bool, e = .returned (.bool x) ∧ Cur a len cap c w' ∧ w.grownBy w' (some c)
theorem once_draw (a : Option Addr) (len cap c : Nat) (n : Int) (w : World) (hl : len ≤ 140737488355328) (h1 : 1 ≤ n) (h2 : n ≤ 1000000000) (hc : Cur a len cap c w) :
  Calls Tryz.prog 73 #[.pointer (some ⟨c, 0, none⟩), .int .i64 n] w (OnceOut a len cap c w) := by
 have HC := Lib.hid hc
 clear hc
 go_enter Tryz.func73, Tryz.ntmps73
 go_wp2_with fail
 refine (below_draw a len cap c n _ hl h1 h2 HC.out).mono ?_
 rintro e w1 ⟨x, ⟨x0, x1⟩, rfl, hc1, hg1⟩
 have HC1 := Lib.hid hc1
 have HG1 := Lib.hid hg1
 clear hc1 hg1
 go_wp2_with fail
 go_ret
 exact ⟨_, rfl, HC1.out, HG1.out⟩
end Go.Proofs.YtndjefednfcmmaaGreatDoor
