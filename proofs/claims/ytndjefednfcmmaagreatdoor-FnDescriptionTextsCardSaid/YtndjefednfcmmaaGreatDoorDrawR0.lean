/- Drawing rules: an earlier rule that is an integer (l4Integer). -/
import Derived.Test.YtndjefednfcmmaaGreatDoorGOnce
import Derived.Test.YtndjefednfcmmaaGreatDoorPush
import Derived.Test.YtndjefednfcmmaaGreatDoorPushF
import Derived.Test.YtndjefednfcmmaaGreatDoorGBase
namespace Go.Proofs.YtndjefednfcmmaaGreatDoor
open Go Go.RowKit
theorem int_drawC (a : Option Addr) (len cap c g capz : Nat) (zs : List Int) (w : World) (hl : len ≤ 140737488355328) (h1 : 1 ≤ zs.length) (h2 : zs.length ≤ 100000) (hc : Cur a len cap c w) (hg : g ≠ c)
  (hz : ∀ j, j < zs.length → w.cell? ⟨g, j, none⟩ = some (.int .i64 (zs.getD j 0))) :
  Calls Tryz.prog 76 #[.pointer (some ⟨c, 0, none⟩), .slice (some ⟨g, 0, none⟩) zs.length capz] w (DrawOut (fun x => x ∈ zs) a len cap c w) := by
 have HC := Lib.hid hc
 have HZ := Lib.hid hz
 clear hc hz
 go_enter Tryz.func76, Tryz.ntmps76
 go_wp2_with fail
 refine (below_draw a len cap c (zs.length : Int) _ hl (by omega) (by omega) HC.out).mono ?_
 rintro e w1 ⟨x, ⟨x0, x1⟩, rfl, hc1, hg1⟩
 have HC1 := Lib.hid hc1
 have HG1 := Lib.hid hg1
 clear hc1 hg1
 obtain ⟨k, rfl⟩ : ∃ k : Nat, x = (k : Int) := ⟨x.toNat, by omega⟩
 have hk : k < zs.length := by omega
 have hcell : w1.cell? ⟨g, k, none⟩ = some (.int .i64 (zs.getD k 0)) := HG1.out.cell (HZ.out k hk) (by simpa using hg)
 go_wp2_with fail
 go_ret
 refine ⟨_, ?_, rfl, HC1.out, HG1.out⟩
 simp
def IntAt (rs : List RuleV) (x : Int) : Prop := ∃ (n : Nat) (h : n < rs.length), x = (n : Int) ∧ rs[n].kind = 1
theorem grown_of {w w' : World} {c : Nat} (h : Below w.heap.size w w') : w.grownBy w' (some c) := ⟨h.os, h.tape, h.output, h.size, fun k hk _ => h.block k hk⟩
set_option maxRecDepth 100000 in
set_option maxHeartbeats 1000000 in
theorem integer_draw (a : Option Addr) (len cap c : Nat) (ad : Option Addr) (rs : List RuleV) (capd : Nat) (w : World) (hl : len ≤ 140737488355328) (hrs : rs.length ≤ 1000) (h0 : 0 < rs.length) (hk0 : rs[0].kind = 1) (hrd : RdR ad rs w) (hc : Cur a len cap c w) :
  Calls Tryz.prog 75 #[.pointer (some ⟨c, 0, none⟩), .agg #[.slice ad rs.length capd]] w (DrawOut (IntAt rs) a len cap c w) := by
 obtain ⟨w0, hw0⟩ : ∃ w0, w0 = w.alloc (.cells #[.slice ad rs.length capd] 26) := ⟨_, rfl⟩
 have hB0 : Below w.heap.size w w0 := by subst hw0; exact (Below.refl _ _).alloc (Nat.le_refl _) _
 have hX0 : CellsAt w.heap.size [.slice ad rs.length capd] w0 := by subst hw0; exact CellsAt.new w _ _
 have HB0 := Lib.hid hB0
 have HX0 := Lib.hid hX0
 have HR := Lib.hid (hrd.below hB0)
 have HC := Lib.hid hc
 have hclt := hc.lt
 have hs0 : Hid (w0.heap.size = w.heap.size + 1) := by subst hw0; exact World.size_alloc _ _
 have hW := Lib.hid hw0
 have HK0 := Lib.hid hk0
 clear hrd hc hB0 hX0 hw0 hk0
 go_enter Tryz.func75, Tryz.ntmps75
 go_wp2
 rw [← hW.out]
 go_loopw [5, 6] (fun v i W => ∃ (k : Nat) (zs : List Int) (v0 : Value), k ≤ rs.length ∧ i = .int .i64 k ∧ v0 = v ∧ Hid (W.ownsRow w0.heap.size 3 1 v0 zs.length (zs.map (Value.int .i64))) ∧ Hid (∀ x ∈ zs, IntAt rs x) ∧ Hid (0 < k → zs ≠ []) ∧ zs.length ≤ k ∧ Hid (Below w0.heap.size w0 W)) (fun _ i _ => rs.length - (intOf i).toNat)
 case atStart =>
  refine ⟨0, [], _, Nat.zero_le _, rfl, rfl, ?_, fun x hx => by simp at hx, fun h => by omega, Nat.le_refl _, (Below.refl _ _).alloc (Nat.le_refl _) _⟩
  have hz : w0.heap.size = w.heap.size + 1 := hs0.out
  rw [← hz]
  exact World.ownsRow_made w0 #[] 0 (Nat.le_refl _) (Nat.zero_le _) rfl
 case round =>
  obtain ⟨k, zs, v0, hk, rfl, rfl, ho, hin, hne, hlen, hbw⟩ := hrel
  have k0 : (0 : Int) ≤ (k : Int) := by omega
  have bx := (HX0.out.below hbw.out 0 _ rfl).1
  by_cases hlt : k < rs.length
  ·have k1 : (k : Int) < (rs.length : Int) := by omega
   obtain ⟨b, off, _, _, _, _, _, _, _, _, rfl, ⟨-, d1, -⟩, -⟩ := (HR.out.below hbw.out).at k hlt
   by_cases hkd : rs[k].kind = 1
   ·have hin2 : Hid (∀ x ∈ zs ++ [(k : Int)], IntAt rs x) := fun x hx => by
     rcases List.mem_append.1 hx with hx | hx
     ·exact hin.out x hx
     ·simp at hx
      exact ⟨k, hlt, hx, hkd⟩
    rw [hkd] at d1
    clear hkd
    go_wp2_with (at_builtin; refine wp_pushF 57 3 (.int .i64 0) 8 Tryz.underlying57 infoInt rfl rfl (.tmp 22) (.tmp 24) rfl w0.heap.size v0 zs (k : Int) rfl wr (by simp [Act.eval]) (by simp [Act.eval]) ho.out (by unfold maxLen; omega) (by omega) hbw.out.size ?_)
    intro v' w' hown hgrow _
    have ho2 : Hid (w'.ownsRow w0.heap.size 3 1 v' (zs ++ [(k : Int)]).length ((zs ++ [(k : Int)]).map (Value.int .i64))) := by show World.ownsRow _ _ _ _ _ _ _; simpa using hown
    have hb2 := Lib.hid (hbw.out.grown hgrow hbw.out.size fun g hg => (World.ownsRow.lt (w := wr) ho.out g hg).1)
    clear hown hgrow
    go_wp2
    go_roundw
    case rel => exact ⟨k + 1, zs ++ [(k : Int)], v', by omega, by go_num, rfl, ho2, hin2, fun _ => by simp, by simp; omega, hb2⟩
    case measure => simp [intOf]; omega
   ·have g1 : (rs[k].kind == 1) = false := by simpa using hkd
    have hne2 : Hid (0 < k + 1 → zs ≠ []) := fun _ => by
     refine hne.out ?_
     rcases Nat.eq_zero_or_pos k with e | e
     ·subst e; exact absurd HK0.out hkd
     ·exact e
    generalize rs[k].kind = kd at d1 g1
    clear hkd
    go_wp2
    go_roundw
    case rel => exact ⟨k + 1, zs, v0, by omega, by go_num, rfl, ho, hin, hne2, by omega, hbw⟩
    case measure => simp [intOf]; omega
  ·have k1 : ¬ (k : Int) < (rs.length : Int) := by omega
   have hz1 : 1 ≤ zs.length := by
    have := hne.out (by omega)
    cases zs with
    | nil => exact absurd rfl this
    | cons _ _ => simp
   have hBW : Below w.heap.size w wr := HB0.out.trans (hbw.out.mono HB0.out.size)
   have HCW := Lib.hid (HC.out.below hBW)
   have HGW : Hid (w.grownBy wr (some c)) := grown_of hBW
   have hoo := ho.out
   rcases hoo.2 with ⟨_, hn⟩ | ⟨g, capz, cur, rfl, hbg, _⟩
   ·omega
   ·have hcells : Hid (∀ q, q < zs.length → wr.cell? ⟨g, q, none⟩ = some (.int .i64 (zs.getD q 0))) := fun q hq => by
     rw [hoo.cellAt q (by omega)]
     simp [hq]
    have hgc : g ≠ c := by have := hs0.out; omega
    clear hoo hBW
    go_wp2_with fail
    refine (int_drawC a len cap c g capz zs _ hl hz1 (by omega) HCW.out hgc hcells.out).mono ?_
    rintro e w2 ⟨x, hx, rfl, hc2, hg2⟩
    have hx2 := Lib.hid (hin.out x hx)
    have HC2 := Lib.hid hc2
    have HG2 := Lib.hid (Lib.grownBy_trans HGW.out hg2)
    clear hx hc2 hg2
    go_wp2
    go_ret
    exact ⟨x, hx2.out, rfl, HC2.out, HG2.out⟩
theorem Cur.put {a : Option Addr} {len cap c q i : Nat} {v : Value} {w : World} (h : Cur a len cap c w) (hq : q ≠ c) (hs : ∀ b off, a = some ⟨b, off, none⟩ → 0 < len → b ≠ q) : Cur a len cap c (w.setCell ⟨q, i, none⟩ v) := by
 obtain ⟨k, x, hk, c0, c1, c2, f1, f2, hsrc⟩ := h
 have other : ∀ {p : Addr} {u : Value}, w.cell? p = some u → p.block ≠ q → (w.setCell ⟨q, i, none⟩ v).cell? p = some u := fun hp hne => (World.cell?_setCell_other _ _ _ _ (fun e => hne (by rw [← e]))).trans hp
 refine ⟨k, x, hk, other c0 (fun e => hq e.symm), other c1 (fun e => hq e.symm), other c2 (fun e => hq e.symm), by simpa using f1, by simpa using f2, fun j hj => ?_⟩
 obtain ⟨b, off, y, ha, hne, hy, hc⟩ := hsrc j hj
 exact ⟨b, off, y, ha, hne, hy, other hc (hs b off ha (by omega))⟩
theorem Cur.old {a : Option Addr} {len cap c : Nat} {w : World} (h : Cur a len cap c w) : ∀ b off, a = some ⟨b, off, none⟩ → 0 < len → b < w.heap.size := fun b off ha hl => by
 obtain ⟨k, x, hk, c0, c1, c2, f1, f2, hsrc⟩ := h
 obtain ⟨b', off', y, ha', hne, hy, hc⟩ := hsrc 0 hl
 rw [ha] at ha'
 injection ha' with ha'
 injection ha' with e
 subst e
 exact cell_lt hc
theorem grown_put {w w' : World} {c q i : Nat} {v : Value} (h : w.grownBy w' (some c)) (hq : w.heap.size ≤ q) : w.grownBy (w'.setCell ⟨q, i, none⟩ v) (some c) := by
 have hs := grown_set (grown_refl w' q) i v
 exact ⟨hs.os.trans h.os, hs.tape.trans h.tape, hs.output.trans h.output, Nat.le_trans h.size hs.size, fun k hk hne => (hs.block k (Nat.lt_of_lt_of_le hk h.size) (by intro e; injection e with e; omega)).trans (h.block k hk hne)⟩
end Go.Proofs.YtndjefednfcmmaaGreatDoor
