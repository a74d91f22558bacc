/- Bytes that were drawn and bent at one place: l1Bent. -/
import Derived.Test.YtdccjobgfjoflaaGreatDoorEGD
import Derived.Test.YtdccjobgfjoflaaGreatDoorEGPu
import Derived.Test.YtdccjobgfjoflaaGreatDoorEM2
import Derived.Test.YtdccjobgfjoflaaGreatDoorEGBase
import Derived.Laws.OwnMore
import Derived.Test.YtdccjobgfjoflaaGreatDoorEDrawV
import Derived.Test.YtdccjobgfjoflaaGreatDoorEM8
set_option maxRecDepth 100000
set_option maxHeartbeats 16000000
namespace Go.Proofs.YtdccjobgfjoflaaGreatDoor
open Go Go.RowKit
def BSt (a : Option Addr) (len cap c : Nat) (v : Value) (L : List UInt8) (w W : World) : Prop := OwnB w.heap.size v L W ∧ Cur a len cap c W ∧ w.grownBy W (some c)
theorem BSt.draw {a : Option Addr} {len cap c : Nat} {v : Value} {L : List UInt8} {w W W' : World} (h : BSt a len cap c v L w W) (hcw : c < w.heap.size) (hc : Cur a len cap c W') (hg : W.grownBy W' (some c)) : BSt a len cap c v L w W' :=
 ⟨h.1.far hcw hg, hc, Lib.grownBy_trans h.2.2 hg⟩
theorem BSt.start {a : Option Addr} {len cap c : Nat} {v : Value} {L : List UInt8} {o : Obj} {w W : World} (hc : Cur a len cap c w) (ho : OwnB w.heap.size v L W) (hg : (w.alloc o).grownBy W (some w.heap.size)) : BSt a len cap c v L w W := by
 have hlt := hc.lt
 have hg3 : w.grownBy W (some w.heap.size) := Lib.grownBy_trans (World.grownBy_alloc w o _) hg
 have hg4 : w.grownBy W (some c) := (World.grownBy_alloc w o (some c)).andThen hg fun j hj => .inl (by injection hj with hj; omega)
 exact ⟨ho, hc.far hg3 (fun e => by injection e with e; omega) (hc.src.grown hg4), hg4⟩
theorem BSt.take {a : Option Addr} {len cap c n cb : Nat} {ab : Option Addr} {L : List UInt8} {w W : World} (h : BSt a len cap c (.slice ab n cb) L w W) (m : Nat) (hm : m ≤ n) : BSt a len cap c (.slice ab m cb) (L.take m) w W := by
 obtain ⟨ho, hc, hg⟩ := h
 refine ⟨?_, hc, hg⟩
 have hl := ho.1
 rw [List.length_map] at hl
 refine ⟨by rw [List.length_map, Nat.mul_one], ?_⟩
 rcases ho.2 with ⟨h1, h2⟩ | ⟨g, cp, cur, h1, h2, h3, h4, h5, h6, h7⟩
 ·injection h1 with e1 e2 e3
  subst e1 e3
  have hm0 : m = 0 := by omega
  subst hm0
  exact .inl ⟨rfl, by simp⟩
 ·injection h1 with e1 e2 e3
  subst e1 e3
  have hlm : (L.take m).length = m := by rw [List.length_take]; omega
  refine .inr ⟨g, _, cur, by rw [hlm], h2, h3, by omega, h5, h6, ?_⟩
  rw [hlm, Nat.mul_one, List.map_take, ← h7, Nat.mul_one, List.take_take, Nat.min_eq_left (by omega)]
theorem BSt.put {a : Option Addr} {len cap c n cb g : Nat} {L : List UInt8} {w W : World} (h : BSt a len cap c (.slice (some ⟨g, 0, none⟩) n cb) L w W) (hn : n = L.length) (hcw : c < w.heap.size) (hold : ∀ b off, a = some ⟨b, off, none⟩ → 0 < len → b < w.heap.size) (j : Nat) (x : UInt8) :
  BSt a len cap c (.slice (some ⟨g, 0, none⟩) n cb) (L.set j x) w (W.setCell ⟨g, j, none⟩ (.int .u8 (x.toNat : Int))) := by
 subst hn
 obtain ⟨ho, hc, hg⟩ := h
 have hgb := (World.ownsRow.lt (w := W) ho g rfl).1
 have hs := World.ownsRow.stored (w := W) ho j (.int .u8 (x.toNat : Int))
 refine ⟨?_, hc.put (by omega) (fun b off ha hl => by have := hold b off ha hl; omega), grown_put hg (by omega)⟩
 have h1 := hs.1
 unfold OwnB
 rw [List.length_set, List.map_set]
 exact h1
theorem BSt.form {a : Option Addr} {len cap c : Nat} {v : Value} {L : List UInt8} {w W : World} (h : BSt a len cap c v L w W) (h0 : 0 < L.length) : ∃ g cb, v = .slice (some ⟨g, 0, none⟩) L.length cb ∧ w.heap.size ≤ g ∧ ∀ j, j < L.length → W.cell? ⟨g, j, none⟩ = (L.map bv)[j]? ∧ W.frozen? ⟨g, j, none⟩ = false := by
 obtain ⟨ho, hc, hg⟩ := h
 rcases ho.2 with ⟨h1, h2⟩ | ⟨g, cp, cur, rfl, h2, h3, h4, h5, h6, h7⟩
 ·omega
 ·exact ⟨g, cp, rfl, h2, fun j hj => ⟨World.ownsRow.cellAt (w := W) ho j (by omega), World.ownsRow.frozenAt (w := W) ho j⟩⟩
theorem BSt.slice {a : Option Addr} {len cap c : Nat} {v : Value} {L : List UInt8} {w W : World} (h : BSt a len cap c v L w W) : ∃ ab cb, v = .slice ab L.length cb := by
 obtain ⟨ab, cb, e, -⟩ := h.1.row
 exact ⟨ab, cb, e⟩
theorem BSt.push {a : Option Addr} {len cap c : Nat} {v v' : Value} {L : List UInt8} {y : Nat} {w W W2 : World} {o : Obj} (h : BSt a len cap c v L w W) (hc : Cur a len cap c w) (hy : y < 256)
  (hown' : W2.ownsRow w.heap.size 5 1 v' (L.length + 1) (L.map bv ++ [.int .u8 (y : Int)])) (hg2 : (W.alloc o).grownBy W2 v.ownBlock) : ∃ L', L'.length = L.length + 1 ∧ BSt a len cap c v' L' w W2 := by
 have hbv : Value.int .u8 (y : Int) = bv (UInt8.ofNat y) := by
  unfold bv; rw [UInt8.toNat_ofNat', Nat.mod_eq_of_lt (by omega)]
 rw [hbv] at hown'
 obtain ⟨bs, h1, h2, h3, h4⟩ := mid_next hc rfl h.1 h.2.1 h.2.2 hown' hg2
 exact ⟨bs, h1, h2, h3, h4⟩
def BentOut (n : Nat) (a : Option Addr) (len cap c : Nat) (w : World) (e : Ending) (w' : World) : Prop :=
 ∃ v L, L.length ≤ n ∧ e = .returned v ∧ BSt a len cap c v L w w'
theorem bent_pick {x : Int} (h : x ∈ [(0 : Int), 1, 128, 255]) : 0 ≤ x ∧ x < 256 := by
 simp only [List.mem_cons, List.not_mem_nil, or_false] at h
 omega
theorem bent_draw (a : Option Addr) (len cap c : Nat) (ab : Option Addr) (L : List UInt8) (cb : Nat) (w : World) (hl : len ≤ 140737488355328) (hn : L.length ≤ 500000000) (hc : Cur a len cap c w) (hs : Src1 ab L cb w) :
  Calls Tryz.prog 105 #[.pointer (some ⟨c, 0, none⟩), .slice ab L.length cb] w (BentOut (L.length + 1) a len cap c w) := by
 obtain ⟨i0, hi, hz0, hz1, hz2⟩ := infoParts
 have hlt := hc.lt
 have hold := kq hc.old
 have hB : Below w.heap.size w (w.alloc (.cells #[] 5)) := (Below.refl _ _).alloc (Nat.le_refl _) _
 have HO := kq (OwnB.start w)
 have HS := kq (hs.below hB)
 have HB := kq hB
 have HC := kq hc
 clear hc hs hB
 go_enter Tryz.func105, Tryz.ntmps105
 go_wp2_with (at_builtin; refine wp_app rfl _ _ rfl w.heap.size (.slice (some ⟨w.heap.size, 0, none⟩) 0 0) [] L ab cb _ rfl rfl HO.out HS.out (by simp; omega) HB.out.size ?_)
 intro v1 w1 ho1 hg1
 have HM := kq (BSt.start HC.out ho1 hg1)
 clear ho1 hg1 HO HS HB
 go_wp2_with fail
 refine (below_draw a len cap c 6 _ hl (by omega) (by omega) HM.out.2.1).mono ?_
 rintro e w2 ⟨j, ⟨j0, j1⟩, rfl, hc2, hg2⟩
 replace HM := kq (HM.out.draw hlt hc2 hg2)
 clear hc2 hg2
 rcases (by omega : j = 0 ∨ j = 1 ∨ j = 2 ∨ 3 ≤ j) with rfl | rfl | rfl | j3
 ·by_cases h0 : 0 < L.length
  ·have h1 : (L.length : Int) > 0 := by omega
   obtain ⟨g, c1, rfl, hgb, -⟩ := HM.out.form h0
   go_wp2_with fail
   refine (below_draw a len cap c (L.length : Int) _ hl (by omega) (by omega) HM.out.2.1).mono ?_
   rintro e w3 ⟨kk, ⟨k0, k1⟩, rfl, hc3, hg3⟩
   obtain ⟨k, rfl⟩ : ∃ k : Nat, kk = (k : Int) := ⟨kk.toNat, by omega⟩
   replace HM := kq (HM.out.draw hlt hc3 hg3)
   clear hc3 hg3
   go_wp2_with fail
   refine (below_draw a len cap c 256 _ hl (by omega) (by omega) HM.out.2.1).mono ?_
   rintro e w4 ⟨xx, ⟨x0, x1⟩, rfl, hc4, hg4⟩
   obtain ⟨u, rfl⟩ : ∃ u : UInt8, xx = (u.toNat : Int) := ⟨UInt8.ofNat xx.toNat, by rw [UInt8.toNat_ofNat', Nat.mod_eq_of_lt (by omega)]; omega⟩
   replace HM := kq (HM.out.draw hlt hc4 hg4)
   clear hc4 hg4
   have hkl : k < L.length := by omega
   obtain ⟨g', c1', e1, -, hcell⟩ := HM.out.form h0
   injection e1 with e1 e2 e3
   injection e1 with e1
   injection e1 with e1
   subst e1 e3
   obtain ⟨hck, hfk⟩ := hcell k hkl
   have hgg : (L.map bv)[k]? = some (.int .u8 ((L[k].toNat : Nat) : Int)) := by simp [hkl, bv]
   rw [hgg] at hck
   have hu := u.toNat_lt
   have hwu : IntKind.u8.wrap (u.toNat : Int) = (u.toNat : Int) := by simp [IntKind.wrap, IntKind.bits, IntKind.signed]; omega
   clear hcell hgg
   go_wp2
   go_ret
   exact ⟨_, L.set k u, by simp, rfl, HM.out.put rfl hlt hold.out k u⟩
  ·have h1 : ¬ (L.length : Int) > 0 := by omega
   obtain ⟨ab1, c1, rfl⟩ := HM.out.slice
   go_wp2
   go_ret
   exact ⟨_, L, by omega, rfl, HM.out⟩
 ·obtain ⟨ab1, c1, rfl⟩ := HM.out.slice
  go_wp2_with fail
  refine (below_draw a len cap c ((L.length : Int) + 1) _ hl (by omega) (by omega) HM.out.2.1).mono ?_
  rintro e w3 ⟨kk, ⟨k0, k1⟩, rfl, hc3, hg3⟩
  obtain ⟨k, rfl⟩ : ∃ k : Nat, kk = (k : Int) := ⟨kk.toNat, by omega⟩
  replace HM := kq (HM.out.draw hlt hc3 hg3)
  clear hc3 hg3
  have hcl : L.length ≤ c1 := by obtain ⟨_, _, e, hr⟩ := HM.out.1.row; injection e with e1 e2 e3; subst e1 e3; exact hr.2.1
  have hkl : (k : Int) ≤ (c1 : Int) := by omega
  have HKL : Hid (k ≤ L.length) := by show _ ≤ _; omega
  go_wp2
  go_ret
  exact ⟨_, L.take k, by rw [List.length_take]; omega, rfl, HM.out.take k HKL.out⟩
 ·obtain ⟨ab1, c1, rfl⟩ := HM.out.slice
  go_wp2_with fail
  refine (int_pick a len cap c 4 [0, 1, 128, 255] _ rfl rfl w2 hl (by omega) (by omega) HM.out.2.1).mono ?_
  rintro e w3 ⟨xx, hx, rfl, hc3, hg3⟩
  obtain ⟨x0, x1⟩ := bent_pick hx
  obtain ⟨y, rfl⟩ : ∃ y : Nat, xx = (y : Int) := ⟨xx.toNat, by omega⟩
  have hy : y < 256 := by omega
  replace HM := kq (HM.out.draw hlt hc3 hg3)
  clear hc3 hg3 hx
  go_wp2_with (at_builtin; refine wpList_append_own _ rfl _ _ 22 rfl w.heap.size 5 i0 (.int .u8 0) 1 1 Tryz.underlying22 hi hz0 hz1 hz2 rfl (by decide) _ _ _ rfl (World.ownsRow.alloc HM.out.1 _) ⟨w3.heap.size, 0, none⟩ 1 1 [.int .u8 y] rfl rfl ?c1 ?c2 ?c3 ?c4 ?c5 ?_)
  case c1 =>
   intro j u hj
   match j, hj with
   | 0, hj => simp at hj; subst hj; simp [Addr.add]
  case c2 => intro u hu; simp at hu; subst hu; rfl
  case c3 => unfold maxLen; omega
  case c4 => omega
  case c5 => have := HM.out.2.2.size; simp; omega
  ·intro v' w4 hown' hgrow _
   obtain ⟨L', hl', HR⟩ := BSt.push HM.out HC.out hy hown' hgrow
   have HR' := kq HR
   have HLL := kq hl'
   clear HR hl' hown' hgrow
   go_wp2
   go_ret
   exact ⟨_, L', by rw [HLL.out]; omega, rfl, HR'.out⟩
 ·obtain ⟨ab1, c1, rfl⟩ := HM.out.slice
  go_wp2
  go_ret
  exact ⟨_, L, by omega, rfl, HM.out⟩
end Go.Proofs.YtdccjobgfjoflaaGreatDoor

/- Bytes that are nearly always a file of a drawn description: l11File, DrawFile. -/
namespace Go.Proofs.YtdccjobgfjoflaaGreatDoor
open Go Go.RowKit
theorem make_bytes (h : Nat) (hh : h ≤ 1000000) (W : World) : (Instr.makeSlice 22 (.int .i64 (h : Int)) (.int .i64 (h : Int))).run Tryz.prog W = .ok (.slice (some ⟨W.heap.size, 0, none⟩) h h) (W.alloc (.cells (madeCells #[.int .u8 0] h) 5)) := by
 obtain ⟨i0, hi, hz0, hz1, hz2⟩ := infoParts
 have hr := run_make (P := Tryz.prog) W 22 5 i0 (.int .u8 0) Tryz.underlying22 hi hz0 .i64 .i64 (h : Int) (h : Int) (by omega) (by omega) (by rw [hz2]; omega) (by omega)
 rw [hr, hz1]
 simp [Value.cells]
theorem zero_bytes (n : Nat) : (List.replicate n (0 : UInt8)).map bv = List.replicate n (.int .u8 0) := by
 rw [List.map_replicate]; rfl
theorem BSt.made {a : Option Addr} {len cap c n : Nat} {w W : World} {v : Value} {L : List UInt8} (h : BSt a len cap c v L w W) (hn : n ≤ 1000000) :
  BSt a len cap c (.slice (some ⟨W.heap.size, 0, none⟩) n n) (List.replicate n 0) w (W.alloc (.cells (madeCells #[.int .u8 0] n) 5)) := by
 obtain ⟨-, hc, hg⟩ := h
 have hb : Below W.heap.size W (W.alloc (.cells (madeCells #[.int .u8 0] n) 5)) := (Below.refl _ _).alloc (Nat.le_refl _) _
 refine ⟨?_, hc.below hb, grown_below hg hb⟩
 have h1 := World.ownsRow_lit (base := w.heap.size) (e := 5) (size := 1) W (madeCells #[.int .u8 0] n) n hg.size (by unfold maxLen; omega) (by simp [madeCells])
 rw [toList_madeCells_one] at h1
 unfold OwnB
 rw [List.length_replicate, zero_bytes]
 exact h1
theorem BSt.other {a : Option Addr} {len cap c : Nat} {v v' : Value} {L L' : List UInt8} {w W W' : World} (h : BSt a len cap c v L w W) (ho : OwnB W.heap.size v' L' W') (hc : Cur a len cap c W') (hg : W.grownBy W' (some c)) : BSt a len cap c v' L' w W' :=
 ⟨OwnB.more ho h.2.2.size, hc, Lib.grownBy_trans h.2.2 hg⟩
theorem row_far {B q i : Nat} {v : Value} {a : Option Addr} {xs : List UInt8} {cap : Nat} {w : World} (h : Row B a xs cap w) (hq : q < B) : Row B a xs cap (w.setCell ⟨q, i, none⟩ v) := by
 refine ⟨?_, h.2⟩
 rcases h.1 with e | ⟨b, off, e, hB, hc⟩
 ·exact .inl e
 ·exact .inr ⟨b, off, e, hB, fun j hj => ⟨(World.cell?_setCell_other _ _ _ _ (by intro e; injection e with e; omega)).trans (hc j hj).1, by simpa using (hc j hj).2⟩⟩
theorem made_len {rs : List RuleV} (hall : allV (kindI rs) rs) {k : Nat} (hk : k < rs.length) (hk6 : k < 6) {v : ValueV} (h : MadeVal rs k v) : validV rs (k : Int) v = true ∧ plen rs (k : Int) v ≤ 1099511627776 ∧ (plen rs (k : Int) v ≤ 106288200 ∧ 1 ≤ plen rs (k : Int) v) := by
 obtain ⟨h1, h2⟩ := h
 have h3 : 9 ^ (k + 1) ≤ 9 ^ 6 := Nat.pow_le_pow_right (by omega) (by omega)
 have h4 := plen_low hall k hk v h1
 have h5 := low_pos hall k hk
 have h6 : (9 : Nat) ^ 6 = 531441 := by decide
 exact ⟨h1, by omega, by omega, by omega⟩
def FileOut (c : Nat) (w : World) (e : Ending) (w' : World) : Prop :=
 ∃ (rs : List RuleV) (x : Option Addr) (cp : Nat) (z : Option Addr) (L : List UInt8) (cz : Nat), e = .returned (.tuple #[.agg #[.slice x rs.length cp], .slice z L.length cz]) ∧ MadeAll rs ∧ (1 ≤ rs.length ∧ rs.length ≤ 6) ∧ RowR w.heap.size (.slice x rs.length cp) rs w' ∧ Row w.heap.size z L cz w' ∧ L.length ≤ 200000000 ∧ w.grownBy w' (some c)
theorem file_end {a : Option Addr} {len cap c base cp cz : Nat} {x z : Option Addr} {rs : List RuleV} {L : List UInt8} {w z0 W : World} {D0 : Value} (hcw : c < w.heap.size) (hwz : w.heap.size < base) (hbz : base ≤ z0.heap.size) (hG : w.grownBy z0 (some c)) (hR : RowR base (.slice x rs.length cp) rs z0) (hm : MadeAll rs) (hn : 1 ≤ rs.length ∧ rs.length ≤ 6) (h : BSt a len cap c (.slice z L.length cz) L z0 W) (hL : L.length ≤ 200000000) :
  FileOut c w (.returned (.tuple #[.agg #[.slice x rs.length cp], .slice z L.length cz])) (W.setCell ⟨w.heap.size, 0, none⟩ D0) := by
 obtain ⟨ho, hc, hg⟩ := h
 have hs := grown_set (grown_refl W w.heap.size) 0 D0
 have hr := (OwnB.far ho (by omega) hs).row
 obtain ⟨z', cz', e1, hrow⟩ := hr
 injection e1 with e1 e2 e3
 subst e1 e3
 have hz : w.heap.size ≤ z0.heap.size := by omega
 refine ⟨rs, x, cp, z, L, cz, rfl, hm, hn, ((hR.grown hg (by omega)).grown hs (by omega)).more (by omega), hrow.more hz, hL, grown_put (Lib.grownBy_trans hG hg) (Nat.le_refl _)⟩
theorem file_draw (a : Option Addr) (len cap c : Nat) (w : World) (hl : len ≤ 140737488355328) (hc : Cur a len cap c w) :
    Calls Tryz.prog 60 #[.pointer (some ⟨c, 0, none⟩)] w (FileOut c w) := by
  obtain ⟨i0, hi, hz0, hz1, hz2⟩ := infoParts
  have hcw : c < w.heap.size := hc.lt
  have hold := kq hc.old
  obtain ⟨w0, hw0⟩ : ∃ w0, w0 = w.alloc (.cells #[.slice none 0 0] 26) := ⟨_, rfl⟩
  have hB : Below w.heap.size w w0 := by subst hw0; exact (Below.refl _ _).alloc (Nat.le_refl _) _
  have hX : CellsAt w.heap.size [.slice none 0 0] w0 := by subst hw0; exact CellsAt.new w _ _
  have hz : Hid (w0.heap.size = w.heap.size + 1) := by subst hw0; exact World.size_alloc _ _
  have HC := kq (hc.below hB)
  have HG0 : Hid (w.grownBy w0 (some c)) := grown_of hB
  have HX0 := kq hX
  have hW := kq hw0
  clear hc hB hX hw0
  go_enter Tryz.func60, Tryz.ntmps60
  go_wp2_with fail
  rw [← hW.out]
  clear hW
  refine (descr_draw a len cap c _ hl HC.out).mono ?_
  rintro e w1 ⟨rs, x, cp, rfl, hm, ⟨hn1, hn6⟩, -, hrow, hc1, hg1⟩
  obtain ⟨base, hbase⟩ : ∃ b, b = w0.heap.size + 2 := ⟨_, rfl⟩
  rw [← hbase] at hrow
  have hwb : w.heap.size < base := by have := hz.out; omega
  have hroom := hrow.room (by omega)
  obtain ⟨z0, hzz⟩ : ∃ z, z = w1.alloc (.cells #[.slice x rs.length cp] 26) := ⟨_, rfl⟩
  have hbz : Below w1.heap.size w1 z0 := by subst hzz; exact (Below.refl _ _).alloc (Nat.le_refl _) _
  have HD : Hid (CellsAt w1.heap.size [.slice x rs.length cp] z0) := by subst hzz; exact CellsAt.new w1 _ _
  have hX1 := HX0.out.grown hg1 (by intro e; injection e with e; omega)
  have HX := kq (hX1.below hbz)
  have HR := kq (hrow.below hbz)
  have HCZ := kq (hc1.below hbz)
  have HGZ : Hid (w.grownBy z0 (some c)) := grown_below (Lib.grownBy_trans HG0.out hg1) hbz
  have HRM : Hid (base ≤ z0.heap.size) := by have := hbz.size; show _ ≤ _; omega
  have HALL := kq (made_valid hm (by omega))
  have HM0 := kq hm
  obtain ⟨bd, hbd⟩ : ∃ D, D = w1.heap.size := ⟨_, rfl⟩
  rw [← hbd] at HD
  have hbd2 : base ≤ bd := by omega
  have HDD := kq hbd
  have hW := kq hzz
  clear hbz hzz hm hrow hc1 hg1 hX1 HX0 HG0 HC hbd hroom
  obtain ⟨kk, hkk⟩ : ∃ kk : Nat, kk + 1 = rs.length := ⟨rs.length - 1, by omega⟩
  have hk1 : (rs.length : Int) - 1 = (kk : Int) := by omega
  have hkr : kk < rs.length := by omega
  have hwk : IntKind.i64.wrap (kk : Int) = (kk : Int) := IntWalk.i64_in _ (by omega)
  have HK6 : Hid (kk < 6) := by show _ < _; omega
  have hcb : c < base := by omega
  have HMK := kq (mv_all a len cap c base x rs cp hl (by omega) HALL.out hcb kk hkr)
  have HKK := kq hkk
  clear hkk hbase hz
  go_upto_region 2 with fail
  rw [← hW.out, ← HDD.out]
  clear hW HDD
  have hdc : ¬ bd = c := by omega
  have HSW : Hid (∀ W, z0.grownBy W (some c) → W.cell? ⟨bd, 0, none⟩ = some (.slice x rs.length cp)) := fun W hg => (HD.out.grown hg (by intro e; injection e with e; omega) 0 _ rfl).1
  have HGW : Hid (z0.grownBy z0.drew (some c)) := grown_of (below_drewN (Below.refl _ _) 1)
  have HCW : Hid (Cur a len cap c z0.drew) := HCZ.out.below (below_drewN (Below.refl _ _) 1)
  have HRW : Hid (RowR base (.slice x rs.length cp) rs z0.drew) := HR.out.below (below_drewN (Below.refl _ _) 1)
  have HRMW : Hid (base ≤ z0.drew.heap.size) := HRM.out
  go_region_held3 (fun W => W.cell? ⟨bd, 0, none⟩ = some (.slice x rs.length cp)) (exact HSW.out _ HGW.out) (first
    | (go_at_call 102
       have HPC := printe_spec x rs cp (by omega) HALL.out (kk + 1) v _ kk wv hkr HRV.out.at.rd HIV.out HMV.out.1 HMV.out.2.1
       refine HPC.mono ?_
       rintro e w3 ⟨z, rfl, hown, hb3⟩
       have HM : Hid (BSt a len cap c z (encV rs (kk : Int) v) z0 w3) := ⟨OwnB.more hown HGW.out.size, HCV.out.below hb3, grown_below HGW.out hb3⟩
       replace HGW := kq HM.out.2.2
       have HEL := kq (encV_length HALL.out kk hkr v HMV.out.1)
       clear hown hb3 HPC)
    | (go_at_call 40
       refine (HMK.out 8 _ (by omega) (by omega) HRW.out HRMW.out HCW.out).mono ?_
       rintro e wv ⟨v, cs, rfl, hmv, hov, hcv, hgv⟩
       obtain ⟨xab, xcb, xai, xci, rfl⟩ := hov.cells
       have HIV := kq hov.is
       have HCV := kq hcv
       have HRV := kq (HRW.out.grown hgv hcb)
       have HMV : Hid (validV rs (kk : Int) v = true ∧ plen rs (kk : Int) v ≤ 1099511627776 ∧ (plen rs (kk : Int) v ≤ 106288200 ∧ 1 ≤ plen rs (kk : Int) v)) := made_len HALL.out hkr HK6.out hmv
       replace HGW := kq (Lib.grownBy_trans HGW.out hgv)
       clear hmv hov hcv hgv))
  clear HMK HRW HRMW HCW HCV HRV HIV hk1 hwk HKK
  have HE1 : Hid ((encV rs (kk : Int) v).length ≤ 106288200 ∧ 1 ≤ (encV rs (kk : Int) v).length) := by show _ ∧ _; rw [HEL.out]; exact HMV.out.2.2
  clear HEL HMV
  generalize encV rs (kk : Int) v = E at HM HE1
  have hE2 := HE1.out.2
  have hEb := HE1.out.1
  have hE3 : (E.length : Int) > 0 := by omega
  have hcz : c < z0.heap.size := by have := HRM.out; omega
  have hwz : w.heap.size < z0.heap.size := by have := HRM.out; omega
  obtain ⟨zE, cE, rfl⟩ := HM.out.slice
  go_wp2_with fail
  refine (once_draw a len cap c 3 _ hl (by omega) (by omega) HM.out.2.1).mono ?_
  rintro e w4 ⟨yes, rfl, hc4, hg4⟩
  replace HM := kq (HM.out.draw hcz hc4 hg4)
  clear hc4 hg4
  cases yes
  · have HM1 := HM
    go_wp2_with fail
    refine (below_draw a len cap c 24 _ hl (by omega) (by omega) HM.out.2.1).mono ?_
    rintro e w6 ⟨j, ⟨j0, j1⟩, rfl, hc6, hg6⟩
    replace HM := kq (HM.out.draw hcz hc6 hg6)
    clear hc6 hg6
    rcases (by omega : j = 0 ∨ j = 1 ∨ j = 2 ∨ 3 ≤ j) with rfl | rfl | rfl | j3
    · go_wp2_with fail
      refine (below_draw a len cap c 2 _ hl (by omega) (by omega) HM.out.2.1).mono ?_
      rintro e w7 ⟨jj, ⟨jj0, jj1⟩, rfl, hc7, hg7⟩
      obtain ⟨k2, rfl⟩ : ∃ k : Nat, jj = (k : Int) := ⟨jj.toNat, by omega⟩
      replace HM := kq (HM.out.draw hcz hc7 hg7)
      clear hc7 hg7
      obtain ⟨n4, hn4⟩ : ∃ n : Nat, (400 : Int) + (k2 : Int) = (n : Int) := ⟨400 + k2, by omega⟩
      have hw4 : IntKind.i64.wrap (n4 : Int) = (n4 : Int) := IntWalk.i64_in _ (by omega)
      have hmk := fun W => make_bytes n4 (by omega) W
      replace HM := kq (HM.out.made (n := n4) (by omega))
      have HLR : Hid ((List.replicate n4 (0 : UInt8)).length = n4) := List.length_replicate
      have hLB : (List.replicate n4 (0 : UInt8)).length ≤ 200000000 := by rw [HLR.out]; omega
      obtain ⟨LL, hLL⟩ : ∃ l, l = List.replicate n4 (0 : UInt8) := ⟨_, rfl⟩
      rw [← hLL] at HM HLR hLB
      clear hLL
      have xd := HSW.out _ HM.out.2.2
      obtain ⟨x0, f0⟩ := HX.out.grown HM.out.2.2 (by intro e; injection e with e; omega) 0 _ rfl
      have HML := HM
      rw [← HLR.out] at HML
      go_wp2
      (try simp only [Exit.inBlock, Exit.then])
      refine bodyPost_ret (v := .tuple #[.agg #[.slice x rs.length cp], .slice (some ⟨w7.heap.size, 0, none⟩) n4 n4]) ?_ rfl ?_
      · simp [results, Tryz.results60, go_sem, x0]
      · have h9 := fun D0 => file_end (D0 := D0) (cz := n4) (z := some ⟨w7.heap.size, 0, none⟩) hcw hwb HRM.out HGZ.out HR.out HM0.out ⟨hn1, hn6⟩ (by rw [HLR.out]; exact HM.out) hLB
        simp only [HLR.out] at h9
        exact h9 _
    · go_wp2_with fail
      refine (below_draw a len cap c 8 _ hl (by omega) (by omega) HM.out.2.1).mono ?_
      rintro e w7 ⟨jj, ⟨jj0, jj1⟩, rfl, hc7, hg7⟩
      obtain ⟨k2, rfl⟩ : ∃ k : Nat, jj = (k : Int) := ⟨jj.toNat, by omega⟩
      replace HM := kq (HM.out.draw hcz hc7 hg7)
      clear hc7 hg7
      go_wp2_with fail
      refine (bytes_draw a len cap c k2 _ hl (by omega) HM.out.2.1).mono ?_
      rintro e w8 ⟨v8, L8, hl8, rfl, ho8, hc8, hg8⟩
      replace HM := kq (HM.out.other ho8 hc8 hg8)
      clear ho8 hc8 hg8
      subst hl8
      obtain ⟨z8, c8, rfl⟩ := HM.out.slice
      have hLB : L8.length ≤ 200000000 := by omega
      have xd := HSW.out _ HM.out.2.2
      obtain ⟨x0, f0⟩ := HX.out.grown HM.out.2.2 (by intro e; injection e with e; omega) 0 _ rfl
      go_wp2
      (try simp only [Exit.inBlock, Exit.then])
      refine bodyPost_ret (v := .tuple #[.agg #[.slice x rs.length cp], .slice z8 L8.length c8]) ?_ rfl ?_
      · simp [results, Tryz.results60, go_sem, x0]
      · exact file_end hcw hwb HRM.out HGZ.out HR.out HM0.out ⟨hn1, hn6⟩ HM.out hLB
    · go_wp2_with (at_builtin; refine wpList_append_own _ rfl _ _ 22 rfl z0.heap.size 5 i0 (.int .u8 0) 1 1 Tryz.underlying22 hi hz0 hz1 hz2 rfl (by decide) _ _ _ rfl (World.ownsRow.alloc HM.out.1 _) ⟨w6.heap.size, 0, none⟩ 1 1 [.int .u8 92] rfl rfl ?c1 ?c2 ?c3 ?c4 ?c5 ?_)
      case c1 =>
        intro j u hj
        match j, hj with
        | 0, hj => simp at hj; subst hj; simp [Addr.add]
      case c2 => intro u hu; simp at hu; subst hu; rfl
      case c3 => unfold maxLen; omega
      case c4 => omega
      case c5 => have := HM.out.2.2.size; simp; omega
      · intro v7 w7 hown' hgrow _
        obtain ⟨L7, hl7, HR7⟩ := BSt.push (y := 92) HM.out HCZ.out (by omega) hown' hgrow
        replace HM := kq HR7
        clear HR7 hown' hgrow
        obtain ⟨z7, c7, rfl⟩ := HM.out.slice
        have hLB : L7.length ≤ 200000000 := by rw [hl7]; omega
        have xd := HSW.out _ HM.out.2.2
        obtain ⟨x0, f0⟩ := HX.out.grown HM.out.2.2 (by intro e; injection e with e; omega) 0 _ rfl
        go_wp2
        (try simp only [Exit.inBlock, Exit.then])
        refine bodyPost_ret (v := .tuple #[.agg #[.slice x rs.length cp], .slice z7 L7.length c7]) ?_ rfl ?_
        · simp [results, Tryz.results60, go_sem, x0]
        · exact file_end hcw hwb HRM.out HGZ.out HR.out HM0.out ⟨hn1, hn6⟩ HM.out hLB
    · have HM2 := HM
      have hLB : E.length ≤ 200000000 := by omega
      have xd := HSW.out _ HM.out.2.2
      obtain ⟨x0, f0⟩ := HX.out.grown HM.out.2.2 (by intro e; injection e with e; omega) 0 _ rfl
      go_wp2
      (try simp only [Exit.inBlock, Exit.then])
      refine bodyPost_ret (v := .tuple #[.agg #[.slice x rs.length cp], .slice zE E.length cE]) ?_ rfl ?_
      · simp [results, Tryz.results60, go_sem, x0]
      · exact file_end hcw hwb HRM.out HGZ.out HR.out HM0.out ⟨hn1, hn6⟩ HM.out hLB
  · go_wp2_with fail
    refine (bent_draw a len cap c zE E cE _ hl (by omega) HM.out.2.1 (by obtain ⟨z', c', e1, hrow⟩ := HM.out.1.row; injection e1 with e1 e2 e3; subst e1 e3; exact hrow.src)).mono ?_
    rintro e w5 ⟨v5, L5, hl5, rfl, ho5, hc5, hg5⟩
    replace HM := kq (HM.out.other ho5 hc5 hg5)
    clear ho5 hc5 hg5
    have HM1 := HM
    go_wp2_with fail
    refine (below_draw a len cap c 24 _ hl (by omega) (by omega) HM.out.2.1).mono ?_
    rintro e w6 ⟨j, ⟨j0, j1⟩, rfl, hc6, hg6⟩
    replace HM := kq (HM.out.draw hcz hc6 hg6)
    clear hc6 hg6
    rcases (by omega : j = 0 ∨ j = 1 ∨ j = 2 ∨ 3 ≤ j) with rfl | rfl | rfl | j3
    · go_wp2_with fail
      refine (below_draw a len cap c 2 _ hl (by omega) (by omega) HM.out.2.1).mono ?_
      rintro e w7 ⟨jj, ⟨jj0, jj1⟩, rfl, hc7, hg7⟩
      obtain ⟨k2, rfl⟩ : ∃ k : Nat, jj = (k : Int) := ⟨jj.toNat, by omega⟩
      replace HM := kq (HM.out.draw hcz hc7 hg7)
      clear hc7 hg7
      obtain ⟨n4, hn4⟩ : ∃ n : Nat, (400 : Int) + (k2 : Int) = (n : Int) := ⟨400 + k2, by omega⟩
      have hw4 : IntKind.i64.wrap (n4 : Int) = (n4 : Int) := IntWalk.i64_in _ (by omega)
      have hmk := fun W => make_bytes n4 (by omega) W
      replace HM := kq (HM.out.made (n := n4) (by omega))
      have HLR : Hid ((List.replicate n4 (0 : UInt8)).length = n4) := List.length_replicate
      have hLB : (List.replicate n4 (0 : UInt8)).length ≤ 200000000 := by rw [HLR.out]; omega
      obtain ⟨LL, hLL⟩ : ∃ l, l = List.replicate n4 (0 : UInt8) := ⟨_, rfl⟩
      rw [← hLL] at HM HLR hLB
      clear hLL
      have xd := HSW.out _ HM.out.2.2
      obtain ⟨x0, f0⟩ := HX.out.grown HM.out.2.2 (by intro e; injection e with e; omega) 0 _ rfl
      have HML := HM
      rw [← HLR.out] at HML
      go_wp2
      (try simp only [Exit.inBlock, Exit.then])
      refine bodyPost_ret (v := .tuple #[.agg #[.slice x rs.length cp], .slice (some ⟨w7.heap.size, 0, none⟩) n4 n4]) ?_ rfl ?_
      · simp [results, Tryz.results60, go_sem, x0]
      · have h9 := fun D0 => file_end (D0 := D0) (cz := n4) (z := some ⟨w7.heap.size, 0, none⟩) hcw hwb HRM.out HGZ.out HR.out HM0.out ⟨hn1, hn6⟩ (by rw [HLR.out]; exact HM.out) hLB
        simp only [HLR.out] at h9
        exact h9 _
    · go_wp2_with fail
      refine (below_draw a len cap c 8 _ hl (by omega) (by omega) HM.out.2.1).mono ?_
      rintro e w7 ⟨jj, ⟨jj0, jj1⟩, rfl, hc7, hg7⟩
      obtain ⟨k2, rfl⟩ : ∃ k : Nat, jj = (k : Int) := ⟨jj.toNat, by omega⟩
      replace HM := kq (HM.out.draw hcz hc7 hg7)
      clear hc7 hg7
      go_wp2_with fail
      refine (bytes_draw a len cap c k2 _ hl (by omega) HM.out.2.1).mono ?_
      rintro e w8 ⟨v8, L8, hl8, rfl, ho8, hc8, hg8⟩
      replace HM := kq (HM.out.other ho8 hc8 hg8)
      clear ho8 hc8 hg8
      subst hl8
      obtain ⟨z8, c8, rfl⟩ := HM.out.slice
      have hLB : L8.length ≤ 200000000 := by omega
      have xd := HSW.out _ HM.out.2.2
      obtain ⟨x0, f0⟩ := HX.out.grown HM.out.2.2 (by intro e; injection e with e; omega) 0 _ rfl
      go_wp2
      (try simp only [Exit.inBlock, Exit.then])
      refine bodyPost_ret (v := .tuple #[.agg #[.slice x rs.length cp], .slice z8 L8.length c8]) ?_ rfl ?_
      · simp [results, Tryz.results60, go_sem, x0]
      · exact file_end hcw hwb HRM.out HGZ.out HR.out HM0.out ⟨hn1, hn6⟩ HM.out hLB
    · go_wp2_with (at_builtin; refine wpList_append_own _ rfl _ _ 22 rfl z0.heap.size 5 i0 (.int .u8 0) 1 1 Tryz.underlying22 hi hz0 hz1 hz2 rfl (by decide) _ _ _ rfl (World.ownsRow.alloc HM.out.1 _) ⟨w6.heap.size, 0, none⟩ 1 1 [.int .u8 92] rfl rfl ?c1 ?c2 ?c3 ?c4 ?c5 ?_)
      case c1 =>
        intro j u hj
        match j, hj with
        | 0, hj => simp at hj; subst hj; simp [Addr.add]
      case c2 => intro u hu; simp at hu; subst hu; rfl
      case c3 => unfold maxLen; omega
      case c4 => omega
      case c5 => have := HM.out.2.2.size; simp; omega
      · intro v7 w7 hown' hgrow _
        obtain ⟨L7, hl7, HR7⟩ := BSt.push (y := 92) HM.out HCZ.out (by omega) hown' hgrow
        replace HM := kq HR7
        clear HR7 hown' hgrow
        obtain ⟨z7, c7, rfl⟩ := HM.out.slice
        have hLB : L7.length ≤ 200000000 := by rw [hl7]; omega
        have xd := HSW.out _ HM.out.2.2
        obtain ⟨x0, f0⟩ := HX.out.grown HM.out.2.2 (by intro e; injection e with e; omega) 0 _ rfl
        go_wp2
        (try simp only [Exit.inBlock, Exit.then])
        refine bodyPost_ret (v := .tuple #[.agg #[.slice x rs.length cp], .slice z7 L7.length c7]) ?_ rfl ?_
        · simp [results, Tryz.results60, go_sem, x0]
        · exact file_end hcw hwb HRM.out HGZ.out HR.out HM0.out ⟨hn1, hn6⟩ HM.out hLB
    · obtain ⟨z7, c7, rfl⟩ := HM.out.slice
      have hLB : L5.length ≤ 200000000 := by omega
      have xd := HSW.out _ HM.out.2.2
      obtain ⟨x0, f0⟩ := HX.out.grown HM.out.2.2 (by intro e; injection e with e; omega) 0 _ rfl
      go_wp2
      (try simp only [Exit.inBlock, Exit.then])
      refine bodyPost_ret (v := .tuple #[.agg #[.slice x rs.length cp], .slice z7 L5.length c7]) ?_ rfl ?_
      · simp [results, Tryz.results60, go_sem, x0]
      · exact file_end hcw hwb HRM.out HGZ.out HR.out HM0.out ⟨hn1, hn6⟩ HM.out hLB
end Go.Proofs.YtdccjobgfjoflaaGreatDoor

/- Bytes that are nearly always a file of a drawn description, whatever the code: DrawFile. -/
namespace Go.Proofs.YtdccjobgfjoflaaGreatDoor
open Go Go.RowKit
def DrawnF (w : World) (e : Ending) (w' : World) : Prop :=
 ∃ (rs : List RuleV) (x : Option Addr) (cp : Nat) (z : Option Addr) (L : List UInt8) (cz : Nat), e = .returned (.tuple #[.agg #[.slice x rs.length cp], .slice z L.length cz]) ∧ MadeAll rs ∧ (1 ≤ rs.length ∧ rs.length ≤ 6) ∧ RowR w.heap.size (.slice x rs.length cp) rs w' ∧ Row w.heap.size z L cz w' ∧ L.length ≤ 200000000 ∧ Below w.heap.size w w'
theorem drawfile (a : Option Addr) (len cap : Nat) (w : World) (hl : len ≤ 140737488355328) (hs : Code a len w) :
  Calls Tryz.prog 22 #[.slice a len cap] w (DrawnF w) := by
 obtain ⟨w0, hw0⟩ : ∃ w0, w0 = w.alloc (.cells #[.slice none 0 0] 26) := ⟨_, rfl⟩
 have hB : Below w.heap.size w w0 := by subst hw0; exact (Below.refl _ _).alloc (Nat.le_refl _) _
 have hX : CellsAt w.heap.size [.slice none 0 0] w0 := by subst hw0; exact CellsAt.new w _ _
 have hz : w0.heap.size = w.heap.size + 1 := by subst hw0; exact World.size_alloc _ _
 have HS := kq (hs.below hB)
 have HB := kq hB
 have HX := kq hX
 have HZ := kq hz
 have hW := kq hw0
 clear hs hB hX hz hw0
 go_enter Tryz.func22, Tryz.ntmps22
 go_wp2_with fail
 rw [← hW.out]
 clear hW
 refine (new_draw a len cap _ hl HS.out).mono ?_
 rintro e w1 ⟨rfl, hc1, hb1, hz1⟩
 obtain ⟨c, hcc⟩ : ∃ c, c = w0.heap.size := ⟨_, rfl⟩
 rw [← hcc] at hc1 ⊢
 have hcw : w.heap.size < c := by rw [hcc, HZ.out]; omega
 have HC := kq hc1
 have HS1 : Hid (w.heap.size ≤ w1.heap.size) := by have := HB.out.size; have := hb1.size; show _ ≤ _; omega
 replace HB := kq (HB.out.trans (hb1.mono HB.out.size))
 replace HX := kq (HX.out.below hb1)
 clear hc1 hb1 hz1 HS hcc HZ
 go_wp2_with fail
 refine (file_draw a len cap c _ hl HC.out).mono ?_
 rintro e w2 ⟨rs, x, cp, z, L, cz, rfl, hm, hn, hrow, hr, hL, hg⟩
 obtain ⟨x0, f0⟩ := HX.out.grown hg (by intro e; injection e with e; omega) 0 _ rfl
 have HBF := kq (HB.out.grown hg HB.out.size (fun k e => by injection e with e; omega))
 have hwb : w.heap.size < w1.heap.size := by have := HC.out.lt; omega
 have HRF := kq ((hrow.grown (grown_set (grown_refl w2 w.heap.size) 0 (.slice x rs.length cp)) hwb).more HS1.out)
 have HLF : Hid (Row w.heap.size z L cz (w2.setCell ⟨w.heap.size, 0, none⟩ (.slice x rs.length cp))) := (row_far hr hwb).more HS1.out
 have HM := kq hm
 have HN := kq hn
 have HL := kq hL
 clear hm hn hrow hr hL hg
 go_wp2
 (try simp only [Exit.inBlock, Exit.then])
 refine bodyPost_ret (v := .tuple #[.agg #[.slice x rs.length cp], .slice z L.length cz]) ?_ rfl ?_
 ·simp [results, Tryz.results22, go_sem, x0]
 ·exact ⟨rs, x, cp, z, L, cz, rfl, HM.out, HN.out, HRF.out, HLF.out, HL.out, HBF.out.setCell (p := ⟨w.heap.size, 0, none⟩) (Nat.le_refl _) _⟩
end Go.Proofs.YtdccjobgfjoflaaGreatDoor
