/- Contracts of the draws of chapter 11's terminated bytes: DrawReadTerminated, DrawEscapeBytes. -/
import Derived.Test.YtefkhknfjohnaaaGPu
import Derived.Test.YtefkhknfjohnaaaGBase
import Derived.Maps.Range
namespace Go.Proofs.Ytefkhknfjohnaaa
open Go Go.RowKit
theorem byte_of_pick {x : Int} (h : x ∈ [7, 65, 92, 10, 0]) : 0 ≤ x ∧ x < 256 := by simp at h; omega
theorem byte_of_end {x : Int} (h : x ∈ [10, 0, 65, 92]) : 0 ≤ x ∧ x < 256 := by simp at h; omega
theorem Row.far9 {B cap c : Nat} {a : Option Addr} {bs : List UInt8} {w w' : World} (h : Row B a bs cap w) (hc : c < B) (hg : w.grownBy w' (some c)) : Row B a bs cap w' := by
  refine ⟨?_, h.2⟩
  rcases h.1 with e | ⟨b, off, e, hb, hk⟩
  · exact .inl e
  · have hne : some b ≠ some c := fun e => by injection e with e; omega
    exact .inr ⟨b, off, e, hb, fun j hj => ⟨hg.cell (hk j hj).1 hne, (World.frozen?_of_block (a := ⟨b, off + j, none⟩) (hg.block b (cell_lt (hk j hj).1) hne)).trans (hk j hj).2⟩⟩
theorem Mid.grown {k : Nat} {a : Option Addr} {len cap c : Nat} {v : Value} {w W W' : World} (h : Mid k a len cap c v w W) (hcw : c < w.heap.size) (hc : Cur a len cap c W') (hg : W.grownBy W' (some c)) : Mid k a len cap c v w W' := by
  obtain ⟨bs, h1, h2, -, h4⟩ := h
  exact ⟨bs, h1, h2.far hcw hg, hc, Lib.grownBy_trans h4 hg⟩
theorem Mid.cur {k : Nat} {a : Option Addr} {len cap c : Nat} {v : Value} {w W : World} (h : Mid k a len cap c v w W) : Cur a len cap c W := by
  obtain ⟨bs, h1, h2, h3, h4⟩ := h; exact h3
theorem Mid.row {k : Nat} {a : Option Addr} {len cap c : Nat} {v : Value} {w W : World} (h : Mid k a len cap c v w W) : ∃ ab bs cb, bs.length = k ∧ v = .slice ab bs.length cb ∧ Row w.heap.size ab bs cb W ∧ w.grownBy W (some c) := by
  obtain ⟨bs, h1, h2, h3, h4⟩ := h
  obtain ⟨ab, cb, e, hr⟩ := h2.row
  exact ⟨ab, bs, cb, h1, e, hr, h4⟩
set_option maxRecDepth 100000 in
set_option maxHeartbeats 2000000 in
theorem drawTerm (a : Option Addr) (len cap : Nat) (w : World) (hl : len ≤ 140737488355328) (hs : Code a len w) :
    Calls Try.prog 33 #[.slice a len cap] w fun e w' => ∃ (ab : Option Addr) (bs : List UInt8) (cb : Nat) (n : Int) (t : UInt8), bs.length ≤ 8 ∧ e = .returned (.tuple #[.slice ab bs.length cb, .int .i64 n, .int .u8 (t.toNat : Int)]) ∧ Row w.heap.size ab bs cb w' ∧ Below w.heap.size w w' := by
  obtain ⟨i0, hi, hz0, hz1, hz2⟩ := infoParts
  have HS := Lib.hid hs
  clear hs
  go_enter Try.func33, Try.ntmps33
  go_wp2_with fail
  refine (new_draw a len cap _ hl HS.out).mono ?_
  rintro e w1 ⟨rfl, hc1, hb1, hz1'⟩
  have HC1 := Lib.hid hc1
  have HB1 := Lib.hid hb1
  have hlt := hc1.lt
  obtain ⟨C, hC⟩ : ∃ C, C = w.heap.size := ⟨_, rfl⟩
  have HCE := Lib.hid hC
  rw [← hC] at HC1 hlt hc1 ⊢
  have h0 : Hid (Mid 0 a len cap C (.slice (some ⟨w1.heap.size, 0, none⟩) 0 0) w1 (w1.alloc (.cells #[] 5))) :=
    ⟨[], rfl, OwnB.start w1, hc1.below ((Below.refl _ _).alloc (Nat.le_refl _) _), World.grownBy_alloc _ _ _⟩
  clear hc1 hb1 hz1' HS hC
  go_wp2_with fail
  refine (below_draw a len cap C 9 _ hl (by omega) (by omega) h0.out.cur).mono ?_
  rintro e w2 ⟨x, ⟨x0, x1⟩, rfl, hc2, hg2⟩
  obtain ⟨y, rfl⟩ : ∃ y : Nat, x = (y : Int) := ⟨x.toNat, by omega⟩
  have hM := Lib.hid (h0.out.grown hlt hc2 hg2)
  clear h0 hc2 hg2
  go_wp2
  go_loopw [6, 7] (fun v i W => ∃ k j : Nat, k + j ≤ 8 ∧ i = .int .i64 j ∧ Hid (Mid k a len cap C v w1 W)) (fun _ i _ => (intOf i).toNat)
  case atStart => exact ⟨0, y, by omega, rfl, hM.out⟩
  case round =>
    clear hM
    obtain ⟨k, j, hkj, rfl, hm⟩ := hrel
    by_cases hj : j = 0
    · subst hj
      obtain ⟨ab, bs, cb, hbs, rfl, hrow, hg⟩ := hm.out.row
      have HR := Lib.hid hrow
      have HG := Lib.hid hg
      have HCU := Lib.hid hm.out.cur
      have hb8 : bs.length ≤ 8 := by omega
      clear hm hbs hrow hg
      have k0 : (1 : Int) ≤ (bs.length : Int) + 3 := by omega
      go_wp2_with fail
      refine (below_draw a len cap C ((bs.length : Int) + 3) _ hl (by omega) (by omega) HCU.out).mono ?_
      rintro e w3 ⟨z, ⟨z0, z1⟩, rfl, hc3, hg3⟩
      have HR3 : Hid (Row w1.heap.size ab bs cb w3) := HR.out.far9 hlt hg3
      have HG3 := Lib.hid (Lib.grownBy_trans HG.out hg3)
      have HC3 := Lib.hid hc3
      clear hc3 hg3
      go_wp2_with fail
      refine (int_pick a len cap C 4 [10, 0, 65, 92] _ rfl rfl w3 hl (by omega) (by omega) HC3.out).mono ?_
      rintro e w4 ⟨x, hx, rfl, hc4, hg4⟩
      obtain ⟨x0, x1⟩ := byte_of_end hx
      have HR4 : Hid (Row w1.heap.size ab bs cb w4) := HR3.out.far9 hlt hg4
      have HG4 := Lib.hid (Lib.grownBy_trans HG3.out hg4)
      clear hx hc4 hg4
      obtain ⟨t, rfl⟩ : ∃ t : UInt8, x = (t.toNat : Int) := ⟨UInt8.ofNat x.toNat, by rw [UInt8.toNat_ofNat', Nat.mod_eq_of_lt (by omega)]; omega⟩
      go_wp2_with fail
      (try simp only [Exit.inBlock, Exit.then])
      refine bodyPost_ret (v := .tuple #[.slice ab bs.length cb, .int .i64 (z - 1), .int .u8 (t.toNat : Int)]) (by simp [results, Try.results33, go_sem]) rfl ?_
      exact ⟨ab, bs, cb, z - 1, t, hb8, rfl, HR4.out.more HB1.out.size, below_grown HB1.out HG4.out HB1.out.size (by rw [HCE.out]; exact Nat.le_refl _)⟩
    · have k1 : (0 : Int) < (j : Int) := by omega
      obtain ⟨bs, hbs, hown, hcur, hg⟩ := hm.out
      have HB := Lib.hid hbs
      have HO := Lib.hid hown
      have HU := Lib.hid hcur
      have HG := Lib.hid hg
      have hle : bs.length ≤ 8 := by omega
      clear hm hbs hown hcur hg
      go_wp2_with fail
      refine (int_pick a len cap C 5 [7, 65, 92, 10, 0] _ rfl rfl wr hl (by omega) (by omega) HU.out).mono ?_
      rintro e w3 ⟨x, hx, rfl, hc3, hg3⟩
      obtain ⟨x0, x1⟩ := byte_of_pick hx
      obtain ⟨y, rfl⟩ : ∃ y : Nat, x = (y : Int) := ⟨x.toNat, by omega⟩
      have hy : y < 256 := by omega
      have HO1 := Lib.hid (HO.out.far hlt hg3)
      have HU1 := Lib.hid hc3
      have HG1 := Lib.hid (Lib.grownBy_trans HG.out hg3)
      clear hx hc3 hg3
      go_wp2_with (at_builtin; refine wpList_append_own _ rfl _ _ 22 rfl w1.heap.size 5 i0 (.int .u8 0) 1 1 Try.underlying22 hi hz0 hz1 hz2 rfl (by decide) _ _ _ rfl (World.ownsRow.alloc HO1.out _) ⟨w3.heap.size, 0, none⟩ 1 1 [.int .u8 y] rfl rfl ?c1 ?c2 ?c3 ?c4 ?c5 ?_)
      case c1 =>
        intro j u hj
        match j, hj with
        | 0, hj => simp at hj; subst hj; simp [Addr.add]
      case c2 => intro u hu; simp at hu; subst hu; rfl
      case c3 => unfold maxLen; omega
      case c4 => omega
      case c5 => have := HG1.out.size; simp; omega
      · intro v' w4 hown' hgrow _
        have hbv : Value.int .u8 (y : Int) = bv (UInt8.ofNat y) := by
          unfold bv; rw [UInt8.toNat_ofNat', Nat.mod_eq_of_lt (by omega)]
        rw [hbv] at hown'
        have R := Lib.hid (mid_next HC1.out HB.out HO1.out HU1.out HG1.out hown' hgrow)
        clear hown' hgrow hbv
        go_wp2
        go_roundw
        case rel => exact ⟨k + 1, j - 1, by omega, by congr 1; omega, R.out⟩
        case measure => simp [intOf]; omega
theorem drawEsc (a : Option Addr) (len cap : Nat) (w : World) (hl : len ≤ 140737488355328) (hs : Code a len w) :
    Calls Try.prog 8 #[.slice a len cap] w fun e w' => ∃ (ab : Option Addr) (bs : List UInt8) (cb : Nat) (t : UInt8), bs.length ≤ 8 ∧ e = .returned (.tuple #[.slice ab bs.length cb, .int .u8 (t.toNat : Int)]) ∧ Row w.heap.size ab bs cb w' ∧ Below w.heap.size w w' := by
  have H := Lib.hid (drawTerm a len cap w hl hs)
  clear hs
  go_enter Try.func8, Try.ntmps8
  go_wp2_with fail
  refine H.out.mono ?_
  rintro e w1 ⟨ab, bs, cb, n, t, hb8, rfl, hr, hb⟩
  have HR := Lib.hid hr
  have HB := Lib.hid hb
  clear hr hb
  go_wp2
  go_ret2
  exact ⟨ab, bs, cb, t, hb8, rfl, HR.out, HB.out⟩
end Go.Proofs.Ytefkhknfjohnaaa
