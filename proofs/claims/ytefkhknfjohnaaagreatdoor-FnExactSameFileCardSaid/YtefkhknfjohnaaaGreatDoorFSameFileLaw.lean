/- It is proved that the law FnExactSameFile returns true at every input of its parameter types and leaves its arguments as they were (statement Rows.FnExactSameFileCardSaid), under no condition beyond the card's own: the one listed variable, errors.errorType, reads as the library's text lays it. -/
import Derived.Test.YtefkhknfjohnaaaGreatDoorFGKO
import Derived.Test.YtefkhknfjohnaaaGreatDoorFGKG
import Derived.Test.YtefkhknfjohnaaaGreatDoorFCanI
import Derived.Test.YtefkhknfjohnaaaGreatDoorCards
import Derived.Test.YtefkhknfjohnaaaGreatDoorTie
import Derived.SevenTiedAt
import Derived.Deep.RegionHeld3
import Derived.Deep.CutRange
namespace Go.Proofs.YtefkhknfjohnaaaGreatDoor
open Go Go.ChangeShapes Go.WideShapes Go.ChangeAt Go.RowKit
namespace fnExactSameFile
theorem walk_big0 (a0 : Option Addr) (rs0 : List RuleV) (cap0 : Nat) (ab : Option Addr) (bs : List UInt8) (cb : Nat) (ac : Option Addr) (bt : List UInt8) (cc : Nat) (w : World) (h : 1048576 < bs.length) :
    Calls Tryz.prog 6 #[.agg #[.slice a0 rs0.length cap0], .slice ab bs.length cb, .slice ac bt.length cc] w fun e w' => e = .returned (.bool true) ∧ Below w.heap.size w w' := by
  have g : (1048576 : Int) < (bs.length : Int) := by omega
  go_enter Tryz.func6, Tryz.ntmps6
  go_wp2
  go_ret
  exact ⟨rfl, (Below.refl _ _).alloc (Nat.le_refl _) _⟩
theorem walk_big1 (a0 : Option Addr) (rs0 : List RuleV) (cap0 : Nat) (ab : Option Addr) (bs : List UInt8) (cb : Nat) (ac : Option Addr) (bt : List UInt8) (cc : Nat) (w : World) (h0 : bs.length ≤ 1048576) (h : 1048576 < bt.length) :
    Calls Tryz.prog 6 #[.agg #[.slice a0 rs0.length cap0], .slice ab bs.length cb, .slice ac bt.length cc] w fun e w' => e = .returned (.bool true) ∧ Below w.heap.size w w' := by
  have g0 : ¬ (1048576 : Int) < (bs.length : Int) := by omega
  have g : (1048576 : Int) < (bt.length : Int) := by omega
  go_enter Tryz.func6, Tryz.ntmps6
  go_wp2
  go_ret
  exact ⟨rfl, (Below.refl _ _).alloc (Nat.le_refl _) _⟩
set_option maxRecDepth 100000 in
theorem walk_large (a0 : Option Addr) (rs0 : List RuleV) (cap0 : Nat) (ab : Option Addr) (bs : List UInt8) (cb : Nat) (ac : Option Addr) (bt : List UInt8) (cc : Nat) (w : World) (r0 : ArgD a0 rs0 cap0 w) (r2 : Arg ab bs cb w) (r3 : Arg ac bt cc w) (hg : HandleAt w) (hbs : bs.length ≤ 1048576) (hbt : bt.length ≤ 1048576) (h : 1048576 < sizeR rs0) :
    Calls Tryz.prog 6 #[.agg #[.slice a0 rs0.length cap0], .slice ab bs.length cb, .slice ac bt.length cc] w fun e w' => e = .returned (.bool true) ∧ Below w.heap.size w w' := by
  have g0 : ¬ (1048576 : Int) < (bs.length : Int) := by omega
  have g1 : ¬ (1048576 : Int) < (bt.length : Int) := by omega
  obtain ⟨hrd, hlc, hfit, -⟩ := r0
  obtain ⟨w0, hw0⟩ : ∃ w0, w0 = w.alloc (.cells #[.slice a0 rs0.length cap0] 37) := ⟨_, rfl⟩
  have hB0 : Below w.heap.size w w0 := by subst hw0; exact (Below.refl _ _).alloc (Nat.le_refl _) _
  have hX0 : CellsAt w.heap.size [.slice a0 rs0.length cap0] w0 := by subst hw0; exact CellsAt.new w _ _
  have HB := Lib.hid hB0
  have HX := Lib.hid hX0
  have HR0 := Lib.hid hrd
  have HF0 := Lib.hid hfit
  have HA2 := Lib.hid r2.1
  have HA3 := Lib.hid r3.1
  have HG := Lib.hid hg
  have HW0 := Lib.hid hw0
  clear hB0 hX0 hrd hfit r2 r3 hg hw0
  go_enter Tryz.func6, Tryz.ntmps6
  go_upto_region 1 with fail
  rw [← HW0.out]
  clear HW0
  have b0 := (HX.out 0 _ rfl).1
  go_wp2_with fail
  refine (sz_descr0 a0 rs0 cap0 _ (by omega) HF0.out (HR0.out.below HB.out)).mono ?_
  rintro e w1 ⟨rfl, hb⟩
  replace HX := Lib.hid (HX.out.below hb)
  replace HB := Lib.hid (HB.out.trans (hb.mono HB.out.size))
  clear hb
  clear b0
  rw [leftN_no h]
  go_wp2
  go_ret
  exact ⟨rfl, HB.out⟩
set_option maxRecDepth 100000 in
set_option maxHeartbeats 8000000 in
theorem walk_short (a0 : Option Addr) (rs0 : List RuleV) (cap0 : Nat) (ab : Option Addr) (bs : List UInt8) (cb : Nat) (ac : Option Addr) (bt : List UInt8) (cc : Nat) (w : World) (r0 : ArgD a0 rs0 cap0 w) (r2 : Arg ab bs cb w) (r3 : Arg ac bt cc w) (hg : HandleAt w) (hbs : bs.length ≤ 1048576) (hbt : bt.length ≤ 1048576) (h : sizeR rs0 ≤ 1048576) :
    Calls Tryz.prog 6 #[.agg #[.slice a0 rs0.length cap0], .slice ab bs.length cb, .slice ac bt.length cc] w fun e w' => e = .returned (.bool true) ∧ Below w.heap.size w w' := by
  have hlen : rs0.length ≤ 1048576 := by unfold sizeR at h; omega
  have HS := Lib.hid (short_of h)
  have HP := Lib.hid (spelt_of h)
  obtain ⟨r, hr⟩ : ∃ r : Bool, r = sameG rs0 bs bt := ⟨_, rfl⟩
  have HSP : Hid (∀ (x : Option Addr) (y : Nat) (xab : Option Addr) (yab : Nat) (xac : Option Addr) (yac : Nat) (W : World), RdC x rs0 W → SrcB xab bs yab W → SrcB xac bt yac W → Calls Tryz.prog 28 #[.agg #[.slice x rs0.length y], .slice xab bs.length yab, .slice xac bt.length yac] W (fun e w' => e = .returned (.bool r) ∧ Below W.heap.size W w')) := fun x y xab yab xac yac W h1 h2 h3 => by rw [hr]; exact ssame_spec x xab xac rs0 y yab yac bs bt W hlen HS.out HP.out h1 h2 h3 (by omega) (by omega)
  have HIM : Hid (∀ (x : Option Addr) (y : Nat) (xab : Option Addr) (yab : Nat) (xac : Option Addr) (yac : Nat) (W : World), RdC x rs0 W → SrcB xab bs yab W → SrcB xac bt yac W → HandleAt W → Calls Tryz.prog 17 #[.agg #[.slice x rs0.length y], .slice xab bs.length yab, .slice xac bt.length yac] W (fun e w' => e = .returned (.bool r) ∧ Below W.heap.size W w')) := fun x y xab yab xac yac W h1 h2 h3 hh => by rw [hr]; exact isame_impl x xab xac rs0 y yab yac bs bt W hlen HS.out HP.out h1 h2 h3 (by omega) (by omega) hh
  clear hr
  have g0 : ¬ (1048576 : Int) < (bs.length : Int) := by omega
  have g1 : ¬ (1048576 : Int) < (bt.length : Int) := by omega
  obtain ⟨hrd, hlc, hfit, -⟩ := r0
  obtain ⟨w0, hw0⟩ : ∃ w0, w0 = w.alloc (.cells #[.slice a0 rs0.length cap0] 37) := ⟨_, rfl⟩
  have hB0 : Below w.heap.size w w0 := by subst hw0; exact (Below.refl _ _).alloc (Nat.le_refl _) _
  have hX0 : CellsAt w.heap.size [.slice a0 rs0.length cap0] w0 := by subst hw0; exact CellsAt.new w _ _
  have HB := Lib.hid hB0
  have HX := Lib.hid hX0
  have HR0 := Lib.hid hrd
  have HF0 := Lib.hid hfit
  have HA2 := Lib.hid r2.1
  have HA3 := Lib.hid r3.1
  have HG := Lib.hid hg
  have HW0 := Lib.hid hw0
  clear hB0 hX0 hrd hfit r2 r3 hg hw0
  go_enter Tryz.func6, Tryz.ntmps6
  go_upto_region 1 with fail
  rw [← HW0.out]
  clear HW0
  have b0 := (HX.out 0 _ rfl).1
  go_wp2_with fail
  refine (sz_descr0 a0 rs0 cap0 _ (by omega) HF0.out (HR0.out.below HB.out)).mono ?_
  rintro e w1 ⟨rfl, hb⟩
  replace HX := Lib.hid (HX.out.below hb)
  replace HB := Lib.hid (HB.out.trans (hb.mono HB.out.size))
  clear hb
  clear b0
  rw [leftN_yes h]
  obtain ⟨q, hq⟩ : ∃ q, q = 1048576 - sizeR rs0 := ⟨_, rfl⟩
  rw [← hq]
  have hq1 : q ≤ 1048576 := by omega
  clear hq h
  have b0 := (HX.out 0 _ rfl).1
  go_wp2_with fail
  refine (to_descr a0 rs0 cap0 _ hlen HS.out (HR0.out.below HB.out)).mono ?_
  rintro e w2 ⟨xs, ys, rfl, ho, hb⟩
  have Hs := Lib.hid ho
  clear b0
  clear ho
  replace HX := Lib.hid (HX.out.below hb)
  replace HB := Lib.hid (HB.out.trans (hb.mono HB.out.size))
  clear hb
  go_wp2_with fail
  refine (to_any ab bs cb _ (by omega) (HA2.out.below HB.out)).mono ?_
  rintro e w3 ⟨zs, ts, rfl, hrow, hb⟩
  have Bs := Lib.hid hrow
  clear hrow
  replace HX := Lib.hid (HX.out.below hb)
  replace Hs := Lib.hid (Hs.out.below hb)
  replace HB := Lib.hid (HB.out.trans (hb.mono HB.out.size))
  clear hb
  go_wp2_with fail
  refine (to_any ac bt cc _ (by omega) (HA3.out.below HB.out)).mono ?_
  rintro e w3b ⟨zsb, tsb, rfl, hrow, hb⟩
  have Bsb := Lib.hid hrow
  clear hrow
  replace HX := Lib.hid (HX.out.below hb)
  replace Hs := Lib.hid (Hs.out.below hb)
  replace Bs := Lib.hid (Bs.out.below hb)
  replace HB := Lib.hid (HB.out.trans (hb.mono HB.out.size))
  clear hb
  go_wp2_with fail
  refine (HSP.out _ _ _ _ _ _ _ Hs.out.rdc Bs.out.srcB Bsb.out.srcB).mono ?_
  rintro e w4 ⟨rfl, hb⟩
  replace HX := Lib.hid (HX.out.below hb)
  replace Hs := Lib.hid (Hs.out.below hb)
  replace Bs := Lib.hid (Bs.out.below hb)
  replace Bsb := Lib.hid (Bsb.out.below hb)
  replace HB := Lib.hid (HB.out.trans (hb.mono HB.out.size))
  clear hb
  clear Hs Bs Bsb HSP
  have b0 := (HX.out 0 _ rfl).1
  go_wp2_with fail
  refine (to_descr a0 rs0 cap0 _ hlen HS.out (HR0.out.below HB.out)).mono ?_
  rintro e v5 ⟨xx, yx, rfl, ho, hb⟩
  have Hx := Lib.hid ho
  clear b0
  clear ho
  have hs5 := Lib.hid hb.size
  replace HX := Lib.hid (HX.out.below hb)
  replace HB := Lib.hid (HB.out.trans (hb.mono HB.out.size))
  clear hb
  obtain ⟨zx, hzx⟩ : ∃ z, z = v5.alloc (.cells #[.slice xx rs0.length yx] 26) := ⟨_, rfl⟩
  have hb : Below v5.heap.size v5 zx := by subst hzx; exact (Below.refl _ _).alloc (Nat.le_refl _) _
  have hT : CellsAt v5.heap.size [.slice xx rs0.length yx] zx := by subst hzx; exact CellsAt.new v5 _ _
  have Vx := Lib.hid hT
  have hnx : Hid (zx.heap.size = v5.heap.size + 1) := by subst hzx; exact World.size_alloc _ _
  have HZ := Lib.hid hzx
  clear hT hzx
  replace HX := Lib.hid (HX.out.below hb)
  replace Hx := Lib.hid (Hx.out.below hb)
  replace HB := Lib.hid (HB.out.trans (hb.mono HB.out.size))
  clear hb
  go_upto_region 11 with fail
  rw [← HZ.out]
  clear HZ
  go_wp2_with fail
  refine (to_any ab bs cb _ (by omega) (HA2.out.below HB.out)).mono ?_
  rintro e v6 ⟨zx, tx, rfl, hrow, hb⟩
  have Bx := Lib.hid hrow
  have KX := Lib.hid (ko_blk hrow)
  have hs6 := Lib.hid hb.size
  clear hrow
  replace HX := Lib.hid (HX.out.below hb)
  replace Hx := Lib.hid (Hx.out.below hb)
  replace Vx := Lib.hid (Vx.out.below hb)
  replace HB := Lib.hid (HB.out.trans (hb.mono HB.out.size))
  clear hb
  go_wp2_with fail
  refine (to_any ac bt cc _ (by omega) (HA3.out.below HB.out)).mono ?_
  rintro e v6b ⟨zxb, txb, rfl, hrow, hb⟩
  have Bxb := Lib.hid hrow
  clear hrow
  replace HX := Lib.hid (HX.out.below hb)
  replace Hx := Lib.hid (Hx.out.below hb)
  replace Vx := Lib.hid (Vx.out.below hb)
  replace Bx := Lib.hid (Bx.out.below hb)
  replace HB := Lib.hid (HB.out.trans (hb.mono HB.out.size))
  clear hb
  have b0 := (Vx.out 0 _ rfl).1
  go_wp2_with fail
  refine (HIM.out _ _ _ _ _ _ _ Hx.out.rdc Bx.out.srcB Bxb.out.srcB (HG.out.below HB.out)).mono ?_
  rintro e v7 ⟨rfl, hb⟩
  replace HX := Lib.hid (HX.out.below hb)
  replace Hx := Lib.hid (Hx.out.below hb)
  replace Vx := Lib.hid (Vx.out.below hb)
  replace Bx := Lib.hid (Bx.out.below hb)
  replace Bxb := Lib.hid (Bxb.out.below hb)
  replace HB := Lib.hid (HB.out.trans (hb.mono HB.out.size))
  clear hb
  clear b0
  have er : (r != r) = false := by simp
  go_upto_region 16 with fail
  clear er
  have hb : Below v7.heap.size v7 v7.drew := below_drewN (Below.refl _ _) 1
  replace HX := Lib.hid (HX.out.below hb)
  replace Hx := Lib.hid (Hx.out.below hb)
  replace Vx := Lib.hid (Vx.out.below hb)
  replace Bx := Lib.hid (Bx.out.below hb)
  replace Bxb := Lib.hid (Bxb.out.below hb)
  replace HB := Lib.hid (HB.out.trans (hb.mono HB.out.size))
  clear hb
  go_region_held3 (fun W => W.cell? ⟨v5.heap.size, 0, none⟩ = some (.slice xx rs0.length yx) ∧ W.cell? ⟨w.heap.size, 0, none⟩ = some (.slice a0 rs0.length cap0)) (exact ⟨(Vx.out 0 _ rfl).1, (HX.out 0 _ rfl).1⟩) (first | (go_at_call 20; refine (to_descr a0 rs0 cap0 _ hlen HS.out (HR0.out.below HB.out)).mono ?_; rintro e u8 ⟨x8, y8, rfl, ho, hb⟩; have H8 := Lib.hid ho; clear ho; replace HX := Lib.hid (HX.out.below hb); replace Hx := Lib.hid (Hx.out.below hb); replace Vx := Lib.hid (Vx.out.below hb); replace Bx := Lib.hid (Bx.out.below hb); replace Bxb := Lib.hid (Bxb.out.below hb); replace HB := Lib.hid (HB.out.trans (hb.mono HB.out.size)); clear hb) | (go_at_call 23; refine (eq_descr xx x8 rs0 yx y8 _ hlen HS.out Hx.out.rd H8.out.rd).mono ?_; rintro e u9 ⟨rfl, hb⟩; replace HX := Lib.hid (HX.out.below hb); replace Hx := Lib.hid (Hx.out.below hb); replace Vx := Lib.hid (Vx.out.below hb); replace Bx := Lib.hid (Bx.out.below hb); replace Bxb := Lib.hid (Bxb.out.below hb); replace HB := Lib.hid (HB.out.trans (hb.mono HB.out.size)); clear hb))
  clear H8
  go_wp2_with fail
  refine (to_any ab bs cb _ (by omega) (HA2.out.below HB.out)).mono ?_
  rintro e u1 ⟨zq, tq, rfl, hrow, hb⟩
  have Bq := Lib.hid hrow
  clear hrow
  replace HX := Lib.hid (HX.out.below hb)
  replace Hx := Lib.hid (Hx.out.below hb)
  replace Vx := Lib.hid (Vx.out.below hb)
  replace Bx := Lib.hid (Bx.out.below hb)
  replace Bxb := Lib.hid (Bxb.out.below hb)
  replace HB := Lib.hid (HB.out.trans (hb.mono HB.out.size))
  clear hb
  go_wp2_with fail
  refine (eq_any zx zq bs bs tx tq _ (by omega) Bx.out.rd Bq.out.rd).mono ?_
  rintro e u2 ⟨rfl, nq, hq9⟩
  rw [decide_eq_true (rfl : bs = bs)]
  have hb : Below u1.heap.size u1 u2 := by subst hq9; exact below_drewN (Below.refl _ _) nq
  replace HX := Lib.hid (HX.out.below hb)
  replace Hx := Lib.hid (Hx.out.below hb)
  replace Vx := Lib.hid (Vx.out.below hb)
  replace Bx := Lib.hid (Bx.out.below hb)
  replace Bxb := Lib.hid (Bxb.out.below hb)
  replace Bq := Lib.hid (Bq.out.below hb)
  replace HB := Lib.hid (HB.out.trans (hb.mono HB.out.size))
  clear hb
  clear hq9 Bq
  go_wp2_with fail
  refine (to_any ac bt cc _ (by omega) (HA3.out.below HB.out)).mono ?_
  rintro e u1b ⟨zq, tq, rfl, hrow, hb⟩
  have Bq := Lib.hid hrow
  clear hrow
  replace HX := Lib.hid (HX.out.below hb)
  replace Hx := Lib.hid (Hx.out.below hb)
  replace Vx := Lib.hid (Vx.out.below hb)
  replace Bx := Lib.hid (Bx.out.below hb)
  replace Bxb := Lib.hid (Bxb.out.below hb)
  replace HB := Lib.hid (HB.out.trans (hb.mono HB.out.size))
  clear hb
  go_wp2_with fail
  refine (eq_any zxb zq bt bt txb tq _ (by omega) Bxb.out.rd Bq.out.rd).mono ?_
  rintro e u2b ⟨rfl, nq, hq9⟩
  rw [decide_eq_true (rfl : bt = bt)]
  have hb : Below u1b.heap.size u1b u2b := by subst hq9; exact below_drewN (Below.refl _ _) nq
  replace HX := Lib.hid (HX.out.below hb)
  replace Hx := Lib.hid (Hx.out.below hb)
  replace Vx := Lib.hid (Vx.out.below hb)
  replace Bx := Lib.hid (Bx.out.below hb)
  replace Bxb := Lib.hid (Bxb.out.below hb)
  replace Bq := Lib.hid (Bq.out.below hb)
  replace HB := Lib.hid (HB.out.trans (hb.mono HB.out.size))
  clear hb
  clear hq9 Bq
  try go_wp2
  go_ret
  exact ⟨rfl, HB.out⟩
theorem walk (a0 : Option Addr) (rs0 : List RuleV) (cap0 : Nat) (ab : Option Addr) (bs : List UInt8) (cb : Nat) (ac : Option Addr) (bt : List UInt8) (cc : Nat) (w : World) (r0 : ArgD a0 rs0 cap0 w) (r2 : Arg ab bs cb w) (r3 : Arg ac bt cc w) (hg : HandleAt w) :
    Calls Tryz.prog 6 #[.agg #[.slice a0 rs0.length cap0], .slice ab bs.length cb, .slice ac bt.length cc] w fun e w' => e = .returned (.bool true) ∧ Below w.heap.size w w' := by
  by_cases hb0 : 1048576 < bs.length
  · exact walk_big0 a0 rs0 cap0 ab bs cb ac bt cc w hb0
  by_cases hb1 : 1048576 < bt.length
  · exact walk_big1 a0 rs0 cap0 ab bs cb ac bt cc w (by omega) hb1
  by_cases h : 1048576 < sizeR rs0
  · exact walk_large a0 rs0 cap0 ab bs cb ac bt cc w r0 r2 r3 hg (by omega) (by omega) h
  exact walk_short a0 rs0 cap0 ab bs cb ac bt cc w r0 r2 r3 hg (by omega) (by omega) (by omega)
theorem door_met (os : Os) (args : Array Value) : laidMetH Tryz.prog Rows.fnExactSameFileRow.laid ((World.doorLaid Tryz.prog 400 os).forCall (fun _ _ => 0) ⟨#[], args, []⟩).memory := handle_met os args
theorem of_laid {W : World} (h : laidMetH Tryz.prog Rows.fnExactSameFileRow.laid W) : HandleAt W := handle_of_laid h
set_option maxRecDepth 100000 in
theorem lifted (os : Os) (started : os.Started) (H : Type) (enc : TypeId × Value → H) :
    ReturnsInHanded {} Tryz.checked os 6 .any (fun w args => (Rows.fnExactSameFileSpec.pre enc Tryz.prog Tryz.f6 [] false w args ∧ laidMetH Tryz.prog Rows.fnExactSameFileRow.laid w) ∧ sizedMet enc Tryz.prog Tryz.f6 (OpenSpec.ofChange Rows.fnExactSameFileSpec) false w args)
      (Rows.fnExactSameFileSpec.post enc Tryz.prog Tryz.f6 false true false false) := by
  refine returnsInHanded_of_change_and (C := Tryz.checked) (X := fun w _ => laidMetH Tryz.prog Rows.fnExactSameFileRow.laid w) (fun _ _ _ hh h => h.of_heap hh) ownL started (by kernel_rfl) Tryz.func6
    (ChangeSpec.witness_shaped (enc := enc) (C := Tryz.checked) (os := os) (X := fun w _ => laidMetH Tryz.prog Rows.fnExactSameFileRow.laid w) false (World.doorLaid Tryz.prog 400 os) #[.agg #[.slice none 0 0], .slice none 0 0, .slice none 0 0] 8 rfl (World.shaped_of_RefB (by kernel_rfl) (by kernel_rfl)) (by kernel_rfl) (by kernel_rfl) (by kernel_rfl) (door_met os _)) ?_
  intro W base args ds gs before hval0 hW _ _ hL _
  have hval : ∀ (j : Nat) t v, Tryz.f6.params[j]? = some t → args[j]? = some v → Value.okWide Tryz.prog W .any base t v := hval0
  have hW' := hW
  obtain ⟨p, q, hA0, hV, rfl, hfz, hnd⟩ := hW
  have hA : DataW.TrodAll enc Tryz.prog W 0 (fun _ => true) true Tryz.f6.params.toList args.toList ds p := hA0
  rw [Tryz.params6] at hA hval
  obtain ⟨v0, vs0, d0, ds0, p0, q0, hargs, rfl, rfl, h0, r0⟩ := trodAll_cons hA
  obtain ⟨v1, vs1, d1, ds1, p1, q1, rfl, rfl, rfl, h1, r1⟩ := trodAll_cons r0
  obtain ⟨v2, vs2, d2, ds2, p2, q2, rfl, rfl, rfl, h2, r2⟩ := trodAll_cons r1
  obtain ⟨rfl, rfl, rfl⟩ := trodAll_nil r2
  obtain rfl : args = #[v0, v1, v2] := by cases args; simp_all
  obtain ⟨rfl, rfl⟩ := trodVars_none hV
  simp only [List.append_nil] at hW'
  have hlt : ∀ x ∈ p0 ++ p1 ++ p2, x.block < W.heap.size := fun x hx => hW'.lt x (by simpa using hx)
  obtain ⟨a0, rs0, cap0, rfl, hb0⟩ := descr_arg (hval 0 37 v0 rfl rfl) h0
  have m0 : ∀ (W' : World), Below W.heap.size W W' → DataW.Trod enc Tryz.prog W' 0 (fun b => decide (b < W.heap.size)) true 37 (.agg #[.slice a0 rs0.length cap0]) d0 p0 := fun W' hn => Below.trod laidOut (by kernel_rfl) (of_decide_eq_true (by kernel_rfl)) h0 hn (fun x hx => hlt x (by simp [hx]))
  obtain ⟨a1, len1, cap1, rfl⟩ := okWide_slice Tryz.underlying22 (hval 1 22 v1 rfl rfl)
  obtain ⟨bs1, rfl, hb1⟩ := bytes_arg h1
  have m1 : ∀ (W' : World), Below W.heap.size W W' → DataW.Trod enc Tryz.prog W' 0 (fun b => decide (b < W.heap.size)) true 22 (.slice a1 bs1.length cap1) d1 p1 := fun W' hn => Below.trod laidOut (by kernel_rfl) (of_decide_eq_true (by kernel_rfl)) h1 hn (fun x hx => hlt x (by simp [hx]))
  obtain ⟨a2, len2, cap2, rfl⟩ := okWide_slice Tryz.underlying22 (hval 2 22 v2 rfl rfl)
  obtain ⟨bs2, rfl, hb2⟩ := bytes_arg h2
  have m2 : ∀ (W' : World), Below W.heap.size W W' → DataW.Trod enc Tryz.prog W' 0 (fun b => decide (b < W.heap.size)) true 22 (.slice a2 bs2.length cap2) d2 p2 := fun W' hn => Below.trod laidOut (by kernel_rfl) (of_decide_eq_true (by kernel_rfl)) h2 hn (fun x hx => hlt x (by simp [hx]))
  have hT := of_laid hL
  clear hA0 hval0
  refine (walk a0 rs0 cap0 a1 bs1 cap1 a2 bs2 cap2 W hb0 hb1 hb2 hT).mono fun e W' ⟨he, hb⟩ => ?_
  subst he
  exact ⟨_, rfl, _, _, _, [], _, [], hW', trodAll_cons_mk (shut_bool Tryz.underlying4 _) trodAll_mk0, (trodAll_cons_mk (m0 _ hb) (trodAll_cons_mk (m1 _ hb) (trodAll_cons_mk (m2 _ hb) trodAll_mk0))), rfl, hb.frame _, fun h => by cases h⟩
theorem row_holds : Rows.FnExactSameFileSaid :=
  OpenClaim.holds_of_wide 6 Tryz.f6 rfl rfl rfl rfl rfl rfl rfl ⟨rfl, rfl, rfl, rfl, rfl⟩ rfl rfl rfl rfl rfl (by kernel_rfl) Tryz.func6 (by kernel_rfl)
    (of_decide_eq_true (by kernel_rfl)) (by unfold Func.isWrapper; first | (rw [if_pos (by decide +kernel)]; kernel_rfl) | (rw [if_neg (by decide +kernel)]; exact ⟨rfl, rfl⟩))
    (fun os started H enc _ => lifted os started H enc)
/-- THE STATEMENT -/
theorem proved : Rows.FnExactSameFileCardSaid :=
  Claim7.holds_tied_plain_at .later [] [.handle] true Rows.fnExactSameFileCard.stood.harness Rows.fnExactSameFileCard.stood.looks
    row_holds (fun _ h => by cases h) (by kernel_rfl) (fun _ h => by cases h) fnExactSameFile_row_tie rfl ⟨rfl, rfl⟩ (by kernel_rfl) rfl
    (fun f fn hf hfn => by
      obtain rfl : f = 6 := Option.some.inj ((show Tryz.prog.funcNamed Rows.fnExactSameFileRow.func = some 6 by kernel_rfl).symm.trans hf) |>.symm
      obtain rfl : fn = Tryz.f6 := (Option.some.inj (Tryz.func6.symm.trans hfn)).symm
      exact ⟨by kernel_rfl, fun j t ht => by
        rw [Tryz.params6] at ht
        have hm : t ∈ [37, 22, 22] := by simpa using Array.mem_of_getElem? ht
        have hall : ([37, 22, 22].all fun u => !Tryz.prog.wantsStandIn u) = true := by kernel_rfl
        exact (show Tryz.prog.wantsStandIn t = false by simpa using List.all_eq_true.1 hall t hm)⟩)
    (by kernel_rfl)
end fnExactSameFile
#print axioms fnExactSameFile.proved
end Go.Proofs.YtefkhknfjohnaaaGreatDoor
