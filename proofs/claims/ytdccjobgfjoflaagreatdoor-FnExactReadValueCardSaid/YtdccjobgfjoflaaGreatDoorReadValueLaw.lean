/- It is proved that the law FnExactReadValue returns true at every input of its parameter types and leaves its arguments as they were (statement Rows.FnExactReadValueCardSaid), under no condition beyond the card's own: the one listed variable, errors.errorType, reads as the library's text lays it. -/
import Derived.Test.YtdccjobgfjoflaaGreatDoorGKO
import Derived.Test.YtdccjobgfjoflaaGreatDoorGKG
import Derived.Test.YtdccjobgfjoflaaGreatDoorCards
import Derived.Test.YtdccjobgfjoflaaGreatDoorTie
import Derived.SevenTiedAt
import Derived.Deep.RegionHeld3
import Derived.Deep.CutRange
namespace Go.Proofs.YtdccjobgfjoflaaGreatDoor
open Go Go.ChangeShapes Go.WideShapes Go.ChangeAt Go.RowKit
namespace fnExactReadValue
theorem walk_big (a0 : Option Addr) (rs0 : List RuleV) (cap0 : Nat) (n1 : Int) (ab : Option Addr) (bs : List UInt8) (cb : Nat) (n3 : Int) (w : World) (h : 1048576 < bs.length) :
    Calls Tryz.prog 7 #[.agg #[.slice a0 rs0.length cap0], .int .i64 n1, .slice ab bs.length cb, .int .i64 n3] w fun e w' => e = .returned (.bool true) ∧ Below w.heap.size w w' := by
  have g : (1048576 : Int) < (bs.length : Int) := by omega
  go_enter Tryz.func7, Tryz.ntmps7
  go_wp2
  go_ret
  exact ⟨rfl, (Below.refl _ _).alloc (Nat.le_refl _) _⟩
set_option maxRecDepth 100000 in
theorem walk_large (a0 : Option Addr) (rs0 : List RuleV) (cap0 : Nat) (n1 : Int) (ab : Option Addr) (bs : List UInt8) (cb : Nat) (n3 : Int) (w : World) (r0 : ArgD a0 rs0 cap0 w) (r2 : Arg ab bs cb w) (hg : HandleAt w) (hbl : bs.length ≤ 1048576) (h : 1048576 < sizeR rs0) :
    Calls Tryz.prog 7 #[.agg #[.slice a0 rs0.length cap0], .int .i64 n1, .slice ab bs.length cb, .int .i64 n3] w fun e w' => e = .returned (.bool true) ∧ Below w.heap.size w w' := by
  have g : ¬ (1048576 : Int) < (bs.length : Int) := by omega
  obtain ⟨hrd, hlc, hfit, -⟩ := r0
  obtain ⟨w0, hw0⟩ : ∃ w0, w0 = w.alloc (.cells #[.slice a0 rs0.length cap0] 55) := ⟨_, rfl⟩
  have hB0 : Below w.heap.size w w0 := by subst hw0; exact (Below.refl _ _).alloc (Nat.le_refl _) _
  have hX0 : CellsAt w.heap.size [.slice a0 rs0.length cap0] w0 := by subst hw0; exact CellsAt.new w _ _
  have HB := Lib.hid hB0
  have HX := Lib.hid hX0
  have HR0 := Lib.hid hrd
  have HF0 := Lib.hid hfit
  have HA2 := Lib.hid r2.1
  have HG := Lib.hid hg
  have HW0 := Lib.hid hw0
  clear hB0 hX0 hrd hfit r2 hg hw0
  go_enter Tryz.func7, Tryz.ntmps7
  go_upto_region 1 with fail
  rw [← HW0.out]
  clear HW0
  have b0 := (HX.out 0 _ rfl).1
  go_wp2_with fail
  refine (sz_descr0 a0 rs0 cap0 _ (by omega) HF0.out (HR0.out.below HB.out)).mono ?_
  rintro e w1 ⟨rfl, hb⟩
  replace HX := Lib.hid (HX.out.below hb)
  replace HB := Lib.hid (HB.out.trans (hb.mono HB.out.size))
  clear hb
  clear b0
  rw [leftN_no h]
  go_wp2
  go_ret
  exact ⟨rfl, HB.out⟩
set_option maxRecDepth 100000 in
set_option maxHeartbeats 8000000 in
theorem walk_short (a0 : Option Addr) (rs0 : List RuleV) (cap0 : Nat) (n1 : Int) (ab : Option Addr) (bs : List UInt8) (cb : Nat) (n3 : Int) (w : World) (r0 : ArgD a0 rs0 cap0 w) (r2 : Arg ab bs cb w) (hg : HandleAt w) (hbl : bs.length ≤ 1048576) (h : sizeR rs0 ≤ 1048576) :
    Calls Tryz.prog 7 #[.agg #[.slice a0 rs0.length cap0], .int .i64 n1, .slice ab bs.length cb, .int .i64 n3] w fun e w' => e = .returned (.bool true) ∧ Below w.heap.size w w' := by
  have hlen : rs0.length ≤ 1048576 := by unfold sizeR at h; omega
  have HS := Lib.hid (short_of h)
  have HP := Lib.hid (spelt_of h)
  have hsv : sizV (gvOf (readG rs0 n1 bs n3)) ≤ 1048576 := readG_siz rs0 n1 n3 bs
  obtain ⟨gg, hgg⟩ : ∃ gg, gg = readG rs0 n1 bs n3 := ⟨_, rfl⟩
  rw [← hgg] at hsv
  obtain ⟨v, hv⟩ : ∃ v, v = gvOf gg := ⟨_, rfl⟩
  obtain ⟨gq, hgq⟩ : ∃ x, x = gqOf gg := ⟨_, rfl⟩
  obtain ⟨gc, hgc⟩ : ∃ x, x = gcOf gg := ⟨_, rfl⟩
  have HSP : Hid (∀ (x : Option Addr) (y : Nat) (xb : Option Addr) (yb : Nat) (W : World), RdC x rs0 W → SrcB xb bs yb W → Calls Tryz.prog 33 #[.agg #[.slice x rs0.length y], .int .i64 n1, .slice xb bs.length yb, .int .i64 n3] W fun e w' => ∃ cs, e = .returned (.tuple #[.agg cs.toArray, .int .i64 (gq : Int), .int .i64 (gc : Int)]) ∧ OwnV (fun b => W.heap.size ≤ b) (rs0.length + 1) v cs w' ∧ Below W.heap.size W w') := fun x y xb yb W h1 h2 => by rw [hv, hgq, hgc, hgg]; exact (sreadvalue_spec x xb rs0 y yb n1 n3 bs W hlen HS.out HP.out h1 h2 (by omega)).mono fun e w' h => ko_got h
  have HIM : Hid (∀ (x : Option Addr) (y : Nat) (xb : Option Addr) (yb : Nat) (W : World), RdC x rs0 W → SrcB xb bs yb W → HandleAt W → Calls Tryz.prog 20 #[.agg #[.slice x rs0.length y], .int .i64 n1, .slice xb bs.length yb, .int .i64 n3] W fun e w' => ∃ bl cs, e = .returned (.tuple #[.agg cs.toArray, .int .i64 (gq : Int), .int .i64 (gc : Int)]) ∧ OwnT (rs0.length + 1) bl v cs w' ∧ (∀ b ∈ bl, W.heap.size ≤ b) ∧ Below W.heap.size W w') := fun x y xb yb W h1 h2 h3 => by rw [hv, hgq, hgc, hgg]; exact (readvalue_impl x xb rs0 y yb n1 n3 bs W hlen HS.out HP.out h1 h2 (by omega) h3).mono fun e w' h => ko_res h
  rw [← hv] at hsv
  have HSV := Lib.hid hsv
  have hwd : widV v ≤ 1048576 := by have := wid_siz v; omega
  clear hv hgq hgc hgg hsv
  have hk1 := ko_sumW_of h
  obtain ⟨T, hT⟩ : ∃ T, T = 1 + sumW rs0 rs0.length := ⟨_, rfl⟩
  have HT := Lib.hid hT
  have hT1 : T ≤ 1073741824 := by omega
  obtain ⟨T2, hT2⟩ : ∃ T2, T2 = T + bs.length := ⟨_, rfl⟩
  have HT2 := Lib.hid hT2
  have hT3 : ¬ ((T2 : Int) < 0) := by omega
  have HK1 := Lib.hid hk1
  obtain ⟨M, hM⟩ : ∃ M, M = 1 + widV v := ⟨_, rfl⟩
  have HM := Lib.hid hM
  have hM0 : ¬ ((M : Int) < 0) := by omega
  have HK : Hid (1 + widV v ≤ 1099511627776) := by show _ ≤ _; omega
  clear hT hT2 hk1 hM hwd
  have g : ¬ (1048576 : Int) < (bs.length : Int) := by omega
  obtain ⟨hrd, hlc, hfit, -⟩ := r0
  obtain ⟨w0, hw0⟩ : ∃ w0, w0 = w.alloc (.cells #[.slice a0 rs0.length cap0] 55) := ⟨_, rfl⟩
  have hB0 : Below w.heap.size w w0 := by subst hw0; exact (Below.refl _ _).alloc (Nat.le_refl _) _
  have hX0 : CellsAt w.heap.size [.slice a0 rs0.length cap0] w0 := by subst hw0; exact CellsAt.new w _ _
  have HB := Lib.hid hB0
  have HX := Lib.hid hX0
  have HR0 := Lib.hid hrd
  have HF0 := Lib.hid hfit
  have HA2 := Lib.hid r2.1
  have HG := Lib.hid hg
  have HW0 := Lib.hid hw0
  clear hB0 hX0 hrd hfit r2 hg hw0
  go_enter Tryz.func7, Tryz.ntmps7
  go_upto_region 1 with fail
  rw [← HW0.out]
  clear HW0
  have b0 := (HX.out 0 _ rfl).1
  go_wp2_with fail
  refine (sz_descr0 a0 rs0 cap0 _ (by omega) HF0.out (HR0.out.below HB.out)).mono ?_
  rintro e w1 ⟨rfl, hb⟩
  replace HX := Lib.hid (HX.out.below hb)
  replace HB := Lib.hid (HB.out.trans (hb.mono HB.out.size))
  clear hb
  clear b0
  rw [leftN_yes h]
  obtain ⟨q, hq⟩ : ∃ q, q = 1048576 - sizeR rs0 := ⟨_, rfl⟩
  rw [← hq]
  have hq1 : q ≤ 1048576 := by omega
  clear hq h
  have b0 := (HX.out 0 _ rfl).1
  go_wp2_with fail
  refine (to_descr a0 rs0 cap0 _ hlen HS.out (HR0.out.below HB.out)).mono ?_
  rintro e w2 ⟨xs, ys, rfl, ho, hb⟩
  have Hs := Lib.hid ho
  clear b0
  clear ho
  replace HX := Lib.hid (HX.out.below hb)
  replace HB := Lib.hid (HB.out.trans (hb.mono HB.out.size))
  clear hb
  go_wp2_with fail
  refine (to_any ab bs cb _ (by omega) (HA2.out.below HB.out)).mono ?_
  rintro e w3 ⟨zs, ts, rfl, hrow, hb⟩
  have Bs := Lib.hid hrow
  clear hrow
  replace HX := Lib.hid (HX.out.below hb)
  replace Hs := Lib.hid (Hs.out.below hb)
  replace HB := Lib.hid (HB.out.trans (hb.mono HB.out.size))
  clear hb
  go_wp2_with fail
  refine (HSP.out _ _ _ _ _ Hs.out.rdc Bs.out.srcB).mono ?_
  rintro e w4 ⟨cs4, rfl, ho, hb⟩
  have HWX : Hid (w.heap.size < w4.heap.size) := Nat.lt_of_lt_of_le (cell_lt (HX.out 0 _ rfl).1) hb.size
  obtain ⟨a1w, c1w, a2w, c2w, rfl⟩ := ho.cells
  have HW : Hid (OwnV (fun b => b < w4.heap.size) (rs0.length + 1) v [.int .i64 v.number, .slice a1w v.bytes.length c1w, .slice a2w v.items.length c2w] w4) := ho.mono fun b hb _ => hb
  clear ho
  replace HX := Lib.hid (HX.out.below hb)
  replace Hs := Lib.hid (Hs.out.below hb)
  replace Bs := Lib.hid (Bs.out.below hb)
  replace HB := Lib.hid (HB.out.trans (hb.mono HB.out.size))
  clear hb
  clear Hs Bs HSP
  obtain ⟨zw, hzw⟩ : ∃ z, z = w4.alloc (.cells #[.int .i64 v.number, .slice a1w v.bytes.length c1w, .slice a2w v.items.length c2w] 29) := ⟨_, rfl⟩
  have hb : Below w4.heap.size w4 zw := by subst hzw; exact (Below.refl _ _).alloc (Nat.le_refl _) _
  have hT : CellsAt w4.heap.size [.int .i64 v.number, .slice a1w v.bytes.length c1w, .slice a2w v.items.length c2w] zw := by subst hzw; exact CellsAt.new w4 _ _
  have Vw := Lib.hid hT
  have hnw : Hid (zw.heap.size = w4.heap.size + 1) := by subst hzw; exact World.size_alloc _ _
  have HZ := Lib.hid hzw
  clear hT hzw
  replace HX := Lib.hid (HX.out.below hb)
  replace HW := Lib.hid (HW.out.below hb (fun _ _ h => h))
  replace HB := Lib.hid (HB.out.trans (hb.mono HB.out.size))
  clear hb
  go_upto_region 8 with fail
  rw [← HZ.out]
  clear HZ
  have b0 := (HX.out 0 _ rfl).1
  go_wp2_with fail
  refine (to_descr a0 rs0 cap0 _ hlen HS.out (HR0.out.below HB.out)).mono ?_
  rintro e v5 ⟨xx, yx, rfl, ho, hb⟩
  have Hx := Lib.hid ho
  clear b0
  clear ho
  have hs5 := Lib.hid hb.size
  replace HX := Lib.hid (HX.out.below hb)
  replace Vw := Lib.hid (Vw.out.below hb)
  replace HW := Lib.hid (HW.out.below hb (fun _ _ h => h))
  replace HB := Lib.hid (HB.out.trans (hb.mono HB.out.size))
  clear hb
  obtain ⟨zx, hzx⟩ : ∃ z, z = v5.alloc (.cells #[.slice xx rs0.length yx] 26) := ⟨_, rfl⟩
  have hb : Below v5.heap.size v5 zx := by subst hzx; exact (Below.refl _ _).alloc (Nat.le_refl _) _
  have hT : CellsAt v5.heap.size [.slice xx rs0.length yx] zx := by subst hzx; exact CellsAt.new v5 _ _
  have Vx := Lib.hid hT
  have hnx : Hid (zx.heap.size = v5.heap.size + 1) := by subst hzx; exact World.size_alloc _ _
  have HZ := Lib.hid hzx
  clear hT hzx
  replace HX := Lib.hid (HX.out.below hb)
  replace Vw := Lib.hid (Vw.out.below hb)
  replace Hx := Lib.hid (Hx.out.below hb)
  replace HW := Lib.hid (HW.out.below hb (fun _ _ h => h))
  replace HB := Lib.hid (HB.out.trans (hb.mono HB.out.size))
  clear hb
  go_upto_region 9 with fail
  rw [← HZ.out]
  clear HZ
  go_wp2_with fail
  refine (to_any ab bs cb _ (by omega) (HA2.out.below HB.out)).mono ?_
  rintro e v6 ⟨zx, tx, rfl, hrow, hb⟩
  have Bx := Lib.hid hrow
  have KX := Lib.hid (ko_blk hrow)
  have hs6 := Lib.hid hb.size
  clear hrow
  replace HX := Lib.hid (HX.out.below hb)
  replace Vw := Lib.hid (Vw.out.below hb)
  replace Hx := Lib.hid (Hx.out.below hb)
  replace Vx := Lib.hid (Vx.out.below hb)
  replace HW := Lib.hid (HW.out.below hb (fun _ _ h => h))
  replace HB := Lib.hid (HB.out.trans (hb.mono HB.out.size))
  clear hb
  have b0 := (Vx.out 0 _ rfl).1
  go_wp2_with fail
  refine (HIM.out _ _ _ _ _ Hx.out.rdc Bx.out.srcB (HG.out.below HB.out)).mono ?_
  rintro e v7 ⟨blg, cs7, rfl, ho, hbg, hb⟩
  have Hg := Lib.hid ho
  obtain ⟨a1g, c1g, a2g, c2g, rfl⟩ := ho.cells
  have KG : Hid (∀ b ∈ blg, v6.heap.size ≤ b ∧ b < v7.heap.size) := fun b hb => ⟨hbg b hb, ho.lt b hb⟩
  have hs7 := Lib.hid hb.size
  clear ho hbg
  replace HX := Lib.hid (HX.out.below hb)
  replace Vw := Lib.hid (Vw.out.below hb)
  replace Hx := Lib.hid (Hx.out.below hb)
  replace Vx := Lib.hid (Vx.out.below hb)
  replace Bx := Lib.hid (Bx.out.below hb)
  replace HW := Lib.hid (HW.out.below hb (fun _ _ h => h))
  replace HB := Lib.hid (HB.out.trans (hb.mono HB.out.size))
  clear hb
  clear b0
  obtain ⟨zg, hzg⟩ : ∃ z, z = v7.alloc (.cells #[.int .i64 v.number, .slice a1g v.bytes.length c1g, .slice a2g v.items.length c2g] 29) := ⟨_, rfl⟩
  have hb : Below v7.heap.size v7 zg := by subst hzg; exact (Below.refl _ _).alloc (Nat.le_refl _) _
  have hT : CellsAt v7.heap.size [.int .i64 v.number, .slice a1g v.bytes.length c1g, .slice a2g v.items.length c2g] zg := by subst hzg; exact CellsAt.new v7 _ _
  have Vg := Lib.hid hT
  have hng : Hid (zg.heap.size = v7.heap.size + 1) := by subst hzg; exact World.size_alloc _ _
  have HZ := Lib.hid hzg
  clear hT hzg
  replace HX := Lib.hid (HX.out.below hb)
  replace Vw := Lib.hid (Vw.out.below hb)
  replace Hx := Lib.hid (Hx.out.below hb)
  replace Vx := Lib.hid (Vx.out.below hb)
  replace Bx := Lib.hid (Bx.out.below hb)
  replace Hg := Lib.hid (Hg.out.below hb)
  replace HW := Lib.hid (HW.out.below hb (fun _ _ h => h))
  replace HB := Lib.hid (HB.out.trans (hb.mono HB.out.size))
  clear hb
  go_upto_region 11 with fail
  rw [← HZ.out]
  clear HZ
  have d0 := (Vg.out 0 _ rfl).1
  have d1 := (Vg.out 1 _ rfl).1
  have d2 := (Vg.out 2 _ rfl).1
  have t0 := (Vw.out 0 _ rfl).1
  have t1 := (Vw.out 1 _ rfl).1
  have t2 := (Vw.out 2 _ rfl).1
  go_wp2_with fail
  refine (eq_value _ (rs0.length + 1) v _ _ _ Hg.out.is HW.out.is HSV.out).mono ?_
  rintro e v8 ⟨rfl, hb⟩
  clear d0 d1 d2
  clear t0 t1 t2
  replace HX := Lib.hid (HX.out.below hb)
  replace Vw := Lib.hid (Vw.out.below hb)
  replace Hx := Lib.hid (Hx.out.below hb)
  replace Vx := Lib.hid (Vx.out.below hb)
  replace Bx := Lib.hid (Bx.out.below hb)
  replace Hg := Lib.hid (Hg.out.below hb)
  replace Vg := Lib.hid (Vg.out.below hb)
  replace HW := Lib.hid (HW.out.below hb (fun _ _ h => h))
  replace HB := Lib.hid (HB.out.trans (hb.mono HB.out.size))
  clear hb
  go_upto_region 13 with fail
  have hb : Below v8.heap.size v8 v8.drew := below_drewN (Below.refl _ _) 1
  replace HX := Lib.hid (HX.out.below hb)
  replace Vw := Lib.hid (Vw.out.below hb)
  replace Hx := Lib.hid (Hx.out.below hb)
  replace Vx := Lib.hid (Vx.out.below hb)
  replace Bx := Lib.hid (Bx.out.below hb)
  replace Hg := Lib.hid (Hg.out.below hb)
  replace Vg := Lib.hid (Vg.out.below hb)
  replace HW := Lib.hid (HW.out.below hb (fun _ _ h => h))
  replace HB := Lib.hid (HB.out.trans (hb.mono HB.out.size))
  clear hb
  go_region_held3 (fun W => W.cell? ⟨v5.heap.size, 0, none⟩ = some (.slice xx rs0.length yx) ∧ W.cell? ⟨w.heap.size, 0, none⟩ = some (.slice a0 rs0.length cap0)) (exact ⟨(Vx.out 0 _ rfl).1, (HX.out 0 _ rfl).1⟩) (first | (go_at_call 27; refine (to_descr a0 rs0 cap0 _ hlen HS.out (HR0.out.below HB.out)).mono ?_; rintro e u8 ⟨x8, y8, rfl, ho, hb⟩; have H8 := Lib.hid ho; clear ho; replace HX := Lib.hid (HX.out.below hb); replace Vw := Lib.hid (Vw.out.below hb); replace Hx := Lib.hid (Hx.out.below hb); replace Vx := Lib.hid (Vx.out.below hb); replace Bx := Lib.hid (Bx.out.below hb); replace Hg := Lib.hid (Hg.out.below hb); replace Vg := Lib.hid (Vg.out.below hb); replace HW := Lib.hid (HW.out.below hb (fun _ _ h => h)); replace HB := Lib.hid (HB.out.trans (hb.mono HB.out.size)); clear hb) | (go_at_call 29; refine (eq_descr xx x8 rs0 yx y8 _ hlen HS.out Hx.out.rd H8.out.rd).mono ?_; rintro e u9 ⟨rfl, hb⟩; replace HX := Lib.hid (HX.out.below hb); replace Vw := Lib.hid (Vw.out.below hb); replace Hx := Lib.hid (Hx.out.below hb); replace Vx := Lib.hid (Vx.out.below hb); replace Bx := Lib.hid (Bx.out.below hb); replace Hg := Lib.hid (Hg.out.below hb); replace Vg := Lib.hid (Vg.out.below hb); replace HW := Lib.hid (HW.out.below hb (fun _ _ h => h)); replace HB := Lib.hid (HB.out.trans (hb.mono HB.out.size)); clear hb))
  clear H8
  go_wp2_with fail
  refine (to_any ab bs cb _ (by omega) (HA2.out.below HB.out)).mono ?_
  rintro e u1 ⟨zq, tq, rfl, hrow, hb⟩
  have Bq := Lib.hid hrow
  clear hrow
  replace HX := Lib.hid (HX.out.below hb)
  replace Vw := Lib.hid (Vw.out.below hb)
  replace Hx := Lib.hid (Hx.out.below hb)
  replace Vx := Lib.hid (Vx.out.below hb)
  replace Bx := Lib.hid (Bx.out.below hb)
  replace Hg := Lib.hid (Hg.out.below hb)
  replace Vg := Lib.hid (Vg.out.below hb)
  replace HW := Lib.hid (HW.out.below hb (fun _ _ h => h))
  replace HB := Lib.hid (HB.out.trans (hb.mono HB.out.size))
  clear hb
  go_wp2_with fail
  refine (eq_any zx zq bs bs tx tq _ (by omega) Bx.out.rd Bq.out.rd).mono ?_
  rintro e u2 ⟨rfl, nq, hq9⟩
  rw [decide_eq_true (rfl : bs = bs)]
  have hb : Below u1.heap.size u1 u2 := by subst hq9; exact below_drewN (Below.refl _ _) nq
  replace HX := Lib.hid (HX.out.below hb)
  replace Vw := Lib.hid (Vw.out.below hb)
  replace Hx := Lib.hid (Hx.out.below hb)
  replace Vx := Lib.hid (Vx.out.below hb)
  replace Bx := Lib.hid (Bx.out.below hb)
  replace Hg := Lib.hid (Hg.out.below hb)
  replace Vg := Lib.hid (Vg.out.below hb)
  replace Bq := Lib.hid (Bq.out.below hb)
  replace HW := Lib.hid (HW.out.below hb (fun _ _ h => h))
  replace HB := Lib.hid (HB.out.trans (hb.mono HB.out.size))
  clear hb
  clear hq9 Bq
  have hnX := Lib.hid (cell_lt (HX.out 0 _ rfl).1)
  have b0 := (Vx.out 0 _ rfl).1
  go_wp2_with fail
  refine (mark_descr _ _ xx rs0 yx 1 _ hlen HS.out (by omega) HK1.out Hx.out).mono ?_
  rintro e u3 ⟨rfl, L, -, -, ha0⟩
  rw [← HT.out]
  clear b0
  obtain ⟨bl, hbl, ha⟩ := ko_apart ha0
  clear ha0
  have e1 := hnw.out
  have e2 := hs5.out
  have e3 := hnx.out
  have e4 := hs6.out
  have e5 := hs7.out
  have e6 := hng.out
  have e7 := HWX.out
  replace HX := Lib.hid (ko_cells HX.out ha fun hm => by have := hbl _ hm; omega)
  replace Vw := Lib.hid (ko_cells Vw.out ha fun hm => by have := hbl _ hm; omega)
  replace Vg := Lib.hid (ko_cells Vg.out ha fun hm => by have := hbl _ hm; omega)
  replace HW := Lib.hid (HW.out.keep ha fun b hb hm => by have := hbl _ hm; omega)
  replace Bx := Lib.hid (ko_row Bx.out ha fun b off e0 hn hm => by have h1 := hbl _ hm; have h2 := KX.out b off e0 hn; omega)
  replace Hg := Lib.hid (Hg.out.keep ha fun b hb hm => by have h1 := hbl _ hm; have h2 := KG.out _ hb; omega)
  replace HB := Lib.hid (Only.below HB.out ha HB.out.size fun b hm => by have := hbl _ hm; omega)
  clear ha hbl
  clear Hx Vx
  go_wp2_with fail
  refine (mark_any _ zx bs tx T _ (by omega) (by omega) Bx.out).mono ?_
  rintro e u4 ⟨rfl, -, ht⟩
  rw [← HT2.out]
  obtain ⟨bl, hbl, ha⟩ := ko_touch ht (K := v6.heap.size) (fun b off e0 hn => (KX.out b off e0 hn).2)
  clear ht
  replace HX := Lib.hid (ko_cells HX.out ha fun hm => by have := hbl _ hm; omega)
  replace Vw := Lib.hid (ko_cells Vw.out ha fun hm => by have := hbl _ hm; omega)
  replace Vg := Lib.hid (ko_cells Vg.out ha fun hm => by have := hbl _ hm; omega)
  replace HW := Lib.hid (HW.out.keep ha fun b hb hm => by have := hbl _ hm; omega)
  replace Hg := Lib.hid (Hg.out.keep ha fun b hb hm => by have h1 := hbl _ hm; have h2 := KG.out _ hb; omega)
  replace HB := Lib.hid (Only.below HB.out ha HB.out.size fun b hm => by have := hbl _ hm; omega)
  clear ha hbl
  clear Bx
  have d0 := (Vg.out 0 _ rfl).1
  have d1 := (Vg.out 1 _ rfl).1
  have d2 := (Vg.out 2 _ rfl).1
  have t0 := (Vw.out 0 _ rfl).1
  have t1 := (Vw.out 1 _ rfl).1
  have t2 := (Vw.out 2 _ rfl).1
  go_wp2_with fail
  refine (eq_value _ (rs0.length + 1) v _ _ _ Hg.out.is HW.out.is HSV.out).mono ?_
  rintro e u5 ⟨rfl, hb⟩
  clear d0 d1 d2
  clear t0 t1 t2
  replace HX := Lib.hid (HX.out.below hb)
  replace Vw := Lib.hid (Vw.out.below hb)
  replace Hg := Lib.hid (Hg.out.below hb)
  replace Vg := Lib.hid (Vg.out.below hb)
  replace HW := Lib.hid (HW.out.below hb (fun _ _ h => h))
  replace HB := Lib.hid (HB.out.trans (hb.mono HB.out.size))
  clear hb
  go_upto_region 23 with fail
  have d0 := (Vg.out 0 _ rfl).1
  have d1 := (Vg.out 1 _ rfl).1
  have d2 := (Vg.out 2 _ rfl).1
  go_wp2_with fail
  refine (mark_value _ blg v _ 1 _ Hg.out HSV.out HK.out).mono ?_
  rintro e u6 ⟨rfl, hm0, ha⟩
  rw [← HM.out]
  have HMK := Lib.hid hm0
  clear d0 d1 d2
  have hbl := KG.out
  replace HX := Lib.hid (ko_cells HX.out ha fun hm => by have := hbl _ hm; omega)
  replace Vw := Lib.hid (ko_cells Vw.out ha fun hm => by have := hbl _ hm; omega)
  replace Vg := Lib.hid (ko_cells Vg.out ha fun hm => by have := hbl _ hm; omega)
  replace HW := Lib.hid (HW.out.keep ha fun b hb hm => by have := hbl _ hm; omega)
  replace HB := Lib.hid (Only.below HB.out ha HB.out.size fun b hm => by have := hbl _ hm; omega)
  clear ha hbl
  clear Hg hm0
  have d0 := (Vg.out 0 _ rfl).1
  have d1 := (Vg.out 1 _ rfl).1
  have d2 := (Vg.out 2 _ rfl).1
  go_wp2_with fail
  refine (held_value _ v _ 1 _ HMK.out.is HSV.out HK.out).mono ?_
  rintro e u7 ⟨rfl, hb⟩
  rw [← HM.out]
  clear d0 d1 d2
  replace HX := Lib.hid (HX.out.below hb)
  replace Vw := Lib.hid (Vw.out.below hb)
  replace Vg := Lib.hid (Vg.out.below hb)
  replace HMK := Lib.hid (HMK.out.below hb)
  replace HW := Lib.hid (HW.out.below hb (fun _ _ h => h))
  replace HB := Lib.hid (HB.out.trans (hb.mono HB.out.size))
  clear hb
  have e0 : ((M : Int) != (M : Int)) = false := by simp
  clear e1 e2 e3 e4 e5 e6 e7
  have b0 := (HX.out 0 _ rfl).1
  go_wp2_with fail
  refine (to_descr a0 rs0 cap0 _ hlen HS.out (HR0.out.below HB.out)).mono ?_
  rintro e u8 ⟨xh, yh, rfl, ho, hb⟩
  have Hh := Lib.hid ho
  clear b0
  clear ho
  replace HX := Lib.hid (HX.out.below hb)
  replace Vw := Lib.hid (Vw.out.below hb)
  replace Vg := Lib.hid (Vg.out.below hb)
  replace HMK := Lib.hid (HMK.out.below hb)
  replace HW := Lib.hid (HW.out.below hb (fun _ _ h => h))
  replace HB := Lib.hid (HB.out.trans (hb.mono HB.out.size))
  clear hb
  go_wp2_with fail
  refine (to_any ab bs cb _ (by omega) (HA2.out.below HB.out)).mono ?_
  rintro e u9 ⟨zh, th, rfl, hrow, hb⟩
  have Bh := Lib.hid hrow
  clear hrow
  replace HX := Lib.hid (HX.out.below hb)
  replace Vw := Lib.hid (Vw.out.below hb)
  replace Vg := Lib.hid (Vg.out.below hb)
  replace HMK := Lib.hid (HMK.out.below hb)
  replace Hh := Lib.hid (Hh.out.below hb)
  replace HW := Lib.hid (HW.out.below hb (fun _ _ h => h))
  replace HB := Lib.hid (HB.out.trans (hb.mono HB.out.size))
  clear hb
  go_wp2_with fail
  refine (HIM.out _ _ _ _ _ Hh.out.rdc Bh.out.srcB (HG.out.below HB.out)).mono ?_
  rintro e y1 ⟨blc, cs9, rfl, ho, -, hb⟩
  have Hc := Lib.hid ho
  obtain ⟨a1c, c1c, a2c, c2c, rfl⟩ := ho.cells
  clear ho
  replace HX := Lib.hid (HX.out.below hb)
  replace Vw := Lib.hid (Vw.out.below hb)
  replace Vg := Lib.hid (Vg.out.below hb)
  replace HMK := Lib.hid (HMK.out.below hb)
  replace Hh := Lib.hid (Hh.out.below hb)
  replace Bh := Lib.hid (Bh.out.below hb)
  replace HW := Lib.hid (HW.out.below hb (fun _ _ h => h))
  replace HB := Lib.hid (HB.out.trans (hb.mono HB.out.size))
  clear hb
  clear Hh Bh
  obtain ⟨zc, hzc⟩ : ∃ z, z = y1.alloc (.cells #[.int .i64 v.number, .slice a1c v.bytes.length c1c, .slice a2c v.items.length c2c] 29) := ⟨_, rfl⟩
  have hb : Below y1.heap.size y1 zc := by subst hzc; exact (Below.refl _ _).alloc (Nat.le_refl _) _
  have hT : CellsAt y1.heap.size [.int .i64 v.number, .slice a1c v.bytes.length c1c, .slice a2c v.items.length c2c] zc := by subst hzc; exact CellsAt.new y1 _ _
  have Vc := Lib.hid hT
  have hnc : Hid (zc.heap.size = y1.heap.size + 1) := by subst hzc; exact World.size_alloc _ _
  have HZ := Lib.hid hzc
  clear hT hzc
  replace HX := Lib.hid (HX.out.below hb)
  replace Vw := Lib.hid (Vw.out.below hb)
  replace Vg := Lib.hid (Vg.out.below hb)
  replace HMK := Lib.hid (HMK.out.below hb)
  replace Hc := Lib.hid (Hc.out.below hb)
  replace HW := Lib.hid (HW.out.below hb (fun _ _ h => h))
  replace HB := Lib.hid (HB.out.trans (hb.mono HB.out.size))
  clear hb
  go_upto_region 31 with fail
  rw [← HZ.out]
  clear HZ
  have d0 := (Vc.out 0 _ rfl).1
  have d1 := (Vc.out 1 _ rfl).1
  have d2 := (Vc.out 2 _ rfl).1
  have t0 := (Vw.out 0 _ rfl).1
  have t1 := (Vw.out 1 _ rfl).1
  have t2 := (Vw.out 2 _ rfl).1
  go_wp2_with fail
  refine (eq_value _ (rs0.length + 1) v _ _ _ Hc.out.is HW.out.is HSV.out).mono ?_
  rintro e y2 ⟨rfl, hb⟩
  clear d0 d1 d2
  clear t0 t1 t2
  replace HX := Lib.hid (HX.out.below hb)
  replace Vw := Lib.hid (Vw.out.below hb)
  replace Vg := Lib.hid (Vg.out.below hb)
  replace HMK := Lib.hid (HMK.out.below hb)
  replace Hc := Lib.hid (Hc.out.below hb)
  replace Vc := Lib.hid (Vc.out.below hb)
  replace HW := Lib.hid (HW.out.below hb (fun _ _ h => h))
  replace HB := Lib.hid (HB.out.trans (hb.mono HB.out.size))
  clear hb
  have d0 := (Vg.out 0 _ rfl).1
  have d1 := (Vg.out 1 _ rfl).1
  have d2 := (Vg.out 2 _ rfl).1
  go_wp2_with fail
  refine (held_value _ v _ 1 _ HMK.out.is HSV.out HK.out).mono ?_
  rintro e y3 ⟨rfl, hb⟩
  rw [← HM.out]
  clear d0 d1 d2
  replace HX := Lib.hid (HX.out.below hb)
  replace Vw := Lib.hid (Vw.out.below hb)
  replace Vg := Lib.hid (Vg.out.below hb)
  replace HMK := Lib.hid (HMK.out.below hb)
  replace Hc := Lib.hid (Hc.out.below hb)
  replace Vc := Lib.hid (Vc.out.below hb)
  replace HW := Lib.hid (HW.out.below hb (fun _ _ h => h))
  replace HB := Lib.hid (HB.out.trans (hb.mono HB.out.size))
  clear hb
  try go_wp2
  go_ret
  exact ⟨rfl, HB.out⟩
theorem walk (a0 : Option Addr) (rs0 : List RuleV) (cap0 : Nat) (n1 : Int) (ab : Option Addr) (bs : List UInt8) (cb : Nat) (n3 : Int) (w : World) (r0 : ArgD a0 rs0 cap0 w) (_ : I64 n1) (r2 : Arg ab bs cb w) (_ : I64 n3) (hg : HandleAt w) :
    Calls Tryz.prog 7 #[.agg #[.slice a0 rs0.length cap0], .int .i64 n1, .slice ab bs.length cb, .int .i64 n3] w fun e w' => e = .returned (.bool true) ∧ Below w.heap.size w w' := by
  by_cases hb : 1048576 < bs.length
  · exact walk_big a0 rs0 cap0 n1 ab bs cb n3 w hb
  by_cases h : 1048576 < sizeR rs0
  · exact walk_large a0 rs0 cap0 n1 ab bs cb n3 w r0 r2 hg (by omega) h
  exact walk_short a0 rs0 cap0 n1 ab bs cb n3 w r0 r2 hg (by omega) (by omega)
theorem door_met (os : Os) (args : Array Value) : laidMetH Tryz.prog Rows.fnExactReadValueRow.laid ((World.doorLaid Tryz.prog 400 os).forCall (fun _ _ => 0) ⟨#[], args, []⟩).memory := handle_met os args
theorem of_laid {W : World} (h : laidMetH Tryz.prog Rows.fnExactReadValueRow.laid W) : HandleAt W := handle_of_laid h
set_option maxRecDepth 100000 in
theorem lifted (os : Os) (started : os.Started) (H : Type) (enc : TypeId × Value → H) :
    ReturnsInHanded {} Tryz.checked os 7 .any (fun w args => (Rows.fnExactReadValueSpec.pre enc Tryz.prog Tryz.f7 [] false w args ∧ laidMetH Tryz.prog Rows.fnExactReadValueRow.laid w) ∧ sizedMet enc Tryz.prog Tryz.f7 (OpenSpec.ofChange Rows.fnExactReadValueSpec) false w args)
      (Rows.fnExactReadValueSpec.post enc Tryz.prog Tryz.f7 false true false false) := by
  refine returnsInHanded_of_change_and (C := Tryz.checked) (X := fun w _ => laidMetH Tryz.prog Rows.fnExactReadValueRow.laid w) (fun _ _ _ hh h => h.of_heap hh) ownL started (by kernel_rfl) Tryz.func7
    (ChangeSpec.witness_shaped (enc := enc) (C := Tryz.checked) (os := os) (X := fun w _ => laidMetH Tryz.prog Rows.fnExactReadValueRow.laid w) false (World.doorLaid Tryz.prog 400 os) #[.agg #[.slice none 0 0], .int .i64 0, .slice none 0 0, .int .i64 0] 8 rfl (World.shaped_of_RefB (by kernel_rfl) (by kernel_rfl)) (by kernel_rfl) (by kernel_rfl) (by kernel_rfl) (door_met os _)) ?_
  intro W base args ds gs before hval0 hW _ _ hL _
  have hval : ∀ (j : Nat) t v, Tryz.f7.params[j]? = some t → args[j]? = some v → Value.okWide Tryz.prog W .any base t v := hval0
  have hW' := hW
  obtain ⟨p, q, hA0, hV, rfl, hfz, hnd⟩ := hW
  have hA : DataW.TrodAll enc Tryz.prog W 0 (fun _ => true) true Tryz.f7.params.toList args.toList ds p := hA0
  rw [Tryz.params7] at hA hval
  obtain ⟨v0, vs0, d0, ds0, p0, q0, hargs, rfl, rfl, h0, r0⟩ := trodAll_cons hA
  obtain ⟨v1, vs1, d1, ds1, p1, q1, rfl, rfl, rfl, h1, r1⟩ := trodAll_cons r0
  obtain ⟨v2, vs2, d2, ds2, p2, q2, rfl, rfl, rfl, h2, r2⟩ := trodAll_cons r1
  obtain ⟨v3, vs3, d3, ds3, p3, q3, rfl, rfl, rfl, h3, r3⟩ := trodAll_cons r2
  obtain ⟨rfl, rfl, rfl⟩ := trodAll_nil r3
  obtain rfl : args = #[v0, v1, v2, v3] := by cases args; simp_all
  obtain ⟨rfl, rfl⟩ := trodVars_none hV
  simp only [List.append_nil] at hW'
  have hlt : ∀ x ∈ p0 ++ p1 ++ p2 ++ p3, x.block < W.heap.size := fun x hx => hW'.lt x (by simpa using hx)
  obtain ⟨a0, rs0, cap0, rfl, hb0⟩ := descr_arg (hval 0 55 v0 rfl rfl) h0
  have m0 : ∀ (W' : World), Below W.heap.size W W' → DataW.Trod enc Tryz.prog W' 0 (fun b => decide (b < W.heap.size)) true 55 (.agg #[.slice a0 rs0.length cap0]) d0 p0 := fun W' hn => Below.trod laidOut (by kernel_rfl) (of_decide_eq_true (by kernel_rfl)) h0 hn (fun x hx => hlt x (by simp [hx]))
  obtain ⟨n1, rfl, rfl, rfl, w1⟩ := open_int Tryz.underlying3 (hval 1 3 v1 rfl rfl) h1
  obtain ⟨a2, len2, cap2, rfl⟩ := okWide_slice Tryz.underlying22 (hval 2 22 v2 rfl rfl)
  obtain ⟨bs2, rfl, hb2⟩ := bytes_arg h2
  have m2 : ∀ (W' : World), Below W.heap.size W W' → DataW.Trod enc Tryz.prog W' 0 (fun b => decide (b < W.heap.size)) true 22 (.slice a2 bs2.length cap2) d2 p2 := fun W' hn => Below.trod laidOut (by kernel_rfl) (of_decide_eq_true (by kernel_rfl)) h2 hn (fun x hx => hlt x (by simp [hx]))
  obtain ⟨n3, rfl, rfl, rfl, w3⟩ := open_int Tryz.underlying3 (hval 3 3 v3 rfl rfl) h3
  have hT := of_laid hL
  clear hA0 hval0
  refine (walk a0 rs0 cap0 n1 a2 bs2 cap2 n3 W hb0 (i64_arg w1) hb2 (i64_arg w3) hT).mono fun e W' ⟨he, hb⟩ => ?_
  subst he
  exact ⟨_, rfl, _, _, _, [], _, [], hW', trodAll_cons_mk (shut_bool Tryz.underlying4 _) trodAll_mk0, (trodAll_cons_mk (m0 _ hb) (trodAll_cons_mk (shut_int Tryz.underlying3 w1) (trodAll_cons_mk (m2 _ hb) (trodAll_cons_mk (shut_int Tryz.underlying3 w3) trodAll_mk0)))), rfl, hb.frame _, fun h => by cases h⟩
theorem row_holds : Rows.FnExactReadValueSaid :=
  OpenClaim.holds_of_wide 7 Tryz.f7 rfl rfl rfl rfl rfl rfl rfl ⟨rfl, rfl, rfl, rfl, rfl⟩ rfl rfl rfl rfl rfl (by kernel_rfl) Tryz.func7 (by kernel_rfl)
    (of_decide_eq_true (by kernel_rfl)) (by unfold Func.isWrapper; first | (rw [if_pos (by decide +kernel)]; kernel_rfl) | (rw [if_neg (by decide +kernel)]; exact ⟨rfl, rfl⟩))
    (fun os started H enc _ => lifted os started H enc)
/-- THE STATEMENT -/
theorem proved : Rows.FnExactReadValueCardSaid :=
  Claim7.holds_tied_plain_at .later [] [.handle] true Rows.fnExactReadValueCard.stood.harness Rows.fnExactReadValueCard.stood.looks
    row_holds (fun _ h => by cases h) (by kernel_rfl) (fun _ h => by cases h) fnExactReadValue_row_tie rfl ⟨rfl, rfl⟩ (by kernel_rfl) rfl
    (fun f fn hf hfn => by
      obtain rfl : f = 7 := Option.some.inj ((show Tryz.prog.funcNamed Rows.fnExactReadValueRow.func = some 7 by kernel_rfl).symm.trans hf) |>.symm
      obtain rfl : fn = Tryz.f7 := (Option.some.inj (Tryz.func7.symm.trans hfn)).symm
      exact ⟨by kernel_rfl, fun j t ht => by
        rw [Tryz.params7] at ht
        have hm : t ∈ [55, 3, 22, 3] := by simpa using Array.mem_of_getElem? ht
        have hall : ([55, 3, 22, 3].all fun u => !Tryz.prog.wantsStandIn u) = true := by kernel_rfl
        exact (show Tryz.prog.wantsStandIn t = false by simpa using List.all_eq_true.1 hall t hm)⟩)
    (by kernel_rfl)
end fnExactReadValue
#print axioms fnExactReadValue.proved
end Go.Proofs.YtdccjobgfjoflaaGreatDoor
