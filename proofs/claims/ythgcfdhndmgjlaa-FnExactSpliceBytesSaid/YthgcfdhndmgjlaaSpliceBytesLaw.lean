/- It is proved that the law FnExactSpliceBytes returns true at every input of its parameter types and leaves its arguments as they were (statement Rows.FnExactSpliceBytesSaid), with no condition. -/
import Derived.Test.YthgcfdhndmgjlaaParseHex
import Derived.Test.YthgcfdhndmgjlaaSplice
import Derived.Test.YthgcfdhndmgjlaaBytesImpl
import Derived.Test.YthgcfdhndmgjlaaArg
namespace Go.Proofs.Ythgcfdhndmgjlaa
open Go Go.ChangeShapes Go.WideShapes Go.ChangeAt Go.RowKit
namespace fnExactSpliceBytes
theorem walk_long0 (a0 : Option Addr) (bs0 : List UInt8) (cap0 : Nat) (n1 : Int) (n2 : Int) (a3 : Option Addr) (bs3 : List UInt8) (cap3 : Nat) (w : World) (h : 1048576 < bs0.length) (hm : bs0.length ≤ 9223372036854775807) :
    Calls Try.prog 13 #[.slice a0 bs0.length cap0, .int .i64 n1, .int .i64 n2, .slice a3 bs3.length cap3] w fun e w' => e = .returned (.bool true) ∧ Below w.heap.size w w' := by
  have g : (1048576 : Int) < (bs0.length : Int) := by omega
  go_enter Try.func13, Try.ntmps13
  go_wp2
  go_ret
  exact ⟨rfl, Below.refl _ _⟩
theorem walk_long3 (a0 : Option Addr) (bs0 : List UInt8) (cap0 : Nat) (n1 : Int) (n2 : Int) (a3 : Option Addr) (bs3 : List UInt8) (cap3 : Nat) (w : World) (h0 : bs0.length ≤ 1048576) (h : 1048576 < bs3.length) (hm : bs3.length ≤ 9223372036854775807) :
    Calls Try.prog 13 #[.slice a0 bs0.length cap0, .int .i64 n1, .int .i64 n2, .slice a3 bs3.length cap3] w fun e w' => e = .returned (.bool true) ∧ Below w.heap.size w w' := by
  have g0 : ¬ (1048576 : Int) < (bs0.length : Int) := by omega
  have g : (1048576 : Int) < (bs3.length : Int) := by omega
  go_enter Try.func13, Try.ntmps13
  go_wp2
  go_ret
  exact ⟨rfl, Below.refl _ _⟩
set_option maxRecDepth 100000 in
set_option maxHeartbeats 2000000 in
theorem walk_short (a0 : Option Addr) (bs0 : List UInt8) (cap0 : Nat) (n1 : Int) (n2 : Int) (a3 : Option Addr) (bs3 : List UInt8) (cap3 : Nat) (w : World) (h0 : bs0.length ≤ 1048576) (h3 : bs3.length ≤ 1048576) (r0 : Arg a0 bs0 cap0 w) (r3 : Arg a3 bs3 cap3 w) (i1 : I64 n1) (i2 : I64 n2) :
    Calls Try.prog 13 #[.slice a0 bs0.length cap0, .int .i64 n1, .int .i64 n2, .slice a3 bs3.length cap3] w fun e w' => e = .returned (.bool true) ∧ Below w.heap.size w w' := by
  have g0 : ¬ (1048576 : Int) < (bs0.length : Int) := by omega
  have g3 : ¬ (1048576 : Int) < (bs3.length : Int) := by omega
  have HA0 := Lib.hid r0
  clear r0
  have HI1 := Lib.hid i1
  clear i1
  have HI2 := Lib.hid i2
  clear i2
  have HA3 := Lib.hid r3
  clear r3
  go_enter Try.func13, Try.ntmps13
  go_wp2_with fail
  refine (to_any a0 bs0 cap0 _ (by omega) HA0.out.1).mono ?_
  rintro e w1 ⟨xs0, cs0, rfl, hf1, hb1⟩
  have Qs0 : Hid (w.heap.size ≤ (w).heap.size) := Nat.le_refl _
  have HB0 := Lib.hid hb1
  have Hs0 := Lib.hid hf1
  clear hf1 hb1
  go_wp2_with fail
  refine (to_any a3 bs3 cap3 _ (by omega) (HA3.out.1.below HB0.out)).mono ?_
  rintro e w2 ⟨xs3, cs3, rfl, hf2, hb2⟩
  have Qs3 : Hid (w.heap.size ≤ (w1).heap.size) := HB0.out.size
  have Os0_s3 := Lib.hid Hs0.out.old
  have Ls0 := Lib.hid (Hs0.out.below hb2)
  clear Hs0
  have Hs0 := Lib.hid Ls0.out
  clear Ls0
  have HB2 := Lib.hid (HB0.out.trans (hb2.mono HB0.out.size))
  clear HB0
  have Hs3 := Lib.hid hf2
  clear hf2 hb2
  go_wp2_with fail
  refine (splice_spec xs0 bs0 cs0 n1 n2 xs3 bs3 cs3 _ (by omega) (by omega) HI1.out HI2.out Hs0.out.2.1 Hs0.out.src Hs3.out.src).mono ?_
  rintro e w3 ⟨xws, cws, rfl, hf3, hb3⟩
  have Qws : Hid (w.heap.size ≤ (w2).heap.size) := HB2.out.size
  have Os0_ws := Lib.hid Hs0.out.old
  have Os3_ws := Lib.hid Hs3.out.old
  have Ls0 := Lib.hid (Hs0.out.below hb3)
  clear Hs0
  have Hs0 := Lib.hid Ls0.out
  clear Ls0
  have Ls3 := Lib.hid (Hs3.out.below hb3)
  clear Hs3
  have Hs3 := Lib.hid Ls3.out
  clear Ls3
  have HB3 := Lib.hid (HB2.out.trans (hb3.mono HB2.out.size))
  clear HB2
  have Hws := Lib.hid hf3
  clear hf3 hb3
  go_wp2_with fail
  refine (to_any a0 bs0 cap0 _ (by omega) (HA0.out.1.below HB3.out)).mono ?_
  rintro e w4 ⟨xy0, cy0, rfl, hf4, hb4⟩
  have Qy0 : Hid (w.heap.size ≤ (w3).heap.size) := HB3.out.size
  have Ows_y0 := Lib.hid Hws.out.old
  have Lws := Lib.hid (Hws.out.below hb4)
  clear Hws
  have Hws := Lib.hid Lws.out
  clear Lws
  have HB4 := Lib.hid (HB3.out.trans (hb4.mono HB3.out.size))
  clear HB3
  have Hy0 := Lib.hid hf4
  clear hf4 hb4
  go_wp2_with fail
  refine (to_any a3 bs3 cap3 _ (by omega) (HA3.out.1.below HB4.out)).mono ?_
  rintro e w5 ⟨xy3, cy3, rfl, hf5, hb5⟩
  have Qy3 : Hid (w.heap.size ≤ (w4).heap.size) := HB4.out.size
  have Ows_y3 := Lib.hid Hws.out.old
  have Oy0_y3 := Lib.hid Hy0.out.old
  have Lws := Lib.hid (Hws.out.below hb5)
  clear Hws
  have Hws := Lib.hid Lws.out
  clear Lws
  have Ly0 := Lib.hid (Hy0.out.below hb5)
  clear Hy0
  have Hy0 := Lib.hid Ly0.out
  clear Ly0
  have HB5 := Lib.hid (HB4.out.trans (hb5.mono HB4.out.size))
  clear HB4
  have Hy3 := Lib.hid hf5
  clear hf5 hb5
  go_wp2_with fail
  refine (splice_impl xy0 bs0 cy0 n1 n2 xy3 bs3 cy3 _ (by omega) (by omega) HI1.out HI2.out Hy0.out.2.1 Hy0.out.src Hy3.out.src).mono ?_
  rintro e w6 ⟨xgs, cgs, rfl, hf6, hb6⟩
  have Qgs : Hid (w.heap.size ≤ (w5).heap.size) := HB5.out.size
  have Ows_gs := Lib.hid Hws.out.old
  have Oy0_gs := Lib.hid Hy0.out.old
  have Oy3_gs := Lib.hid Hy3.out.old
  have Lws := Lib.hid (Hws.out.below hb6)
  clear Hws
  have Hws := Lib.hid Lws.out
  clear Lws
  have Ly0 := Lib.hid (Hy0.out.below hb6)
  clear Hy0
  have Hy0 := Lib.hid Ly0.out
  clear Ly0
  have Ly3 := Lib.hid (Hy3.out.below hb6)
  clear Hy3
  have Hy3 := Lib.hid Ly3.out
  clear Ly3
  have HB6 := Lib.hid (HB5.out.trans (hb6.mono HB5.out.size))
  clear HB5
  have Hgs := Lib.hid hf6
  clear hf6 hb6
  go_wp2_with fail
  refine (eq_any xgs xws (spliceB bs0 n1 n2 bs3) (spliceB bs0 n1 n2 bs3) cgs cws _ (by have := spliceB_length bs0 n1 n2 bs3 (by omega) (by omega); omega) Hgs.out.rd Hws.out.rd).mono ?_
  rintro e w7 ⟨rfl, n7', rfl⟩
  have hb7 : Below (w6).heap.size (w6) ((w6).drewN n7') := below_drewN (Below.refl _ _) n7'
  have Lws := Lib.hid (Hws.out.below hb7)
  clear Hws
  have Hws := Lib.hid Lws.out
  clear Lws
  have Ly0 := Lib.hid (Hy0.out.below hb7)
  clear Hy0
  have Hy0 := Lib.hid Ly0.out
  clear Ly0
  have Ly3 := Lib.hid (Hy3.out.below hb7)
  clear Hy3
  have Hy3 := Lib.hid Ly3.out
  clear Ly3
  have Lgs := Lib.hid (Hgs.out.below hb7)
  clear Hgs
  have Hgs := Lib.hid Lgs.out
  clear Lgs
  have HB7 := Lib.hid (HB6.out.trans (hb7.mono HB6.out.size))
  clear HB6
  clear hb7
  have hd7 : decide (spliceB bs0 n1 n2 bs3 = spliceB bs0 n1 n2 bs3) = true := by simp
  go_wp2_with fail
  refine (to_any a0 bs0 cap0 _ (by omega) (HA0.out.1.below HB7.out)).mono ?_
  rintro e w8 ⟨xt0, ct0, rfl, hf8, hb8⟩
  have Qt0 : Hid (w.heap.size ≤ ((w6).drewN n7').heap.size) := HB7.out.size
  have Ows_t0 := Lib.hid Hws.out.old
  have Oy0_t0 := Lib.hid Hy0.out.old
  have Oy3_t0 := Lib.hid Hy3.out.old
  have Ogs_t0 := Lib.hid Hgs.out.old
  have Lws := Lib.hid (Hws.out.below hb8)
  clear Hws
  have Hws := Lib.hid Lws.out
  clear Lws
  have Ly0 := Lib.hid (Hy0.out.below hb8)
  clear Hy0
  have Hy0 := Lib.hid Ly0.out
  clear Ly0
  have Ly3 := Lib.hid (Hy3.out.below hb8)
  clear Hy3
  have Hy3 := Lib.hid Ly3.out
  clear Ly3
  have Lgs := Lib.hid (Hgs.out.below hb8)
  clear Hgs
  have Hgs := Lib.hid Lgs.out
  clear Lgs
  have HB8 := Lib.hid (HB7.out.trans (hb8.mono HB7.out.size))
  clear HB7
  have Ht0 := Lib.hid hf8
  clear hf8 hb8
  go_wp2_with fail
  refine (eq_any xy0 xt0 (bs0) (bs0) cy0 ct0 _ (by have := spliceB_length bs0 n1 n2 bs3 (by omega) (by omega); omega) Hy0.out.rd Ht0.out.rd).mono ?_
  rintro e w9 ⟨rfl, n9', rfl⟩
  have hb9 : Below (w8).heap.size (w8) ((w8).drewN n9') := below_drewN (Below.refl _ _) n9'
  have Lws := Lib.hid (Hws.out.below hb9)
  clear Hws
  have Hws := Lib.hid Lws.out
  clear Lws
  have Ly0 := Lib.hid (Hy0.out.below hb9)
  clear Hy0
  have Hy0 := Lib.hid Ly0.out
  clear Ly0
  have Ly3 := Lib.hid (Hy3.out.below hb9)
  clear Hy3
  have Hy3 := Lib.hid Ly3.out
  clear Ly3
  have Lgs := Lib.hid (Hgs.out.below hb9)
  clear Hgs
  have Hgs := Lib.hid Lgs.out
  clear Lgs
  have Lt0 := Lib.hid (Ht0.out.below hb9)
  clear Ht0
  have Ht0 := Lib.hid Lt0.out
  clear Lt0
  have HB9 := Lib.hid (HB8.out.trans (hb9.mono HB8.out.size))
  clear HB8
  clear hb9
  have hd9 : decide (bs0 = bs0) = true := by simp
  go_wp2_with fail
  refine (to_any a3 bs3 cap3 _ (by omega) (HA3.out.1.below HB9.out)).mono ?_
  rintro e w10 ⟨xt3, ct3, rfl, hf10, hb10⟩
  have Qt3 : Hid (w.heap.size ≤ ((w8).drewN n9').heap.size) := HB9.out.size
  have Ows_t3 := Lib.hid Hws.out.old
  have Oy0_t3 := Lib.hid Hy0.out.old
  have Oy3_t3 := Lib.hid Hy3.out.old
  have Ogs_t3 := Lib.hid Hgs.out.old
  have Lws := Lib.hid (Hws.out.below hb10)
  clear Hws
  have Hws := Lib.hid Lws.out
  clear Lws
  have Ly0 := Lib.hid (Hy0.out.below hb10)
  clear Hy0
  have Hy0 := Lib.hid Ly0.out
  clear Ly0
  have Ly3 := Lib.hid (Hy3.out.below hb10)
  clear Hy3
  have Hy3 := Lib.hid Ly3.out
  clear Ly3
  have Lgs := Lib.hid (Hgs.out.below hb10)
  clear Hgs
  have Hgs := Lib.hid Lgs.out
  clear Lgs
  have HB10 := Lib.hid (HB9.out.trans (hb10.mono HB9.out.size))
  clear HB9
  have Ht3 := Lib.hid hf10
  clear hf10 hb10
  go_wp2_with fail
  refine (eq_any xy3 xt3 (bs3) (bs3) cy3 ct3 _ (by have := spliceB_length bs0 n1 n2 bs3 (by omega) (by omega); omega) Hy3.out.rd Ht3.out.rd).mono ?_
  rintro e w11 ⟨rfl, n11', rfl⟩
  have hb11 : Below (w10).heap.size (w10) ((w10).drewN n11') := below_drewN (Below.refl _ _) n11'
  have Lws := Lib.hid (Hws.out.below hb11)
  clear Hws
  have Hws := Lib.hid Lws.out
  clear Lws
  have Ly0 := Lib.hid (Hy0.out.below hb11)
  clear Hy0
  have Hy0 := Lib.hid Ly0.out
  clear Ly0
  have Ly3 := Lib.hid (Hy3.out.below hb11)
  clear Hy3
  have Hy3 := Lib.hid Ly3.out
  clear Ly3
  have Lgs := Lib.hid (Hgs.out.below hb11)
  clear Hgs
  have Hgs := Lib.hid Lgs.out
  clear Lgs
  have Lt3 := Lib.hid (Ht3.out.below hb11)
  clear Ht3
  have Ht3 := Lib.hid Lt3.out
  clear Lt3
  have HB11 := Lib.hid (HB10.out.trans (hb11.mono HB10.out.size))
  clear HB10
  clear hb11
  have hd11 : decide (bs3 = bs3) = true := by simp
  go_wp2_with fail
  refine (mark_any (w3).heap.size xy0 (bs0) cy0 (1) _ (by have := spliceB_length bs0 n1 n2 bs3 (by omega) (by omega); omega) (by omega) Hy0.out).mono ?_
  rintro e w12 ⟨rfl, hf12, ht12⟩
  have Lws := Lib.hid (Hws.out.keepOld Ows_y0.out ht12)
  clear Hws
  have Hws := Lib.hid Lws.out
  clear Lws
  have Ly3 := Lib.hid (Hy3.out.keepNew Oy0_y3.out ht12)
  clear Hy3
  have Hy3 := Lib.hid Ly3.out
  clear Ly3
  have Lgs := Lib.hid (Hgs.out.keepNew Oy0_gs.out ht12)
  clear Hgs
  have Hgs := Lib.hid Lgs.out
  clear Lgs
  have HB12 := Lib.hid (ht12.below HB11.out HB11.out.size Qy0.out)
  clear HB11
  clear Hy0
  have Hy0 := Lib.hid hf12
  clear hf12 ht12
  go_wp2_with fail
  refine (mark_any (w4).heap.size xy3 (bs3) cy3 (1 + (bs0).length) _ (by have := spliceB_length bs0 n1 n2 bs3 (by omega) (by omega); omega) (by omega) Hy3.out).mono ?_
  rintro e w13 ⟨rfl, hf13, ht13⟩
  have Lws := Lib.hid (Hws.out.keepOld Ows_y3.out ht13)
  clear Hws
  have Hws := Lib.hid Lws.out
  clear Lws
  have Lgs := Lib.hid (Hgs.out.keepNew Oy3_gs.out ht13)
  clear Hgs
  have Hgs := Lib.hid Lgs.out
  clear Lgs
  have HB13 := Lib.hid (ht13.below HB12.out HB12.out.size Qy3.out)
  clear HB12
  clear Hy3
  have Hy3 := Lib.hid hf13
  clear hf13 ht13
  go_wp2_with fail
  refine (eq_any xgs xws (spliceB bs0 n1 n2 bs3) (spliceB bs0 n1 n2 bs3) cgs cws _ (by have := spliceB_length bs0 n1 n2 bs3 (by omega) (by omega); omega) Hgs.out.rd Hws.out.rd).mono ?_
  rintro e w14 ⟨rfl, n14', rfl⟩
  have hb14 : Below (w13).heap.size (w13) ((w13).drewN n14') := below_drewN (Below.refl _ _) n14'
  have Lws := Lib.hid (Hws.out.below hb14)
  clear Hws
  have Hws := Lib.hid Lws.out
  clear Lws
  have Lgs := Lib.hid (Hgs.out.below hb14)
  clear Hgs
  have Hgs := Lib.hid Lgs.out
  clear Lgs
  have HB14 := Lib.hid (HB13.out.trans (hb14.mono HB13.out.size))
  clear HB13
  clear hb14
  have hd14 : decide (spliceB bs0 n1 n2 bs3 = spliceB bs0 n1 n2 bs3) = true := by simp
  go_wp2_with fail
  refine (mark_any (w5).heap.size xgs (spliceB bs0 n1 n2 bs3) cgs (1) _ (by have := spliceB_length bs0 n1 n2 bs3 (by omega) (by omega); omega) (by omega) Hgs.out).mono ?_
  rintro e w15 ⟨rfl, hf15, ht15⟩
  have Lws := Lib.hid (Hws.out.keepOld Ows_gs.out ht15)
  clear Hws
  have Hws := Lib.hid Lws.out
  clear Lws
  have HB15 := Lib.hid (ht15.below HB14.out HB14.out.size Qgs.out)
  clear HB14
  clear Hgs
  have Hgs := Lib.hid hf15
  clear hf15 ht15
  go_wp2_with fail
  refine (held_any xgs (spliceB bs0 n1 n2 bs3).length cgs (1) _ (by have := spliceB_length bs0 n1 n2 bs3 (by omega) (by omega); omega) (by omega) Hgs.out.rd).mono ?_
  rintro e w16 ⟨rfl, rfl⟩
  go_wp2_with fail
  refine (to_any a0 bs0 cap0 _ (by omega) (HA0.out.1.below HB15.out)).mono ?_
  rintro e w17 ⟨xv0, cv0, rfl, hf17, hb17⟩
  have Qv0 : Hid (w.heap.size ≤ (w15).heap.size) := HB15.out.size
  have Ows_v0 := Lib.hid Hws.out.old
  have Ogs_v0 := Lib.hid Hgs.out.old
  have Lws := Lib.hid (Hws.out.below hb17)
  clear Hws
  have Hws := Lib.hid Lws.out
  clear Lws
  have Lgs := Lib.hid (Hgs.out.below hb17)
  clear Hgs
  have Hgs := Lib.hid Lgs.out
  clear Lgs
  have HB17 := Lib.hid (HB15.out.trans (hb17.mono HB15.out.size))
  clear HB15
  have Hv0 := Lib.hid hf17
  clear hf17 hb17
  go_wp2_with fail
  refine (to_any a3 bs3 cap3 _ (by omega) (HA3.out.1.below HB17.out)).mono ?_
  rintro e w18 ⟨xv3, cv3, rfl, hf18, hb18⟩
  have Qv3 : Hid (w.heap.size ≤ (w17).heap.size) := HB17.out.size
  have Ows_v3 := Lib.hid Hws.out.old
  have Ogs_v3 := Lib.hid Hgs.out.old
  have Ov0_v3 := Lib.hid Hv0.out.old
  have Lws := Lib.hid (Hws.out.below hb18)
  clear Hws
  have Hws := Lib.hid Lws.out
  clear Lws
  have Lgs := Lib.hid (Hgs.out.below hb18)
  clear Hgs
  have Hgs := Lib.hid Lgs.out
  clear Lgs
  have Lv0 := Lib.hid (Hv0.out.below hb18)
  clear Hv0
  have Hv0 := Lib.hid Lv0.out
  clear Lv0
  have HB18 := Lib.hid (HB17.out.trans (hb18.mono HB17.out.size))
  clear HB17
  have Hv3 := Lib.hid hf18
  clear hf18 hb18
  go_wp2_with fail
  refine (splice_impl xv0 bs0 cv0 n1 n2 xv3 bs3 cv3 _ (by omega) (by omega) HI1.out HI2.out Hv0.out.2.1 Hv0.out.src Hv3.out.src).mono ?_
  rintro e w19 ⟨xhs, chs, rfl, hf19, hb19⟩
  have Qhs : Hid (w.heap.size ≤ (w18).heap.size) := HB18.out.size
  have Ows_hs := Lib.hid Hws.out.old
  have Ogs_hs := Lib.hid Hgs.out.old
  have Ov0_hs := Lib.hid Hv0.out.old
  have Ov3_hs := Lib.hid Hv3.out.old
  have Lws := Lib.hid (Hws.out.below hb19)
  clear Hws
  have Hws := Lib.hid Lws.out
  clear Lws
  have Lgs := Lib.hid (Hgs.out.below hb19)
  clear Hgs
  have Hgs := Lib.hid Lgs.out
  clear Lgs
  have Lv0 := Lib.hid (Hv0.out.below hb19)
  clear Hv0
  have Hv0 := Lib.hid Lv0.out
  clear Lv0
  have Lv3 := Lib.hid (Hv3.out.below hb19)
  clear Hv3
  have Hv3 := Lib.hid Lv3.out
  clear Lv3
  have HB19 := Lib.hid (HB18.out.trans (hb19.mono HB18.out.size))
  clear HB18
  have Hhs := Lib.hid hf19
  clear hf19 hb19
  go_wp2_with fail
  refine (eq_any xhs xws (spliceB bs0 n1 n2 bs3) (spliceB bs0 n1 n2 bs3) chs cws _ (by have := spliceB_length bs0 n1 n2 bs3 (by omega) (by omega); omega) Hhs.out.rd Hws.out.rd).mono ?_
  rintro e w20 ⟨rfl, n20', rfl⟩
  have hb20 : Below (w19).heap.size (w19) ((w19).drewN n20') := below_drewN (Below.refl _ _) n20'
  have Lws := Lib.hid (Hws.out.below hb20)
  clear Hws
  have Hws := Lib.hid Lws.out
  clear Lws
  have Lgs := Lib.hid (Hgs.out.below hb20)
  clear Hgs
  have Hgs := Lib.hid Lgs.out
  clear Lgs
  have Lv0 := Lib.hid (Hv0.out.below hb20)
  clear Hv0
  have Hv0 := Lib.hid Lv0.out
  clear Lv0
  have Lv3 := Lib.hid (Hv3.out.below hb20)
  clear Hv3
  have Hv3 := Lib.hid Lv3.out
  clear Lv3
  have Lhs := Lib.hid (Hhs.out.below hb20)
  clear Hhs
  have Hhs := Lib.hid Lhs.out
  clear Lhs
  have HB20 := Lib.hid (HB19.out.trans (hb20.mono HB19.out.size))
  clear HB19
  clear hb20
  have hd20 : decide (spliceB bs0 n1 n2 bs3 = spliceB bs0 n1 n2 bs3) = true := by simp
  go_wp2_with fail
  refine (held_any xgs (spliceB bs0 n1 n2 bs3).length cgs (1) _ (by have := spliceB_length bs0 n1 n2 bs3 (by omega) (by omega); omega) (by omega) Hgs.out.rd).mono ?_
  rintro e w21 ⟨rfl, rfl⟩
  go_wp2_with fail
  go_ret
  exact ⟨rfl, HB20.out⟩
theorem walk (a0 : Option Addr) (bs0 : List UInt8) (cap0 : Nat) (n1 : Int) (n2 : Int) (a3 : Option Addr) (bs3 : List UInt8) (cap3 : Nat) (w : World) (r0 : Arg a0 bs0 cap0 w) (i1 : I64 n1) (i2 : I64 n2) (r3 : Arg a3 bs3 cap3 w) :
    Calls Try.prog 13 #[.slice a0 bs0.length cap0, .int .i64 n1, .int .i64 n2, .slice a3 bs3.length cap3] w fun e w' => e = .returned (.bool true) ∧ Below w.heap.size w w' := by
  by_cases h0 : 1048576 < bs0.length
  · exact walk_long0 a0 bs0 cap0 n1 n2 a3 bs3 cap3 w  h0 (by have q1 := r0.2.1; have q2 := r0.2.2.2; omega)
  by_cases h3 : 1048576 < bs3.length
  · exact walk_long3 a0 bs0 cap0 n1 n2 a3 bs3 cap3 w (by omega) h3 (by have q1 := r3.2.1; have q2 := r3.2.2.2; omega)
  exact walk_short a0 bs0 cap0 n1 n2 a3 bs3 cap3 w (by omega) (by omega) r0 r3 i1 i2
set_option maxRecDepth 100000 in
theorem lifted (os : Os) (started : os.Started) (H : Type) (enc : TypeId × Value → H) :
    ReturnsInHanded {} Try.checked os 13 .any (Rows.fnExactSpliceBytesSpec.pre6 enc Try.prog Try.f13 Rows.fnExactSpliceBytesRow.domain false) (Rows.fnExactSpliceBytesSpec.post enc Try.prog Try.f13 false true false false) := by
  refine returnsInHanded_of_change (C := Try.checked) own started (by kernel_rfl) Try.func13
    (ChangeSpec.witness6 (enc := enc) (C := Try.checked) false ⟨#[], #[.slice none 0 0, .int .i64 0, .int .i64 0, .slice none 0 0], []⟩ 8 (by kernel_rfl) (by kernel_rfl) (by kernel_rfl) (by kernel_rfl)) ?_
  intro W base args ds gs before hval0 hW hcnd _
  have hval : ∀ (j : Nat) t v, Try.f13.params[j]? = some t → args[j]? = some v → Value.okWide Try.prog W .any base t v := hval0
  have hW' := hW
  obtain ⟨p, q, hA0, hV, rfl, hfz, hnd⟩ := hW
  have hA : DataW.TrodAll enc Try.prog W 0 (fun _ => true) true Try.f13.params.toList args.toList ds p := hA0
  rw [Try.params13] at hA hval
  obtain ⟨v0, vs0, d0, ds0, p0, q0, hargs, rfl, rfl, h0, r0⟩ := trodAll_cons hA
  obtain ⟨v1, vs1, d1, ds1, p1, q1, rfl, rfl, rfl, h1, r1⟩ := trodAll_cons r0
  obtain ⟨v2, vs2, d2, ds2, p2, q2, rfl, rfl, rfl, h2, r2⟩ := trodAll_cons r1
  obtain ⟨v3, vs3, d3, ds3, p3, q3, rfl, rfl, rfl, h3, r3⟩ := trodAll_cons r2
  obtain ⟨rfl, rfl, rfl⟩ := trodAll_nil r3
  obtain rfl : args = #[v0, v1, v2, v3] := by cases args; simp_all
  obtain ⟨rfl, rfl⟩ := trodVars_none hV
  simp only [List.append_nil] at hW'
  have hlt : ∀ x ∈ p0 ++ p1 ++ p2 ++ p3, x.block < W.heap.size := fun x hx => hW'.lt x (by simpa using hx)
  obtain ⟨a0, len0, cap0, rfl⟩ := okWide_slice Try.underlying22 (hval 0 22 v0 rfl rfl)
  obtain ⟨bs0, rfl, hb0⟩ := bytes_arg h0
  have m0 : ∀ (W' : World), Below W.heap.size W W' → DataW.Trod enc Try.prog W' 0 (fun b => decide (b < W.heap.size)) true 22 (.slice a0 bs0.length cap0) d0 p0 := fun W' hn => Below.trod laidOut (by kernel_rfl) (of_decide_eq_true (by kernel_rfl)) h0 hn (fun x hx => hlt x (by simp [hx]))
  obtain ⟨n1, rfl, rfl, rfl, w1⟩ := open_int Try.underlying3 (hval 1 3 v1 rfl rfl) h1
  obtain ⟨n2, rfl, rfl, rfl, w2⟩ := open_int Try.underlying3 (hval 2 3 v2 rfl rfl) h2
  obtain ⟨a3, len3, cap3, rfl⟩ := okWide_slice Try.underlying22 (hval 3 22 v3 rfl rfl)
  obtain ⟨bs3, rfl, hb3⟩ := bytes_arg h3
  have m3 : ∀ (W' : World), Below W.heap.size W W' → DataW.Trod enc Try.prog W' 0 (fun b => decide (b < W.heap.size)) true 22 (.slice a3 bs3.length cap3) d3 p3 := fun W' hn => Below.trod laidOut (by kernel_rfl) (of_decide_eq_true (by kernel_rfl)) h3 hn (fun x hx => hlt x (by simp [hx]))
  clear hA0 hval0
  refine (walk a0 bs0 cap0 n1 n2 a3 bs3 cap3 W hb0 (i64_arg w1) (i64_arg w2) hb3).mono fun e W' ⟨he, hb⟩ => ?_
  subst he
  exact ⟨_, rfl, _, _, _, [], _, [], hW', trodAll_cons_mk (shut_bool Try.underlying4 _) trodAll_mk0, (trodAll_cons_mk (m0 _ hb) (trodAll_cons_mk (shut_int Try.underlying3 w1) (trodAll_cons_mk (shut_int Try.underlying3 w2) (trodAll_cons_mk (m3 _ hb) trodAll_mk0)))), rfl, hb.frame _, fun h => by cases h⟩
theorem over : Rows.fnExactSpliceBytesRow.holds Try.pinned (OpenSpec.ofChange Rows.fnExactSpliceBytesSpec) :=
  OpenClaim.holds_of_wide 13 Try.f13 rfl rfl rfl rfl rfl rfl rfl ⟨rfl, rfl, rfl, rfl, rfl⟩ rfl rfl rfl rfl rfl (by kernel_rfl) Try.func13 (by kernel_rfl)
    (of_decide_eq_true (by kernel_rfl)) (by unfold Func.isWrapper; first | (rw [if_pos (by decide +kernel)]; kernel_rfl) | (rw [if_neg (by decide +kernel)]; exact ⟨rfl, rfl⟩))
    (fun os started H enc _ => lifted os started H enc)
/-- THE STATEMENT -/
theorem proved : Rows.FnExactSpliceBytesSaid := over
end fnExactSpliceBytes
#print axioms fnExactSpliceBytes.proved
end Go.Proofs.Ythgcfdhndmgjlaa
