/- BigEndian, LittleEndian: what comes back may be appended to. -/
import Derived.Test.YtfmnjclnhppghaaGEnd
namespace Go.Proofs.Ytfmnjclnhppghaa
open Go Go.RowKit
/-- New bytes come back, that may be appended to; what was there is as it was. -/
def OwnOut (bs : List UInt8) (w : World) (e : Ending) (w' : World) : Prop := ∃ z, e = .returned z ∧ OwnB w.heap.size z bs w' ∧ Below w.heap.size w w'
theorem midB_endO {all : List UInt8} {v : Value} {w W : World} (h : MidB [] all v w W) : OwnOut all w (.returned v) W := by
  obtain ⟨acc, he, hown, hb⟩ := h
  rw [List.append_nil] at he
  subst he
  exact ⟨v, rfl, hown, hb⟩
set_option maxRecDepth 100000 in
set_option maxHeartbeats 2000000 in
theorem be_yes1O (m : Nat) (w : World) (hm : m ≤ 255) : Calls Try.prog 108 #[.int .i64 m, .int .i64 1] w (OwnOut (beB m 1) w) := by
  obtain ⟨i0, hi, hz0, hz1, hz2⟩ := infoParts
  have H0 := Lib.hid (midB_start (beB m 1) w)
  have m0 : (0 : Int) ≤ (m : Int) := by omega
  have m1 : (m : Int) ≤ 255 := by omega
  go_enter Try.func108, Try.ntmps108
  go_wp2
  go_loopw [5, 6] (fun v i W => RelB m 1 w v i W) (fun _ i _ => (intOf i + 1).toNat)
  case atStart => exact ⟨1, 0, by omega, by omega, rfl, H0.out⟩
  case round =>
    obtain ⟨k, z, hz, hk, rfl, hm2⟩ := hrel
    obtain rfl | rfl : k = 0 ∨ k = 1 := by omega
    · obtain rfl : z = -1 := by omega
      clear hz
      go_wp2
      go_ret
      exact midB_endO hm2.out
    · obtain rfl : z = 0 := by omega
      clear hz
      obtain ⟨acc, he, hown, hb⟩ := hm2.out
      have HE := Lib.hid he
      have HO := Lib.hid hown
      have HB := Lib.hid hb
      have hal : acc.length ≤ 4 := by have := congrArg List.length he; simp only [List.length_append, beB_length] at this; omega
      clear he hown hb hm2
      go_wp2_with (at_builtin; refine wpList_append_own _ rfl _ _ 25 rfl w.heap.size 5 i0 (.int .u8 0) 1 1 Try.underlying25 hi hz0 hz1 hz2 rfl (by decide) _ _ _ rfl (World.ownsRow.alloc HO.out _) ⟨wr.heap.size, 0, none⟩ 1 1 [.int .u8 ((m : Int))] rfl rfl ?c1 ?c2 ?c3 ?c4 ?c5 ?_)
      case c1 =>
        intro j u hj
        match j, hj with
        | 0, hj => simp at hj; subst hj; simp [Addr.add]
      case c2 => intro u hu; simp at hu; subst hu; rfl
      case c3 => unfold maxLen; omega
      case c4 => omega
      case c5 => have := HB.out.size; simp; omega
      · intro v' w2 hown' hgrow _
        rw [bv_of (m / 256 ^ 0) _ (by simp only [Nat.reducePow]; omega)] at hown'
        have R := Lib.hid (midB_next HE.out HO.out HB.out hown' hgrow)
        clear hown' hgrow
        go_wp2
        go_roundw
        case rel => exact ⟨0, -1, by omega, by omega, rfl, R.out⟩
        case measure => first | (simp [intOf]; done) | (simp [intOf]; omega)
set_option maxRecDepth 100000 in
set_option maxHeartbeats 2000000 in
theorem be_yes2O (m : Nat) (w : World) (hm : m ≤ 65535) : Calls Try.prog 108 #[.int .i64 m, .int .i64 2] w (OwnOut (beB m 2) w) := by
  obtain ⟨i0, hi, hz0, hz1, hz2⟩ := infoParts
  have H0 := Lib.hid (midB_start (beB m 2) w)
  have m0 : (0 : Int) ≤ (m : Int) := by omega
  have m1 : (m : Int) ≤ 65535 := by omega
  go_enter Try.func108, Try.ntmps108
  go_wp2
  go_loopw [5, 6] (fun v i W => RelB m 2 w v i W) (fun _ i _ => (intOf i + 1).toNat)
  case atStart => exact ⟨2, 1, by omega, by omega, rfl, H0.out⟩
  case round =>
    obtain ⟨k, z, hz, hk, rfl, hm2⟩ := hrel
    obtain rfl | rfl | rfl : k = 0 ∨ k = 1 ∨ k = 2 := by omega
    · obtain rfl : z = -1 := by omega
      clear hz
      go_wp2
      go_ret
      exact midB_endO hm2.out
    · obtain rfl : z = 0 := by omega
      clear hz
      obtain ⟨acc, he, hown, hb⟩ := hm2.out
      have HE := Lib.hid he
      have HO := Lib.hid hown
      have HB := Lib.hid hb
      have hal : acc.length ≤ 4 := by have := congrArg List.length he; simp only [List.length_append, beB_length] at this; omega
      clear he hown hb hm2
      go_wp2_with (at_builtin; refine wpList_append_own _ rfl _ _ 25 rfl w.heap.size 5 i0 (.int .u8 0) 1 1 Try.underlying25 hi hz0 hz1 hz2 rfl (by decide) _ _ _ rfl (World.ownsRow.alloc HO.out _) ⟨wr.heap.size, 0, none⟩ 1 1 [.int .u8 ((m : Int) % 256)] rfl rfl ?c1 ?c2 ?c3 ?c4 ?c5 ?_)
      case c1 =>
        intro j u hj
        match j, hj with
        | 0, hj => simp at hj; subst hj; simp [Addr.add]
      case c2 => intro u hu; simp at hu; subst hu; rfl
      case c3 => unfold maxLen; omega
      case c4 => omega
      case c5 => have := HB.out.size; simp; omega
      · intro v' w2 hown' hgrow _
        rw [bv_of (m / 256 ^ 0) _ (by simp only [Nat.reducePow]; omega)] at hown'
        have R := Lib.hid (midB_next HE.out HO.out HB.out hown' hgrow)
        clear hown' hgrow
        go_wp2
        go_roundw
        case rel => exact ⟨0, -1, by omega, by omega, rfl, R.out⟩
        case measure => first | (simp [intOf]; done) | (simp [intOf]; omega)
    · obtain rfl : z = 1 := by omega
      clear hz
      obtain ⟨acc, he, hown, hb⟩ := hm2.out
      have HE := Lib.hid he
      have HO := Lib.hid hown
      have HB := Lib.hid hb
      have hal : acc.length ≤ 4 := by have := congrArg List.length he; simp only [List.length_append, beB_length] at this; omega
      clear he hown hb hm2
      go_wp2_with (at_builtin; refine wpList_append_own _ rfl _ _ 25 rfl w.heap.size 5 i0 (.int .u8 0) 1 1 Try.underlying25 hi hz0 hz1 hz2 rfl (by decide) _ _ _ rfl (World.ownsRow.alloc HO.out _) ⟨wr.heap.size, 0, none⟩ 1 1 [.int .u8 ((m : Int) / 256)] rfl rfl ?c1 ?c2 ?c3 ?c4 ?c5 ?_)
      case c1 =>
        intro j u hj
        match j, hj with
        | 0, hj => simp at hj; subst hj; simp [Addr.add]
      case c2 => intro u hu; simp at hu; subst hu; rfl
      case c3 => unfold maxLen; omega
      case c4 => omega
      case c5 => have := HB.out.size; simp; omega
      · intro v' w2 hown' hgrow _
        rw [bv_of (m / 256 ^ 1) _ (by simp only [Nat.reducePow]; omega)] at hown'
        have R := Lib.hid (midB_next HE.out HO.out HB.out hown' hgrow)
        clear hown' hgrow
        go_wp2
        go_roundw
        case rel => exact ⟨1, 0, by omega, by omega, rfl, R.out⟩
        case measure => first | (simp [intOf]; done) | (simp [intOf]; omega)
set_option maxRecDepth 100000 in
set_option maxHeartbeats 2000000 in
theorem be_yes3O (m : Nat) (w : World) (hm : m ≤ 16777215) : Calls Try.prog 108 #[.int .i64 m, .int .i64 3] w (OwnOut (beB m 3) w) := by
  obtain ⟨i0, hi, hz0, hz1, hz2⟩ := infoParts
  have H0 := Lib.hid (midB_start (beB m 3) w)
  have m0 : (0 : Int) ≤ (m : Int) := by omega
  have m1 : (m : Int) ≤ 16777215 := by omega
  go_enter Try.func108, Try.ntmps108
  go_wp2
  go_loopw [5, 6] (fun v i W => RelB m 3 w v i W) (fun _ i _ => (intOf i + 1).toNat)
  case atStart => exact ⟨3, 2, by omega, by omega, rfl, H0.out⟩
  case round =>
    obtain ⟨k, z, hz, hk, rfl, hm2⟩ := hrel
    obtain rfl | rfl | rfl | rfl : k = 0 ∨ k = 1 ∨ k = 2 ∨ k = 3 := by omega
    · obtain rfl : z = -1 := by omega
      clear hz
      go_wp2
      go_ret
      exact midB_endO hm2.out
    · obtain rfl : z = 0 := by omega
      clear hz
      obtain ⟨acc, he, hown, hb⟩ := hm2.out
      have HE := Lib.hid he
      have HO := Lib.hid hown
      have HB := Lib.hid hb
      have hal : acc.length ≤ 4 := by have := congrArg List.length he; simp only [List.length_append, beB_length] at this; omega
      clear he hown hb hm2
      go_wp2_with (at_builtin; refine wpList_append_own _ rfl _ _ 25 rfl w.heap.size 5 i0 (.int .u8 0) 1 1 Try.underlying25 hi hz0 hz1 hz2 rfl (by decide) _ _ _ rfl (World.ownsRow.alloc HO.out _) ⟨wr.heap.size, 0, none⟩ 1 1 [.int .u8 ((m : Int) % 256)] rfl rfl ?c1 ?c2 ?c3 ?c4 ?c5 ?_)
      case c1 =>
        intro j u hj
        match j, hj with
        | 0, hj => simp at hj; subst hj; simp [Addr.add]
      case c2 => intro u hu; simp at hu; subst hu; rfl
      case c3 => unfold maxLen; omega
      case c4 => omega
      case c5 => have := HB.out.size; simp; omega
      · intro v' w2 hown' hgrow _
        rw [bv_of (m / 256 ^ 0) _ (by simp only [Nat.reducePow]; omega)] at hown'
        have R := Lib.hid (midB_next HE.out HO.out HB.out hown' hgrow)
        clear hown' hgrow
        go_wp2
        go_roundw
        case rel => exact ⟨0, -1, by omega, by omega, rfl, R.out⟩
        case measure => first | (simp [intOf]; done) | (simp [intOf]; omega)
    · obtain rfl : z = 1 := by omega
      clear hz
      obtain ⟨acc, he, hown, hb⟩ := hm2.out
      have HE := Lib.hid he
      have HO := Lib.hid hown
      have HB := Lib.hid hb
      have hal : acc.length ≤ 4 := by have := congrArg List.length he; simp only [List.length_append, beB_length] at this; omega
      clear he hown hb hm2
      go_wp2_with (at_builtin; refine wpList_append_own _ rfl _ _ 25 rfl w.heap.size 5 i0 (.int .u8 0) 1 1 Try.underlying25 hi hz0 hz1 hz2 rfl (by decide) _ _ _ rfl (World.ownsRow.alloc HO.out _) ⟨wr.heap.size, 0, none⟩ 1 1 [.int .u8 ((m : Int) / 256 % 256)] rfl rfl ?c1 ?c2 ?c3 ?c4 ?c5 ?_)
      case c1 =>
        intro j u hj
        match j, hj with
        | 0, hj => simp at hj; subst hj; simp [Addr.add]
      case c2 => intro u hu; simp at hu; subst hu; rfl
      case c3 => unfold maxLen; omega
      case c4 => omega
      case c5 => have := HB.out.size; simp; omega
      · intro v' w2 hown' hgrow _
        rw [bv_of (m / 256 ^ 1) _ (by simp only [Nat.reducePow]; omega)] at hown'
        have R := Lib.hid (midB_next HE.out HO.out HB.out hown' hgrow)
        clear hown' hgrow
        go_wp2
        go_roundw
        case rel => exact ⟨1, 0, by omega, by omega, rfl, R.out⟩
        case measure => first | (simp [intOf]; done) | (simp [intOf]; omega)
    · obtain rfl : z = 2 := by omega
      clear hz
      obtain ⟨acc, he, hown, hb⟩ := hm2.out
      have HE := Lib.hid he
      have HO := Lib.hid hown
      have HB := Lib.hid hb
      have hal : acc.length ≤ 4 := by have := congrArg List.length he; simp only [List.length_append, beB_length] at this; omega
      clear he hown hb hm2
      go_wp2_with (at_builtin; refine wpList_append_own _ rfl _ _ 25 rfl w.heap.size 5 i0 (.int .u8 0) 1 1 Try.underlying25 hi hz0 hz1 hz2 rfl (by decide) _ _ _ rfl (World.ownsRow.alloc HO.out _) ⟨wr.heap.size, 0, none⟩ 1 1 [.int .u8 ((m : Int) / 65536)] rfl rfl ?c1 ?c2 ?c3 ?c4 ?c5 ?_)
      case c1 =>
        intro j u hj
        match j, hj with
        | 0, hj => simp at hj; subst hj; simp [Addr.add]
      case c2 => intro u hu; simp at hu; subst hu; rfl
      case c3 => unfold maxLen; omega
      case c4 => omega
      case c5 => have := HB.out.size; simp; omega
      · intro v' w2 hown' hgrow _
        rw [bv_of (m / 256 ^ 2) _ (by simp only [Nat.reducePow]; omega)] at hown'
        have R := Lib.hid (midB_next HE.out HO.out HB.out hown' hgrow)
        clear hown' hgrow
        go_wp2
        go_roundw
        case rel => exact ⟨2, 1, by omega, by omega, rfl, R.out⟩
        case measure => first | (simp [intOf]; done) | (simp [intOf]; omega)
set_option maxRecDepth 100000 in
set_option maxHeartbeats 2000000 in
theorem be_yes4O (m : Nat) (w : World) (hm : m ≤ 4294967295) : Calls Try.prog 108 #[.int .i64 m, .int .i64 4] w (OwnOut (beB m 4) w) := by
  obtain ⟨i0, hi, hz0, hz1, hz2⟩ := infoParts
  have H0 := Lib.hid (midB_start (beB m 4) w)
  have m0 : (0 : Int) ≤ (m : Int) := by omega
  have m1 : (m : Int) ≤ 4294967295 := by omega
  go_enter Try.func108, Try.ntmps108
  go_wp2
  go_loopw [5, 6] (fun v i W => RelB m 4 w v i W) (fun _ i _ => (intOf i + 1).toNat)
  case atStart => exact ⟨4, 3, by omega, by omega, rfl, H0.out⟩
  case round =>
    obtain ⟨k, z, hz, hk, rfl, hm2⟩ := hrel
    obtain rfl | rfl | rfl | rfl | rfl : k = 0 ∨ k = 1 ∨ k = 2 ∨ k = 3 ∨ k = 4 := by omega
    · obtain rfl : z = -1 := by omega
      clear hz
      go_wp2
      go_ret
      exact midB_endO hm2.out
    · obtain rfl : z = 0 := by omega
      clear hz
      obtain ⟨acc, he, hown, hb⟩ := hm2.out
      have HE := Lib.hid he
      have HO := Lib.hid hown
      have HB := Lib.hid hb
      have hal : acc.length ≤ 4 := by have := congrArg List.length he; simp only [List.length_append, beB_length] at this; omega
      clear he hown hb hm2
      go_wp2_with (at_builtin; refine wpList_append_own _ rfl _ _ 25 rfl w.heap.size 5 i0 (.int .u8 0) 1 1 Try.underlying25 hi hz0 hz1 hz2 rfl (by decide) _ _ _ rfl (World.ownsRow.alloc HO.out _) ⟨wr.heap.size, 0, none⟩ 1 1 [.int .u8 ((m : Int) % 256)] rfl rfl ?c1 ?c2 ?c3 ?c4 ?c5 ?_)
      case c1 =>
        intro j u hj
        match j, hj with
        | 0, hj => simp at hj; subst hj; simp [Addr.add]
      case c2 => intro u hu; simp at hu; subst hu; rfl
      case c3 => unfold maxLen; omega
      case c4 => omega
      case c5 => have := HB.out.size; simp; omega
      · intro v' w2 hown' hgrow _
        rw [bv_of (m / 256 ^ 0) _ (by simp only [Nat.reducePow]; omega)] at hown'
        have R := Lib.hid (midB_next HE.out HO.out HB.out hown' hgrow)
        clear hown' hgrow
        go_wp2
        go_roundw
        case rel => exact ⟨0, -1, by omega, by omega, rfl, R.out⟩
        case measure => first | (simp [intOf]; done) | (simp [intOf]; omega)
    · obtain rfl : z = 1 := by omega
      clear hz
      obtain ⟨acc, he, hown, hb⟩ := hm2.out
      have HE := Lib.hid he
      have HO := Lib.hid hown
      have HB := Lib.hid hb
      have hal : acc.length ≤ 4 := by have := congrArg List.length he; simp only [List.length_append, beB_length] at this; omega
      clear he hown hb hm2
      go_wp2_with (at_builtin; refine wpList_append_own _ rfl _ _ 25 rfl w.heap.size 5 i0 (.int .u8 0) 1 1 Try.underlying25 hi hz0 hz1 hz2 rfl (by decide) _ _ _ rfl (World.ownsRow.alloc HO.out _) ⟨wr.heap.size, 0, none⟩ 1 1 [.int .u8 ((m : Int) / 256 % 256)] rfl rfl ?c1 ?c2 ?c3 ?c4 ?c5 ?_)
      case c1 =>
        intro j u hj
        match j, hj with
        | 0, hj => simp at hj; subst hj; simp [Addr.add]
      case c2 => intro u hu; simp at hu; subst hu; rfl
      case c3 => unfold maxLen; omega
      case c4 => omega
      case c5 => have := HB.out.size; simp; omega
      · intro v' w2 hown' hgrow _
        rw [bv_of (m / 256 ^ 1) _ (by simp only [Nat.reducePow]; omega)] at hown'
        have R := Lib.hid (midB_next HE.out HO.out HB.out hown' hgrow)
        clear hown' hgrow
        go_wp2
        go_roundw
        case rel => exact ⟨1, 0, by omega, by omega, rfl, R.out⟩
        case measure => first | (simp [intOf]; done) | (simp [intOf]; omega)
    · obtain rfl : z = 2 := by omega
      clear hz
      obtain ⟨acc, he, hown, hb⟩ := hm2.out
      have HE := Lib.hid he
      have HO := Lib.hid hown
      have HB := Lib.hid hb
      have hal : acc.length ≤ 4 := by have := congrArg List.length he; simp only [List.length_append, beB_length] at this; omega
      clear he hown hb hm2
      go_wp2_with (at_builtin; refine wpList_append_own _ rfl _ _ 25 rfl w.heap.size 5 i0 (.int .u8 0) 1 1 Try.underlying25 hi hz0 hz1 hz2 rfl (by decide) _ _ _ rfl (World.ownsRow.alloc HO.out _) ⟨wr.heap.size, 0, none⟩ 1 1 [.int .u8 ((m : Int) / 65536 % 256)] rfl rfl ?c1 ?c2 ?c3 ?c4 ?c5 ?_)
      case c1 =>
        intro j u hj
        match j, hj with
        | 0, hj => simp at hj; subst hj; simp [Addr.add]
      case c2 => intro u hu; simp at hu; subst hu; rfl
      case c3 => unfold maxLen; omega
      case c4 => omega
      case c5 => have := HB.out.size; simp; omega
      · intro v' w2 hown' hgrow _
        rw [bv_of (m / 256 ^ 2) _ (by simp only [Nat.reducePow]; omega)] at hown'
        have R := Lib.hid (midB_next HE.out HO.out HB.out hown' hgrow)
        clear hown' hgrow
        go_wp2
        go_roundw
        case rel => exact ⟨2, 1, by omega, by omega, rfl, R.out⟩
        case measure => first | (simp [intOf]; done) | (simp [intOf]; omega)
    · obtain rfl : z = 3 := by omega
      clear hz
      obtain ⟨acc, he, hown, hb⟩ := hm2.out
      have HE := Lib.hid he
      have HO := Lib.hid hown
      have HB := Lib.hid hb
      have hal : acc.length ≤ 4 := by have := congrArg List.length he; simp only [List.length_append, beB_length] at this; omega
      clear he hown hb hm2
      go_wp2_with (at_builtin; refine wpList_append_own _ rfl _ _ 25 rfl w.heap.size 5 i0 (.int .u8 0) 1 1 Try.underlying25 hi hz0 hz1 hz2 rfl (by decide) _ _ _ rfl (World.ownsRow.alloc HO.out _) ⟨wr.heap.size, 0, none⟩ 1 1 [.int .u8 ((m : Int) / 16777216)] rfl rfl ?c1 ?c2 ?c3 ?c4 ?c5 ?_)
      case c1 =>
        intro j u hj
        match j, hj with
        | 0, hj => simp at hj; subst hj; simp [Addr.add]
      case c2 => intro u hu; simp at hu; subst hu; rfl
      case c3 => unfold maxLen; omega
      case c4 => omega
      case c5 => have := HB.out.size; simp; omega
      · intro v' w2 hown' hgrow _
        rw [bv_of (m / 256 ^ 3) _ (by simp only [Nat.reducePow]; omega)] at hown'
        have R := Lib.hid (midB_next HE.out HO.out HB.out hown' hgrow)
        clear hown' hgrow
        go_wp2
        go_roundw
        case rel => exact ⟨3, 2, by omega, by omega, rfl, R.out⟩
        case measure => first | (simp [intOf]; done) | (simp [intOf]; omega)
theorem empty_outO (w : World) : OwnOut [] w (.returned (.slice (some ⟨w.heap.size, 0, none⟩) 0 0)) (w.alloc (.cells #[] 5)) := midB_endO (midB_start [] w)
theorem be_noO (n s : Int) (w : World) (h : s < 1 ∨ 4 < s ∨ n < 0 ∨ (s = 1 ∧ 255 < n) ∨ (s = 2 ∧ 65535 < n) ∨ (s = 3 ∧ 16777215 < n) ∨ (s = 4 ∧ 4294967295 < n)) :
    Calls Try.prog 108 #[.int .i64 n, .int .i64 s] w (OwnOut [] w) := by
  by_cases h1 : s < 1
  · have g1 : ¬ 1 ≤ s := by omega
    go_enter Try.func108, Try.ntmps108
    go_wp2
    go_ret
    exact empty_outO w
  · have g1 : 1 ≤ s := by omega
    by_cases h2 : 4 < s
    · have g2 : ¬ s ≤ 4 := by omega
      go_enter Try.func108, Try.ntmps108
      go_wp2
      go_ret
      exact empty_outO w
    · obtain rfl | rfl | rfl | rfl : s = 1 ∨ s = 2 ∨ s = 3 ∨ s = 4 := by omega
      all_goals
        clear g1 h1 h2
        by_cases h3 : n < 0
        · have g3 : decide (0 ≤ n) = false := by simp; omega
          clear h
          go_enter Try.func108, Try.ntmps108
          go_wp2
          go_ret
          exact empty_outO w
        · have g3 : 0 ≤ n := by omega
          first
            | (have g4 : decide (n ≤ 4294967295) = false := by simp; omega
               clear h
               go_enter Try.func108, Try.ntmps108
               go_wp2
               go_ret
               exact empty_outO w)
            | (have g4 : decide (n ≤ 16777215) = false := by simp; omega
               clear h
               go_enter Try.func108, Try.ntmps108
               go_wp2
               go_ret
               exact empty_outO w)
            | (have g4 : decide (n ≤ 65535) = false := by simp; omega
               clear h
               go_enter Try.func108, Try.ntmps108
               go_wp2
               go_ret
               exact empty_outO w)
            | (have g4 : decide (n ≤ 255) = false := by simp; omega
               clear h
               go_enter Try.func108, Try.ntmps108
               go_wp2
               go_ret
               exact empty_outO w)
theorem be_specO (n s : Int) (w : World) : Calls Try.prog 108 #[.int .i64 n, .int .i64 s] w (OwnOut (beOf n s) w) := by
  by_cases h : 1 ≤ s ∧ s ≤ 4 ∧ 0 ≤ n ∧ n < 256 ^ s.toNat
  · rw [show beOf n s = beB n.toNat s.toNat from if_pos h]
    obtain ⟨h1, h2, h3, h4⟩ := h
    obtain ⟨m, rfl⟩ : ∃ m : Nat, n = (m : Int) := ⟨n.toNat, by omega⟩
    obtain rfl | rfl | rfl | rfl : s = 1 ∨ s = 2 ∨ s = 3 ∨ s = 4 := by omega
    · exact be_yes1O m w (by have : (m : Int) < 256 := h4; omega)
    · exact be_yes2O m w (by have : (m : Int) < 65536 := h4; omega)
    · exact be_yes3O m w (by have : (m : Int) < 16777216 := h4; omega)
    · exact be_yes4O m w (by have : (m : Int) < 4294967296 := h4; omega)
  · rw [show beOf n s = [] from if_neg h]
    refine be_noO n s w ?_
    by_cases h1 : s < 1
    · exact .inl h1
    · by_cases h2 : 4 < s
      · exact .inr (.inl h2)
      · by_cases h3 : n < 0
        · exact .inr (.inr (.inl h3))
        · have h4 : ¬ n < 256 ^ s.toNat := fun h4 => h ⟨by omega, by omega, by omega, h4⟩
          obtain rfl | rfl | rfl | rfl : s = 1 ∨ s = 2 ∨ s = 3 ∨ s = 4 := by omega
          · have : ¬ n < 256 := h4
            omega
          · have : ¬ n < 65536 := h4
            omega
          · have : ¬ n < 16777216 := h4
            omega
          · have : ¬ n < 4294967296 := h4
            omega
theorem OwnB.more {base base' : Nat} {v : Value} {bs : List UInt8} {w : World} (h : OwnB base v bs w) (hb : base' ≤ base) : OwnB base' v bs w :=
  ⟨h.1, h.2.imp id fun ⟨g, cap, cur, h1, h2, h3⟩ => ⟨g, cap, cur, h1, Nat.le_trans hb h2, h3⟩⟩
theorem ownOut_below {bs : List UInt8} {w w1 : World} {e : Ending} {w2 : World} (hb : Below w.heap.size w w1) (h : OwnOut bs w1 e w2) : OwnOut bs w e w2 := by
  obtain ⟨z, he, ho, hb2⟩ := h
  exact ⟨z, he, ho.more hb.size, hb.trans (hb2.mono hb.size)⟩
set_option maxRecDepth 100000 in
set_option maxHeartbeats 2000000 in
theorem le_specO (n s : Int) (w : World) : Calls Try.prog 107 #[.int .i64 n, .int .i64 s] w (OwnOut (beOf n s).reverse w) := by
  obtain ⟨i0, hi, hz0, hz1, hz2⟩ := infoParts
  have hl4 := beOf_length n s
  have HC := Lib.hid (be_spec n s)
  revert hl4 HC
  generalize beOf n s = bs
  intro hl4 HC
  go_enter Try.func107, Try.ntmps107
  go_wp2_with fail
  refine (HC.out _).mono ?_
  rintro e w1 ⟨a, cap, rfl, hf, hb1⟩
  have HR := Lib.hid hf.rd
  have HB1 := Lib.hid hb1
  have H0 := Lib.hid (midB_start bs.reverse w1)
  clear hf hb1
  go_wp2
  go_loopw [6, 7] (fun v i W => RelL bs w1 v i W) (fun _ i _ => (intOf i + 1).toNat)
  case atStart => exact ⟨bs.length, _, rfl, Nat.le_refl _, rfl, by rw [List.take_of_length_le (Nat.le_refl _)]; exact H0.out⟩
  case round =>
    obtain ⟨k, z, hz, hk, rfl, hm⟩ := hrel
    by_cases hk0 : k = 0
    · subst hk0
      obtain rfl : z = -1 := by omega
      clear hz
      go_wp2
      go_ret
      exact ownOut_below HB1.out (midB_endO hm.out)
    · obtain ⟨j, rfl⟩ : ∃ j, k = j + 1 := ⟨k - 1, by omega⟩
      obtain rfl : z = (j : Int) := by omega
      have hj : j < bs.length := by omega
      clear hz hk0
      have hm' := hm.out
      rw [take_rev bs j hj] at hm'
      obtain ⟨acc, he, hown, hb⟩ := hm'
      have hal : acc.length ≤ 4 := by have := congrArg List.length he; simp only [List.length_append, List.length_reverse, List.length_cons] at this; omega
      obtain ⟨b, off, rfl, hc⟩ := (HR.out.below hb) j hj
      have HE := Lib.hid he
      have HO := Lib.hid hown
      have HB := Lib.hid hb
      clear hm he hown hb
      have j0 : (0 : Int) ≤ (j : Int) := by omega
      have j1 : (j : Int) < (bs.length : Int) := by omega
      go_wp2_with (at_builtin; refine wpList_append_own _ rfl _ _ 25 rfl w1.heap.size 5 i0 (.int .u8 0) 1 1 Try.underlying25 hi hz0 hz1 hz2 rfl (by decide) _ _ _ rfl (World.ownsRow.alloc HO.out _) ⟨wr.heap.size, 0, none⟩ 1 1 [.int .u8 (bs[j].toNat : Int)] rfl rfl ?c1 ?c2 ?c3 ?c4 ?c5 ?_)
      case c1 =>
        intro j u hj
        match j, hj with
        | 0, hj => simp at hj; subst hj; simp [Addr.add]
      case c2 => intro u hu; simp at hu; subst hu; rfl
      case c3 => unfold maxLen; omega
      case c4 => omega
      case c5 => have := HB.out.size; simp; omega
      · intro v' w2 hown' hgrow _
        have R := Lib.hid (midB_next HE.out HO.out HB.out hown' hgrow)
        clear hown' hgrow
        go_wp2
        go_roundw
        case rel => exact ⟨j, _, rfl, by omega, rfl, R.out⟩
        case measure => first | (simp [intOf]; done) | (simp [intOf]; omega)
end Go.Proofs.Ytfmnjclnhppghaa
