/- The contracts of ReadTerminated, the model's and the program's. -/
import Derived.Test.YtikpbeealeofaaaTermP
import Derived.Test.YtikpbeealeofaaaPush
import Derived.Test.YtikpbeealeofaaaLimit
import Derived.Test.YtikpbeealeofaaaSDig
import Derived.Test.YtikpbeealeofaaaCutB
import Derived.IntWalk
namespace Go.Proofs.Ytikpbeealeofaaa
open Go Go.RowKit
/-- Bytes in new memory, a number and whether all went well. -/
def TermOut (bs : List UInt8) (n : Int) (ok : Bool) (w : World) (e : Ending) (w' : World) : Prop :=
  ∃ a cap, e = .returned (.tuple #[.slice a bs.length cap, .int .i64 n, .bool ok]) ∧ Row w.heap.size a bs cap w' ∧ Below w.heap.size w w'
theorem cellK {B : Nat} {w w' : World} {b i : Nat} {v : Value} (h : Below B w w') (hB : w.heap.size ≤ B) (hc : w.cell? ⟨b, i, none⟩ = some v) : w'.cell? ⟨b, i, none⟩ = some v :=
  (h.cell (p := ⟨b, i, none⟩) (Nat.lt_of_lt_of_le (cell_lt hc) hB)).trans hc
theorem push_own {x : UInt8} {acc : List UInt8} {v v' : Value} {w W W2 : World} {o : Obj} (hown : OwnB w.heap.size v acc W) (hb : Below w.heap.size w W)
    (hown' : W2.ownsRow w.heap.size 5 1 v' (acc.length + 1) (acc.map bv ++ [bv x])) (hg : (W.alloc o).grownBy W2 v.ownBlock) : OwnB w.heap.size v' (acc ++ [x]) W2 ∧ Below w.heap.size w W2 := by
  refine ⟨?_, ?_⟩
  · unfold OwnB; simpa using hown'
  · exact (hb.alloc hb.size o).grown hg (by have := hb.size; simp; omega) fun k hk => (World.ownsRow.lt (w := W) hown k hk).1
theorem term_fail {bs : List UInt8} {n : Int} {t : UInt8} {b : Nat} {w W : World} (hbk : b = W.heap.size) (h : termO bs n t = none) (hb : Below w.heap.size w W) : TermOut (termL bs n t) (termN bs n t) (termK bs n t) w (.returned (.tuple #[.slice (some ⟨b, 0, none⟩) 0 0, .int .i64 n, .bool false])) (W.alloc (.cells #[] 5)) := by
  subst hbk
  have e1 : termL bs n t = [] := by unfold termL; rw [h]
  have e2 : termN bs n t = n := by unfold termN; rw [h]
  have e3 : termK bs n t = false := by unfold termK; rw [h]; rfl
  rw [e1, e2, e3]
  exact ⟨_, _, rfl, ⟨.inl rfl, Nat.le_refl _, fun e => by cases e⟩, hb.alloc hb.size _⟩
theorem term_hit {bs : List UInt8} {p k : Nat} {t : UInt8} {acc : List UInt8} {v : Value} {w W : World} {z : Int} (hp : p ≤ bs.length) (h : termR t (bs.drop p) false = some (acc, k - p + 1)) (hz : z = (k : Int) + 1) (hpk : p ≤ k) (hown : OwnB w.heap.size v acc W) (hb : Below w.heap.size w W) :
    TermOut (termL bs p t) (termN bs p t) (termK bs p t) w (.returned (.tuple #[v, .int .i64 z, .bool true])) W := by
  have h0 : termO bs p t = some (acc, k - p + 1) := by unfold termO; rw [if_pos ⟨by omega, by omega⟩, Int.toNat_natCast]; exact h
  have e1 : termL bs p t = acc := by unfold termL; rw [h0]
  have e2 : termN bs p t = (k : Int) + 1 := by unfold termN; rw [h0]; show (p : Int) + ((k - p + 1 : Nat) : Int) = _; omega
  have e3 : termK bs p t = true := by unfold termK; rw [h0]; rfl
  rw [e1, e2, e3, hz]
  obtain ⟨a, cap, rfl, hr⟩ := hown.row
  exact ⟨a, cap, rfl, hr, hb⟩
theorem term_none {bs : List UInt8} {p : Nat} {t : UInt8} (hp : p ≤ bs.length) (h : termR t (bs.drop p) false = none) : termO bs p t = none := by
  unfold termO; rw [if_pos ⟨by omega, by omega⟩, Int.toNat_natCast]; exact h
theorem TermAt.takeY {bs : List UInt8} {p k : Nat} {t y : UInt8} {e : Bool} {acc : List UInt8} (h : TermAt bs p t k e acc) (hp : p ≤ k) (hk : k < bs.length) (hy : y = bs[k]) (hc : e = true ∨ (¬ y = t ∧ ¬ y = 92)) : TermAt bs p t (k + 1) false (acc ++ [y]) := by
  subst hy; exact h.take hp hk hc
theorem TermAt.hitY {bs : List UInt8} {p k : Nat} {t y : UInt8} {acc : List UInt8} (h : TermAt bs p t k false acc) (hk : k < bs.length) (hy : y = bs[k]) (hc : y = t) : termR t (bs.drop p) false = some (acc, k - p + 1) := by
  subst hy; exact h.hit hk hc
theorem TermAt.escY {bs : List UInt8} {p k : Nat} {t y : UInt8} {acc : List UInt8} (h : TermAt bs p t k false acc) (hp : p ≤ k) (hk : k < bs.length) (hy : y = bs[k]) (hc : ¬ y = t) (he : y = 92) : TermAt bs p t (k + 1) true acc := by
  subst hy; exact h.esc hp hk hc he
set_option maxRecDepth 100000 in
set_option maxHeartbeats 4000000 in
theorem term_specN (a : Option Addr) (bs : List UInt8) (cap p : Nat) (t : UInt8) (w : World) (hl : bs.length ≤ 1048576) (hp : p ≤ bs.length) (h : Rd a bs w) :
    Calls Try.prog 9 #[.slice a bs.length cap, .int .i64 (p : Int), .int .u8 (t.toNat : Int)] w (TermOut (termL bs p t) (termN bs p t) (termK bs p t) w) := by
  obtain ⟨i0, hi, hz0, hz1, hz2⟩ := infoParts
  have H := Lib.hid h
  have hin : decide ((0 : Int) ≤ (p : Int) ∧ (p : Int) ≤ (bs.length : Int)) = true := decide_eq_true ⟨by omega, by omega⟩
  have HS := Lib.hid (TermAt.start bs p t)
  clear h
  go_enter Try.func9, Try.ntmps9
  go_wp2
  go_loopw [9, 10] (fun v i W => ∃ (k : Nat) (acc : List UInt8), p ≤ k ∧ k ≤ bs.length ∧ i = .int .i64 (k : Int) ∧ acc.length ≤ k ∧ Hid (TermAt bs p t k false acc) ∧ Hid (OwnB w.heap.size v acc W) ∧ Hid (Below w.heap.size w W)) (fun _ i _ => bs.length - (intOf i).toNat)
  case atStart => exact ⟨p, [], Nat.le_refl _, hp, rfl, Nat.zero_le _, HS, OwnB.start w, (Below.refl _ _).alloc (Nat.le_refl _) _⟩
  case round =>
    clear HS
    obtain ⟨k, acc, hpk, hkl, rfl, hal, HT, hown, hb⟩ := hrel
    have k0 : (0 : Int) ≤ (k : Int) := by omega
    by_cases hlt : k < bs.length
    · have k1 : (k : Int) < (bs.length : Int) := by omega
      obtain ⟨b, off, rfl, hc0⟩ := H.out k hlt
      have hc := cellK hb.out (Nat.le_refl _) hc0
      have HBT := Lib.hid (bs[k].toNat_lt)
      by_cases hx : bs[k] = t
      · have e3 : ((bs[k].toNat : Int) == (t.toNat : Int)) = true := by rw [hx]; simp
        have HX := Lib.hid (HT.out.hit hlt hx)
        clear hx HT hal
        go_wp2_with ((go_at_call 33; refine (in_any _ _ _ true _ hin).mono ?_; rintro e wx ⟨rfl, rfl⟩))
        try go_wp2
        go_ret3
        exact term_hit hp HX.out (by rfl) hpk hown.out hb.out
      · have e3 : ((bs[k].toNat : Int) == (t.toNat : Int)) = false := by
          rw [beq_eq_false_iff_ne]
          intro h
          exact hx (UInt8.toNat_inj.1 (by omega))
        by_cases h92 : bs[k] = 92
        · have e4 : ((bs[k].toNat : Int) == 92) = true := by rw [h92]; rfl
          have HE := Lib.hid (HT.out.esc hpk hlt hx h92)
          by_cases hlt2 : k + 1 < bs.length
          · have k2 : (k : Int) + 1 < (bs.length : Int) := by omega
            have k3 : ((k : Int) + 1 == (bs.length : Int)) = false := by rw [beq_eq_false_iff_ne]; omega
            obtain ⟨b', off', hab, hc10⟩ := H.out (k + 1) hlt2
            injection hab with hab
            injection hab with hb1 hb2
            subst hb1 hb2
            have hc1 := cellK hb.out (Nat.le_refl _) hc10
            have HBT1 := Lib.hid (bs[k + 1].toNat_lt)
            have HN := Lib.hid (HE.out.take (by omega) hlt2 (.inl rfl))
            clear hx h92 HT HE hc0 hc10
            obtain ⟨y, hy⟩ : ∃ y, y = bs[k + 1] := ⟨_, rfl⟩
            rw [← hy] at hc1 HBT1 HN
            clear hy
            go_wp2_with (first | (go_at_call 33; refine (in_any _ _ _ true _ hin).mono ?_; rintro e wx ⟨rfl, rfl⟩) | (at_builtin; refine wpList_append_own _ rfl _ _ 24 rfl w.heap.size 5 i0 (.int .u8 0) 1 1 Try.underlying24 hi hz0 hz1 hz2 rfl (by decide) _ _ _ rfl (World.ownsRow.alloc hown.out _) ⟨wr.heap.size, 0, none⟩ 1 1 [.int .u8 (y.toNat : Int)] rfl rfl ?c1 ?c2 ?c3 ?c4 ?c5 ?_))
            case c1 =>
              intro j u hj
              match j, hj with
              | 0, hj => simp at hj; subst hj; simp [Addr.add]
            case c2 => intro u hu; simp at hu; subst hu; rfl
            case c3 => unfold maxLen; omega
            case c4 => omega
            case c5 => have := hb.out.size; simp; omega
            · intro v' w2 hown' hgrow _
              obtain ⟨R1, R2⟩ := push_own (x := y) hown.out hb.out hown' hgrow
              have HR1 := Lib.hid R1
              have HR2 := Lib.hid R2
              clear hown' hgrow R1 R2
              go_wp2
              go_roundw
              case rel => exact ⟨k + 2, acc ++ [y], by omega, by omega, by go_num, by simp; omega, HN, HR1, HR2⟩
              case measure => simp [intOf]; omega
          · have k3 : ((k : Int) + 1 == (bs.length : Int)) = true := by rw [beq_iff_eq]; omega
            have HX := Lib.hid (term_none hp (HE.out.none (by omega)))
            clear hx h92 HT HE hc0
            go_wp2_with ((go_at_call 33; refine (in_any _ _ _ true _ hin).mono ?_; rintro e wx ⟨rfl, rfl⟩))
            try go_wp2
            go_ret3
            exact term_fail (by first | rfl | simp) HX.out hb.out
        · have e4 : ((bs[k].toNat : Int) == 92) = false := by
            rw [beq_eq_false_iff_ne]
            intro h
            exact h92 (UInt8.toNat_inj.1 (by have h2 : (92 : UInt8).toNat = 92 := rfl; omega))
          have HN := Lib.hid (HT.out.take hpk hlt (.inr ⟨hx, h92⟩))
          clear hx h92 HT hc0
          obtain ⟨y, hy⟩ : ∃ y, y = bs[k] := ⟨_, rfl⟩
          rw [← hy] at hc HBT HN e3 e4
          clear hy
          go_wp2_with (first | (go_at_call 33; refine (in_any _ _ _ true _ hin).mono ?_; rintro e wx ⟨rfl, rfl⟩) | (at_builtin; refine wpList_append_own _ rfl _ _ 24 rfl w.heap.size 5 i0 (.int .u8 0) 1 1 Try.underlying24 hi hz0 hz1 hz2 rfl (by decide) _ _ _ rfl (World.ownsRow.alloc hown.out _) ⟨wr.heap.size, 0, none⟩ 1 1 [.int .u8 (y.toNat : Int)] rfl rfl ?c1 ?c2 ?c3 ?c4 ?c5 ?_))
          case c1 =>
            intro j u hj
            match j, hj with
            | 0, hj => simp at hj; subst hj; simp [Addr.add]
          case c2 => intro u hu; simp at hu; subst hu; rfl
          case c3 => unfold maxLen; omega
          case c4 => omega
          case c5 => have := hb.out.size; simp; omega
          · intro v' w2 hown' hgrow _
            obtain ⟨R1, R2⟩ := push_own (x := y) hown.out hb.out hown' hgrow
            have HR1 := Lib.hid R1
            have HR2 := Lib.hid R2
            clear hown' hgrow R1 R2
            go_wp2
            go_roundw
            case rel => exact ⟨k + 1, acc ++ [y], by omega, by omega, by go_num, by simp; omega, HN, HR1, HR2⟩
            case measure => simp [intOf]; omega
    · have k1 : ¬ (k : Int) < (bs.length : Int) := by omega
      have HX := Lib.hid (term_none hp (HT.out.none (by omega)))
      clear HT
      go_wp2_with ((go_at_call 33; refine (in_any _ _ _ true _ hin).mono ?_; rintro e wx ⟨rfl, rfl⟩))
      try go_wp2
      go_ret3
      exact term_fail (by first | rfl | simp) HX.out hb.out
set_option maxRecDepth 100000 in
theorem term_spec (a : Option Addr) (bs : List UInt8) (cap : Nat) (n : Int) (t : UInt8) (w : World) (hl : bs.length ≤ 1048576) (h : Rd a bs w) :
    Calls Try.prog 9 #[.slice a bs.length cap, .int .i64 n, .int .u8 (t.toNat : Int)] w (TermOut (termL bs n t) (termN bs n t) (termK bs n t) w) := by
  by_cases hn : 0 ≤ n ∧ n ≤ (bs.length : Int)
  · obtain ⟨p, rfl⟩ : ∃ p : Nat, n = (p : Int) := ⟨n.toNat, by omega⟩
    exact term_specN a bs cap p t w hl (by omega) h
  · have HX : Hid (termO bs n t = none) := by show termO bs n t = none; unfold termO; rw [if_neg hn]
    have hin : decide ((0 : Int) ≤ n ∧ n ≤ (bs.length : Int)) = false := decide_eq_false hn
    go_enter Try.func9, Try.ntmps9
    go_wp2
    refine wp_loop_rounds 1 ?_
    rw [rounds_succ]
    go_wp2_with ((go_at_call 33; refine (in_any _ _ _ false _ hin).mono ?_; rintro e wx ⟨rfl, rfl⟩))
    try go_wp2
    go_ret3
    exact term_fail (by first | rfl | simp) HX.out ((Below.refl _ _).alloc (Nat.le_refl _) _)
set_option maxRecDepth 100000 in
set_option maxHeartbeats 4000000 in
theorem term_implN (a : Option Addr) (bs : List UInt8) (cap p : Nat) (t : UInt8) (w : World) (hl : bs.length ≤ 1048576) (hp : p ≤ bs.length) (hsrc : SrcB a bs cap w) :
    Calls Try.prog 11 #[.slice a bs.length cap, .int .i64 (p : Int), .int .u8 (t.toNat : Int)] w (TermOut (termL bs p t) (termN bs p t) (termK bs p t) w) := by
  obtain ⟨i0, hi, hz0, hz1, hz2⟩ := infoParts
  obtain ⟨A, C, hsl, hA⟩ := cut_from a bs cap p w hp hsrc
  have H := Lib.hid (hA w hsrc.1)
  have hin : decide ((0 : Int) ≤ (p : Int) ∧ (p : Int) ≤ (bs.length : Int)) = true := decide_eq_true ⟨by omega, by omega⟩
  have HS := Lib.hid (TermAt.start bs p t)
  obtain ⟨m, hm⟩ : ∃ m, m = bs.length - p := ⟨_, rfl⟩
  rw [← hm] at hsl
  have HM := Lib.hid hm
  clear hsrc hA hm
  go_enter Try.func11, Try.ntmps11
  go_wp2_with ((go_at_call 34; refine (inR_impl _ _ _ true _ hin).mono ?_; rintro e wx ⟨rfl, rfl⟩))
  go_loopw [9, 10, 11, 12, 25] (fun v e _ _ i W => ∃ (k : Nat) (acc : List UInt8) (es : Bool), p ≤ k ∧ k ≤ bs.length ∧ i = .int .i64 ((k - p : Nat) : Int) ∧ e = .bool es ∧ acc.length ≤ k ∧ Hid (TermAt bs p t k es acc) ∧ Hid (OwnB w.heap.size v acc W) ∧ Hid (Below w.heap.size w W)) (fun _ _ _ _ i _ => m - (intOf i).toNat)
  case atStart => exact ⟨p, [], false, Nat.le_refl _, hp, by simp, rfl, Nat.zero_le _, HS, OwnB.start w, (Below.refl _ _).alloc (Nat.le_refl _) _⟩
  case round =>
    clear HS
    obtain ⟨k, acc, es, hpk, hkl, rfl, rfl, hal, HT, hown, hb⟩ := hrel
    obtain ⟨j, hj⟩ : ∃ j, j = k - p := ⟨_, rfl⟩
    rw [← hj]
    have j0 : (0 : Int) ≤ (j : Int) := by omega
    have jb : (j : Int) ≤ 1048576 := by omega
    have jp : (p : Int) + (j : Int) ≤ 1048576 := by omega
    by_cases hlt : k < bs.length
    · have j1 : (j : Int) < (m : Int) := by have := HM.out; omega
      have HJ := Lib.hid hj
      have hjl : j < (bs.drop p).length := by rw [List.length_drop]; omega
      obtain ⟨b, off, rfl, hc0⟩ := H.out j hjl
      have hge : (bs.drop p)[j] = bs[k] := by rw [List.getElem_drop]; congr 1; omega
      obtain ⟨y, hy⟩ : ∃ y, y = bs[k] := ⟨_, rfl⟩
      have hc : wr.cell? ⟨b, off + j, none⟩ = some (.int .u8 (y.toNat : Int)) := by rw [hy, ← hge]; exact cellK hb.out (Nat.le_refl _) hc0
      have HBT := Lib.hid (y.toNat_lt)
      have HY := Lib.hid hy
      clear hc0 hge hjl hy hj
      have HLK := Lib.hid hlt
      cases es with
      | true =>
        have HN := Lib.hid (HT.out.takeY hpk hlt HY.out (.inl rfl))
        clear HT
        go_wp2_with (at_builtin; refine wpList_append_own _ rfl _ _ 24 rfl w.heap.size 5 i0 (.int .u8 0) 1 1 Try.underlying24 hi hz0 hz1 hz2 rfl (by decide) _ _ _ rfl (World.ownsRow.alloc hown.out _) ⟨wr.heap.size, 0, none⟩ 1 1 [.int .u8 (y.toNat : Int)] rfl rfl ?c1 ?c2 ?c3 ?c4 ?c5 ?_)
        case c1 =>
          intro j u hj
          match j, hj with
          | 0, hj => simp at hj; subst hj; simp [Addr.add]
        case c2 => intro u hu; simp at hu; subst hu; rfl
        case c3 => unfold maxLen; omega
        case c4 => omega
        case c5 => have := hb.out.size; simp; omega
        · intro v' w2 hown' hgrow _
          obtain ⟨R1, R2⟩ := push_own (x := y) hown.out hb.out hown' hgrow
          have HR1 := Lib.hid R1
          have HR2 := Lib.hid R2
          clear hown' hgrow R1 R2
          go_wp2
          go_roundw
          case rel => exact ⟨k + 1, acc ++ [y], false, by omega, by omega, (by have := HJ.out; go_num), rfl, by simp; omega, HN, HR1, HR2⟩
          case measure => simp [intOf]; have := HM.out; have := HJ.out; omega
      | false =>
        by_cases hx : y = t
        · have e3 : ((y.toNat : Int) == (t.toNat : Int)) = true := by rw [hx]; simp
          have HX := Lib.hid (HT.out.hitY hlt HY.out hx)
          clear hx HT hal
          go_wp2
          go_ret3
          exact term_hit hp HX.out (by have := HJ.out; omega) hpk hown.out hb.out
        · have e3 : ((y.toNat : Int) == (t.toNat : Int)) = false := by
            rw [beq_eq_false_iff_ne]
            intro h
            exact hx (UInt8.toNat_inj.1 (by omega))
          by_cases h92 : y = 92
          · have e4 : ((y.toNat : Int) == 92) = true := by rw [h92]; rfl
            have HN := Lib.hid (HT.out.escY hpk hlt HY.out hx h92)
            clear hx h92 HT
            go_wp2
            go_roundw
            case rel => exact ⟨k + 1, acc, true, by omega, by omega, (by have := HJ.out; go_num), rfl, by omega, HN, hown, hb⟩
            case measure => simp [intOf]; have := HM.out; have := HJ.out; omega
          · have e4 : ((y.toNat : Int) == 92) = false := by
              rw [beq_eq_false_iff_ne]
              intro h
              exact h92 (UInt8.toNat_inj.1 (by have h2 : (92 : UInt8).toNat = 92 := rfl; omega))
            have HN := Lib.hid (HT.out.takeY hpk hlt HY.out (.inr ⟨hx, h92⟩))
            clear hx h92 HT
            go_wp2_with (at_builtin; refine wpList_append_own _ rfl _ _ 24 rfl w.heap.size 5 i0 (.int .u8 0) 1 1 Try.underlying24 hi hz0 hz1 hz2 rfl (by decide) _ _ _ rfl (World.ownsRow.alloc hown.out _) ⟨wr.heap.size, 0, none⟩ 1 1 [.int .u8 (y.toNat : Int)] rfl rfl ?c1 ?c2 ?c3 ?c4 ?c5 ?_)
            case c1 =>
              intro j u hj
              match j, hj with
              | 0, hj => simp at hj; subst hj; simp [Addr.add]
            case c2 => intro u hu; simp at hu; subst hu; rfl
            case c3 => unfold maxLen; omega
            case c4 => omega
            case c5 => have := hb.out.size; simp; omega
            · intro v' w2 hown' hgrow _
              obtain ⟨R1, R2⟩ := push_own (x := y) hown.out hb.out hown' hgrow
              have HR1 := Lib.hid R1
              have HR2 := Lib.hid R2
              clear hown' hgrow R1 R2
              go_wp2
              go_roundw
              case rel => exact ⟨k + 1, acc ++ [y], false, by omega, by omega, (by have := HJ.out; go_num), rfl, by simp; omega, HN, HR1, HR2⟩
              case measure => simp [intOf]; have := HM.out; have := HJ.out; omega
    · have j1 : ¬ (j : Int) < (m : Int) := by have := HM.out; omega
      have HX := Lib.hid (term_none hp (HT.out.none (by omega)))
      clear HT hj
      go_wp2
      go_ret3
      exact term_fail (by first | rfl | simp) HX.out hb.out
set_option maxRecDepth 100000 in
theorem term_impl (a : Option Addr) (bs : List UInt8) (cap : Nat) (n : Int) (t : UInt8) (w : World) (hl : bs.length ≤ 1048576) (h : SrcB a bs cap w) :
    Calls Try.prog 11 #[.slice a bs.length cap, .int .i64 n, .int .u8 (t.toNat : Int)] w (TermOut (termL bs n t) (termN bs n t) (termK bs n t) w) := by
  by_cases hn : 0 ≤ n ∧ n ≤ (bs.length : Int)
  · obtain ⟨p, rfl⟩ : ∃ p : Nat, n = (p : Int) := ⟨n.toNat, by omega⟩
    exact term_implN a bs cap p t w hl (by omega) h
  · have HX : Hid (termO bs n t = none) := by show termO bs n t = none; unfold termO; rw [if_neg hn]
    have hin : decide ((0 : Int) ≤ n ∧ n ≤ (bs.length : Int)) = false := decide_eq_false hn
    go_enter Try.func11, Try.ntmps11
    go_wp2_with ((go_at_call 34; refine (inR_impl _ _ _ false _ hin).mono ?_; rintro e wx ⟨rfl, rfl⟩))
    try go_wp2
    go_ret3
    exact term_fail (by first | rfl | simp) HX.out (Below.refl _ _)
end Go.Proofs.Ytikpbeealeofaaa
