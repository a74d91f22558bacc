/- Contract of the program's SpliceBytes: parts by full slice expressions, bytes.Clone, slices.Grow, slices.Concat. -/
import Derived.Test.YthgcfdhndmgjlaaShelf
import Derived.Test.YthgcfdhndmgjlaaSplice
namespace Go.Proofs.Ythgcfdhndmgjlaa
open Go Go.RowKit
theorem clone_impl (a : Option Addr) (bs : List UInt8) (cap : Nat) (w : World) (hl : bs.length ≤ 1099511627776) (hs : Src1 a bs cap w) :
    Calls Try.prog 54 #[.slice a bs.length cap] w (BytesOut bs w) := by
  rcases a with _ | ad
  · have hbs : bs = [] := by
      cases bs with
      | nil => rfl
      | cons c r => obtain ⟨b, off, h, _⟩ := hs.1 0 (by simp); cases h
    subst hbs
    refine (Try.bytes_Clone_nil 0 cap w).mono ?_
    rintro e w' ⟨rfl, rfl⟩
    exact ⟨none, 0, rfl, ⟨.inl rfl, Nat.le_refl _, fun _ => rfl⟩, Below.refl _ _⟩
  · refine (Try.bytes_Clone_at ad bs.length cap (bs.map fun b => (b.toNat : Int)) w (by simp) (by omega) (fun i hi => ?_)).mono ?_
    · obtain ⟨b, off, hab, hc⟩ := hs.1 i hi
      injection hab with hab
      subst hab
      rw [Go.WideShapes.add_plain, hc]
      simp [List.getD, hi]
    · rintro e w' ⟨v, rfl, ho, _, hb⟩
      have ho2 : OwnB w.heap.size v bs w' := by
        unfold OwnB
        rw [List.map_map] at ho
        exact ho
      obtain ⟨a2, c2, rfl, hr⟩ := ho2.row
      exact ⟨a2, c2, rfl, hr, hb⟩
/-- The bytes from p up to q. -/
def partB (bs : List UInt8) (p q : Nat) : List UInt8 := (bs.drop p).take (q - p)
theorem partB_length (bs : List UInt8) (p q : Nat) (h : q ≤ bs.length) : (partB bs p q).length = q - p := by
  unfold partB; rw [List.length_take, List.length_drop]; omega
theorem partB_get (bs : List UInt8) (p q j : Nat) (h : j < (partB bs p q).length) (hj : p + j < bs.length) : (partB bs p q)[j] = bs[p + j] := by
  have h' : j < ((bs.drop p).take (q - p)).length := h
  show ((bs.drop p).take (q - p))[j]'h' = _
  rw [List.getElem_take, List.getElem_drop]
theorem slice_three (a : Option Addr) (bs : List UInt8) (cap p q : Nat) (w : World) (hpq : p ≤ q) (hq : q ≤ bs.length) (hc : bs.length ≤ cap) (hs : Src1 a bs cap w) :
    ∃ A C, (∀ W, (Instr.slice 22 (.slice a bs.length cap) (some (.int .i64 (p : Int))) (some (.int .i64 (q : Int))) (some (.int .i64 (q : Int)))).run Try.prog W = .ok (.slice A (partB bs p q).length C) W) ∧ Src1 A (partB bs p q) C w := by
  refine ⟨if q = p then a else a.map (·.add (p * 1)), q - p, fun W => ?_, ?_, ?_⟩
  · rw [run_slice_lhm W 22 a bs.length cap elemU8 .i64 .i64 .i64 (p : Int) (q : Int) (q : Int) (by omega) (by omega) (by omega) (by omega), sizeElem, partB_length bs p q hq]
    simp [Result.andThen, sliced]
  · intro j hj
    have hjl : p + j < bs.length := by rw [partB_length bs p q hq] at hj; omega
    have hne : q ≠ p := by rw [partB_length bs p q hq] at hj; omega
    obtain ⟨b, off, rfl, hcell⟩ := hs.1 (p + j) hjl
    refine ⟨b, off + p, ?_, ?_⟩
    · rw [if_neg hne]
      simp [Go.WideShapes.add_plain]
    · rw [Nat.add_assoc, hcell, partB_get bs p q j hj hjl]
  · intro h
    by_cases h0 : q = p
    · omega
    · rw [if_neg h0] at h
      have := hs.2 (by cases a with
        | none => rfl
        | some x => simp at h)
      omega
theorem take_impl (a : Option Addr) (bs : List UInt8) (cap p q : Nat) (w : World) (hpq : p ≤ q) (hq : q ≤ bs.length) (hc : bs.length ≤ cap) (hs : Src1 a bs cap w) :
    Calls Try.prog 55 #[.slice a bs.length cap, .int .i64 (p : Int), .int .i64 (q : Int)] w fun e w' => (∃ A C, e = .returned (.slice A (partB bs p q).length C) ∧ Src1 A (partB bs p q) C w) ∧ w = w' := by
  obtain ⟨A, C, hr, hs1⟩ := slice_three a bs cap p q w hpq hq hc hs
  have H1 := Lib.hid hs1
  generalize partB bs p q = cs at *
  clear hs hs1 hpq hq hc
  go_enter Try.func55, Try.ntmps55
  go_wp2
  go_ret
  exact ⟨⟨A, C, rfl, H1.out⟩, rfl⟩
theorem grow_nil (n : Nat) (w : World) (hn : n ≤ 1099511627776) :
    Calls Try.prog 63 #[.slice none 0 0, .int .i64 (n : Int)] w fun e w' => ∃ v, e = .returned v ∧ OwnB w.heap.size v [] w' ∧ Below w.heap.size w w' := by
  obtain ⟨i0, hi, hz0, hz1, hz2⟩ := infoParts
  by_cases h0 : n = 0
  · subst h0
    refine (Any8.slices_Grow_room Try.laysGrow none 0 0 0 w (by omega) (by omega) (by omega) (by omega)).mono ?_
    rintro e w' ⟨rfl, rfl⟩
    exact ⟨_, rfl, World.ownsRow_nil _ _ _ _, Below.refl _ _⟩
  · refine (Any8.slices_Grow_grow Try.laysGrow i0 (.int .u8 0) hi hz0 (by omega) none 0 0 n [] w (by omega) (by omega) (by rw [hz2]; omega) (by omega) (by simp) (fun _ => rfl) (fun a h => by cases h)).mono ?_
    rintro e w' ⟨rfl, rfl⟩
    have h1 := grownCap_ge w n 0 5
    have h2 := grownCap_le_maxLen w (0 + n) 0 5 (by unfold maxLen; omega)
    refine ⟨_, rfl, World.ownsRow_made w.drew _ _ (Nat.le_refl _) h2 ?_, (Below.refl _ _).drew.alloc (Nat.le_refl _) _⟩
    simp [Builtin.zeroCells, Value.cells]
    exact Nat.add_sub_cancel' h1
/-- What holds at the head of a round of Concat's first loop. -/
def RelS (n1 n2 n3 : Nat) (q i : Value) : Prop := (i = .int .i64 0 ∧ q = .int .i64 0) ∨ (i = .int .i64 1 ∧ q = .int .i64 (n1 : Int)) ∨ (i = .int .i64 2 ∧ q = .int .i64 ((n1 : Int) + (n2 : Int))) ∨ (i = .int .i64 3 ∧ q = .int .i64 ((n1 : Int) + (n2 : Int) + (n3 : Int)))
/-- .. and of its second one. -/
def RelC (b1 b2 b3 : List UInt8) (w : World) (v i : Value) (W : World) : Prop := ∃ v0 acc, v0 = v ∧ ((i = .int .i64 0 ∧ [] = acc) ∨ (i = .int .i64 1 ∧ b1 = acc) ∨ (i = .int .i64 2 ∧ b1 ++ b2 = acc) ∨ (i = .int .i64 3 ∧ b1 ++ b2 ++ b3 = acc)) ∧ Hid (OwnB w.heap.size v0 acc W) ∧ Hid (Below w.heap.size w W)
set_option maxRecDepth 100000 in
set_option maxHeartbeats 2000000 in
theorem concat_impl (g : Nat) (a1 a2 a3 : Option Addr) (b1 b2 b3 : List UInt8) (c1 c2 c3 : Nat) (w : World) (l1 : b1.length ≤ 1048576) (l2 : b2.length ≤ 1048576) (l3 : b3.length ≤ 1048576)
    (k1 : w.cell? ⟨g, 0, none⟩ = some (.slice a1 b1.length c1)) (k2 : w.cell? ⟨g, 1, none⟩ = some (.slice a2 b2.length c2)) (k3 : w.cell? ⟨g, 2, none⟩ = some (.slice a3 b3.length c3))
    (s1 : Src1 a1 b1 c1 w) (s2 : Src1 a2 b2 c2 w) (s3 : Src1 a3 b3 c3 w) :
    Calls Try.prog 56 #[.slice (some ⟨g, 0, none⟩) 3 3] w (BytesOut (b1 ++ b2 ++ b3) w) := by
  have S1 := Lib.hid s1
  have S2 := Lib.hid s2
  have S3 := Lib.hid s3
  have hg : g < w.heap.size := cell_lt k1
  clear s1 s2 s3
  go_enter Try.func56, Try.ntmps56
  go_wp2
  go_loop [3, 5, 11] (fun q _ i => RelS b1.length b2.length b3.length q i) (fun _ _ i => 3 - (intOf i).toNat)
  case atStart => exact .inl ⟨rfl, rfl⟩
  case round =>
    rcases hrel with ⟨rfl, rfl⟩ | ⟨rfl, rfl⟩ | ⟨rfl, rfl⟩ | ⟨rfl, rfl⟩
    · go_wp2
      go_round
      case rel => exact .inr (.inl ⟨rfl, rfl⟩)
      case measure => simp [intOf]
    · go_wp2
      go_round
      case rel => exact .inr (.inr (.inl ⟨rfl, rfl⟩))
      case measure => simp [intOf]
    · go_wp2
      go_round
      case rel => exact .inr (.inr (.inr ⟨rfl, rfl⟩))
      case measure => simp [intOf]
    · obtain ⟨n, hn⟩ : ∃ n : Nat, (n : Int) = (b1.length : Int) + (b2.length : Int) + (b3.length : Int) := ⟨b1.length + b2.length + b3.length, by omega⟩
      rw [← hn]
      have hn2 : n ≤ 4194304 := by omega
      clear hn
      go_wp2_with fail
      refine (grow_nil n _ (by omega)).mono ?_
      rintro e w1 ⟨v1, rfl, ho1, hb1⟩
      have HO1 := Lib.hid ho1
      have HB1 := Lib.hid hb1
      clear ho1 hb1
      go_wp2_with fail
      go_loopw [6, 8, 27] (fun v _ i W => RelC b1 b2 b3 w v i W) (fun _ _ i _ => 3 - (intOf i).toNat)
      case atStart => exact ⟨v1, [], rfl, .inl ⟨rfl, rfl⟩, HO1.out, HB1.out⟩
      case round =>
        obtain ⟨v, acc, rfl, hi, HO, HB⟩ := hrel
        have q1 : wr.cell? ⟨g, 0, none⟩ = some (.slice a1 b1.length c1) := (HB.out.cell hg).trans k1
        have q2 : wr.cell? ⟨g, 1, none⟩ = some (.slice a2 b2.length c2) := (HB.out.cell hg).trans k2
        have q3 : wr.cell? ⟨g, 2, none⟩ = some (.slice a3 b3.length c3) := (HB.out.cell hg).trans k3
        rcases hi with ⟨rfl, rfl⟩ | ⟨rfl, rfl⟩ | ⟨rfl, rfl⟩ | ⟨rfl, rfl⟩
        · go_wp2_with (at_builtin; refine wp_app rfl _ _ rfl w.heap.size v [] b1 a1 c1 _ rfl rfl HO.out (S1.out.below HB.out) (by simp; omega) HB.out.size ?_)
          intro v' w2 ho hg2
          have R1 := Lib.hid ho
          have R2 := Lib.hid (app_frame HB.out HB.out.size HO.out hg2)
          clear ho hg2
          go_wp2
          go_roundw
          case rel => exact ⟨v', _, rfl, .inr (.inl ⟨rfl, (List.nil_append _).symm⟩), R1.out, R2.out⟩
          case measure => simp [intOf]
        · go_wp2_with (at_builtin; refine wp_app rfl _ _ rfl w.heap.size v b1 b2 a2 c2 _ rfl rfl HO.out (S2.out.below HB.out) (by omega) HB.out.size ?_)
          intro v' w2 ho hg2
          have R1 := Lib.hid ho
          have R2 := Lib.hid (app_frame HB.out HB.out.size HO.out hg2)
          clear ho hg2
          go_wp2
          go_roundw
          case rel => exact ⟨v', _, rfl, .inr (.inr (.inl ⟨rfl, rfl⟩)), R1.out, R2.out⟩
          case measure => simp [intOf]
        · go_wp2_with (at_builtin; refine wp_app rfl _ _ rfl w.heap.size v (b1 ++ b2) b3 a3 c3 _ rfl rfl HO.out (S3.out.below HB.out) (by simp; omega) HB.out.size ?_)
          intro v' w2 ho hg2
          have R1 := Lib.hid ho
          have R2 := Lib.hid (app_frame HB.out HB.out.size HO.out hg2)
          clear ho hg2
          go_wp2
          go_roundw
          case rel => exact ⟨v', _, rfl, .inr (.inr (.inr ⟨rfl, rfl⟩)), (by have h := R1.out; rw [← List.append_assoc] at h; exact h), R2.out⟩
          case measure => simp [intOf]
        · go_wp2
          go_ret
          obtain ⟨a2, c2, rfl, hf⟩ := HO.out.row
          exact ⟨a2, c2, rfl, hf, HB.out⟩
set_option maxRecDepth 100000 in
theorem splice_inot (a ai : Option Addr) (bs is : List UInt8) (cap capi : Nat) (k r : Int) (w : World) (hl : bs.length ≤ 1048576) (hk : k ≤ 9223372036854775807) (hs : Src1 a bs cap w) (h : ¬ (0 ≤ k ∧ 0 ≤ r ∧ k + r ≤ bs.length)) :
    Calls Try.prog 27 #[.slice a bs.length cap, .int .i64 k, .int .i64 r, .slice ai is.length capi] w (BytesOkOut bs false w) := by
  have HC := Lib.hid (clone_impl a bs cap w (by omega) hs)
  clear hs
  by_cases h1 : k < 0
  · go_enter Try.func27, Try.ntmps27
    go_wp2_with fail
    refine HC.out.mono ?_
    rintro e w1 ⟨a1, c1, rfl, hr, hb⟩
    have HR := Lib.hid hr
    have HB := Lib.hid hb
    clear hr hb
    go_wp2_with fail
    go_ret2
    exact ⟨a1, c1, rfl, HR.out, HB.out⟩
  · have g1 : decide (k < 0) = false := by simp; omega
    by_cases h2 : r < 0
    · go_enter Try.func27, Try.ntmps27
      go_wp2_with fail
      refine HC.out.mono ?_
      rintro e w1 ⟨a1, c1, rfl, hr, hb⟩
      have HR := Lib.hid hr
      have HB := Lib.hid hb
      clear hr hb
      go_wp2_with fail
      go_ret2
      exact ⟨a1, c1, rfl, HR.out, HB.out⟩
    · have g2 : decide (r < 0) = false := by simp; omega
      have g4 : (bs.length : Int) - k < r := by omega
      have g5 : -9223372036854775808 ≤ (bs.length : Int) - k := by omega
      have g6 : (bs.length : Int) - k ≤ 9223372036854775807 := by omega
      go_enter Try.func27, Try.ntmps27
      go_wp2_with fail
      refine HC.out.mono ?_
      rintro e w1 ⟨a1, c1, rfl, hr, hb⟩
      have HR := Lib.hid hr
      have HB := Lib.hid hb
      clear hr hb
      go_wp2_with fail
      go_ret2
      exact ⟨a1, c1, rfl, HR.out, HB.out⟩
theorem partB_pre (bs : List UInt8) (p : Nat) : partB bs 0 p = bs.take p := by unfold partB; simp
theorem partB_post (bs : List UInt8) (m : Nat) : partB bs m bs.length = bs.drop m := by
  unfold partB
  rw [List.take_of_length_le (by rw [List.length_drop]; exact Nat.le_refl _)]
set_option maxRecDepth 100000 in
set_option maxHeartbeats 1000000 in
theorem splice_iyes (a ai : Option Addr) (bs is : List UInt8) (cap capi p q : Nat) (w : World) (hl : bs.length ≤ 1048576) (hli : is.length ≤ 1048576) (hc : bs.length ≤ cap) (hs : Src1 a bs cap w) (hi : Src1 ai is capi w) (h : p + q ≤ bs.length) :
    Calls Try.prog 27 #[.slice a bs.length cap, .int .i64 p, .int .i64 q, .slice ai is.length capi] w (BytesOkOut (spliceOf bs is p q) true w) := by
  obtain ⟨m, hm⟩ : ∃ m : Nat, m = p + q := ⟨_, rfl⟩
  have H1 := Lib.hid (take_impl a bs cap 0 p w (by omega) (by omega) hc hs)
  have H2 := Lib.hid (take_impl a bs cap m bs.length w (by omega) (by omega) hc hs)
  have HI := Lib.hid hi
  have P1 := Lib.hid (partB_pre bs p)
  have P2 := Lib.hid (partB_post bs m)
  have hl1 : (partB bs 0 p).length ≤ 1048576 := by rw [partB_length _ _ _ (by omega)]; omega
  have hl2 : (partB bs m bs.length).length ≤ 1048576 := by rw [partB_length _ _ _ (by omega)]; omega
  have HM := Lib.hid hm
  have g1 : decide ((p : Int) < 0) = false := by simp
  have g2 : decide ((q : Int) < 0) = false := by simp
  have g4 : decide ((bs.length : Int) - (p : Int) < (q : Int)) = false := by simp; omega
  have g5 : -9223372036854775808 ≤ (bs.length : Int) - (p : Int) := by omega
  have g6 : (bs.length : Int) - (p : Int) ≤ 9223372036854775807 := by omega
  have hw : IntKind.i64.wrap ((p : Int) + (q : Int)) = (m : Int) := by rw [IntWalk.i64_in _ (by omega)]; omega
  generalize hx1 : partB bs 0 p = b1 at *
  generalize hx2 : partB bs m bs.length = b3 at *
  have E : Hid (b1 ++ is ++ b3 = spliceOf bs is p q) := by
    show _ = _
    rw [P1.out, P2.out, HM.out]; rfl
  generalize spliceOf bs is p q = cs at *
  clear hm hs hi hc h hx1 hx2 P1 P2 HM
  go_enter Try.func27, Try.ntmps27
  go_wp2_with fail
  refine H1.out.mono ?_
  rintro e w1 ⟨⟨A1, C1, rfl, s1⟩, rfl⟩
  have S1 := Lib.hid s1
  clear s1
  go_wp2_with fail
  refine H2.out.mono ?_
  rintro e w1 ⟨⟨A3, C3, rfl, s3⟩, rfl⟩
  have S3 := Lib.hid s3
  clear s3
  go_wp2_with fail
  have hb0 := (Below.refl w.heap.size w).alloc (Nat.le_refl _) (.cells #[.slice A1 b1.length C1, .slice ai is.length capi, .slice A3 b3.length C3] 22)
  refine (concat_impl w.heap.size A1 ai A3 b1 is b3 C1 capi C3 _ hl1 hli hl2 (by simp) (by simp) (by simp) (S1.out.below hb0) (HI.out.below hb0) (S3.out.below hb0)).mono ?_
  rintro e w2 ho
  have ho2 := bytesOut_below hb0 ho
  rw [E.out] at ho2
  have HO := Lib.hid ho2
  clear ho2
  obtain ⟨a4, c4, rfl, hr, hb⟩ := HO.out
  have HR := Lib.hid hr
  have HB := Lib.hid hb
  clear ho hb0 hr hb HO
  go_wp2_with fail
  go_ret2
  exact ⟨a4, c4, rfl, HR.out, HB.out⟩
theorem splice_impl (a : Option Addr) (bs : List UInt8) (cap : Nat) (k r : Int) (ai : Option Addr) (is : List UInt8) (capi : Nat) (w : World) (hl : bs.length ≤ 1048576) (hli : is.length ≤ 1048576) (hk : I64 k) (_hr : I64 r) (hc : bs.length ≤ cap) (hs : Src1 a bs cap w) (hi : Src1 ai is capi w) :
    Calls Try.prog 27 #[.slice a bs.length cap, .int .i64 k, .int .i64 r, .slice ai is.length capi] w (BytesOkOut (spliceB bs k r is) (spliceK bs k r) w) := by
  by_cases h : 0 ≤ k ∧ 0 ≤ r ∧ k + r ≤ bs.length
  · rw [show spliceB bs k r is = spliceOf bs is k.toNat r.toNat from if_pos h, show spliceK bs k r = true from decide_eq_true h]
    obtain ⟨p, rfl⟩ : ∃ p : Nat, k = (p : Int) := ⟨k.toNat, by omega⟩
    obtain ⟨q, rfl⟩ : ∃ q : Nat, r = (q : Int) := ⟨r.toNat, by omega⟩
    exact splice_iyes a ai bs is cap capi p q w hl hli hc hs hi (by omega)
  · rw [show spliceB bs k r is = bs from if_neg h, show spliceK bs k r = false from decide_eq_false h]
    exact splice_inot a ai bs is cap capi k r w hl hk.2 hs h
end Go.Proofs.Ythgcfdhndmgjlaa
