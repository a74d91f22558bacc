/- It is proved that the law FnHex returns true at every input of its parameter types and leaves its arguments as they were (statement Rows.FnHexSaid), with no condition. -/
import Derived.Test.YthgcfdhndmgjlaaBytesImpl
import Derived.Test.YthgcfdhndmgjlaaDrawBytes
import Derived.Test.YthgcfdhndmgjlaaArg
namespace Go.Proofs.Ythgcfdhndmgjlaa
open Go Go.ChangeShapes Go.WideShapes Go.ChangeAt Go.RowKit
namespace fnHex
theorem hexV_hexD : ∀ n : Fin 16, hexV (hexD n.val) = (n.val : Int) := by decide +kernel
theorem hexD_hexV : ∀ c : Fin 256, 0 ≤ hexV (UInt8.ofNat c.val) → hexD (hexV (UInt8.ofNat c.val)).toNat = UInt8.ofNat c.val := by decide +kernel
theorem hexD_of (c : UInt8) (h : 0 ≤ hexV c) : hexD (hexV c).toNat = c := by
  have h1 := hexD_hexV ⟨c.toNat, c.toNat_lt⟩
  simp only [UInt8.ofNat_toNat] at h1
  exact h1 h
theorem unhex_hexL : ∀ bs : List UInt8, unhex (hexL bs) = some bs
  | [] => rfl
  | b :: r => by
    have hb := b.toNat_lt
    have h1 := hexV_hexD ⟨b.toNat / 16, by omega⟩
    have h2 := hexV_hexD ⟨b.toNat % 16, by omega⟩
    simp only at h1 h2
    rw [hexL, unhex, if_pos (by rw [h1, h2]; omega), unhex_hexL r, h1, h2]
    simp only [Option.map_some]
    congr 2
    rw [show ((b.toNat / 16 : Nat) : Int) * 16 + ((b.toNat % 16 : Nat) : Int) = (b.toNat : Int) by omega]
    simp
theorem hexL_unhex : ∀ (n : Nat) (l bs : List UInt8), l.length ≤ n → unhex l = some bs → hexL bs = l
  | _, [], bs, _, h => by
    simp only [unhex, Option.some.injEq] at h
    subst h; rfl
  | _, [_], bs, _, h => by simp [unhex] at h
  | 0, a :: b :: r, bs, hn, h => by simp at hn
  | n + 1, a :: b :: r, bs, hn, h => by
    rw [unhex] at h
    by_cases hab : 0 ≤ hexV a ∧ 0 ≤ hexV b
    · rw [if_pos hab] at h
      cases hr : unhex r with
      | none => simp [hr] at h
      | some cs =>
        have h1 := hexL_unhex n r cs (by simp at hn; omega) hr
        simp only [hr, Option.map_some, Option.some.injEq] at h
        subst h
        have ba := hexV_bounds a
        have bb := hexV_bounds b
        have e : (UInt8.ofNat (hexV a * 16 + hexV b).toNat).toNat = (hexV a * 16 + hexV b).toNat := by
          rw [UInt8.toNat_ofNat', Nat.mod_eq_of_lt (by omega)]
        rw [hexL, h1, e, show (hexV a * 16 + hexV b).toNat / 16 = (hexV a).toNat by omega, show (hexV a * 16 + hexV b).toNat % 16 = (hexV b).toNat by omega, hexD_of a hab.1, hexD_of b hab.2]
    · rw [if_neg hab] at h; cases h
theorem parse_format (bs : List UInt8) : parseHexOf (hexL bs) = (bs, true) := by
  unfold parseHexOf; rw [unhex_hexL]
theorem format_parse (s : ByteArray) : ∃ ys fine, parseHexOf s.data.toList = (ys, fine) ∧ ys.length ≤ s.size ∧ (fine = true → s = ⟨(hexL ys).toArray⟩) := by
  have hlen := parseHexOf_length s
  unfold parseHexOf at hlen ⊢
  cases h : unhex s.data.toList with
  | none => exact ⟨[], false, rfl, by simp, fun e => by cases e⟩
  | some ys =>
    rw [h] at hlen
    refine ⟨ys, true, rfl, hlen, fun _ => ?_⟩
    have h1 := hexL_unhex _ _ _ (Nat.le_refl _) h
    rw [h1]
theorem big_no (a : Option Addr) (n cap : Nat) (w : World) (h : n ≤ 1048576) : Calls Try.prog 14 #[.slice a n cap] w fun e w' => e = .returned (.bool false) ∧ w = w' := by
  have g : ¬ (1048576 : Int) < (n : Int) := by omega
  go_enter Try.func14, Try.ntmps14
  go_wp2
  go_ret
  exact ⟨rfl, rfl⟩
theorem big_yes (a : Option Addr) (n cap : Nat) (w : World) (h : 1048576 < n) (_hm : n ≤ 9223372036854775807) : Calls Try.prog 14 #[.slice a n cap] w fun e w' => e = .returned (.bool true) ∧ w = w' := by
  have g : (1048576 : Int) < (n : Int) := by omega
  go_enter Try.func14, Try.ntmps14
  go_wp2
  go_ret
  exact ⟨rfl, rfl⟩
theorem str_size (l : List UInt8) : (⟨l.toArray⟩ : ByteArray).size = l.length := by simp [ByteArray.size]
theorem walk_long (a0 : Option Addr) (bs0 : List UInt8) (cap0 : Nat) (w : World) (h : 1048576 < bs0.length) (hm : bs0.length ≤ 9223372036854775807) :
    Calls Try.prog 3 #[.slice a0 bs0.length cap0] w fun e w' => e = .returned (.bool true) ∧ Below w.heap.size w w' := by
  go_enter Try.func3, Try.ntmps3
  go_wp2_with fail
  refine (big_yes a0 bs0.length cap0 w h hm).mono ?_
  rintro e w1 ⟨rfl, rfl⟩
  go_wp2_with fail
  go_ret
  exact ⟨rfl, Below.refl _ _⟩
set_option maxRecDepth 100000 in
set_option maxHeartbeats 2000000 in
theorem walk_short (a0 : Option Addr) (bs0 : List UInt8) (cap0 : Nat) (w : World) (h : bs0.length ≤ 1048576) (hs : Code a0 bs0.length w) :
    Calls Try.prog 3 #[.slice a0 bs0.length cap0] w fun e w' => e = .returned (.bool true) ∧ Below w.heap.size w w' := by
  have HS := Lib.hid hs
  clear hs
  go_enter Try.func3, Try.ntmps3
  go_wp2_with fail
  refine (big_no a0 bs0.length cap0 w h).mono ?_
  rintro e w1 ⟨rfl, rfl⟩
  go_wp2_with fail
  refine (drawFormatHex a0 bs0.length cap0 w (by omega) HS.out).mono ?_
  rintro e w1 ⟨a1, bs, c1, hl1, rfl, hr1, hb1⟩
  have HR1 := Lib.hid hr1
  have HB1 := Lib.hid hb1
  clear hr1 hb1
  go_wp2_with fail
  refine (drawParseHex a0 bs0.length cap0 w1 (by omega) (HS.out.below HB1.out)).mono ?_
  rintro e w2 ⟨s, hl2, rfl, hb2⟩
  have HR2 := Lib.hid (HR1.out.below hb2)
  have HB2 := Lib.hid (HB1.out.trans (hb2.mono HB1.out.size))
  clear hb2 HR1 HB1
  go_wp2_with fail
  refine (fmthex_impl a1 bs c1 w2 (by omega) HR2.out.rd).mono ?_
  rintro e w3 ⟨rfl, hb3⟩
  have HR3 := Lib.hid (HR2.out.below hb3)
  have HB3 := Lib.hid (HB2.out.trans (hb3.mono HB2.out.size))
  clear hb3 HR2 HB2
  have hsz := hexL_length bs
  have hst := str_size (hexL bs)
  have HP := parsehex_impl ⟨(hexL bs).toArray⟩ w3 (by omega)
  rw [show (⟨(hexL bs).toArray⟩ : ByteArray).data.toList = hexL bs by simp, parse_format bs] at HP
  have HPH := Lib.hid HP
  have HSZ := Lib.hid hsz
  have HST := Lib.hid hst
  clear HP hsz hst
  have HQ : Hid (∃ t, t = (⟨(hexL bs).toArray⟩ : ByteArray)) := ⟨_, rfl⟩
  obtain ⟨t, hq⟩ := HQ.out
  rw [← hq]
  have HPH2 := HPH.out
  have hts := HST.out
  rw [← hq] at HPH2 hts
  rw [HSZ.out] at hts
  have HPH := Lib.hid HPH2
  have HT := Lib.hid hts
  have HQ := Lib.hid hq
  clear hq HPH2 hts
  go_wp2_with fail
  refine HPH.out.mono ?_
  rintro e w4 ⟨a4, c4, rfl, hr4, hb4⟩
  have HX4 := Lib.hid hr4
  have HR4 := Lib.hid (HR3.out.below hb4)
  have HB4 := Lib.hid (HB3.out.trans (hb4.mono HB3.out.size))
  clear hr4 hb4 HR3 HB3
  obtain ⟨ys, fine, he, hyl, hfine⟩ := format_parse s
  have HP2 := parsehex_impl s w4 (by omega)
  rw [he] at HP2
  have HPI := Lib.hid HP2
  have HF := Lib.hid hfine
  clear HP2 he hfine HPH
  go_wp2_with fail
  refine HPI.out.mono ?_
  rintro e w5 ⟨a5, c5, rfl, hr5, hb5⟩
  have HY5 := Lib.hid hr5
  have HX5 := Lib.hid (HX4.out.below hb5)
  have HR5 := Lib.hid (HR4.out.below hb5)
  have HB5 := Lib.hid (HB4.out.trans (hb5.mono HB4.out.size))
  clear hr5 hb5 HX4 HR4 HB4 HPI
  go_wp2_with fail
  refine (same_any a4 a1 bs bs c4 c1 w5 (by omega) HX5.out.rd HR5.out.rd).mono ?_
  rintro e w6 ⟨rfl, n6, rfl⟩
  rw [decide_eq_true (rfl : bs = bs)]
  have hb6 : Below w5.heap.size w5 (w5.drewN n6) := below_drewN (Below.refl _ _) n6
  generalize w5.drewN n6 = w6 at *
  have HY6 := Lib.hid (HY5.out.below hb6)
  have HR6 := Lib.hid (HR5.out.below hb6)
  have HB6 := Lib.hid (HB5.out.trans (hb6.mono HB5.out.size))
  clear hb6 HX5 HY5 HR5 HB5
  go_wp2_with fail
  refine (fmthex_impl a1 bs c1 w6 (by omega) HR6.out.rd).mono ?_
  rintro e w7 ⟨rfl, hb7⟩
  rw [← HQ.out]
  have HY7 := Lib.hid (HY6.out.below hb7)
  have HR7 := Lib.hid (HR6.out.below hb7)
  have HB7 := Lib.hid (HB6.out.trans (hb7.mono HB6.out.size))
  clear hb7 HY6 HR6 HB6
  have hts := HT.out
  cases fine
  · go_wp2_with fail
    refine (eqb_impl a1 bs c1 a1 bs c1 w7 (by omega) HR7.out.rd (by omega) HR7.out.rd).mono ?_
    rintro e w8 ⟨rfl, hb8⟩
    rw [decide_eq_true (rfl : bs = bs)]
    have HB8 := Lib.hid (HB7.out.trans (hb8.mono HB7.out.size))
    clear hb8
    go_wp2_with fail
    go_ret
    exact ⟨rfl, HB8.out⟩
  · obtain rfl := HF.out rfl
    go_wp2_with fail
    refine (fmthex_impl a5 ys c5 w7 (by omega) HY7.out.rd).mono ?_
    rintro e w8 ⟨rfl, hb8⟩
    have HR8 := Lib.hid (HR7.out.below hb8)
    have HB8 := Lib.hid (HB7.out.trans (hb8.mono HB7.out.size))
    clear hb8 HY7 HR7 HB7
    go_wp2_with fail
    refine (eqb_impl a1 bs c1 a1 bs c1 w8 (by omega) HR8.out.rd (by omega) HR8.out.rd).mono ?_
    rintro e w9 ⟨rfl, hb9⟩
    rw [decide_eq_true (rfl : bs = bs)]
    have HB9 := Lib.hid (HB8.out.trans (hb9.mono HB8.out.size))
    clear hb9
    go_wp2_with fail
    go_ret
    exact ⟨rfl, HB9.out⟩
theorem walk (a0 : Option Addr) (bs0 : List UInt8) (cap0 : Nat) (w : World) (r0 : Arg a0 bs0 cap0 w) :
    Calls Try.prog 3 #[.slice a0 bs0.length cap0] w fun e w' => e = .returned (.bool true) ∧ Below w.heap.size w w' := by
  by_cases h0 : 1048576 < bs0.length
  · exact walk_long a0 bs0 cap0 w h0 (by have q1 := r0.2.1; have q2 := r0.2.2.2; omega)
  · exact walk_short a0 bs0 cap0 w (by omega) r0.code
set_option maxRecDepth 100000 in
theorem lifted (os : Os) (started : os.Started) (H : Type) (enc : TypeId × Value → H) :
    ReturnsInHanded {} Try.checked os 3 .any (Rows.fnHexSpec.pre6 enc Try.prog Try.f3 Rows.fnHexRow.domain false) (Rows.fnHexSpec.post enc Try.prog Try.f3 false true false false) := by
  refine returnsInHanded_of_change (C := Try.checked) own started (by kernel_rfl) Try.func3
    (ChangeSpec.witness6 (enc := enc) (C := Try.checked) false ⟨#[], #[.slice none 0 0], []⟩ 8 (by kernel_rfl) (by kernel_rfl) (by kernel_rfl) (by kernel_rfl)) ?_
  intro W base args ds gs before hval0 hW hcnd _
  have hval : ∀ (j : Nat) t v, Try.f3.params[j]? = some t → args[j]? = some v → Value.okWide Try.prog W .any base t v := hval0
  have hW' := hW
  obtain ⟨p, q, hA0, hV, rfl, hfz, hnd⟩ := hW
  have hA : DataW.TrodAll enc Try.prog W 0 (fun _ => true) true Try.f3.params.toList args.toList ds p := hA0
  rw [Try.params3] at hA hval
  obtain ⟨v0, vs0, d0, ds0, p0, q0, hargs, rfl, rfl, h0, r0⟩ := trodAll_cons hA
  obtain ⟨rfl, rfl, rfl⟩ := trodAll_nil r0
  obtain rfl : args = #[v0] := by cases args; simp_all
  obtain ⟨rfl, rfl⟩ := trodVars_none hV
  simp only [List.append_nil] at hW'
  have hlt : ∀ x ∈ p0, x.block < W.heap.size := fun x hx => hW'.lt x (by simpa using hx)
  obtain ⟨a0, len0, cap0, rfl⟩ := okWide_slice Try.underlying22 (hval 0 22 v0 rfl rfl)
  obtain ⟨bs0, rfl, hb0⟩ := bytes_arg h0
  have m0 : ∀ (W' : World), Below W.heap.size W W' → DataW.Trod enc Try.prog W' 0 (fun b => decide (b < W.heap.size)) true 22 (.slice a0 bs0.length cap0) d0 p0 := fun W' hn => Below.trod laidOut (by kernel_rfl) (of_decide_eq_true (by kernel_rfl)) h0 hn (fun x hx => hlt x (by simp [hx]))
  clear hA0 hval0
  refine (walk a0 bs0 cap0 W hb0).mono fun e W' ⟨he, hb⟩ => ?_
  subst he
  exact ⟨_, rfl, _, _, _, [], _, [], hW', trodAll_cons_mk (shut_bool Try.underlying4 _) trodAll_mk0, (trodAll_cons_mk (m0 _ hb) trodAll_mk0), rfl, hb.frame _, fun h => by cases h⟩
theorem over : Rows.fnHexRow.holds Try.pinned (OpenSpec.ofChange Rows.fnHexSpec) :=
  OpenClaim.holds_of_wide 3 Try.f3 rfl rfl rfl rfl rfl rfl rfl ⟨rfl, rfl, rfl, rfl, rfl⟩ rfl rfl rfl rfl rfl (by kernel_rfl) Try.func3 (by kernel_rfl)
    (of_decide_eq_true (by kernel_rfl)) (by unfold Func.isWrapper; first | (rw [if_pos (by decide +kernel)]; kernel_rfl) | (rw [if_neg (by decide +kernel)]; exact ⟨rfl, rfl⟩))
    (fun os started H enc _ => lifted os started H enc)
/-- THE STATEMENT -/
theorem proved : Rows.FnHexSaid := over
end fnHex
#print axioms fnHex.proved
end Go.Proofs.Ythgcfdhndmgjlaa
