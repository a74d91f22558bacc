/- The contracts of impl.FormatInt and impl.ParseInt. -/
import Derived.Test.YtgmbkmjheaijnaaDoorFmt
import Derived.Test.YtgmbkmjheaijnaaDoorParse
import Derived.Test.YtgmbkmjheaijnaaDoorLift
import Derived.Lib.AtoiAllCases
namespace Go.Proofs.YtgmbkmjheaijnaaDoor
open Go Go.RowKit
/-- impl.FormatInt: the decimal form of every int. -/
theorem fmt_impl (n : Int) (w : World) (h0 : -9223372036854775808 ≤ n) (h1 : n ≤ 9223372036854775807) (htab : PowTab w) :
    Calls Tryd.prog 10 #[.int .i64 n] w fun e w' => e = .returned (.string ⟨(Lib.itoa n).toArray⟩) ∧ Below w.heap.size w w' := by
  have H := Lib.hid htab
  clear htab
  go_enter Tryd.func10, Tryd.ntmps10
  go_wp2_with fail
  refine (Tryd.strconv_Itoa n h0 h1 _ H.out).mono ?_
  rintro e w' ⟨rfl, k, os, rfl⟩
  have hb := Lib.hid (Lib.below_grow w.heap.size w (Nat.le_refl _) k os)
  go_wp2_with fail
  go_ret
  exact ⟨rfl, hb.out⟩
theorem var_below {P : Program} {w w' : World} {n : String} {cs : Array Value} (h : w.var? P n = some cs) (hb : Below w.heap.size w w') : w'.var? P n = some cs := by
  unfold World.var? at h ⊢
  cases hg : P.globalNamed n with
  | none => simp [hg] at h
  | some g =>
    simp only [hg, Option.bind_some] at h ⊢
    have hlt : g < w.heap.size := by
      rcases Nat.lt_or_ge g w.heap.size with h1 | h1
      · exact h1
      · rw [Array.getElem?_eq_none h1] at h; simp at h
    rw [hb.block g hlt]; exact h
/-- What the library's variables hold when the law begins. -/
structure Tabs (w : World) : Prop where
  pow : PowTab w
  syn : ∃ tp p, w.var? Tryd.prog "strconv.ErrSyntax" = some #[.iface tp p]
  rng : ∃ tp p, w.var? Tryd.prog "strconv.ErrRange" = some #[.iface tp p]
theorem Tabs.below {w w' : World} (h : Tabs w) (hb : Below w.heap.size w w') : Tabs w' := by
  obtain ⟨t1, p1, h1⟩ := h.syn
  obtain ⟨t2, p2, h2⟩ := h.rng
  exact ⟨h.pow.below hb, ⟨t1, p1, var_below h1 hb⟩, ⟨t2, p2, var_below h2 hb⟩⟩
set_option maxRecDepth 100000 in
theorem parse_impl_yes (s : ByteArray) (n : Nat) (w : World) (hsp : Spells s n) (ht : Tabs w) :
    Calls Tryd.prog 8 #[.string s] w (OutYes n w) := by
  have hl := digits_length hsp.1
  rw [← hsp.2, size_len] at hl
  have ha : Hid (Lib.atoiAll s.data.toList = .ok (n : Int)) := by rw [hsp.2]; exact atoiAll_digits hsp.1
  have hq : (Lib.itoa (n : Int) == s.toList) = true := by rw [toList_data, hsp.2, itoa_nat]; simp
  have hn := hsp.1
  have h1 : (0 : Int) ≤ (n : Int) := by omega
  have h2 : (n : Int) ≤ 1000000000000 := by omega
  have HT := Lib.hid ht
  clear ht hsp
  go_enter Tryd.func8, Tryd.ntmps8
  go_wp2_with fail
  refine (Tryd.strconv_Atoi_ok s (by omega) _ ha.out _).mono ?_
  rintro e w1 ⟨rfl, hw⟩
  have B1 : Hid (Below w.heap.size w w1) := by
    rcases hw with rfl | ⟨t, rfl⟩
    · exact Below.refl _ _
    · exact Lib.bytesWorld_below _ _ _
  clear hw
  go_wp2_with (go_at_call 21; go_in)
  refine (fmt_impl n _ (by omega) (by omega) (HT.out.below B1.out).pow).mono ?_
  rintro e w2 ⟨rfl, b2⟩
  have B2 := Lib.hid (B1.out.trans (b2.mono B1.out.size))
  clear b2
  go_wp2_with fail
  go_ret2
  exact ⟨rfl, B2.out⟩
set_option maxRecDepth 100000 in
theorem parse_impl_no (s : ByteArray) (w : World) (hsp : NoSpell s) (ht : Tabs w) (hmax : s.size ≤ 281474976710656) :
    Calls Tryd.prog 8 #[.string s] w (OutNo w) := by
  have HS := Lib.hid hsp
  have HT := Lib.hid ht
  clear ht hsp
  rcases ha' : Lib.atoiAll s.data.toList with v | _ | _
  rotate_left
  · have ha : Hid (Lib.atoiAll s.data.toList = Lib.NumEnd.ofOption none) := ha'
    clear ha'
    obtain ⟨tp, p, hv⟩ := HT.out.syn
    have HV := Lib.hid hv
    clear hv
    go_enter Tryd.func8, Tryd.ntmps8
    go_wp2_with fail
    refine (Tryd.strconv_Atoi_syntax_var s hmax ha.out tp p _ HV.out).mono ?_
    rintro e w1 ⟨N, rfl, -, -, b1⟩
    have B1 := Lib.hid b1
    clear b1
    go_wp2_with fail
    go_ret2
    exact ⟨rfl, B1.out⟩
  · have ha := Lib.hid ha'
    clear ha'
    obtain ⟨tp, p, hv⟩ := HT.out.rng
    have HV := Lib.hid hv
    clear hv
    go_enter Tryd.func8, Tryd.ntmps8
    go_wp2_with fail
    refine (Tryd.strconv_Atoi_range_var s hmax ha.out tp p _ HV.out).mono ?_
    rintro e w1 ⟨N, rfl, -, -, b1⟩
    have B1 := Lib.hid b1
    clear b1
    go_wp2_with fail
    go_ret2
    exact ⟨rfl, B1.out⟩
  · have ha := Lib.hid ha'
    clear ha'
    by_cases h1 : 0 ≤ v
    · by_cases h2 : v ≤ 1000000000000
      · obtain ⟨n, rfl⟩ : ∃ n : Nat, v = (n : Int) := ⟨v.toNat, by omega⟩
        have hq : (Lib.itoa (n : Int) == s.toList) = false := by
          rw [beq_eq_false_iff_ne, toList_data, itoa_nat]
          exact fun h => HS.out n ⟨by omega, h.symm⟩
        go_enter Tryd.func8, Tryd.ntmps8
        go_wp2_with fail
        refine (Tryd.strconv_Atoi_ok s (by omega) _ ha.out _).mono ?_
        rintro e w1 ⟨rfl, hw⟩
        have B1 : Hid (Below w.heap.size w w1) := by
          rcases hw with rfl | ⟨t, rfl⟩
          · exact Below.refl _ _
          · exact Lib.bytesWorld_below _ _ _
        clear hw
        go_wp2_with (go_at_call 21; go_in)
        refine (fmt_impl n _ (by omega) (by omega) (HT.out.below B1.out).pow).mono ?_
        rintro e w2 ⟨rfl, b2⟩
        have B2 := Lib.hid (B1.out.trans (b2.mono B1.out.size))
        clear b2
        go_wp2_with fail
        go_ret2
        exact ⟨rfl, B2.out⟩
      · have hd : decide (v ≤ 1000000000000) = false := by simp; omega
        go_enter Tryd.func8, Tryd.ntmps8
        go_wp2_with fail
        refine (Tryd.strconv_Atoi_ok s (by omega) _ ha.out _).mono ?_
        rintro e w1 ⟨rfl, hw⟩
        have B1 : Hid (Below w.heap.size w w1) := by
          rcases hw with rfl | ⟨t, rfl⟩
          · exact Below.refl _ _
          · exact Lib.bytesWorld_below _ _ _
        clear hw
        go_wp2_with (go_at_call 21; go_in)
        go_ret2
        exact ⟨rfl, B1.out⟩
    · have hd : decide (0 ≤ v) = false := by simp; omega
      go_enter Tryd.func8, Tryd.ntmps8
      go_wp2_with fail
      refine (Tryd.strconv_Atoi_ok s (by omega) _ ha.out _).mono ?_
      rintro e w1 ⟨rfl, hw⟩
      have B1 : Hid (Below w.heap.size w w1) := by
        rcases hw with rfl | ⟨t, rfl⟩
        · exact Below.refl _ _
        · exact Lib.bytesWorld_below _ _ _
      clear hw
      go_wp2_with (go_at_call 21; go_in)
      go_ret2
      exact ⟨rfl, B1.out⟩
end Go.Proofs.YtgmbkmjheaijnaaDoor
