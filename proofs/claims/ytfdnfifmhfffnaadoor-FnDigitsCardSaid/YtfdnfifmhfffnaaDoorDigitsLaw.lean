/- It is proved that the law FnDigits returns true at every input of its parameter types and leaves its arguments as they were (statement Rows.FnDigitsCardSaid), under no condition beyond the card's own: the three listed tables of the library read as its text lays them. -/
import Derived.Test.YtfdnfifmhfffnaaDoorDigitsLaw0
import Derived.Deep.RegionWith
import Derived.BigQuiet
import Derived.Deep.RegionHeld3
import Derived.Deep.CutRange
import Derived.Test.YtfdnfifmhfffnaaDoorCards
import Derived.Test.YtfdnfifmhfffnaaDoorTie
import Derived.SevenTiedAt
namespace Go.Proofs.YtfdnfifmhfffnaaDoor
open Go Go.ChangeShapes Go.WideShapes Go.ChangeAt Go.RowKit
namespace fnDigits
theorem big_no (a : Option Addr) (n cap : Nat) (w : World) (h : n ≤ 1048576) : Calls Tryd.prog 5 #[.slice a n cap] w fun e w' => e = .returned (.bool false) ∧ w = w' := by
  have g : ¬ (1048576 : Int) < (n : Int) := by omega
  go_enter Tryd.func5, Tryd.ntmps5
  go_wp2
  go_ret
  exact ⟨rfl, rfl⟩
theorem big_yes (a : Option Addr) (n cap : Nat) (w : World) (h : 1048576 < n) (_hm : n ≤ 9223372036854775807) : Calls Tryd.prog 5 #[.slice a n cap] w fun e w' => e = .returned (.bool true) ∧ w = w' := by
  have g : (1048576 : Int) < (n : Int) := by omega
  go_enter Tryd.func5, Tryd.ntmps5
  go_wp2
  go_ret
  exact ⟨rfl, rfl⟩
theorem walk_long (a0 : Option Addr) (bs0 : List UInt8) (cap0 : Nat) (w : World) (h : 1048576 < bs0.length) (hm : bs0.length ≤ 9223372036854775807) :
    Calls Tryd.prog 3 #[.slice a0 bs0.length cap0] w fun e w' => e = .returned (.bool true) ∧ Below w.heap.size w w' := by
  go_enter Tryd.func3, Tryd.ntmps3
  go_wp2_with fail
  refine (big_yes a0 bs0.length cap0 w h hm).mono ?_
  rintro e w1 ⟨rfl, rfl⟩
  go_wp2_with fail
  go_ret
  exact ⟨rfl, Below.refl _ _⟩
theorem digE_bounds (s : ByteArray) (n : Int) : n ≤ digE s n ∧ digE s n ≤ n + 10 := by
  unfold digE
  split
  · have := readD_len 10 ((lst s).drop n.toNat) 0
    omega
  · omega
/-- The digits of two bytes. -/
def hexS (x : Nat) : ByteArray := ⟨(hexL [UInt8.ofNat x, 7]).toArray⟩
theorem hexS_size (x : Nat) : (hexS x).size = 4 := by
  show (⟨(hexL [UInt8.ofNat x, 7]).toArray⟩ : ByteArray).size = 4
  have e : (⟨(hexL [UInt8.ofNat x, 7]).toArray⟩ : ByteArray).size = (hexL [UInt8.ofNat x, 7]).length := by simp [ByteArray.size]
  rw [e, hexL_length]; rfl
theorem hexS_read (x : Nat) : hexRB (hexS x ++ ⟨#[122]⟩) 0 = [UInt8.ofNat x, 7] ∧ hexRE (hexS x ++ ⟨#[122]⟩) 0 = 4 := by
  have h0 := hexR_at (s := hexS x ++ ⟨#[122]⟩) (p := 0) (Nat.zero_le _)
  have e : (lst (hexS x ++ ⟨#[122]⟩)).drop 0 = hexL [UInt8.ofNat x, 7] ++ [122] := by
    rw [List.drop_zero, append_txt, lst_txt]
    rfl
  have h1 := readH_hexL [122] rfl [UInt8.ofNat x, 7]
  rw [e, h1] at h0
  exact h0
theorem fnt_same (x : Nat) : fntS (x : Int) ⟨#[60]⟩ ⟨#[97]⟩ ⟨#[62]⟩ = (⟨(Lib.itoa (x : Int)).toArray⟩ : ByteArray) ++ ⟨#[60, 97, 62]⟩ := by
  unfold fntS
  apply lst_inj
  simp [append_txt, lst_txt]
  rfl
theorem two_rd {w w4 : World} {x : Nat} (h : w4 = w.alloc (.cells #[.int .u8 (x : Int), .int .u8 7] 5)) (hx : x < 256) : Rd (some ⟨w.heap.size, 0, none⟩) [UInt8.ofNat x, 7] w4 := fun j hj => by
  subst h
  have e : ((UInt8.ofNat x).toNat : Int) = (x : Int) := by rw [UInt8.toNat_ofNat', Nat.mod_eq_of_lt hx]
  refine ⟨_, _, rfl, ?_⟩
  rw [Nat.zero_add, cell_new]
  have hj2 : j < 2 := by simpa using hj
  rcases (by omega : j = 0 ∨ j = 1) with rfl | rfl
  · rw [← e]; rfl
  · rfl
set_option maxRecDepth 100000 in
set_option maxHeartbeats 4000000 in
theorem walk_short (a0 : Option Addr) (bs0 : List UInt8) (cap0 : Nat) (w : World) (h : bs0.length ≤ 1048576) (r0 : Arg a0 bs0 cap0 w) (htab : PowTab w) :
    Calls Tryd.prog 3 #[.slice a0 bs0.length cap0] w fun e w' => e = .returned (.bool true) ∧ Below w.heap.size w w' := by
  have HR := Lib.hid r0.1
  have HS := Lib.hid r0.code
  have HT := Lib.hid htab
  clear r0 htab
  obtain ⟨x0, hx0⟩ : ∃ x, x = atV bs0 0 := ⟨_, rfl⟩
  obtain ⟨x1, hx1⟩ : ∃ x, x = atV bs0 1 := ⟨_, rfl⟩
  have l0 : x0 < 256 := by rw [hx0]; exact atV_lt _ _
  have l1 : x1 < 256 := by rw [hx1]; exact atV_lt _ _
  have HX0 := Lib.hid hx0
  have HX1 := Lib.hid hx1
  clear hx0 hx1
  go_enter Tryd.func3, Tryd.ntmps3
  go_wp2_with fail
  refine (big_no a0 bs0.length cap0 w h).mono ?_
  rintro e w1 ⟨rfl, rfl⟩
  go_wp2_with fail
  refine (drawReadDigits a0 bs0.length cap0 w (by omega) HS.out).mono ?_
  rintro e w1 ⟨s, n, ⟨hsz, hn0, hn1⟩, rfl, hb1⟩
  have HB1 := Lib.hid hb1
  clear hb1
  go_wp2_with fail
  refine (digits_impl s n w1 (by omega)).mono ?_
  rintro e w2 ⟨rfl, rfl⟩
  go_wp2_with fail
  refine (digits_spec s n w2 (by omega)).mono ?_
  rintro e w3 ⟨rfl, rfl⟩
  obtain ⟨e0, e1⟩ := digE_bounds s n
  generalize digE s n = E at e0 e1 ⊢
  generalize digN s n = D
  go_wp2_with fail
  refine (at_law0 a0 bs0 cap0 _ h (HR.out.below HB1.out)).mono ?_
  rintro e wx ⟨rfl, rfl⟩
  rw [← HX0.out]
  go_wp2_with fail
  obtain ⟨w4, hw4⟩ : ∃ w4, w4 = w3.alloc (.cells #[.int .u8 (x0 : Int), .int .u8 7] 5) := ⟨_, rfl⟩
  rw [← hw4]
  have hrd : Rd (some ⟨w3.heap.size, 0, none⟩) [UInt8.ofNat x0, 7] w4 := two_rd hw4 l0
  have hb4 : Below w3.heap.size w3 w4 := by subst hw4; exact (Below.refl _ _).alloc (Nat.le_refl _) _
  have HB4 := Lib.hid (HB1.out.trans (hb4.mono HB1.out.size))
  have HRD := Lib.hid hrd
  clear hw4 hrd hb4 HB1
  refine (fmthex_impl (some ⟨w3.heap.size, 0, none⟩) [UInt8.ofNat x0, 7] 2 w4 (by simp) HRD.out).mono ?_
  rintro e w5 ⟨rfl, hb5⟩
  have HB5 := Lib.hid (HB4.out.trans (hb5.mono HB4.out.size))
  clear hb5 HB4 HRD
  have hz := hexS_size x0
  obtain ⟨q1, q2⟩ := hexS_read x0
  have q3 : (hexS x0 ++ (⟨#[122]⟩ : ByteArray)).size = 5 := by rw [ByteArray.size_append, hz]; rfl
  have HQ1 := Lib.hid q1
  have HQ2 := Lib.hid q2
  rw [show (⟨(hexL [UInt8.ofNat x0, 7]).toArray⟩ : ByteArray) = hexS x0 from rfl]
  clear q1 q2
  generalize hexS x0 = T at hz HQ1 HQ2 q3 ⊢
  go_wp2_with fail
  have q4 : (T ++ (⟨#[122]⟩ : ByteArray)).size ≤ 1073741824 := by rw [q3]; omega
  have h9 := hexread_impl (T ++ ⟨#[122]⟩) 0 w5 q4
  refine h9.mono ?_
  clear h9
  rintro e w6 ⟨a6, c6, rfl, hr6, hb6⟩
  rw [HQ1.out] at hr6
  rw [HQ1.out, HQ2.out]
  have HR6 := Lib.hid hr6.rd
  have HB := Lib.hid (HB5.out.trans (hb6.mono HB5.out.size))
  clear hr6 hb6 HB5 q3 hz HQ1 HQ2
  go_upto_region 7 with fail
  clear q4
  have hx1a : (-9223372036854775808 : Int) ≤ (x1 : Int) := by omega
  have hx1b : (x1 : Int) ≤ 9223372036854775807 := by omega
  have hz1 := itoa_max hx1a hx1b
  have hse : ((fntS (x1 : Int) ⟨#[60]⟩ ⟨#[97]⟩ ⟨#[62]⟩).toList == ((⟨(Lib.itoa (x1 : Int)).toArray⟩ : ByteArray) ++ (⟨#[60, 97, 62]⟩ : ByteArray)).toList) = true := str_eq (fnt_same x1)
  have ht1 : (⟨#[60]⟩ : ByteArray).size ≤ 4398046511104 := by decide
  have ht2 : (⟨#[97]⟩ : ByteArray).size ≤ 4398046511104 := by decide
  have ht3 : (⟨#[62]⟩ : ByteArray).size ≤ 4398046511104 := by decide
  have ht4 : (⟨#[60, 97, 62]⟩ : ByteArray).size = 3 := rfl
  have hi1 := e0
  have hi2 := e1
  generalize hA : (⟨(Lib.itoa (x1 : Int)).toArray⟩ : ByteArray) = A at hz1 hse
  generalize hF : fntS (x1 : Int) ⟨#[60]⟩ ⟨#[97]⟩ ⟨#[62]⟩ = F at hse
  have HA := Lib.hid hA
  have HF := Lib.hid hF
  clear hA hF
  have HC := HB
  have HRC := HR6
  clear HB HR6
  have HRC2 : Hid (Rd a6 [UInt8.ofNat x0, 7] (w6.alloc (.cells #[.int .u8 (x0 : Int), .int .u8 7] 5))) := HRC.out.below ((Below.refl _ _).alloc (Nat.le_refl _) _)
  have HRC3 : Hid (Rd (some ⟨w6.heap.size, 0, none⟩) [UInt8.ofNat x0, 7] (w6.alloc (.cells #[.int .u8 (x0 : Int), .int .u8 7] 5))) := two_rd rfl l0
  have HC2 : Hid (Below w.heap.size w (w6.alloc (.cells #[.int .u8 (x0 : Int), .int .u8 7] 5))) := HC.out.alloc HC.out.size _
  go_wp2_with (go_at_call 11; first | (refine (at_law0 a0 bs0 cap0 _ h (HR.out.below HC.out)).mono ?_; rintro e wx ⟨rfl, rfl⟩; rw [← HX0.out]))
  have h9 := same_any a6 (some ⟨w6.heap.size, 0, none⟩) [UInt8.ofNat x0, 7] [UInt8.ofNat x0, 7] c6 2 _ (by simp) HRC2.out HRC3.out
  have e2 : ([UInt8.ofNat x0, 7] : List UInt8).length = 2 := rfl
  rw [e2] at h9
  refine h9.mono ?_
  clear h9
  rintro e wy ⟨rfl, nq, rfl⟩
  rw [decide_eq_true (rfl : [UInt8.ofNat x0, 7] = [UInt8.ofNat x0, 7])]
  replace HC := Lib.hid (below_drewN HC2.out nq)
  clear HC2 HRC2 HRC3 HRC
  generalize (w6.alloc (.cells #[.int .u8 (x0 : Int), .int .u8 7] 5)).drewN nq = w7 at HC ⊢
  go_wp2_with (first
    | (go_at_call 11; refine (at_law1 a0 bs0 cap0 _ h (HR.out.below HC.out)).mono ?_; rintro e wx ⟨rfl, rfl⟩; rw [← HX1.out])
    | (go_at_call 13; refine (fnt_impl (x1 : Int) _ _ _ _ ht1 ht2 ht3 hx1a hx1b (HT.out.below HC.out)).mono ?_; rintro e wy ⟨rfl, hby⟩; rw [HF.out]; replace HC := Lib.hid (HC.out.trans (hby.mono HC.out.size)); clear hby)
    | (go_at_call 14; refine (fmt_spec (x1 : Int) _ hx1a hx1b).mono ?_; rintro e wz ⟨rfl, hbz⟩; rw [HA.out]; replace HC := Lib.hid (HC.out.trans (hbz.mono HC.out.size)); clear hbz))
  go_ret
  exact ⟨rfl, HC.out⟩
theorem walk (a0 : Option Addr) (bs0 : List UInt8) (cap0 : Nat) (w : World) (r0 : Arg a0 bs0 cap0 w) (htab : PowTab w) :
    Calls Tryd.prog 3 #[.slice a0 bs0.length cap0] w fun e w' => e = .returned (.bool true) ∧ Below w.heap.size w w' := by
  by_cases h0 : 1048576 < bs0.length
  · exact walk_long a0 bs0 cap0 w h0 (by have q1 := r0.2.1; have q2 := r0.2.2.2; omega)
  · exact walk_short a0 bs0 cap0 w (by omega) r0 htab
theorem door_met (os : Os) (args : Array Value) : laidMetH Tryd.prog Rows.fnDigitsRow.laid ((World.doorLaid Tryd.prog 400 os).forCall (fun _ _ => 0) ⟨#[], args, []⟩).memory :=
  laidMetH_of_parts3 (fuel := 8) (laidMet_of_run' 8 (by kernel_rfl) (by kernel_rfl)) (by kernel_rfl) (by kernel_rfl)
theorem of_laid {W : World} (h : laidMetH Tryd.prog Rows.fnDigitsRow.laid W) : PowTab W := by
  rw [MakeChecks.laidMetH_plain _ _ _ (by kernel_rfl)] at h
  exact powTab_of (laidMet.tail (laidMet.tail h))
set_option maxRecDepth 100000 in
theorem lifted (os : Os) (started : os.Started) (H : Type) (enc : TypeId × Value → H) :
    ReturnsInHanded {} Tryd.checked os 3 .any (fun w args => (Rows.fnDigitsSpec.pre enc Tryd.prog Tryd.f3 [] false w args ∧ laidMetH Tryd.prog Rows.fnDigitsRow.laid w) ∧ sizedMet enc Tryd.prog Tryd.f3 (OpenSpec.ofChange Rows.fnDigitsSpec) false w args)
      (Rows.fnDigitsSpec.post enc Tryd.prog Tryd.f3 false true false false) := by
  refine returnsInHanded_of_change_and (C := Tryd.checked) (X := fun w _ => laidMetH Tryd.prog Rows.fnDigitsRow.laid w) (fun _ _ _ hh h => h.of_heap hh) ownL started (by kernel_rfl) Tryd.func3
    (ChangeSpec.witness_shaped (enc := enc) (C := Tryd.checked) (os := os) (X := fun w _ => laidMetH Tryd.prog Rows.fnDigitsRow.laid w) false (World.doorLaid Tryd.prog 400 os) #[.slice none 0 0] 8 rfl (World.shaped_of_RefB (by kernel_rfl) (by kernel_rfl)) (by kernel_rfl) (by kernel_rfl) (by kernel_rfl) (door_met os _)) ?_
  intro W base args ds gs before hval0 hW _ _ hL _
  have hval : ∀ (j : Nat) t v, Tryd.f3.params[j]? = some t → args[j]? = some v → Value.okWide Tryd.prog W .any base t v := hval0
  have hW' := hW
  obtain ⟨p, q, hA0, hV, rfl, hfz, hnd⟩ := hW
  have hA : DataW.TrodAll enc Tryd.prog W 0 (fun _ => true) true Tryd.f3.params.toList args.toList ds p := hA0
  rw [Tryd.params3] at hA hval
  obtain ⟨v0, vs0, d0, ds0, p0, q0, hargs, rfl, rfl, h0, r0⟩ := trodAll_cons hA
  obtain ⟨rfl, rfl, rfl⟩ := trodAll_nil r0
  obtain rfl : args = #[v0] := by cases args; simp_all
  obtain ⟨rfl, rfl⟩ := trodVars_none hV
  simp only [List.append_nil] at hW'
  have hlt : ∀ x ∈ p0, x.block < W.heap.size := fun x hx => hW'.lt x (by simpa using hx)
  obtain ⟨a0, len0, cap0, rfl⟩ := okWide_slice Tryd.underlying22 (hval 0 22 v0 rfl rfl)
  obtain ⟨bs0, rfl, hb0⟩ := bytes_arg h0
  have m0 : ∀ (W' : World), Below W.heap.size W W' → DataW.Trod enc Tryd.prog W' 0 (fun b => decide (b < W.heap.size)) true 22 (.slice a0 bs0.length cap0) d0 p0 := fun W' hn => Below.trod laidOut (by kernel_rfl) (of_decide_eq_true (by kernel_rfl)) h0 hn (fun x hx => hlt x (by simp [hx]))
  have hT := of_laid hL
  clear hA0 hval0
  refine (walk a0 bs0 cap0 W hb0 hT).mono fun e W' ⟨he, hb⟩ => ?_
  subst he
  exact ⟨_, rfl, _, _, _, [], _, [], hW', trodAll_cons_mk (shut_bool Tryd.underlying4 _) trodAll_mk0, (trodAll_cons_mk (m0 _ hb) trodAll_mk0), rfl, hb.frame _, fun h => by cases h⟩
theorem row_holds : Rows.FnDigitsSaid :=
  OpenClaim.holds_of_wide 3 Tryd.f3 rfl rfl rfl rfl rfl rfl rfl ⟨rfl, rfl, rfl, rfl, rfl⟩ rfl rfl rfl rfl rfl (by kernel_rfl) Tryd.func3 (by kernel_rfl)
    (of_decide_eq_true (by kernel_rfl)) (by unfold Func.isWrapper; first | (rw [if_pos (by decide +kernel)]; kernel_rfl) | (rw [if_neg (by decide +kernel)]; exact ⟨rfl, rfl⟩))
    (fun os started H enc _ => lifted os started H enc)
/-- THE STATEMENT -/
theorem proved : Rows.FnDigitsCardSaid :=
  Claim7.holds_tied_plain_at .later [] [.data, .data, .data] true Rows.fnDigitsCard.stood.harness Rows.fnDigitsCard.stood.looks
    row_holds (fun _ h => by cases h) (by kernel_rfl) (fun _ h => by cases h) fnDigits_row_tie rfl ⟨rfl, rfl⟩ (by kernel_rfl) rfl
    (fun f fn hf hfn => by
      obtain rfl : f = 3 := Option.some.inj ((show Tryd.prog.funcNamed Rows.fnDigitsRow.func = some 3 by kernel_rfl).symm.trans hf) |>.symm
      obtain rfl : fn = Tryd.f3 := (Option.some.inj (Tryd.func3.symm.trans hfn)).symm
      exact ⟨by kernel_rfl, fun j t ht => by
        rw [Tryd.params3] at ht
        have hm : t ∈ [22] := by simpa using Array.mem_of_getElem? ht
        have hall : ([22].all fun u => !Tryd.prog.wantsStandIn u) = true := by kernel_rfl
        exact (show Tryd.prog.wantsStandIn t = false by simpa using List.all_eq_true.1 hall t hm)⟩)
    (by kernel_rfl)
end fnDigits
#print axioms fnDigits.proved
end Go.Proofs.YtfdnfifmhfffnaaDoor
