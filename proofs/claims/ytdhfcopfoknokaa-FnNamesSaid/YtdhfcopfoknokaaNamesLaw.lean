/- It is proved that the law FnNames returns true at every input of its parameter types and leaves its arguments as they were (statement Rows.FnNamesSaid), with no condition. -/
import Derived.Test.YtdhfcopfoknokaaNames
import Derived.Test.YtdhfcopfoknokaaDescrImpl
import Derived.Test.YtdhfcopfoknokaaArg
namespace Go.Proofs.Ytdhfcopfoknokaa
open Go Go.ChangeShapes Go.WideShapes Go.ChangeAt Go.RowKit
namespace fnNames
theorem big_no (a : Option Addr) (n cap : Nat) (w : World) (h : n ≤ 1048576) : Calls Try.prog 13 #[.slice a n cap] w fun e w' => e = .returned (.bool false) ∧ w = w' := by
  have g : ¬ (1048576 : Int) < (n : Int) := by omega
  go_enter Try.func13, Try.ntmps13
  go_wp2
  go_ret
  exact ⟨rfl, rfl⟩
theorem big_yes (a : Option Addr) (n cap : Nat) (w : World) (h : 1048576 < n) (_hm : n ≤ 9223372036854775807) : Calls Try.prog 13 #[.slice a n cap] w fun e w' => e = .returned (.bool true) ∧ w = w' := by
  have g : (1048576 : Int) < (n : Int) := by omega
  go_enter Try.func13, Try.ntmps13
  go_wp2
  go_ret
  exact ⟨rfl, rfl⟩
theorem walk_long (a0 : Option Addr) (bs0 : List UInt8) (cap0 : Nat) (w : World) (h : 1048576 < bs0.length) (hm : bs0.length ≤ 9223372036854775807) :
    Calls Try.prog 3 #[.slice a0 bs0.length cap0] w fun e w' => e = .returned (.bool true) ∧ Below w.heap.size w w' := by
  go_enter Try.func3, Try.ntmps3
  go_wp2_with fail
  refine (big_yes a0 bs0.length cap0 w h hm).mono ?_
  rintro e w1 ⟨rfl, rfl⟩
  go_wp2_with fail
  go_ret
  exact ⟨rfl, Below.refl _ _⟩
theorem addStr (W : World) (x y : ByteArray) (h : x.size + y.size ≤ 9223372036854775807) : (Op.stringOp .add x y).run Try.prog W = .ok (.string (x ++ y)) W := run_string_add_sum W x y (by omega)
theorem draw_name (a : Option Addr) (len cap : Nat) (w : World) (hl : len ≤ 140737488355328) (hs : Code a len w) :
    Calls Try.prog 14 #[.slice a len cap] w fun e w' => ∃ s : ByteArray, s.size ≤ 13 ∧ e = .returned (.string s) ∧ Below w.heap.size w w' := by
  have HS := Lib.hid hs
  clear hs
  go_enter Try.func14, Try.ntmps14
  go_wp2_with fail
  refine (new_draw a len cap _ hl HS.out).mono ?_
  rintro e w1 ⟨rfl, hc1, hb1, hz1⟩
  have HC1 := Lib.hid hc1
  have HB1 := Lib.hid hb1
  clear hc1 hb1 hz1
  go_wp2_with fail
  refine (str_pick a len cap w.heap.size 10 [⟨#[]⟩, ⟨#[97]⟩, ⟨#[97, 49]⟩, ⟨#[49, 97]⟩, ⟨#[97, 98, 99, 100, 101, 102, 103, 104, 105, 106, 107, 108]⟩, ⟨#[97, 98, 99, 100, 101, 102, 103, 104, 105, 106, 107, 108, 109]⟩, ⟨#[65, 98]⟩, ⟨#[97, 32, 98]⟩, ⟨#[97, 95, 98]⟩, ⟨#[105, 116, 101, 109]⟩] _ rfl rfl w1 hl (by omega) (by omega) HC1.out).mono ?_
  rintro e w2 ⟨y, hy, rfl, hc2, hg2⟩
  have hsz : y.size ≤ 13 := by
    simp only [List.mem_cons, List.not_mem_nil, or_false] at hy
    rcases hy with rfl | rfl | rfl | rfl | rfl | rfl | rfl | rfl | rfl | rfl <;> decide
  have HB2 := Lib.hid (below_grown HB1.out hg2 HB1.out.size (Nat.le_refl _))
  clear hy hc2 hg2
  go_wp2_with fail
  go_ret
  exact ⟨y, hsz, rfl, HB2.out⟩
theorem kinds_ne : ∀ j k : Fin 11, j.val < k.val → 1 ≤ j.val → kindNames.getD j.val ⟨#[]⟩ ≠ kindNames.getD k.val ⟨#[]⟩ := by decide +kernel
theorem kindName_ne {j k : Nat} (h1 : 1 ≤ j) (h2 : j < k) (h3 : k ≤ 10) : kindName (j : Int) ≠ kindName (k : Int) := by
  have h := kinds_ne ⟨j, by omega⟩ ⟨k, by omega⟩ h2 h1
  unfold kindName
  rw [if_pos (by omega), if_pos (by omega), Int.toNat_natCast, Int.toNat_natCast]
  exact h
theorem kinds_named : ∀ k : Fin 11, 1 ≤ k.val → (1 ≤ (kindNames.getD k.val ⟨#[]⟩).size ∧ (kindNames.getD k.val ⟨#[]⟩).size ≤ 12) ∧ (kindNames.getD k.val ⟨#[]⟩).toList.all (fun x => decide (97 ≤ x.toNat ∧ x.toNat ≤ 122)) = true := by decide +kernel
theorem letters_name {s : ByteArray} (h : 1 ≤ s.size ∧ s.size ≤ 12) (hl : ∀ x ∈ s.data.toList, 97 ≤ x.toNat ∧ x.toNat ≤ 122) : nameB s = true := by
  rw [nameB_end (fun i hi _ => .inl ?_), decide_eq_true h]
  exact hl _ (by
    have : s[i] = s.data.toList[i]'(by simpa using hi) := by simp [ByteArray.getElem_eq_getElem_data]
    rw [this]
    exact List.getElem_mem _)
theorem kinds_list : ∀ k : Fin 11, (kindNames.getD k.val ⟨#[]⟩).data.toList.all (fun x => decide (97 ≤ x.toNat ∧ x.toNat ≤ 122)) = true := by decide +kernel
theorem kindName_name {k : Nat} (h1 : 1 ≤ k) (h2 : k ≤ 10) : nameB (kindName (k : Int)) = true ∧ (kindName (k : Int)).size ≤ 12 := by
  have e : kindName (k : Int) = kindNames.getD k ⟨#[]⟩ := by
    unfold kindName
    rw [if_pos (by omega), Int.toNat_natCast]
  rw [e]
  have h := (kinds_named ⟨k, by omega⟩ h1).1
  have hl := kinds_list ⟨k, by omega⟩
  exact ⟨letters_name h fun x hx => of_decide_eq_true (List.all_eq_true.1 hl x hx), h.2⟩
open Classical in
/-- A digit behind a name: a name as long as it is short enough. -/
theorem name_more {s : ByteArray} (h : nameB s = true) : nameB (s ++ ⟨#[49]⟩) = decide ((s.size : Int) < 12) := by
  have hsz : (s ++ (⟨#[49]⟩ : ByteArray)).size = s.size + 1 := ByteArray.size_append
  unfold nameB at h
  obtain ⟨h1, h2, h3⟩ := of_decide_eq_true h
  have hto : nameTo (s ++ (⟨#[49]⟩ : ByteArray)) (s ++ (⟨#[49]⟩ : ByteArray)).size := fun i hi _ => by
    by_cases hlt : i < s.size
    · rw [ByteArray.getElem_append_left hlt]
      exact h1 i hlt hlt
    · rw [ByteArray.getElem_append_right (by omega)]
      have e : i - s.size = 0 := by omega
      refine .inr ⟨?_, by omega⟩
      have : ∀ (j : Nat) (hj : j < (⟨#[49]⟩ : ByteArray).size), j = 0 → ((⟨#[49]⟩ : ByteArray)[j]'hj).toNat = 49 := fun j hj e => by subst e; rfl
      rw [this _ _ e]
      omega
  rw [nameB_end hto, hsz]
  by_cases hb : s.size < 12
  · rw [decide_eq_true (by omega), decide_eq_true (by omega)]
  · rw [decide_eq_false (by omega), decide_eq_false (by omega)]
set_option maxRecDepth 100000 in
set_option maxHeartbeats 2000000 in
theorem walk_short (a0 : Option Addr) (bs0 : List UInt8) (cap0 : Nat) (w : World) (h : bs0.length ≤ 1048576) (hs : Code a0 bs0.length w) :
    Calls Try.prog 3 #[.slice a0 bs0.length cap0] w fun e w' => e = .returned (.bool true) ∧ Below w.heap.size w w' := by
  have HS := Lib.hid hs
  clear hs
  go_enter Try.func3, Try.ntmps3
  go_wp2_with fail
  refine (big_no a0 bs0.length cap0 w h).mono ?_
  rintro e w1 ⟨rfl, rfl⟩
  go_wp2_with fail
  refine (draw_name a0 bs0.length cap0 w (by omega) HS.out).mono ?_
  rintro e w1 ⟨s, hsz, rfl, hb1⟩
  have HB1 := Lib.hid hb1
  clear hb1 HS
  go_wp2
  go_loopw [4] (fun i W => ∃ k : Nat, 1 ≤ k ∧ k ≤ 11 ∧ i = .int .i64 k ∧ Hid (Below w.heap.size w W)) (fun i _ => 11 - (intOf i).toNat)
  case atStart => exact ⟨1, by omega, by omega, rfl, HB1⟩
  case round =>
    clear HB1
    obtain ⟨k, hk1, hk2, rfl, hb⟩ := hrel
    by_cases hk : k ≤ 10
    · have k1 : (k : Int) ≤ 10 := by omega
      have hnm := Lib.hid (kindName_name hk1 hk)
      go_wp2
      go_loopw [5] (fun i W => ∃ j : Nat, 1 ≤ j ∧ j ≤ k ∧ i = .int .i64 j ∧ Hid (Below w.heap.size w W)) (fun i _ => k - (intOf i).toNat)
      case atStart => exact ⟨1, by omega, hk1, rfl, hb⟩
      case round =>
        clear hb
        obtain ⟨j, hj1, hj2, rfl, hbj⟩ := hrel
        by_cases hjk : j < k
        · have j1 : (j : Int) < (k : Int) := by omega
          have g1 := str_ne (kindName_ne hj1 hjk hk)
          go_wp2_with fail
          refine (kind_impl (j : Int) _).mono ?_
          rintro e w2 ⟨rfl, hb2⟩
          have HB2 := Lib.hid (hbj.out.trans (hb2.mono hbj.out.size))
          clear hb2 hbj
          go_wp2_with fail
          refine (kind_impl (k : Int) _).mono ?_
          rintro e w3 ⟨rfl, hb3⟩
          have HB3 := Lib.hid (HB2.out.trans (hb3.mono HB2.out.size))
          clear hb3 HB2 hnm
          generalize kindName (j : Int) = x at g1
          generalize kindName (k : Int) = y at g1
          go_wp2
          go_roundw
          case rel => exact ⟨j + 1, by omega, by omega, by go_num, HB3⟩
          case measure => simp [intOf]; omega
        · have j1 : ¬ (j : Int) < (k : Int) := by omega
          go_wp2_with fail
          refine (kind_impl (k : Int) _).mono ?_
          rintro e w2 ⟨rfl, hb2⟩
          have HB2 := Lib.hid (hbj.out.trans (hb2.mono hbj.out.size))
          clear hb2 hbj
          go_wp2_with fail
          refine (name_impl (kindName (k : Int)) _ (by have := hnm.out.2; omega)).mono ?_
          rintro e w3 ⟨rfl, hb3⟩
          have HB3 := Lib.hid (HB2.out.trans (hb3.mono HB2.out.size))
          clear hb3 HB2
          rw [hnm.out.1]
          clear hnm
          generalize kindName (k : Int) = y
          go_wp2
          go_roundw
          case rel => exact ⟨k + 1, by omega, by omega, by go_num, HB3⟩
          case measure => simp [intOf]; omega
    · have k1 : ¬ (k : Int) ≤ 10 := by omega
      go_wp2_with fail
      refine (name_impl s _ (by omega)).mono ?_
      rintro e w2 ⟨rfl, hb2⟩
      have HB2 := Lib.hid (hb.out.trans (hb2.mono hb.out.size))
      clear hb2 hb
      go_wp2_with fail
      refine (name_spec s _ (by omega)).mono ?_
      rintro e w3 ⟨rfl, rfl⟩
      cases hn : nameB s with
      | false =>
        go_wp2_with fail
        refine (name_impl s _ (by omega)).mono ?_
        rintro e w3 ⟨rfl, hb3⟩
        have HB3 := Lib.hid (HB2.out.trans (hb3.mono HB2.out.size))
        clear hb3 HB2
        rw [hn]
        go_wp2
        go_ret
        exact ⟨rfl, HB3.out⟩
      | true =>
        have hmore := Lib.hid (name_more hn)
        have hsz2 : (s ++ (⟨#[49]⟩ : ByteArray)).size = s.size + 1 := ByteArray.size_append
        have hadd := fun W => addStr W s ⟨#[49]⟩ (by have e : (⟨#[49]⟩ : ByteArray).size = 1 := rfl; omega)
        have hszz : (s ++ (⟨#[49]⟩ : ByteArray)).size ≤ 1073741824 := by omega
        clear hsz2
        go_wp2_with fail
        refine (name_impl s _ (by omega)).mono ?_
        rintro e w3 ⟨rfl, hb3⟩
        have HB3 := Lib.hid (HB2.out.trans (hb3.mono HB2.out.size))
        clear hb3 HB2
        rw [hn]
        generalize s ++ (⟨#[49]⟩ : ByteArray) = z at hadd hszz hmore
        have ha3 := hadd w3
        go_wp2_with fail
        refine (name_impl z _ hszz).mono ?_
        rintro e w4 ⟨rfl, hb4⟩
        have HB4 := Lib.hid (HB3.out.trans (hb4.mono HB3.out.size))
        clear hb4 HB3
        rw [hmore.out]
        go_wp2
        go_ret
        exact ⟨by first | rfl | simp, HB4.out⟩
theorem walk (a0 : Option Addr) (bs0 : List UInt8) (cap0 : Nat) (w : World) (r0 : Arg a0 bs0 cap0 w) :
    Calls Try.prog 3 #[.slice a0 bs0.length cap0] w fun e w' => e = .returned (.bool true) ∧ Below w.heap.size w w' := by
  by_cases h0 : 1048576 < bs0.length
  · exact walk_long a0 bs0 cap0 w h0 (by have q1 := r0.2.1; have q2 := r0.2.2.2; omega)
  · exact walk_short a0 bs0 cap0 w (by omega) r0.code
set_option maxRecDepth 100000 in
theorem lifted (os : Os) (started : os.Started) (H : Type) (enc : TypeId × Value → H) :
    ReturnsInHanded {} Try.checked os 3 .any (Rows.fnNamesSpec.pre6 enc Try.prog Try.f3 Rows.fnNamesRow.domain false) (Rows.fnNamesSpec.post enc Try.prog Try.f3 false true false false) := by
  refine returnsInHanded_of_change (C := Try.checked) own started (by kernel_rfl) Try.func3
    (ChangeSpec.witness6 (enc := enc) (C := Try.checked) false ⟨#[], #[.slice none 0 0], []⟩ 8 (by kernel_rfl) (by kernel_rfl) (by kernel_rfl) (by kernel_rfl)) ?_
  intro W base args ds gs before hval0 hW hcnd _
  have hval : ∀ (j : Nat) t v, Try.f3.params[j]? = some t → args[j]? = some v → Value.okWide Try.prog W .any base t v := hval0
  have hW' := hW
  obtain ⟨p, q, hA0, hV, rfl, hfz, hnd⟩ := hW
  have hA : DataW.TrodAll enc Try.prog W 0 (fun _ => true) true Try.f3.params.toList args.toList ds p := hA0
  rw [Try.params3] at hA hval
  obtain ⟨v0, vs0, d0, ds0, p0, q0, hargs, rfl, rfl, h0, r0⟩ := trodAll_cons hA
  obtain ⟨rfl, rfl, rfl⟩ := trodAll_nil r0
  obtain rfl : args = #[v0] := by cases args; simp_all
  obtain ⟨rfl, rfl⟩ := trodVars_none hV
  simp only [List.append_nil] at hW'
  have hlt : ∀ x ∈ p0, x.block < W.heap.size := fun x hx => hW'.lt x (by simpa using hx)
  obtain ⟨a0, len0, cap0, rfl⟩ := okWide_slice Try.underlying22 (hval 0 22 v0 rfl rfl)
  obtain ⟨bs0, rfl, hb0⟩ := bytes_arg h0
  have m0 : ∀ (W' : World), Below W.heap.size W W' → DataW.Trod enc Try.prog W' 0 (fun b => decide (b < W.heap.size)) true 22 (.slice a0 bs0.length cap0) d0 p0 := fun W' hn => Below.trod laidOut (by kernel_rfl) (of_decide_eq_true (by kernel_rfl)) h0 hn (fun x hx => hlt x (by simp [hx]))
  clear hA0 hval0
  refine (walk a0 bs0 cap0 W hb0).mono fun e W' ⟨he, hb⟩ => ?_
  subst he
  exact ⟨_, rfl, _, _, _, [], _, [], hW', trodAll_cons_mk (shut_bool Try.underlying4 _) trodAll_mk0, (trodAll_cons_mk (m0 _ hb) trodAll_mk0), rfl, hb.frame _, fun h => by cases h⟩
theorem over : Rows.fnNamesRow.holds Try.pinned (OpenSpec.ofChange Rows.fnNamesSpec) :=
  OpenClaim.holds_of_wide 3 Try.f3 rfl rfl rfl rfl rfl rfl rfl ⟨rfl, rfl, rfl, rfl, rfl⟩ rfl rfl rfl rfl rfl (by kernel_rfl) Try.func3 (by kernel_rfl)
    (of_decide_eq_true (by kernel_rfl)) (by unfold Func.isWrapper; first | (rw [if_pos (by decide +kernel)]; kernel_rfl) | (rw [if_neg (by decide +kernel)]; exact ⟨rfl, rfl⟩))
    (fun os started H enc _ => lifted os started H enc)
/-- THE STATEMENT -/
theorem proved : Rows.FnNamesSaid := over
end fnNames
#print axioms fnNames.proved
end Go.Proofs.Ytdhfcopfoknokaa
