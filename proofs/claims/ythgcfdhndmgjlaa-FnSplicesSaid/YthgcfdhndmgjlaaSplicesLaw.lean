/- It is proved that the law FnSplices returns true at every input of its parameter types and leaves its arguments as they were (statement Rows.FnSplicesSaid), with no condition. -/
import Derived.Test.YthgcfdhndmgjlaaSumSame
import Derived.Test.YthgcfdhndmgjlaaISplice
import Derived.Test.YthgcfdhndmgjlaaDrawSplice
import Derived.Test.YthgcfdhndmgjlaaArg
import Derived.Deep.QuietTactic
import Derived.BigQuiet
namespace Go.Proofs.Ythgcfdhndmgjlaa
open Go Go.ChangeShapes Go.WideShapes Go.ChangeAt Go.RowKit
namespace fnSplices
theorem sumB_total : ∀ (l : List UInt8) (n : Nat), n < 256 → sumB l n = (n + (l.map UInt8.toNat).sum) % 256
  | [], n, _ => by simp [sumB]; omega
  | b :: r, n, _ => by
    rw [sumB, sumB_total r _ (Nat.mod_lt _ (by omega)), List.map_cons, List.sum_cons]
    omega
theorem part_join (bs : List UInt8) (p q : Nat) : bs.take p ++ partB bs p (p + q) ++ bs.drop (p + q) = bs := by
  unfold partB
  rw [show p + q - p = q by omega, ← List.drop_drop, List.append_assoc, List.take_append_drop, List.take_append_drop]
/-- What holds of a splice that is possible, of what stood there, and of what was put in. -/
def Facts (bs is part xs : List UInt8) (p q : Nat) : Prop :=
  (xs.length : Int) = (bs.length : Int) - (q : Int) + (is.length : Int) ∧ spliceB xs (p : Int) (is.length : Int) part = bs ∧ spliceK xs (p : Int) (is.length : Int) = true ∧ (sumB xs 0 + sumB part 0) % 256 = (sumB bs 0 + sumB is 0) % 256
theorem facts (bs is : List UInt8) (p q : Nat) (h : p + q ≤ bs.length) : Facts bs is (partB bs p (p + q)) (spliceOf bs is p q) p q := by
  have hpl := partB_length bs p (p + q) h
  have hj := part_join bs p q
  have hlen : (spliceOf bs is p q).length = p + is.length + (bs.length - (p + q)) := by
    unfold spliceOf
    rw [List.length_append, List.length_append, List.length_take, List.length_drop]
    omega
  have hok : 0 ≤ (p : Int) ∧ 0 ≤ (is.length : Int) ∧ (p : Int) + (is.length : Int) ≤ (spliceOf bs is p q).length := ⟨by omega, by omega, by rw [hlen]; omega⟩
  refine ⟨by rw [hlen]; omega, ?_, decide_eq_true hok, ?_⟩
  · unfold spliceB
    rw [if_pos hok, Int.toNat_natCast, Int.toNat_natCast]
    have ht : (bs.take p).length = p := by rw [List.length_take]; omega
    have e1 : (spliceOf bs is p q).take p = bs.take p := by
      unfold spliceOf
      rw [List.append_assoc, List.take_left' ht]
    have e2 : (spliceOf bs is p q).drop (p + is.length) = bs.drop (p + q) := by
      unfold spliceOf
      rw [List.drop_left' (by rw [List.length_append, ht])]
    show (spliceOf bs is p q).take p ++ partB bs p (p + q) ++ (spliceOf bs is p q).drop (p + is.length) = bs
    rw [e1, e2]
    exact hj
  · rw [sumB_total _ _ (by omega), sumB_total _ _ (by omega), sumB_total bs _ (by omega), sumB_total is _ (by omega)]
    have e : (bs.map UInt8.toNat).sum = ((bs.take p).map UInt8.toNat).sum + ((partB bs p (p + q)).map UInt8.toNat).sum + ((bs.drop (p + q)).map UInt8.toNat).sum := by
      conv => lhs; rw [← hj]
      rw [List.map_append, List.map_append, List.sum_append, List.sum_append]
    rw [e]
    unfold spliceOf
    rw [List.map_append, List.map_append, List.sum_append, List.sum_append]
    omega
theorem slice_two (a : Option Addr) (bs : List UInt8) (cap p m : Nat) (w : World) (hpm : p ≤ m) (hm : m ≤ bs.length) (hc : bs.length ≤ cap) (hs : Src1 a bs cap w) :
    ∃ A C, (∀ W, (Instr.slice 22 (.slice a bs.length cap) (some (.int .i64 (p : Int))) (some (.int .i64 (m : Int))) none).run Try.prog W = .ok (.slice A (partB bs p m).length C) W) ∧ Src1 A (partB bs p m) C w := by
  refine ⟨if cap = p then a else a.map (·.add (p * 1)), cap - p, fun W => ?_, ?_, ?_⟩
  · rw [run_slice_lh W 22 a bs.length cap elemU8 .i64 .i64 (p : Int) (m : Int) (by omega) (by omega) (by omega), sizeElem, partB_length bs p m hm]
    simp [Result.andThen, sliced]
  · intro j hj
    have hjl : p + j < bs.length := by rw [partB_length bs p m hm] at hj; omega
    have hne : cap ≠ p := by omega
    obtain ⟨b, off, rfl, hcell⟩ := hs.1 (p + j) hjl
    refine ⟨b, off + p, ?_, ?_⟩
    · rw [if_neg hne]
      simp [Go.WideShapes.add_plain]
    · rw [Nat.add_assoc, hcell, partB_get bs p m j hj hjl]
  · intro h
    by_cases h0 : cap = p
    · omega
    · rw [if_neg h0] at h
      have := hs.2 (by cases a with
        | none => rfl
        | some x => simp at h)
      omega
theorem big_no (a : Option Addr) (n cap : Nat) (w : World) (h : n ≤ 1048576) : Calls Try.prog 14 #[.slice a n cap] w fun e w' => e = .returned (.bool false) ∧ w = w' := by
  have g : ¬ (1048576 : Int) < (n : Int) := by omega
  go_enter Try.func14, Try.ntmps14
  go_wp2
  go_ret
  exact ⟨rfl, rfl⟩
theorem big_yes (a : Option Addr) (n cap : Nat) (w : World) (h : 1048576 < n) (_hm : n ≤ 9223372036854775807) : Calls Try.prog 14 #[.slice a n cap] w fun e w' => e = .returned (.bool true) ∧ w = w' := by
  have g : (1048576 : Int) < (n : Int) := by omega
  go_enter Try.func14, Try.ntmps14
  go_wp2
  go_ret
  exact ⟨rfl, rfl⟩
theorem walk_long (a0 : Option Addr) (bs0 : List UInt8) (cap0 : Nat) (w : World) (h : 1048576 < bs0.length) (hm : bs0.length ≤ 9223372036854775807) :
    Calls Try.prog 5 #[.slice a0 bs0.length cap0] w fun e w' => e = .returned (.bool true) ∧ Below w.heap.size w w' := by
  go_enter Try.func5, Try.ntmps5
  go_wp2_with fail
  refine (big_yes a0 bs0.length cap0 w h hm).mono ?_
  rintro e w1 ⟨rfl, rfl⟩
  go_wp2_with fail
  go_ret
  exact ⟨rfl, Below.refl _ _⟩
set_option maxRecDepth 100000 in
set_option maxHeartbeats 4000000 in
theorem walk_short (a0 : Option Addr) (bs0 : List UInt8) (cap0 : Nat) (w : World) (h : bs0.length ≤ 1048576) (hs : Code a0 bs0.length w) :
    Calls Try.prog 5 #[.slice a0 bs0.length cap0] w fun e w' => e = .returned (.bool true) ∧ Below w.heap.size w w' := by
  have HS := Lib.hid hs
  clear hs
  go_enter Try.func5, Try.ntmps5
  go_wp2_with fail
  refine (big_no a0 bs0.length cap0 w h).mono ?_
  rintro e w1 ⟨rfl, rfl⟩
  go_wp2_with fail
  refine (drawSplice a0 bs0.length cap0 w (by omega) HS.out).mono ?_
  rintro e w1 ⟨ab, bs, cb, k, r, ai, is, ci, hlb, hli, hk, hr, rfl, hrb, hri, hb1⟩
  have HRB := Lib.hid hrb
  have HRI := Lib.hid hri
  have HB1 := Lib.hid hb1
  have HK := Lib.hid hk
  have HR := Lib.hid hr
  clear hrb hri hb1 hk hr HS
  by_cases hok : 0 ≤ k ∧ 0 ≤ r ∧ k + r ≤ bs.length
  · obtain ⟨p, rfl⟩ : ∃ p : Nat, k = (p : Int) := ⟨k.toNat, by omega⟩
    obtain ⟨q, rfl⟩ : ∃ q : Nat, r = (q : Int) := ⟨r.toNat, by omega⟩
    have hpq : p + q ≤ bs.length := by omega
    have C1 := splice_impl ab bs cb p q ai is ci w1 (by omega) (by omega) HK.out HR.out HRB.out.2.1 HRB.out.src HRI.out.src
    rw [show spliceB bs (p : Int) (q : Int) is = spliceOf bs is p q from if_pos hok, show spliceK bs (p : Int) (q : Int) = true from decide_eq_true hok] at C1
    have HC1 := Lib.hid C1
    obtain ⟨m, hm⟩ : ∃ m : Nat, m = p + q := ⟨_, rfl⟩
    have hF := facts bs is p q hpq
    rw [← hm] at hF
    have hpl := partB_length bs p m (by omega)
    have hxl : (spliceOf bs is p q).length ≤ 20 := by have := hF.1; omega
    have HF := Lib.hid hF
    have hw : IntKind.i64.wrap ((p : Int) + (q : Int)) = (m : Int) := by rw [IntWalk.i64_in _ (by omega)]; omega
    have HW := Lib.hid hw
    have SPEC := splice_spec ab bs cb p q ai is ci
    rw [show spliceB bs (p : Int) (q : Int) is = spliceOf bs is p q from if_pos hok, show spliceK bs (p : Int) (q : Int) = true from decide_eq_true hok] at SPEC
    have HSPEC := Lib.hid SPEC
    have TWO := slice_two ab bs cb p m
    have HTWO := Lib.hid TWO
    have hp5 : p ≤ 6 := by omega
    have hq5 : q ≤ 6 := by omega
    have hm5 : m ≤ bs.length := by omega
    have hpm : p ≤ m := by omega
    have hpt : (partB bs p m).length ≤ 6 := by omega
    clear C1 hF hw SPEC TWO hok hm hpl hpq
    generalize spliceOf bs is p q = xs at *
    generalize partB bs p m = ps at *
    go_wp2_with fail
    refine HC1.out.mono ?_
    rintro e w2 ⟨ax, cx, rfl, hrx, hb2⟩
    have HRX := Lib.hid hrx
    have HRB2 := Lib.hid (HRB.out.below hb2)
    have HRI2 := Lib.hid (HRI.out.below hb2)
    have HB2 := Lib.hid (HB1.out.trans (hb2.mono HB1.out.size))
    clear hrx hb2 HRB HRI HB1 HC1
    go_wp2_with fail
    refine (HSPEC.out w2 (by omega) (by omega) HK.out HR.out HRB2.out.2.1 HRB2.out.src HRI2.out.src).mono ?_
    rintro e w3 ⟨ay, cy, rfl, _, hb3⟩
    have HRX3 := Lib.hid (HRX.out.below hb3)
    have HRB3 := Lib.hid (HRB2.out.below hb3)
    have HRI3 := Lib.hid (HRI2.out.below hb3)
    have HB3 := Lib.hid (HB2.out.trans (hb3.mono HB2.out.size))
    clear hb3 HRX HRB2 HRI2 HB2 HSPEC
    obtain ⟨A, C, hsl, hs1⟩ := HTWO.out w3 hpm hm5 HRB3.out.2.1 HRB3.out.src
    have HS1 := Lib.hid hs1
    have hw := HW.out
    clear hs1 HTWO
    obtain ⟨F1, F2, F3, F4⟩ := HF.out
    have C5 := splice_impl ax xs cx p is.length A ps C w3 (by omega) (by omega) HK.out (by unfold I64; omega) HRX3.out.2.1 HRX3.out.src HS1.out
    rw [F2, F3] at C5
    have HC5 := Lib.hid C5
    have HF1 := Lib.hid F1
    have HF4 := Lib.hid F4
    clear F1 F2 F3 F4 HF C5
    go_wp2_with fail
    refine HC5.out.mono ?_
    rintro e w5 ⟨a5, c5, rfl, hr5, hb5⟩
    have HR5 := Lib.hid hr5
    have HRX5 := Lib.hid (HRX3.out.below hb5)
    have HRB5 := Lib.hid (HRB3.out.below hb5)
    have HRI5 := Lib.hid (HRI3.out.below hb5)
    have HS5 := Lib.hid (HS1.out.below hb5)
    have HB5 := Lib.hid (HB3.out.trans (hb5.mono HB3.out.size))
    clear hr5 hb5 HRX3 HRB3 HRI3 HS1 HB3 HC5
    have Q1 := fun (W : World) => sum_same ax xs cx W (by omega)
    have Q2 := fun (W : World) => sum_same A ps C W (by omega)
    have Q3 := fun (W : World) => sum_same ab bs cb W (by omega)
    have Q4 := fun (W : World) => sum_same ai is ci W (by omega)
    have b1 := sumB_lt xs 0 (by omega)
    have b2 := sumB_lt ps 0 (by omega)
    have b3 := sumB_lt bs 0 (by omega)
    have b4 := sumB_lt is 0 (by omega)
    have f4 := HF4.out
    generalize sumB xs 0 = s1 at *
    generalize sumB ps 0 = s2 at *
    generalize sumB bs 0 = s3 at *
    generalize sumB is 0 = s4 at *
    have hs4 : (((s1 : Int) + (s2 : Int)) % 256 == ((s3 : Int) + (s4 : Int)) % 256) = true := by simp; omega
    have hl5 : ((xs.length : Int) == (bs.length : Int) - (q : Int) + (is.length : Int)) = true := by have := HF1.out; simp; omega
    have HQ1 : Hid (∀ n, Calls Try.prog 29 #[.slice ax xs.length cx] (w5.drewN n) fun e w' => e = .returned (.int .i64 (s1 : Nat)) ∧ w' = w5.drewN n) := fun n => Q1 (w5.drewN n) HRX5.out.rd
    have HQ2 : Hid (∀ n, Calls Try.prog 29 #[.slice A ps.length C] (w5.drewN n) fun e w' => e = .returned (.int .i64 (s2 : Nat)) ∧ w' = w5.drewN n) := fun n => Q2 (w5.drewN n) HS5.out.1
    have HQ3 := Lib.hid Q3
    have HQ4 := Lib.hid Q4
    clear Q1 Q2 Q3 Q4 f4 HF4
    go_wp2_with fail
    go_quiet ((go_at_call 29; first | (with_reducible exact Calls.quiet_of_same (HQ1.out _)) | (with_reducible exact Calls.quiet_of_same (HQ2.out _))))
    clear HQ1 HQ2 hsl
    go_wp2_with fail
    refine (same_any a5 ab bs bs c5 cb (w5.drewN nq) (by omega) HR5.out.rd HRB5.out.rd).mono ?_
    rintro e w6 ⟨rfl, n6, rfl⟩
    rw [decide_eq_true (rfl : bs = bs)]
    go_wp2_with fail
    refine (HQ3.out (w5.drewN (nq + n6)) HRB5.out.rd).mono ?_
    rintro e w7 ⟨rfl, rfl⟩
    go_wp2_with fail
    refine (HQ4.out (w5.drewN (nq + n6)) HRI5.out.rd).mono ?_
    rintro e w8 ⟨rfl, rfl⟩
    go_wp2_with fail
    go_ret
    exact ⟨rfl, below_drewN HB5.out _⟩
  · have C1 := splice_impl ab bs cb k r ai is ci w1 (by omega) (by omega) HK.out HR.out HRB.out.2.1 HRB.out.src HRI.out.src
    have C2 := fun W => splice_spec ab bs cb k r ai is ci W (by omega) (by omega) HK.out HR.out HRB.out.2.1
    rw [show spliceB bs k r is = bs from if_neg hok, show spliceK bs k r = false from decide_eq_false hok] at C1
    have HC1 := Lib.hid C1
    have C3 : ∀ W, Src1 ab bs cb W → Src1 ai is ci W → Calls Try.prog 28 #[.slice ab bs.length cb, .int .i64 k, .int .i64 r, .slice ai is.length ci] W (BytesOkOut bs false W) := fun W h1 h2 => by
      have h3 := C2 W h1 h2
      rw [show spliceB bs k r is = bs from if_neg hok, show spliceK bs k r = false from decide_eq_false hok] at h3
      exact h3
    have HC3 := Lib.hid C3
    clear C1 C2 C3 hok
    go_wp2_with fail
    refine HC1.out.mono ?_
    rintro e w2 ⟨ax, cx, rfl, hrx, hb2⟩
    have HRX := Lib.hid hrx
    have HRB2 := Lib.hid (HRB.out.below hb2)
    have HRI2 := Lib.hid (HRI.out.below hb2)
    have HB2 := Lib.hid (HB1.out.trans (hb2.mono HB1.out.size))
    clear hrx hb2 HRB HRI HB1 HC1
    go_wp2_with fail
    refine (HC3.out w2 HRB2.out.src HRI2.out.src).mono ?_
    rintro e w3 ⟨ay, cy, rfl, _, hb3⟩
    have HRX3 := Lib.hid (HRX.out.below hb3)
    have HRB3 := Lib.hid (HRB2.out.below hb3)
    have HB3 := Lib.hid (HB2.out.trans (hb3.mono HB2.out.size))
    clear hb3 HRX HRB2 HRI2 HB2 HC3
    go_wp2_with fail
    refine (same_any ax ab bs bs cx cb w3 (by omega) HRX3.out.rd HRB3.out.rd).mono ?_
    rintro e w4 ⟨rfl, n4, rfl⟩
    rw [decide_eq_true (rfl : bs = bs)]
    go_wp2_with fail
    go_ret
    exact ⟨rfl, below_drewN HB3.out n4⟩
theorem walk (a0 : Option Addr) (bs0 : List UInt8) (cap0 : Nat) (w : World) (r0 : Arg a0 bs0 cap0 w) :
    Calls Try.prog 5 #[.slice a0 bs0.length cap0] w fun e w' => e = .returned (.bool true) ∧ Below w.heap.size w w' := by
  by_cases h0 : 1048576 < bs0.length
  · exact walk_long a0 bs0 cap0 w h0 (by have q1 := r0.2.1; have q2 := r0.2.2.2; omega)
  · exact walk_short a0 bs0 cap0 w (by omega) r0.code
set_option maxRecDepth 100000 in
theorem lifted (os : Os) (started : os.Started) (H : Type) (enc : TypeId × Value → H) :
    ReturnsInHanded {} Try.checked os 5 .any (Rows.fnSplicesSpec.pre6 enc Try.prog Try.f5 Rows.fnSplicesRow.domain false) (Rows.fnSplicesSpec.post enc Try.prog Try.f5 false true false false) := by
  refine returnsInHanded_of_change (C := Try.checked) own started (by kernel_rfl) Try.func5
    (ChangeSpec.witness6 (enc := enc) (C := Try.checked) false ⟨#[], #[.slice none 0 0], []⟩ 8 (by kernel_rfl) (by kernel_rfl) (by kernel_rfl) (by kernel_rfl)) ?_
  intro W base args ds gs before hval0 hW hcnd _
  have hval : ∀ (j : Nat) t v, Try.f5.params[j]? = some t → args[j]? = some v → Value.okWide Try.prog W .any base t v := hval0
  have hW' := hW
  obtain ⟨p, q, hA0, hV, rfl, hfz, hnd⟩ := hW
  have hA : DataW.TrodAll enc Try.prog W 0 (fun _ => true) true Try.f5.params.toList args.toList ds p := hA0
  rw [Try.params5] at hA hval
  obtain ⟨v0, vs0, d0, ds0, p0, q0, hargs, rfl, rfl, h0, r0⟩ := trodAll_cons hA
  obtain ⟨rfl, rfl, rfl⟩ := trodAll_nil r0
  obtain rfl : args = #[v0] := by cases args; simp_all
  obtain ⟨rfl, rfl⟩ := trodVars_none hV
  simp only [List.append_nil] at hW'
  have hlt : ∀ x ∈ p0, x.block < W.heap.size := fun x hx => hW'.lt x (by simpa using hx)
  obtain ⟨a0, len0, cap0, rfl⟩ := okWide_slice Try.underlying22 (hval 0 22 v0 rfl rfl)
  obtain ⟨bs0, rfl, hb0⟩ := bytes_arg h0
  have m0 : ∀ (W' : World), Below W.heap.size W W' → DataW.Trod enc Try.prog W' 0 (fun b => decide (b < W.heap.size)) true 22 (.slice a0 bs0.length cap0) d0 p0 := fun W' hn => Below.trod laidOut (by kernel_rfl) (of_decide_eq_true (by kernel_rfl)) h0 hn (fun x hx => hlt x (by simp [hx]))
  clear hA0 hval0
  refine (walk a0 bs0 cap0 W hb0).mono fun e W' ⟨he, hb⟩ => ?_
  subst he
  exact ⟨_, rfl, _, _, _, [], _, [], hW', trodAll_cons_mk (shut_bool Try.underlying4 _) trodAll_mk0, (trodAll_cons_mk (m0 _ hb) trodAll_mk0), rfl, hb.frame _, fun h => by cases h⟩
theorem over : Rows.fnSplicesRow.holds Try.pinned (OpenSpec.ofChange Rows.fnSplicesSpec) :=
  OpenClaim.holds_of_wide 5 Try.f5 rfl rfl rfl rfl rfl rfl rfl ⟨rfl, rfl, rfl, rfl, rfl⟩ rfl rfl rfl rfl rfl (by kernel_rfl) Try.func5 (by kernel_rfl)
    (of_decide_eq_true (by kernel_rfl)) (by unfold Func.isWrapper; first | (rw [if_pos (by decide +kernel)]; kernel_rfl) | (rw [if_neg (by decide +kernel)]; exact ⟨rfl, rfl⟩))
    (fun os started H enc _ => lifted os started H enc)
/-- THE STATEMENT -/
theorem proved : Rows.FnSplicesSaid := over
end fnSplices
#print axioms fnSplices.proved
end Go.Proofs.Ythgcfdhndmgjlaa
