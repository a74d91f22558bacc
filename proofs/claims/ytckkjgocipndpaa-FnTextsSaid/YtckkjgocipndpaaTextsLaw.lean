/- It is proved that the law FnTexts returns true at every input of its parameter types and leaves its arguments as they were (statement Rows.FnTextsSaid), with no condition. -/
import Derived.Test.YtckkjgocipndpaaExact3
import Derived.Test.YtckkjgocipndpaaDrawText
import Derived.Test.YtckkjgocipndpaaArg
namespace Go.Proofs.Ytckkjgocipndpaa
open Go Go.ChangeShapes Go.WideShapes Go.ChangeAt Go.RowKit
namespace fnTexts
theorem big_no (a : Option Addr) (n cap : Nat) (w : World) (h : n ≤ 1048576) : Calls Try.prog 11 #[.slice a n cap] w fun e w' => e = .returned (.bool false) ∧ w = w' := by
  have g : ¬ (1048576 : Int) < (n : Int) := by omega
  go_enter Try.func11, Try.ntmps11
  go_wp2
  go_ret
  exact ⟨rfl, rfl⟩
theorem big_yes (a : Option Addr) (n cap : Nat) (w : World) (h : 1048576 < n) (_hm : n ≤ 9223372036854775807) : Calls Try.prog 11 #[.slice a n cap] w fun e w' => e = .returned (.bool true) ∧ w = w' := by
  have g : (1048576 : Int) < (n : Int) := by omega
  go_enter Try.func11, Try.ntmps11
  go_wp2
  go_ret
  exact ⟨rfl, rfl⟩
theorem walk_long (a0 : Option Addr) (bs0 : List UInt8) (cap0 : Nat) (w : World) (h : 1048576 < bs0.length) (hm : bs0.length ≤ 9223372036854775807) :
    Calls Try.prog 3 #[.slice a0 bs0.length cap0] w fun e w' => e = .returned (.bool true) ∧ Below w.heap.size w w' := by
  go_enter Try.func3, Try.ntmps3
  go_wp2_with fail
  refine (big_yes a0 bs0.length cap0 w h hm).mono ?_
  rintro e w1 ⟨rfl, rfl⟩
  go_wp2_with fail
  go_ret
  exact ⟨rfl, Below.refl _ _⟩
theorem splitL_small {c : UInt8} : ∀ {l : List UInt8}, ∀ p ∈ splitL c l, p.length ≤ l.length
  | [], p, hp => by simp [splitL] at hp; subst hp; simp
  | y :: r, p, hp => by
    unfold splitL at hp
    split at hp
    · simp only [List.mem_cons] at hp
      rcases hp with rfl | hp
      · simp
      · have := splitL_small p hp
        simp; omega
    · have ih := @splitL_small c r
      cases hr : splitL c r with
      | nil => exact absurd hr (splitL_ne c r)
      | cons h t =>
        rw [hr] at hp ih
        simp only [List.mem_cons] at hp
        rcases hp with rfl | hp
        · have := ih h (by simp)
          simp; omega
        · have := ih p (by simp [hp])
          simp; omega
theorem parts_small {c : UInt8} {s p : ByteArray} (h : p ∈ parts c s) : p.size ≤ s.size := by
  simp only [parts, txts, List.mem_map] at h
  obtain ⟨q, hq, rfl⟩ := h
  rw [txt_size, ← lst_length]
  exact splitL_small q hq
theorem word_small {s p : ByteArray} (h : p ∈ wordsS s) : p.size ≤ s.size := by
  simp only [wordsS, fullS, List.mem_filter] at h
  exact parts_small h.1
theorem one_word (p : ByteArray) (h : parts 32 p = [p]) (hs : p.size ≤ 1073741824) (w : World) :
    Calls Try.prog 13 #[.string p, .int .u8 32] w fun e w' => (∃ a cap, e = .returned (.slice a 1 cap)) ∧ Below w.heap.size w w' := by
  refine (split_impl p 32 w hs).mono ?_
  rintro e w' ⟨a, cap, rfl, _, hb⟩
  refine ⟨⟨a, cap, ?_⟩, hb⟩
  rw [h]
  rfl
theorem join_back {B : Nat} (a : Option Addr) (cap : Nat) (s : ByteArray) (c : UInt8) (w : World) (hs : s.size ≤ 15) (h : RowS B a (parts c s) cap w) :
    Calls Try.prog 17 #[.slice a (parts c s).length cap, .string (txt [c])] w fun e w' => e = .returned (.string s) ∧ Below w.heap.size w w' := by
  have hl := parts_lens c s
  have hj := join_parts c s
  have h1 := join_impl0 a (parts c s) cap (txt [c]) w (by omega) (by rw [hj]; omega) h
  rw [hj] at h1
  exact h1
theorem join_line {B : Nat} (a : Option Addr) (cap : Nat) (s : ByteArray) (w : World) (hs : s.size ≤ 15) (h : RowS B a (linesS s) cap w) :
    Calls Try.prog 17 #[.slice a (linesS s).length cap, .string ⟨#[10]⟩] w fun e w' => e = .returned (.string (joinS (txt [10]) (linesS s))) ∧ Below w.heap.size w w' := by
  have hl := lines_lens s
  refine join_impl0 a (linesS s) cap (txt [10]) w (by omega) ?_ h
  rcases join_lines s with e | e
  · rw [e]; omega
  · have := congrArg ByteArray.size e
    rw [ByteArray.size_append] at this
    omega
theorem conv_byte (W : World) (c : UInt8) :
    (convert 22 9 (.slice (some ⟨W.heap.size, 0, none⟩) 1 1)).run Try.prog (W.alloc (.cells #[.int .u8 (c.toNat : Int)] 5)) = .ok (.string (txt [c])) (W.alloc (.cells #[.int .u8 (c.toNat : Int)] 5)) := by
  have h := run_convert_bytes_arg (P := Try.prog) (W.alloc (.cells #[.int .u8 (c.toNat : Int)] 5)) 22 5 Try.underlying22 Try.underlying5 W.heap.size 0 1 1 [(c.toNat : Int)] rfl
    (fun i hi => by obtain rfl : i = 0 := by omega
                    simp) 9 Try.underlying9
  have e : strOfNums [(c.toNat : Int)] = txt [c] := by simp [strOfNums, txt]
  rw [h, e]
theorem last_add (s : ByteArray) (W : World) (hL : joinS (txt [10]) (linesS s) ≠ s) (hs : s.size ≤ 15) : (Op.stringOp .add (joinS (txt [10]) (linesS s)) ⟨#[10]⟩).run Try.prog W = .ok (.string s) W := by
  rcases join_lines s with e | e
  · exact absurd e hL
  · have h1 := congrArg ByteArray.size e
    rw [ByteArray.size_append] at h1
    have h2 : (⟨#[10]⟩ : ByteArray).size = 1 := rfl
    rw [add_str W _ _ (by omega)]
    exact congrArg (fun z => Result.ok (Value.string z) W) e
theorem has_one (a : Option Addr) (ss : List ByteArray) (cap : Nat) (x : ByteArray) (w : World) (h1 : ss.length = 1) (h : RdS a ss w) :
    Calls Try.prog 18 #[.slice a 1 cap, .string x] w fun e w' => e = .returned (.bool (hasS ss x)) ∧ w = w' := by
  have h2 := has_impl a ss cap x w (by omega) h
  rw [h1] at h2
  exact h2
/-- What the law asks of a text and its parts. -/
theorem facts (s : ByteArray) (c : UInt8) : ∃ (x y : ByteArray) (ok : Bool) (n : Nat), cutA c s = x ∧ cutB c s = y ∧ cutK c s = ok ∧ (parts c s).length = n ∧ (∃ h : 0 < (parts c s).length, (parts c s)[0] = x) ∧ 0 < n ∧ x.size ≤ s.size ∧ y.size ≤ s.size ∧
    (ok = true → 1 < n ∧ x ++ txt [c] ++ y = s) ∧ (ok = false → n = 1 ∧ x = s) := by
  have hp := parts_ne c s
  refine ⟨_, _, _, _, rfl, rfl, rfl, rfl, ?_⟩
  cases hk : cutK c s with
  | true =>
    have e := parts_more hk
    have e2 := cut_sum hk
    have l1 := parts_ne c (cutB c s)
    have e3 := congrArg List.length e2
    rw [lst_length, List.length_append, lst_length, List.length_cons, lst_length] at e3
    refine ⟨⟨hp, by simp only [e, List.getElem_cons_zero]⟩, hp, by omega, by omega, fun _ => ⟨by rw [e, List.length_cons]; omega, ?_⟩, fun h => by cases h⟩
    apply lst_inj
    rw [append_txt, append_txt, lst_txt, lst_txt, lst_txt, e2]
    simp
  | false =>
    have e := parts_last hk
    have e2 := cut_self hk
    have e4 : (cutB c s).size = 0 := by
      have : ∀ l : List UInt8, (cutL c l).2.2 = false → (cutL c l).2.1 = [] := by
        intro l
        induction l with
        | nil => intro _; rfl
        | cons x r ih =>
          intro h
          unfold cutL at h ⊢
          split at h
          · cases h
          · rename_i hx
            rw [if_neg hx]
            exact ih h
      have h0 := this (lst s) hk
      unfold cutB
      rw [txt_size, h0]; rfl
    refine ⟨⟨hp, by simp only [e, List.getElem_cons_zero]⟩, hp, by rw [e2]; omega, by omega, fun h => (by cases h), fun _ => ⟨by rw [e]; rfl, e2⟩⟩
set_option maxRecDepth 100000 in
set_option maxHeartbeats 4000000 in
theorem walk_short (a0 : Option Addr) (bs0 : List UInt8) (cap0 : Nat) (w : World) (h : bs0.length ≤ 1048576) (hs : Code a0 bs0.length w) :
    Calls Try.prog 3 #[.slice a0 bs0.length cap0] w fun e w' => e = .returned (.bool true) ∧ Below w.heap.size w w' := by
  have HS := Lib.hid hs
  clear hs
  go_enter Try.func3, Try.ntmps3
  simp only [List.append]
  go_wp2_with fail
  refine (big_no a0 bs0.length cap0 w h).mono ?_
  rintro e w1 ⟨rfl, rfl⟩
  go_wp2_with fail
  refine (drawSplitText a0 bs0.length cap0 w (by omega) HS.out).mono ?_
  rintro e w1 ⟨s, c, hsz, rfl, hb1⟩
  have HB1 := Lib.hid hb1
  clear hb1 HS
  go_wp2_with fail
  refine (split_impl s c w1 (by omega)).mono ?_
  rintro e w2 ⟨a1, cap1, rfl, hr2, hb2⟩
  have HL2 := Lib.hid hr2
  have HB2 := Lib.hid (HB1.out.trans (hb2.mono HB1.out.size))
  clear hr2 hb2 HB1
  go_wp2_with fail
  refine (cut_below s c w2 (by omega)).mono ?_
  rintro e w3 ⟨rfl, hb3⟩
  have HL3 := Lib.hid (HL2.out.below hb3)
  have HB3 := Lib.hid (HB2.out.trans (hb3.mono HB2.out.size))
  clear hb3 HL2 HB2
  go_wp2_with fail
  refine (words_impl s w3 (by omega)).mono ?_
  rintro e w4 ⟨a4, cap4, rfl, hr4, hb4⟩
  have HL4 := Lib.hid (HL3.out.below hb4)
  have HW4 := Lib.hid hr4
  have HB4 := Lib.hid (HB3.out.trans (hb4.mono HB3.out.size))
  clear hr4 hb4 HL3 HB3
  have hwl := words_lens s
  go_wp2_with fail
  go_loopw [10] (fun i W => ∃ k : Nat, k ≤ (wordsS s).length ∧ i = .int .i64 k ∧ Hid (Below w4.heap.size w4 W)) (fun i _ => (wordsS s).length - (intOf i).toNat)
  case atStart => exact ⟨0, Nat.zero_le _, rfl, Below.refl _ _⟩
  case round =>
    obtain ⟨k, hk, rfl, hbr⟩ := hrel
    have k0 : (0 : Int) ≤ (k : Int) := by omega
    by_cases hlt : k < (wordsS s).length
    · have k1 : (k : Int) < ((wordsS s).length : Int) := by omega
      obtain ⟨b, off, rfl, hc⟩ := (HW4.out.rd.below hbr.out) k hlt
      have hmem := List.getElem_mem hlt
      have hsm := word_small hmem
      obtain ⟨hne, hone⟩ := words_at s _ hmem
      have g1 := str_some hne
      have HO := Lib.hid hone
      clear hmem hone
      generalize (wordsS s)[k] = p at hc hsm g1 HO hne
      clear hne
      go_wp2_with fail
      refine (one_word p HO.out (by omega) wr).mono ?_
      rintro e w5 ⟨⟨a5, cap5, rfl⟩, hb5⟩
      have HB5 := Lib.hid (hbr.out.trans (hb5.mono hbr.out.size))
      clear hb5
      go_wp2
      go_roundw
      case rel => exact ⟨k + 1, by omega, by go_num, HB5⟩
      case measure => simp [intOf]; omega
    · have k1 : ¬ (k : Int) < ((wordsS s).length : Int) := by omega
      have HL5 := Lib.hid (HL4.out.below hbr.out)
      have HB5 := Lib.hid (HB4.out.trans (hbr.out.mono HB4.out.size))
      clear hbr HL4 HB4 HW4
      obtain ⟨x, y, ok, n, hx, hy, hok, hn, ⟨hp0, hx0⟩, hn0, hxs, hys, hyes, hno⟩ := facts s c
      go_wp2_with fail
      refine (lines_impl s wr (by omega)).mono ?_
      rintro e w6 ⟨a6, cap6, rfl, hr6, hb6⟩
      have HL6 := Lib.hid (HL5.out.below hb6)
      have HN6 := Lib.hid hr6
      have HB6 := Lib.hid (HB5.out.trans (hb6.mono HB5.out.size))
      clear hr6 hb6 HL5 HB5
      have hpl := parts_lens c s
      have hm : hasS (parts c s) x = true := hasS_true (hx0 ▸ List.getElem_mem hp0)
      obtain ⟨b, off, ha, hc6⟩ := HL6.out.rd 0 hp0
      subst ha
      rw [Nat.add_zero, hx0] at hc6
      subst hn
      clear hx0
      have hconv := conv_byte w6 c
      have l0 : (0 : Int) < ((parts c s).length : Int) := by omega
      have hcc : c.toNat < 256 := c.toNat_lt
      go_wp2_with fail
      refine (join_back (some ⟨b, off, none⟩) cap1 s c _ hsz (HL6.out.below ((Below.refl _ _).alloc (Nat.le_refl _) _))).mono ?_
      rintro e w7 ⟨rfl, hb7⟩
      have hA7 : Below w6.heap.size w6 w7 := ((Below.refl _ w6).alloc (Nat.le_refl _) _).trans (hb7.mono (by simp))
      have HL7 := Lib.hid (HL6.out.below hA7)
      have HN7 := Lib.hid (HN6.out.below hA7)
      have HB7 := Lib.hid (HB6.out.trans (hA7.mono HB6.out.size))
      have hc7 := (hA7.cell (cell_lt hc6)).trans hc6
      clear hA7 hb7 HL6 HN6 HB6 hc6 hconv
      cases ok with
      | true =>
        obtain ⟨hn1, hsum⟩ := hyes rfl
        have l1 : (1 : Int) < ((parts c s).length : Int) := by omega
        have hconv2 := conv_byte w7 c
        have hts : (txt [c]).size = 1 := rfl
        have hadd1 : ∀ W, (Op.stringOp .add x (txt [c])).run Try.prog W = .ok (.string (x ++ txt [c])) W := fun W => add_str W x (txt [c]) (by omega)
        have hadd2 : ∀ W, (Op.stringOp .add (x ++ txt [c]) y).run Try.prog W = .ok (.string s) W := fun W => by
          rw [add_str W (x ++ txt [c]) y (by rw [ByteArray.size_append]; omega), hsum]
        clear hyes hno hsum
        generalize x ++ txt [c] = z at hadd1 hadd2
        have hT : Below w7.heap.size w7 (w7.alloc (.cells #[.int .u8 (c.toNat : Int)] 5)) := (Below.refl _ _).alloc (Nat.le_refl _) _
        go_wp2_with fail
        refine (join_line a6 cap6 s _ hsz (HN7.out.below hT)).mono ?_
        rintro e w8 ⟨rfl, hb8⟩
        have hB8 : Below w7.heap.size w7 w8 := hT.trans (hb8.mono hT.size)
        have HL8 := Lib.hid (HL7.out.below hB8)
        have HN8 := Lib.hid (HN7.out.below hB8)
        have HB8 := Lib.hid (HB7.out.trans (hB8.mono HB7.out.size))
        have hc8 := (hB8.cell (cell_lt hc7)).trans hc7
        clear hB8 hb8 HL7 HN7 HB7 hc7 hT
        by_cases hL : joinS (txt [10]) (linesS s) = s
        · have gL := str_eq hL
          generalize joinS (txt [10]) (linesS s) = Q at gL ⊢
          clear hL
          go_wp2_with fail
          refine (has_impl (some ⟨b, off, none⟩) (parts c s) cap1 x _ (by omega) HL8.out.rd).mono ?_
          rintro e w9 ⟨rfl, rfl⟩
          go_wp2
          go_ret
          exact ⟨rfl, HB8.out⟩
        · have gL := str_ne hL
          have hadd3 : ∀ W, (Op.stringOp .add (joinS (txt [10]) (linesS s)) ⟨#[10]⟩).run Try.prog W = .ok (.string s) W := fun W => last_add s W hL hsz
          go_wp2_with fail
          refine (join_line a6 cap6 s _ hsz HN8.out).mono ?_
          rintro e w9 ⟨rfl, hb9⟩
          have HL9 := Lib.hid (HL8.out.below hb9)
          have HB9 := Lib.hid (HB8.out.trans (hb9.mono HB8.out.size))
          have hc9 := (hb9.cell (cell_lt hc8)).trans hc8
          clear hb9 HL8 HN8 HB8 hL
          generalize joinS (txt [10]) (linesS s) = Q at gL hadd3 ⊢
          go_wp2_with fail
          refine (has_impl (some ⟨b, off, none⟩) (parts c s) cap1 x _ (by omega) HL9.out.rd).mono ?_
          rintro e w9 ⟨rfl, rfl⟩
          go_wp2
          go_ret
          exact ⟨rfl, HB9.out⟩
      | false =>
        obtain ⟨hn1, hsum⟩ := hno rfl
        have gs := str_eq hsum
        rw [hn1]
        have HN1 := Lib.hid hn1
        clear hyes hno hsum hn1 l0 hpl hn0 hp0
        have hT : Below w7.heap.size w7 w7 := Below.refl _ _
        go_wp2_with fail
        refine (join_line a6 cap6 s _ hsz (HN7.out.below hT)).mono ?_
        rintro e w8 ⟨rfl, hb8⟩
        have hB8 : Below w7.heap.size w7 w8 := hT.trans (hb8.mono hT.size)
        have HL8 := Lib.hid (HL7.out.below hB8)
        have HN8 := Lib.hid (HN7.out.below hB8)
        have HB8 := Lib.hid (HB7.out.trans (hB8.mono HB7.out.size))
        have hc8 := (hB8.cell (cell_lt hc7)).trans hc7
        clear hB8 hb8 HL7 HN7 HB7 hc7 hT
        by_cases hL : joinS (txt [10]) (linesS s) = s
        · have gL := str_eq hL
          generalize joinS (txt [10]) (linesS s) = Q at gL ⊢
          clear hL
          go_wp2_with fail
          refine (has_one (some ⟨b, off, none⟩) (parts c s) cap1 x _ HN1.out HL8.out.rd).mono ?_
          rintro e w9 ⟨rfl, rfl⟩
          go_wp2
          go_ret
          exact ⟨rfl, HB8.out⟩
        · have gL := str_ne hL
          have hadd3 : ∀ W, (Op.stringOp .add (joinS (txt [10]) (linesS s)) ⟨#[10]⟩).run Try.prog W = .ok (.string s) W := fun W => last_add s W hL hsz
          go_wp2_with fail
          refine (join_line a6 cap6 s _ hsz HN8.out).mono ?_
          rintro e w9 ⟨rfl, hb9⟩
          have HL9 := Lib.hid (HL8.out.below hb9)
          have HB9 := Lib.hid (HB8.out.trans (hb9.mono HB8.out.size))
          have hc9 := (hb9.cell (cell_lt hc8)).trans hc8
          clear hb9 HL8 HN8 HB8 hL
          generalize joinS (txt [10]) (linesS s) = Q at gL hadd3 ⊢
          go_wp2_with fail
          refine (has_one (some ⟨b, off, none⟩) (parts c s) cap1 x _ HN1.out HL9.out.rd).mono ?_
          rintro e w9 ⟨rfl, rfl⟩
          go_wp2
          go_ret
          exact ⟨rfl, HB9.out⟩
theorem walk (a0 : Option Addr) (bs0 : List UInt8) (cap0 : Nat) (w : World) (r0 : Arg a0 bs0 cap0 w) :
    Calls Try.prog 3 #[.slice a0 bs0.length cap0] w fun e w' => e = .returned (.bool true) ∧ Below w.heap.size w w' := by
  by_cases h0 : 1048576 < bs0.length
  · exact walk_long a0 bs0 cap0 w h0 (by have q1 := r0.2.1; have q2 := r0.2.2.2; omega)
  · exact walk_short a0 bs0 cap0 w (by omega) r0.code
set_option maxRecDepth 100000 in
theorem lifted (os : Os) (started : os.Started) (H : Type) (enc : TypeId × Value → H) :
    ReturnsInHanded {} Try.checked os 3 .any (Rows.fnTextsSpec.pre6 enc Try.prog Try.f3 Rows.fnTextsRow.domain false) (Rows.fnTextsSpec.post enc Try.prog Try.f3 false true false false) := by
  refine returnsInHanded_of_change (C := Try.checked) own started (by kernel_rfl) Try.func3
    (ChangeSpec.witness6 (enc := enc) (C := Try.checked) false ⟨#[], #[.slice none 0 0], []⟩ 8 (by kernel_rfl) (by kernel_rfl) (by kernel_rfl) (by kernel_rfl)) ?_
  intro W base args ds gs before hval0 hW hcnd _
  have hval : ∀ (j : Nat) t v, Try.f3.params[j]? = some t → args[j]? = some v → Value.okWide Try.prog W .any base t v := hval0
  have hW' := hW
  obtain ⟨p, q, hA0, hV, rfl, hfz, hnd⟩ := hW
  have hA : DataW.TrodAll enc Try.prog W 0 (fun _ => true) true Try.f3.params.toList args.toList ds p := hA0
  rw [Try.params3] at hA hval
  obtain ⟨v0, vs0, d0, ds0, p0, q0, hargs, rfl, rfl, h0, r0⟩ := trodAll_cons hA
  obtain ⟨rfl, rfl, rfl⟩ := trodAll_nil r0
  obtain rfl : args = #[v0] := by cases args; simp_all
  obtain ⟨rfl, rfl⟩ := trodVars_none hV
  simp only [List.append_nil] at hW'
  have hlt : ∀ x ∈ p0, x.block < W.heap.size := fun x hx => hW'.lt x (by simpa using hx)
  obtain ⟨a0, len0, cap0, rfl⟩ := okWide_slice Try.underlying22 (hval 0 22 v0 rfl rfl)
  obtain ⟨bs0, rfl, hb0⟩ := bytes_arg h0
  have m0 : ∀ (W' : World), Below W.heap.size W W' → DataW.Trod enc Try.prog W' 0 (fun b => decide (b < W.heap.size)) true 22 (.slice a0 bs0.length cap0) d0 p0 := fun W' hn => Below.trod laidOut (by kernel_rfl) (of_decide_eq_true (by kernel_rfl)) h0 hn (fun x hx => hlt x (by simp [hx]))
  clear hA0 hval0
  refine (walk a0 bs0 cap0 W hb0).mono fun e W' ⟨he, hb⟩ => ?_
  subst he
  exact ⟨_, rfl, _, _, _, [], _, [], hW', trodAll_cons_mk (shut_bool Try.underlying4 _) trodAll_mk0, (trodAll_cons_mk (m0 _ hb) trodAll_mk0), rfl, hb.frame _, fun h => by cases h⟩
theorem over : Rows.fnTextsRow.holds Try.pinned (OpenSpec.ofChange Rows.fnTextsSpec) :=
  OpenClaim.holds_of_wide 3 Try.f3 rfl rfl rfl rfl rfl rfl rfl ⟨rfl, rfl, rfl, rfl, rfl⟩ rfl rfl rfl rfl rfl (by kernel_rfl) Try.func3 (by kernel_rfl)
    (of_decide_eq_true (by kernel_rfl)) (by unfold Func.isWrapper; first | (rw [if_pos (by decide +kernel)]; kernel_rfl) | (rw [if_neg (by decide +kernel)]; exact ⟨rfl, rfl⟩))
    (fun os started H enc _ => lifted os started H enc)
/-- THE STATEMENT -/
theorem proved : Rows.FnTextsSaid := over
end fnTexts
#print axioms fnTexts.proved
end Go.Proofs.Ytckkjgocipndpaa
