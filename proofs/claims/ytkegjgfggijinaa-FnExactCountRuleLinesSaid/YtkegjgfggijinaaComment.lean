/- Contracts of IsComment and CountRuleLines, of the model and of the program. -/
import Derived.Test.YtkegjgfggijinaaLinesImpl
import Derived.Lib.Strings
namespace Go.Proofs.Ytkegjgfggijinaa
open Go Go.RowKit
theorem splitL_le {c : UInt8} : ∀ {l : List UInt8}, ∀ p ∈ splitL c l, p.length ≤ l.length
  | [], p, hp => by simp [splitL] at hp; subst hp; simp
  | y :: r, p, hp => by
    unfold splitL at hp
    split at hp
    · simp only [List.mem_cons] at hp
      rcases hp with rfl | hp
      · simp
      · have := splitL_le p hp
        simp; omega
    · have ih := @splitL_le c r
      cases hr : splitL c r with
      | nil => exact absurd hr (splitL_ne c r)
      | cons h t =>
        rw [hr] at hp ih
        simp only [List.mem_cons] at hp
        rcases hp with rfl | hp
        · have := ih h (by simp)
          simp; omega
        · have := ih p (by simp [hp])
          simp; omega
theorem part_le {c : UInt8} {s p : ByteArray} (h : p ∈ parts c s) : p.size ≤ s.size := by
  simp only [parts, txts, List.mem_map] at h
  obtain ⟨q, hq, rfl⟩ := h
  rw [txt_size, ← lst_length]
  exact splitL_le q hq
theorem word_le {s p : ByteArray} (h : p ∈ wordsS s) : p.size ≤ s.size := by
  simp only [wordsS, fullS, List.mem_filter] at h
  exact part_le h.1
theorem line_le1 {s p : ByteArray} (h : p ∈ linesS s) : p.size ≤ s.size := by
  unfold linesS at h
  split at h
  · exact part_le (List.mem_of_mem_take h)
  · exact part_le h
theorem lines_le1 (s : ByteArray) : (linesS s).length ≤ s.size + 1 := by
  have h := parts_lens 10 s
  unfold linesS
  split
  · rw [List.length_take]; omega
  · exact h
/-- Is a line of these words skipped? -/
def commentW : List ByteArray → Bool
  | [] => true
  | x :: _ => (lst x).head? == some 35
theorem comment_yes {x : ByteArray} {r : List ByteArray} (h : 0 < x.size) (e : x[0] = 35) : commentW (x :: r) = true := by
  have h1 := drop_at x 0 h
  rw [List.drop_zero] at h1
  show ((lst x).head? == some 35) = true
  rw [h1]
  show (some x[0] == some 35) = true
  rw [e]
  rfl
theorem comment_no {x : ByteArray} {r : List ByteArray} (h : 0 < x.size) (e : x[0] ≠ 35) : commentW (x :: r) = false := by
  have h1 := drop_at x 0 h
  rw [List.drop_zero] at h1
  show ((lst x).head? == some 35) = false
  rw [h1]
  show (some x[0] == some 35) = false
  simpa using e
theorem size_pos {x : ByteArray} (h : x ≠ ⟨#[]⟩) : 0 < x.size := by
  rcases Nat.eq_zero_or_pos x.size with h0 | h0
  · exact absurd (lst_inj (b := ⟨#[]⟩) (List.eq_nil_of_length_eq_zero (by rw [lst_length]; exact h0))) h
  · exact h0
set_option maxRecDepth 100000 in
theorem comment_spec (s : ByteArray) (w : World) (hs : s.size ≤ 1073741824) :
    Calls Try.prog 21 #[.string s] w fun e w' => e = .returned (.bool (commentW (wordsS s))) ∧ Below w.heap.size w w' := by
  obtain ⟨cb, hcb⟩ : ∃ cb, cb = commentW (wordsS s) := ⟨_, rfl⟩
  rw [← hcb]
  have HC := Lib.hid hcb
  clear hcb
  go_enter Try.func21, Try.ntmps21
  go_wp2_with fail
  refine (words_spec s _ hs).mono ?_
  rintro e w1 ⟨a, cap, rfl, hr, hb⟩
  have HB := Lib.hid hb
  have hnn := Lib.hid (fun p hp => (words_at s p hp).1)
  clear hb
  obtain ⟨ws, hws⟩ : ∃ ws, ws = wordsS s := ⟨_, rfl⟩
  rw [← hws] at hr hnn HC ⊢
  clear hws
  cases ws with
  | nil =>
    clear hr hnn
    go_wp2
    go_ret
    exact ⟨ret_bool HC.out.symm, HB.out⟩
  | cons x r =>
    obtain ⟨b, off, rfl, hc⟩ := hr.rd 0 (by simp)
    simp only [List.getElem_cons_zero, Nat.add_zero] at hc
    have hx : 0 < x.size := size_pos (hnn.out x (by simp))
    obtain ⟨n, hn⟩ : ∃ n, n = (x :: r).length := ⟨_, rfl⟩
    rw [← hn]
    have n0 : (0 : Int) < (n : Int) := by rw [hn]; simp
    have n1 : ((n : Int) == 0) = false := by simp; omega
    clear hn hr hnn
    have x0 : (0 : Int) < (x.size : Int) := by omega
    by_cases e : x[0] = 35
    · have g : ((x[0].toNat : Int) == 35) = true := by rw [e]; rfl
      have hres := Lib.hid (comment_yes (r := r) hx e)
      clear e
      go_wp2
      go_ret
      exact ⟨ret_bool (HC.out.trans hres.out).symm, HB.out⟩
    · have g : ((x[0].toNat : Int) == 35) = false := by
        have : x[0].toNat ≠ 35 := fun h => e (UInt8.toNat_inj.1 h)
        simp; omega
      have hres := Lib.hid (comment_no (r := r) hx e)
      clear e
      go_wp2
      go_ret
      exact ⟨ret_bool (HC.out.trans hres.out).symm, HB.out⟩
theorem hash_yes {x : ByteArray} (h : 0 < x.size) (e : x[0] = 35) : Lib.hasPrefix x.data.toList [35] = true := by
  have h1 : x.data.toList = _ := drop_at x 0 h
  rw [h1, e]
  rfl
theorem hash_no {x : ByteArray} (h : 0 < x.size) (e : x[0] ≠ 35) : Lib.hasPrefix x.data.toList [35] = false := by
  have h1 : x.data.toList = _ := drop_at x 0 h
  rw [h1]
  have g : ((35 : UInt8) == x[0]) = false := by simpa using fun h => e h.symm
  simp [Lib.hasPrefix, List.isPrefixOf, g]
set_option maxRecDepth 100000 in
theorem comment_impl (s : ByteArray) (w : World) (hs : s.size ≤ 1073741824) :
    Calls Try.prog 22 #[.string s] w fun e w' => e = .returned (.bool (commentW (wordsS s))) ∧ Below w.heap.size w w' := by
  obtain ⟨cb, hcb⟩ : ∃ cb, cb = commentW (wordsS s) := ⟨_, rfl⟩
  rw [← hcb]
  have HC := Lib.hid hcb
  clear hcb
  go_enter Try.func22, Try.ntmps22
  go_wp2_with fail
  refine (words_impl s _ hs).mono ?_
  rintro e w1 ⟨a, cap, rfl, hr, hb⟩
  have HB := Lib.hid hb
  have hnn := Lib.hid (fun p hp => (words_at s p hp).1)
  clear hb
  obtain ⟨ws, hws⟩ : ∃ ws, ws = wordsS s := ⟨_, rfl⟩
  rw [← hws] at hr hnn HC ⊢
  clear hws
  cases ws with
  | nil =>
    clear hr hnn
    go_wp2
    go_ret
    exact ⟨ret_bool HC.out.symm, HB.out⟩
  | cons x r =>
    obtain ⟨b, off, rfl, hc⟩ := hr.rd 0 (by simp)
    simp only [List.getElem_cons_zero, Nat.add_zero] at hc
    have hx : 0 < x.size := size_pos (hnn.out x (by simp))
    obtain ⟨n, hn⟩ : ∃ n, n = (x :: r).length := ⟨_, rfl⟩
    rw [← hn]
    have n0 : (0 : Int) < (n : Int) := by rw [hn]; simp
    have n1 : ((n : Int) == 0) = false := by simp; omega
    clear hn hr hnn
    by_cases e : x[0] = 35
    · have hres := Lib.hid (comment_yes (r := r) hx e)
      have hp := Lib.hid (hash_yes hx e)
      clear e
      go_wp2_with fail
      refine (Try.strings_HasPrefix x _ _).mono ?_
      rintro e w2 ⟨rfl, rfl⟩
      rw [hp.out]
      go_wp2
      go_ret
      exact ⟨ret_bool (HC.out.trans hres.out).symm, HB.out⟩
    · have hres := Lib.hid (comment_no (r := r) hx e)
      have hp := Lib.hid (hash_no hx e)
      clear e
      go_wp2_with fail
      refine (Try.strings_HasPrefix x _ _).mono ?_
      rintro e w2 ⟨rfl, rfl⟩
      rw [hp.out]
      go_wp2
      go_ret
      exact ⟨ret_bool (HC.out.trans hres.out).symm, HB.out⟩
/-- How many of these lines are not skipped. -/
def countC (ls : List ByteArray) : Nat := (ls.filter fun l => !commentW (wordsS l)).length
theorem countC_take {ls : List ByteArray} {k : Nat} (h : k < ls.length) : countC (ls.take (k + 1)) = countC (ls.take k) + (if commentW (wordsS ls[k]) = true then 0 else 1) := by
  unfold countC
  rw [List.take_succ_eq_append_getElem h, List.filter_append, List.length_append]
  by_cases g : commentW (wordsS ls[k]) = true
  · simp [g]
  · simp [g]
set_option maxRecDepth 100000 in
set_option maxHeartbeats 1000000 in
theorem countc_spec (s : ByteArray) (w : World) (hs : s.size ≤ 1073741823) :
    Calls Try.prog 23 #[.string s] w fun e w' => e = .returned (.int .i64 ((countC (linesS s) : Nat) : Int)) ∧ Below w.heap.size w w' := by
  have hll := lines_le1 s
  have HLE := Lib.hid (fun p (hp : p ∈ linesS s) => line_le1 hp)
  obtain ⟨cn, hcn⟩ : ∃ cn, cn = countC (linesS s) := ⟨_, rfl⟩
  rw [← hcn]
  have HC := Lib.hid hcn
  clear hcn
  go_enter Try.func23, Try.ntmps23
  go_wp2_with fail
  refine (lines_spec s _ (by omega)).mono ?_
  rintro e w1 ⟨a, cap, rfl, hr, hb⟩
  have HR := Lib.hid hr.rd
  have HB := Lib.hid hb
  clear hb hr
  obtain ⟨ls, hls⟩ : ∃ ls, ls = linesS s := ⟨_, rfl⟩
  rw [← hls] at HR HLE hll HC ⊢
  clear hls
  go_wp2
  go_loopw [3, 5] (fun q i W => ∃ k n : Nat, k ≤ ls.length ∧ n ≤ k ∧ i = .int .i64 k ∧ q = .int .i64 (n : Int) ∧ Hid (n = countC (ls.take k)) ∧ Hid (Below w1.heap.size w1 W)) (fun _ i _ => ls.length - (intOf i).toNat)
  case atStart => exact ⟨0, 0, Nat.zero_le _, Nat.le_refl _, rfl, rfl, rfl, Below.refl _ _⟩
  case round =>
    obtain ⟨k, n, hk, hn, rfl, rfl, hf, hb⟩ := hrel
    have k0 : (0 : Int) ≤ (k : Int) := by omega
    by_cases hlt : k < ls.length
    · have k1 : (k : Int) < (ls.length : Int) := by omega
      obtain ⟨b, off, rfl, hc⟩ := (HR.out.below hb.out) k hlt
      have hsz := HLE.out _ (List.getElem_mem hlt)
      have hct := Lib.hid (countC_take hlt)
      generalize ls[k] = x at hc hsz hct
      go_wp2_with fail
      refine (comment_spec x _ (by omega)).mono ?_
      rintro e w2 ⟨rfl, hb2⟩
      replace hb := Lib.hid (hb.out.trans (hb2.mono hb.out.size))
      clear hb2 hc
      by_cases g : commentW (wordsS x) = true
      · have hr : Hid (n = countC (ls.take (k + 1))) := by show _ = _; rw [hct.out, if_pos g]; exact hf.out
        rw [g]
        clear g hct
        go_wp2
        go_roundw
        case rel => exact ⟨k + 1, n, by omega, by omega, by go_num, rfl, hr, hb⟩
        case measure => simp [intOf]; omega
      · have hr : Hid (n + 1 = countC (ls.take (k + 1))) := by show _ = _; rw [hct.out, if_neg g, hf.out]
        have g' : commentW (wordsS x) = false := by simpa using g
        rw [g']
        clear g g' hct
        go_wp2
        go_roundw
        case rel => exact ⟨k + 1, n + 1, by omega, by omega, by go_num, by go_num, hr, hb⟩
        case measure => simp [intOf]; omega
    · have k1 : ¬ (k : Int) < (ls.length : Int) := by omega
      have hr : Hid (n = countC ls) := by
        have := hf.out
        rw [List.take_of_length_le (by omega)] at this
        exact this
      go_wp2
      go_ret
      exact ⟨ret_int (by rw [HC.out, hr.out]), HB.out.trans (hb.out.mono HB.out.size)⟩
set_option maxRecDepth 100000 in
set_option maxHeartbeats 1000000 in
theorem countc_impl (s : ByteArray) (w : World) (hs : s.size ≤ 1073741823) :
    Calls Try.prog 24 #[.string s] w fun e w' => e = .returned (.int .i64 ((countC (linesS s) : Nat) : Int)) ∧ Below w.heap.size w w' := by
  have hll := lines_le1 s
  have HLE := Lib.hid (fun p (hp : p ∈ linesS s) => line_le1 hp)
  obtain ⟨cn, hcn⟩ : ∃ cn, cn = countC (linesS s) := ⟨_, rfl⟩
  rw [← hcn]
  have HC := Lib.hid hcn
  clear hcn
  go_enter Try.func24, Try.ntmps24
  go_wp2_with fail
  refine (lines_impl s _ (by omega)).mono ?_
  rintro e w1 ⟨a, cap, rfl, hr, hb⟩
  have HR := Lib.hid hr.rd
  have HB := Lib.hid hb
  clear hb hr
  obtain ⟨ls, hls⟩ : ∃ ls, ls = linesS s := ⟨_, rfl⟩
  rw [← hls] at HR HLE hll HC ⊢
  clear hls
  go_wp2
  go_loopw [3, 9] (fun q i W => ∃ k n : Nat, k ≤ ls.length ∧ n ≤ k ∧ i = .int .i64 k ∧ q = .int .i64 (n : Int) ∧ Hid (n = countC (ls.take k)) ∧ Hid (Below w1.heap.size w1 W)) (fun _ i _ => ls.length - (intOf i).toNat)
  case atStart => exact ⟨0, 0, Nat.zero_le _, Nat.le_refl _, rfl, rfl, rfl, Below.refl _ _⟩
  case round =>
    obtain ⟨k, n, hk, hn, rfl, rfl, hf, hb⟩ := hrel
    have k0 : (0 : Int) ≤ (k : Int) := by omega
    by_cases hlt : k < ls.length
    · have k1 : (k : Int) < (ls.length : Int) := by omega
      obtain ⟨b, off, rfl, hc⟩ := (HR.out.below hb.out) k hlt
      have hsz := HLE.out _ (List.getElem_mem hlt)
      have hct := Lib.hid (countC_take hlt)
      generalize ls[k] = x at hc hsz hct
      go_wp2_with fail
      refine (comment_impl x _ (by omega)).mono ?_
      rintro e w2 ⟨rfl, hb2⟩
      replace hb := Lib.hid (hb.out.trans (hb2.mono hb.out.size))
      clear hb2 hc
      by_cases g : commentW (wordsS x) = true
      · have hr : Hid (n = countC (ls.take (k + 1))) := by show _ = _; rw [hct.out, if_pos g]; exact hf.out
        rw [g]
        clear g hct
        go_wp2
        go_roundw
        case rel => exact ⟨k + 1, n, by omega, by omega, by go_num, rfl, hr, hb⟩
        case measure => simp [intOf]; omega
      · have hr : Hid (n + 1 = countC (ls.take (k + 1))) := by show _ = _; rw [hct.out, if_neg g, hf.out]
        have g' : commentW (wordsS x) = false := by simpa using g
        rw [g']
        clear g g' hct
        go_wp2
        go_roundw
        case rel => exact ⟨k + 1, n + 1, by omega, by omega, by go_num, by go_num, hr, hb⟩
        case measure => simp [intOf]; omega
    · have k1 : ¬ (k : Int) < (ls.length : Int) := by omega
      have hr : Hid (n = countC ls) := by
        have := hf.out
        rw [List.take_of_length_le (by omega)] at this
        exact this
      go_wp2
      go_ret
      exact ⟨ret_int (by rw [HC.out, hr.out]), HB.out.trans (hb.out.mono HB.out.size)⟩
end Go.Proofs.Ytkegjgfggijinaa
