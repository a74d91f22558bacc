/- Contracts of the program's SplitLines and Words. -/
import Derived.Test.YtkegjgfggijinaaLinesSpec
import Derived.Test.YtkegjgfggijinaaTextImpl
namespace Go.Proofs.Ytkegjgfggijinaa
open Go Go.RowKit
set_option maxRecDepth 100000 in
theorem lines_impl (s : ByteArray) (w : World) (hs : s.size ≤ 1073741824) :
    Calls Try.prog 47 #[.string s] w (StrsOut (linesS s) w) := by
  go_enter Try.func47, Try.ntmps47
  go_wp2_with fail
  refine (split_impl s 10 _ hs).mono ?_
  rintro e w1 ⟨a, cap, rfl, hr, hb⟩
  have hp := parts_ne 10 s
  have hm := parts_lens 10 s
  obtain ⟨b, off, ha, hc⟩ := hr.rd ((parts 10 s).length - 1) (by omega)
  subst ha
  rw [lastS_at hp] at hc
  have hcap := hr.2.1
  have hcut := Lib.hid (fun h => lines_cut (w := w) h hr hb)
  have hall := Lib.hid (fun h => lines_all (w := w) h hr hb)
  clear hr hb
  obtain ⟨m, hm1⟩ : ∃ m, (parts 10 s).length = m + 1 := ⟨(parts 10 s).length - 1, by omega⟩
  generalize lastS (parts 10 s) = x at *
  generalize hn : (parts 10 s).length = n at *
  subst hm1
  simp only [Nat.add_sub_cancel] at hc hcut
  have m0 : (0 : Int) ≤ (m : Int) := by omega
  have m1 : (m : Int) < ((m + 1 : Nat) : Int) := by omega
  have m2 : (((m + 1 : Nat) : Int) - 1) = (m : Int) := by omega
  have m3 : (m : Int) ≤ (cap : Int) := by omega
  by_cases hx : x = ⟨#[]⟩
  · have g1 := str_none hx
    have hcut' := Lib.hid (hcut.out hx)
    clear hcut hall hx
    go_wp2
    go_ret
    exact hcut'.out
  · have g1 := str_some hx
    have hall' := Lib.hid (hall.out hx)
    clear hcut hall hx
    go_wp2
    go_ret
    exact hall'.out
set_option maxRecDepth 100000 in
set_option maxHeartbeats 1000000 in
theorem words_impl (s : ByteArray) (w : World) (hs : s.size ≤ 1073741824) :
    Calls Try.prog 44 #[.string s] w (StrsOut (wordsS s) w) := by
  have hres : Hid (wordsS s = fullS ((parts 32 s).take (parts 32 s).length)) := by
    show _ = _
    rw [List.take_length]; rfl
  generalize wordsS s = ws at hres ⊢
  go_enter Try.func44, Try.ntmps44
  go_wp2_with fail
  refine (split_impl s 32 _ hs).mono ?_
  rintro e w1 ⟨a, cap, rfl, hr, hb⟩
  have hp := parts_ne 32 s
  have hm := parts_lens 32 s
  rcases hr.1 with h0 | ⟨b, off, rfl, hB, -⟩
  · rw [h0] at hp
    simp at hp
  have hst := Lib.hid (words_start (s := s) (by simpa using hb) hr.rd (by simpa using hB))
  clear hr hb hB
  generalize parts 32 s = ss at *
  go_wp2
  go_loopw [3, 10] (fun v i W => WordsRel ss b off w v i W) (fun _ i _ => ss.length - (intOf i).toNat)
  case atStart => exact hst.out
  case round =>
    obtain ⟨k, acc, v0, rfl, hk, rfl, hal, ha, hown, hb, hrd, hne⟩ := hrel
    have k0 : (0 : Int) ≤ (k : Int) := by omega
    by_cases hlt : k < ss.length
    · have k1 : (k : Int) < (ss.length : Int) := by omega
      obtain ⟨b', off', e, hc⟩ := hrd.out k hlt
      injection e with e
      injection e with e1 e2
      subst e1 e2
      by_cases hx : ss[k] = ⟨#[]⟩
      · have g1 := str_none hx
        have ha2 : Hid (acc = fullS (ss.take (k + 1))) := by
          show _ = _
          rw [fullS_skip hlt hx]; exact ha.out
        generalize ss[k] = x at hc g1
        clear hx
        go_wp2
        go_roundw
        case rel => exact ⟨k + 1, acc, v0, rfl, by omega, by go_num, by omega, ha2, hown, hb, hrd, hne⟩
        case measure => simp [intOf]; omega
      · have g1 := str_some hx
        have HP := fun v' W' => Lib.hid (words_push (v' := v') (W' := W') hlt hx hal ha.out hown.out hb.out hrd.out hne.out)
        generalize hy : ss[k] = x at hc g1 HP
        clear hx
        go_wp2_with (at_builtin; refine wp_pushF (f := Value.string) 32 9 (.string ⟨#[]⟩) 16 Try.underlying32 infoStr rfl rfl _ _ rfl w.heap.size v0 acc x rfl wr rfl rfl hown.out (by unfold maxLen; omega) (by omega) hb.out.size ?_)
        intro v' w2 hown' hgrow hblk
        have R := Lib.hid ((HP v' w2).out (by simpa using hown') hgrow hblk)
        clear hown' hgrow hblk HP
        go_wp2
        go_roundw
        case rel => exact R.out _ (by go_num)
        case measure => simp [intOf]; omega
    · have k1 : ¬ (k : Int) < (ss.length : Int) := by omega
      obtain rfl : k = ss.length := by omega
      obtain rfl : acc = ws := ha.out.trans hres.out.symm
      go_wp2
      go_ret
      exact OwnS.out hown.out hb.out
end Go.Proofs.Ytkegjgfggijinaa
