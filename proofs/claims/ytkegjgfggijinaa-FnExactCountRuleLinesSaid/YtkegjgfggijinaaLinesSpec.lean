/- Contracts of the model's SplitLines and Words. -/
import Derived.Test.YtkegjgfggijinaaSplitSpec
import Derived.Test.YtkegjgfggijinaaTxt2
import Derived.Test.YtkegjgfggijinaaPushF
namespace Go.Proofs.Ytkegjgfggijinaa
open Go Go.RowKit
theorem RowF.take {α : Type} {f : α → Value} {B cap : Nat} {a : Option Addr} {xs : List α} {w : World} (h : RowF f B a xs cap w) (n : Nat) : RowF f B a (xs.take n) cap w :=
  ⟨h.1.take n, by have := h.2.1; rw [List.length_take]; omega, h.2.2⟩
/-- The lines, as they come back. -/
theorem lines_cut {s : ByteArray} {w W : World} {a : Option Addr} {cap : Nat} (hl : lastS (parts 10 s) = ⟨#[]⟩) (hr : RowS w.heap.size a (parts 10 s) cap W) (hb : Below w.heap.size w W) : StrsOut (linesS s) w (.returned (.slice a ((parts 10 s).length - 1) cap)) W := by
  unfold linesS
  rw [if_pos hl]
  refine ⟨a, cap, ?_, hr.take _, hb⟩
  congr 2
  rw [List.length_take]
  omega
theorem lines_all {s : ByteArray} {w W : World} {a : Option Addr} {cap : Nat} (hl : lastS (parts 10 s) ≠ ⟨#[]⟩) (hr : RowS w.heap.size a (parts 10 s) cap W) (hb : Below w.heap.size w W) : StrsOut (linesS s) w (.returned (.slice a (parts 10 s).length cap)) W := by
  unfold linesS
  rw [if_neg hl]
  exact ⟨a, cap, rfl, hr, hb⟩
set_option maxRecDepth 100000 in
theorem lines_spec (s : ByteArray) (w : World) (hs : s.size ≤ 1073741824) :
    Calls Try.prog 46 #[.string s] w (StrsOut (linesS s) w) := by
  go_enter Try.func46, Try.ntmps46
  go_wp2_with fail
  refine (split_spec s 10 _ hs).mono ?_
  rintro e w1 ⟨a, cap, rfl, hr, hb⟩
  have hp := parts_ne 10 s
  have hm := parts_lens 10 s
  obtain ⟨b, off, ha, hc⟩ := hr.rd ((parts 10 s).length - 1) (by omega)
  subst ha
  rw [lastS_at hp] at hc
  have hcap := hr.2.1
  have hcut := Lib.hid (fun h => lines_cut (w := w) h hr hb)
  have hall := Lib.hid (fun h => lines_all (w := w) h hr hb)
  clear hr hb
  obtain ⟨m, hm1⟩ : ∃ m, (parts 10 s).length = m + 1 := ⟨(parts 10 s).length - 1, by omega⟩
  generalize lastS (parts 10 s) = x at *
  generalize hn : (parts 10 s).length = n at *
  subst hm1
  simp only [Nat.add_sub_cancel] at hc hcut
  have m0 : (0 : Int) ≤ (m : Int) := by omega
  have m1 : (m : Int) < ((m + 1 : Nat) : Int) := by omega
  have m2 : (((m + 1 : Nat) : Int) - 1) = (m : Int) := by omega
  have m3 : (m : Int) ≤ (cap : Int) := by omega
  by_cases hx : x = ⟨#[]⟩
  · have g1 := str_none hx
    have hcut' := Lib.hid (hcut.out hx)
    clear hcut hall hx
    go_wp2
    go_ret
    exact hcut'.out
  · have g1 := str_some hx
    have hall' := Lib.hid (hall.out hx)
    clear hcut hall hx
    go_wp2
    go_ret
    exact hall'.out
/-- The state between two parts: the words so far; the parts lie apart from them. -/
def WordsRel (ss : List ByteArray) (b off : Nat) (w : World) (v i : Value) (W : World) : Prop :=
  ∃ (k : Nat) (acc : List ByteArray) (v0 : Value), v0 = v ∧ k ≤ ss.length ∧ i = .int .i64 k ∧ acc.length ≤ k ∧ Hid (acc = fullS (ss.take k)) ∧ Hid (OwnS w.heap.size v0 acc W) ∧ Hid (Below w.heap.size w W) ∧ Hid (RdS (some ⟨b, off, none⟩) ss W) ∧ Hid (v0.ownBlock ≠ some b)
theorem RdF.grownAt {α : Type} {f : α → Value} {b off : Nat} {xs : List α} {w w' : World} {row : Option Nat} (h : RdF f (some ⟨b, off, none⟩) xs w) (hg : w.grownBy w' row) (hne : some b ≠ row) : RdF f (some ⟨b, off, none⟩) xs w' := fun j hj => by
  obtain ⟨b', off', ha, hc⟩ := h j hj
  injection ha with ha
  injection ha with h1 h2
  subst h1 h2
  exact ⟨_, _, rfl, hg.cell hc hne⟩
theorem words_push {ss acc : List ByteArray} {b off k : Nat} {w W W' : World} {v v' : Value} (hk : k < ss.length) (hx : ss[k] ≠ ⟨#[]⟩) (hal : acc.length ≤ k) (ha : acc = fullS (ss.take k)) (hown : OwnS w.heap.size v acc W) (hb : Below w.heap.size w W) (hrd : RdS (some ⟨b, off, none⟩) ss W) (hne : v.ownBlock ≠ some b)
    (ho : W'.ownsRow w.heap.size 9 1 v' (acc ++ [ss[k]]).length ((acc ++ [ss[k]]).map Value.string)) (hg : W.grownBy W' v.ownBlock) (hw : v'.ownBlock = v.ownBlock ∨ ∃ g, v'.ownBlock = some g ∧ W.heap.size ≤ g) (z : Value) (hz : z = .int .i64 ((k + 1 : Nat) : Int)) : WordsRel ss b off w v' z W' := by
  refine ⟨k + 1, acc ++ [ss[k]], v', rfl, hk, hz, by simp; omega, ?_, ho, hb.grown hg hb.size (fun j hj => (World.ownsRow.lt (w := W) hown j hj).1), hrd.grownAt hg (fun e => hne e.symm), ?_⟩
  · show _ = _
    rw [fullS_next hk hx, ha]
  · show _ ≠ _
    obtain ⟨b', off', e, hc⟩ := hrd k hk
    injection e with e
    injection e with e1 e2
    subst e1 e2
    have hlt : b < W.heap.size := cell_lt hc
    rcases hw with h | ⟨g, h, hle⟩
    · rw [h]; exact hne
    · rw [h]
      intro e
      injection e with e
      omega
theorem words_start {s : ByteArray} {b off : Nat} {w W : World} (hW : Below (w.heap.size + 1) (w.alloc (.cells #[] 9)) W) (hrd : RdS (some ⟨b, off, none⟩) (parts 32 s) W) (hB : w.heap.size + 1 ≤ b) : WordsRel (parts 32 s) b off w (.slice (some ⟨w.heap.size, 0, none⟩) 0 0) (.int .i64 0) W := by
  refine ⟨0, [], _, rfl, Nat.zero_le _, rfl, Nat.le_refl _, rfl, ?_, ?_, hrd, ?_⟩
  · have h := OwnS.start w
    refine World.ownsRow.kept (w := w.alloc (.cells #[] 9)) h (row := none) ⟨hW.os, hW.tape, hW.output, hW.size, fun k hk _ => hW.block k (by simpa using hk)⟩ (.inr (by simp [Value.ownBlock]))
  · exact ((Below.refl _ w).alloc (Nat.le_refl _) _).trans (hW.mono (by omega))
  · show _ ≠ _
    simp [Value.ownBlock]
    omega
set_option maxRecDepth 100000 in
set_option maxHeartbeats 1000000 in
theorem words_spec (s : ByteArray) (w : World) (hs : s.size ≤ 1073741824) :
    Calls Try.prog 43 #[.string s] w (StrsOut (wordsS s) w) := by
  have hres : Hid (wordsS s = fullS ((parts 32 s).take (parts 32 s).length)) := by
    show _ = _
    rw [List.take_length]; rfl
  generalize wordsS s = ws at hres ⊢
  go_enter Try.func43, Try.ntmps43
  go_wp2_with fail
  refine (split_spec s 32 _ hs).mono ?_
  rintro e w1 ⟨a, cap, rfl, hr, hb⟩
  have hp := parts_ne 32 s
  have hm := parts_lens 32 s
  rcases hr.1 with h0 | ⟨b, off, rfl, hB, -⟩
  · rw [h0] at hp
    simp at hp
  have hst := Lib.hid (words_start (s := s) (by simpa using hb) hr.rd (by simpa using hB))
  clear hr hb hB
  generalize parts 32 s = ss at *
  go_wp2
  go_loopw [3, 5] (fun v i W => WordsRel ss b off w v i W) (fun _ i _ => ss.length - (intOf i).toNat)
  case atStart => exact hst.out
  case round =>
    obtain ⟨k, acc, v0, rfl, hk, rfl, hal, ha, hown, hb, hrd, hne⟩ := hrel
    have k0 : (0 : Int) ≤ (k : Int) := by omega
    by_cases hlt : k < ss.length
    · have k1 : (k : Int) < (ss.length : Int) := by omega
      obtain ⟨b', off', e, hc⟩ := hrd.out k hlt
      injection e with e
      injection e with e1 e2
      subst e1 e2
      by_cases hx : ss[k] = ⟨#[]⟩
      · have g1 := str_none hx
        have ha2 : Hid (acc = fullS (ss.take (k + 1))) := by
          show _ = _
          rw [fullS_skip hlt hx]; exact ha.out
        generalize ss[k] = x at hc g1
        clear hx
        go_wp2
        go_roundw
        case rel => exact ⟨k + 1, acc, v0, rfl, by omega, by go_num, by omega, ha2, hown, hb, hrd, hne⟩
        case measure => simp [intOf]; omega
      · have g1 := str_some hx
        have HP := fun v' W' => Lib.hid (words_push (v' := v') (W' := W') hlt hx hal ha.out hown.out hb.out hrd.out hne.out)
        generalize hy : ss[k] = x at hc g1 HP
        clear hx
        go_wp2_with (at_builtin; refine wp_pushF (f := Value.string) 32 9 (.string ⟨#[]⟩) 16 Try.underlying32 infoStr rfl rfl _ _ rfl w.heap.size v0 acc x rfl wr rfl rfl hown.out (by unfold maxLen; omega) (by omega) hb.out.size ?_)
        intro v' w2 hown' hgrow hblk
        have R := Lib.hid ((HP v' w2).out (by simpa using hown') hgrow hblk)
        clear hown' hgrow hblk HP
        go_wp2
        go_roundw
        case rel => exact R.out _ (by go_num)
        case measure => simp [intOf]; omega
    · have k1 : ¬ (k : Int) < (ss.length : Int) := by omega
      obtain rfl : k = ss.length := by omega
      obtain rfl : acc = ws := ha.out.trans hres.out.symm
      go_wp2
      go_ret
      exact OwnS.out hown.out hb.out
end Go.Proofs.Ytkegjgfggijinaa
