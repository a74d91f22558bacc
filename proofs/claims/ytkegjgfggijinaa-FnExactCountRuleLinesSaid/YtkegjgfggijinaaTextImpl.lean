/- Contracts of the program's CutAt, SplitText, JoinText, ContainsText. -/
import Derived.Test.YtkegjgfggijinaaShelf
import Derived.Test.YtkegjgfggijinaaTextSpec
import Derived.Test.YtkegjgfggijinaaPushF
import Derived.Lib.IndexLaws
import Derived.Lib.Join
import Derived.Lib.SlicesS
namespace Go.Proofs.Ytkegjgfggijinaa
open Go Go.RowKit
theorem noC_of {c : UInt8} {s : ByteArray} {k : Nat} (h : ∀ j, j < k → (lst s)[j]? ≠ some c) : NoC c (lst s) 0 k := fun x hx => by
  rw [List.drop_zero, Nat.sub_zero] at hx
  obtain ⟨j, hj, e⟩ := List.getElem_of_mem hx
  have hj' : j < k := by simp at hj; omega
  intro hc
  refine h j hj' ?_
  rw [List.getElem?_eq_getElem (by simp at hj; omega)]
  rw [List.getElem_take] at e
  rw [e, hc]
theorem idx_none {c : UInt8} {s : ByteArray} (h : Lib.indexByte (lst s) c < 0) : NoC c (lst s) 0 s.size := by
  have h1 := Lib.indexByte_ge (lst s) c
  have h2 := Lib.indexByte_none (l := lst s) (c := c) (by omega)
  exact noC_of fun j _ => h2 j
theorem idx_some {c : UInt8} {s : ByteArray} {k : Nat} (h : Lib.indexByte (lst s) c = (k : Int)) : ∃ hk : k < s.size, s[k] = c ∧ NoC c (lst s) 0 k := by
  obtain ⟨h1, h2⟩ := Lib.indexByte_some h
  have hk : k < s.size := by
    rcases Nat.lt_or_ge k s.size with hlt | hge
    · exact hlt
    · rw [List.getElem?_eq_none (by rw [lst_length]; exact hge)] at h1
      cases h1
  refine ⟨hk, ?_, noC_of h2⟩
  rw [List.getElem?_eq_getElem (by rw [lst_length]; exact hk), lst_at s k hk] at h1
  injection h1
set_option maxRecDepth 100000 in
theorem cut_impl (s : ByteArray) (c : UInt8) (w : World) (hs : s.size ≤ 1073741824) :
    Calls Try.prog 85 #[.string s, .int .u8 (c.toNat : Int)] w fun e w' => e = .returned (.tuple #[.string (cutA c s), .string (cutB c s), .bool (cutK c s)]) ∧ ∃ n, w' = w.drewN n := by
  go_enter Try.func85, Try.ntmps85
  go_wp2_with fail
  refine (Try.strings_IndexByte s _ _).mono ?_
  rintro e w1 ⟨rfl, rfl⟩
  have e1 : ((c.toNat : Int).toNat.toUInt8) = c := by simp
  rw [e1]
  by_cases hneg : Lib.indexByte s.data.toList c < 0
  · have hr := Lib.hid (cut_missing (idx_none (c := c) (s := s) hneg))
    generalize Lib.indexByte s.data.toList c = x at hneg ⊢
    go_wp2
    go_ret3
    exact ⟨ret_cut hr.out, 0, rfl⟩
  · obtain ⟨k, hk⟩ : ∃ k : Nat, Lib.indexByte s.data.toList c = (k : Int) := ⟨(Lib.indexByte s.data.toList c).toNat, by omega⟩
    obtain ⟨hlt, he, hn⟩ := idx_some (c := c) (s := s) hk
    have hr := Lib.hid (cut_found hn hlt he)
    rw [hk]
    clear hk hneg hn he
    have g0 : ¬ ((k : Int) < 0) := by omega
    have k0 : (0 : Int) ≤ (k : Int) := by omega
    have k2 : (k : Int) ≤ (s.size : Int) := by omega
    have k3 : (k : Int) + 1 ≤ (s.size : Int) := by omega
    go_wp2
    go_quiet (fail)
    go_wp2
    go_ret3
    exact ⟨ret_cut hr.out, _, rfl⟩
/-- The length of the string in a slot. -/
def strLen : Value → Nat | .string s => s.size | _ => 0
/-- The state between two parts: what is left to divide. -/
def DivRel (c : UInt8) (s0 : ByteArray) (w : World) (q v : Value) (W : World) : Prop :=
  ∃ (s : ByteArray) (acc : List ByteArray) (v0 : Value), v0 = v ∧ q = .string s ∧ s.size ≤ 1073741824 ∧ acc.length + s.size ≤ s0.size ∧ Hid (parts c s0 = acc ++ parts c s) ∧ Hid (OwnS w.heap.size v0 acc W) ∧ Hid (Below w.heap.size w W)
set_option maxRecDepth 100000 in
set_option maxHeartbeats 1000000 in
theorem split_impl (s0 : ByteArray) (c : UInt8) (w : World) (hs : s0.size ≤ 1073741824) :
    Calls Try.prog 65 #[.string s0, .int .u8 (c.toNat : Int)] w (StrsOut (parts c s0) w) := by
  go_enter Try.func65, Try.ntmps65
  go_wp2
  go_loopw [0, 5] (fun q v W => DivRel c s0 w q v W) (fun q _ _ => strLen q)
  case atStart => exact ⟨s0, [], _, rfl, rfl, hs, by simp, rfl, OwnS.start w, (Below.refl _ _).alloc (Nat.le_refl _) _⟩
  case round =>
    obtain ⟨s, acc, v0, rfl, rfl, hsz, hal, hd, hown, hb⟩ := hrel
    have hmore := fun h : cutK c s = true => Lib.hid (parts_more h)
    have hless := fun h : cutK c s = true => cut_less h
    have hlast := fun h : cutK c s = false => Lib.hid (parts_last h)
    go_wp2_with fail
    refine (cut_impl s c _ hsz).mono ?_
    rintro e w1 ⟨rfl, n1, rfl⟩
    have HO := Lib.hid (hown.out.drewN n1)
    have HB := Lib.hid (below_drewN hb.out n1)
    clear hown hb
    generalize wr.drewN n1 = w1 at *
    generalize cutA c s = x at *
    generalize cutB c s = y at *
    by_cases hk : cutK c s = true
    · rw [hk]
      have hp := hmore hk
      have hl := hless hk
      clear hmore hless hlast hk
      go_wp2_with (at_builtin; refine wp_pushF (f := Value.string) 32 9 (.string ⟨#[]⟩) 16 Try.underlying32 infoStr rfl rfl _ _ rfl w.heap.size v0 acc x rfl w1 rfl rfl HO.out (by unfold maxLen; omega) (by omega) HB.out.size ?_)
      intro v' w2 hown' hgrow hblk
      have R1 : Hid (OwnS w.heap.size v' (acc ++ [x]) w2) := by
        show World.ownsRow _ _ _ _ _ _ _
        simpa using hown'
      have R2 := Lib.hid (HB.out.grown hgrow HB.out.size (fun j hj => (World.ownsRow.lt (w := w1) HO.out j hj).1))
      have R3 : Hid (parts c s0 = (acc ++ [x]) ++ parts c y) := by
        show _ = _
        rw [hd.out, hp.out]; simp
      clear hown' hgrow hblk
      go_wp2
      go_roundw
      case rel => exact ⟨y, acc ++ [x], v', rfl, rfl, by omega, by simp; omega, R3, R1, R2⟩
      case measure => simp only [strLen]; exact hl
    · have hk' : cutK c s = false := by simpa using hk
      rw [hk']
      have hp := hlast hk'
      clear hmore hless hlast hk hk'
      go_wp2_with (at_builtin; refine wp_pushF (f := Value.string) 32 9 (.string ⟨#[]⟩) 16 Try.underlying32 infoStr rfl rfl _ _ rfl w.heap.size v0 acc x rfl w1 rfl rfl HO.out (by unfold maxLen; omega) (by omega) HB.out.size ?_)
      intro v' w2 hown' hgrow hblk
      have R3 : Hid (parts c s0 = acc ++ [x]) := by
        show _ = _
        rw [hd.out, hp.out]
      have R1 : Hid (OwnS w.heap.size v' (parts c s0) w2) := by
        show OwnS _ _ _ _
        rw [R3.out]
        show World.ownsRow _ _ _ _ _ _ _
        simpa using hown'
      have R2 := Lib.hid (HB.out.grown hgrow HB.out.size (fun j hj => (World.ownsRow.lt (w := w1) HO.out j hj).1))
      clear hown' hgrow hblk
      go_wp2
      go_ret
      exact OwnS.out R1.out R2.out
theorem join_same (sep : List UInt8) : ∀ xs : List (List UInt8), Lib.join xs sep = joinL sep xs
  | [] => rfl
  | [x] => by rw [Lib.join_one]; rfl
  | x :: y :: r => by
    have ih := join_same sep (y :: r)
    rw [Lib.join_cons] at ih ⊢
    simp only [joinL]
    rw [← ih]
    simp [Lib.joinTail]
theorem hasS_contains (ss : List ByteArray) (x : ByteArray) : Lib.containsS ss x = hasS ss x := by
  have h := Lib.containsS_iff ss x
  by_cases hm : x ∈ ss
  · rw [hasS_true hm, h.2 hm]
  · rw [hasS_false hm, Bool.eq_false_iff]
    exact fun e => hm (h.1 e)
theorem has_impl (a : Option Addr) (ss : List ByteArray) (cap : Nat) (x : ByteArray) (w : World) (hl : ss.length ≤ 1073741824) (h : RdS a ss w) :
    Calls Try.prog 74 #[.slice a ss.length cap, .string x] w fun e w' => e = .returned (.bool (hasS ss x)) ∧ w = w' := by
  have H := Lib.hid h
  clear h
  have hc : Calls Try.prog 86 #[.slice a ss.length cap, .string x] w fun e w' => e = .returned (.bool (hasS ss x)) ∧ w = w' := by
    cases ss with
    | nil =>
      refine (Try.slices_Contains_string_empty a cap x w).mono ?_
      rintro e w' ⟨rfl, rfl⟩
      exact ⟨rfl, rfl⟩
    | cons y r =>
      obtain ⟨b, off, rfl, hc0⟩ := H.out 0 (by simp)
      refine (Try.slices_Contains_string b off (y :: r).length cap (y :: r) x w (Nat.le_refl _) (by omega) (fun j hj => ?_)).mono ?_
      · obtain ⟨b', off', e, hcj⟩ := H.out j hj
        injection e with e
        injection e with e1 e2
        subst e1 e2
        rw [hcj, List.getD_eq_getElem?_getD, List.getElem?_eq_getElem hj]
        rfl
      · rintro e w' ⟨rfl, rfl⟩
        rw [List.take_length, hasS_contains]
        exact ⟨rfl, rfl⟩
  go_enter Try.func74, Try.ntmps74
  go_wp2_with fail
  refine hc.mono ?_
  rintro e w1 ⟨rfl, rfl⟩
  go_wp2
  go_ret
  exact ⟨rfl, rfl⟩
end Go.Proofs.Ytkegjgfggijinaa
