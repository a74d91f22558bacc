/- Contracts of the program's CutAt, SplitText, JoinText, ContainsText. -/
import Derived.Test.YtfmnjclnhppghabGreatDoorShelf
import Derived.Test.YtfmnjclnhppghabGreatDoorTextSpec
import Derived.Test.YtfmnjclnhppghabGreatDoorGPu
import Derived.Lib.IndexLaws
import Derived.Lib.Join
import Derived.Lib.SlicesS
namespace Go.Proofs.YtfmnjclnhppghabGreatDoor
open Go Go.RowKit
theorem noC_of {c : UInt8} {s : ByteArray} {k : Nat} (h : ∀ j, j < k → (lst s)[j]? ≠ some c) : NoC c (lst s) 0 k := fun x hx => by
  rw [List.drop_zero, Nat.sub_zero] at hx
  obtain ⟨j, hj, e⟩ := List.getElem_of_mem hx
  have hj' : j < k := by simp at hj; omega
  intro hc
  refine h j hj' ?_
  rw [List.getElem?_eq_getElem (by simp at hj; omega)]
  rw [List.getElem_take] at e
  rw [e, hc]
theorem idx_none {c : UInt8} {s : ByteArray} (h : Lib.indexByte (lst s) c < 0) : NoC c (lst s) 0 s.size := by
  have h1 := Lib.indexByte_ge (lst s) c
  have h2 := Lib.indexByte_none (l := lst s) (c := c) (by omega)
  exact noC_of fun j _ => h2 j
theorem idx_some {c : UInt8} {s : ByteArray} {k : Nat} (h : Lib.indexByte (lst s) c = (k : Int)) : ∃ hk : k < s.size, s[k] = c ∧ NoC c (lst s) 0 k := by
  obtain ⟨h1, h2⟩ := Lib.indexByte_some h
  have hk : k < s.size := by
    rcases Nat.lt_or_ge k s.size with hlt | hge
    · exact hlt
    · rw [List.getElem?_eq_none (by rw [lst_length]; exact hge)] at h1
      cases h1
  refine ⟨hk, ?_, noC_of h2⟩
  rw [List.getElem?_eq_getElem (by rw [lst_length]; exact hk), lst_at s k hk] at h1
  injection h1
/-- The length of the string in a slot. -/
def strLen : Value → Nat | .string s => s.size | _ => 0
/-- The state between two parts: what is left to divide. -/
def DivRel (c : UInt8) (s0 : ByteArray) (w : World) (q v : Value) (W : World) : Prop :=
  ∃ (s : ByteArray) (acc : List ByteArray) (v0 : Value), v0 = v ∧ q = .string s ∧ s.size ≤ 1073741824 ∧ acc.length + s.size ≤ s0.size ∧ Hid (parts c s0 = acc ++ parts c s) ∧ Hid (OwnS w.heap.size v0 acc W) ∧ Hid (Below w.heap.size w W)
theorem join_same (sep : List UInt8) : ∀ xs : List (List UInt8), Lib.join xs sep = joinL sep xs
  | [] => rfl
  | [x] => by rw [Lib.join_one]; rfl
  | x :: y :: r => by
    have ih := join_same sep (y :: r)
    rw [Lib.join_cons] at ih ⊢
    simp only [joinL]
    rw [← ih]
    simp [Lib.joinTail]
theorem join_impl (a : Option Addr) (ss : List ByteArray) (cap : Nat) (sep : ByteArray) (w : World) (hl : ss.length ≤ 1073741824) (hcap : ss.length ≤ cap) (hj : (joinS sep ss).size ≤ 4398046511104) (h : RdS a ss w) :
    Calls Tryz.prog 72 #[.slice a ss.length cap, .string sep] w fun e w' => e = .returned (.string (joinS sep ss)) ∧ Below w.heap.size w w' := by
  have H := Lib.hid h
  clear h
  have hc : Calls Tryz.prog 84 #[.slice a ss.length cap, .string sep] w fun e w' => e = .returned (.string (joinS sep ss)) ∧ Below w.heap.size w w' := by
    cases ss with
    | nil =>
      refine (Tryz.strings_Join_none a cap sep w).mono ?_
      rintro e w' ⟨rfl, rfl⟩
      exact ⟨rfl, Below.refl _ _⟩
    | cons x r =>
      obtain ⟨b, off, rfl, hc0⟩ := H.out 0 (by simp)
      have hlt : b < w.heap.size := cell_lt hc0
      refine (Tryz.strings_Join b off cap (x :: r) sep w (fun j y hy => ?_) hlt (by omega) hcap ?_).mono ?_
      · have hjl : j < (x :: r).length := by
          rcases Nat.lt_or_ge j (x :: r).length with h1 | h1
          · exact h1
          · rw [List.getElem?_eq_none h1] at hy; cases hy
        obtain ⟨b', off', e, hcj⟩ := H.out j hjl
        injection e with e
        injection e with e1 e2
        subst e1 e2
        rw [hcj]
        rw [List.getElem?_eq_getElem hjl] at hy
        injection hy with hy
        rw [hy]
      · have := joinS_size sep (x :: r)
        rw [join_same]
        show (joinL (lst sep) ((x :: r).map lst)).length ≤ _
        omega
      · rintro e w' ⟨rfl, hb⟩
        refine ⟨?_, hb⟩
        rw [join_same]
        rfl
  go_enter Tryz.func72, Tryz.ntmps72
  go_wp2_with fail
  refine hc.mono ?_
  rintro e w1 ⟨rfl, hb⟩
  have HB := Lib.hid hb
  clear hb
  go_wp2
  go_ret
  exact ⟨rfl, HB.out⟩
theorem hasS_contains (ss : List ByteArray) (x : ByteArray) : Lib.containsS ss x = hasS ss x := by
  have h := Lib.containsS_iff ss x
  by_cases hm : x ∈ ss
  · rw [hasS_true hm, h.2 hm]
  · rw [hasS_false hm, Bool.eq_false_iff]
    exact fun e => hm (h.1 e)
theorem has_impl (a : Option Addr) (ss : List ByteArray) (cap : Nat) (x : ByteArray) (w : World) (hl : ss.length ≤ 1073741824) (h : RdS a ss w) :
    Calls Tryz.prog 115 #[.slice a ss.length cap, .string x] w fun e w' => e = .returned (.bool (hasS ss x)) ∧ w = w' := by
  have H := Lib.hid h
  clear h
  have hc : Calls Tryz.prog 123 #[.slice a ss.length cap, .string x] w fun e w' => e = .returned (.bool (hasS ss x)) ∧ w = w' := by
    cases ss with
    | nil =>
      refine (Tryz.slices_Contains_string_empty a cap x w).mono ?_
      rintro e w' ⟨rfl, rfl⟩
      exact ⟨rfl, rfl⟩
    | cons y r =>
      obtain ⟨b, off, rfl, hc0⟩ := H.out 0 (by simp)
      refine (Tryz.slices_Contains_string b off (y :: r).length cap (y :: r) x w (Nat.le_refl _) (by omega) (fun j hj => ?_)).mono ?_
      · obtain ⟨b', off', e, hcj⟩ := H.out j hj
        injection e with e
        injection e with e1 e2
        subst e1 e2
        rw [hcj, List.getD_eq_getElem?_getD, List.getElem?_eq_getElem hj]
        rfl
      · rintro e w' ⟨rfl, rfl⟩
        rw [List.take_length, hasS_contains]
        exact ⟨rfl, rfl⟩
  go_enter Tryz.func115, Tryz.ntmps115
  go_wp2_with fail
  refine hc.mono ?_
  rintro e w1 ⟨rfl, rfl⟩
  go_wp2
  go_ret
  exact ⟨rfl, rfl⟩
end Go.Proofs.YtfmnjclnhppghabGreatDoor
