/- The contract of the model's ContainsText. -/
import Derived.Test.YtkegjgfggijinaaGreatDoorStrs
import Derived.Test.YtkegjgfggijinaaGreatDoorGNum
namespace Go.Proofs.YtkegjgfggijinaaGreatDoor
open Go Go.RowKit
/-- Whether the string is in the list. -/
def hasS (ss : List ByteArray) (x : ByteArray) : Bool := ss.any fun y => decide (y = x)
theorem hasS_true {ss : List ByteArray} {x : ByteArray} (h : x ∈ ss) : hasS ss x = true := by
  unfold hasS
  rw [List.any_eq_true]
  exact ⟨x, h, by simp⟩
theorem hasS_false {ss : List ByteArray} {x : ByteArray} (h : ¬ x ∈ ss) : hasS ss x = false := by
  unfold hasS
  rw [List.any_eq_false]
  intro y hy e
  exact h ((of_decide_eq_true e) ▸ hy)
set_option maxRecDepth 100000 in
theorem has_spec (a : Option Addr) (ss : List ByteArray) (cap : Nat) (x : ByteArray) (w : World) (hl : ss.length ≤ 1073741824) (h : RdS a ss w) :
    Calls Tryz.prog 194 #[.slice a ss.length cap, .string x] w fun e w' => e = .returned (.bool (hasS ss x)) ∧ w = w' := by
  have H := Lib.hid h
  clear h
  go_enter Tryz.func194, Tryz.ntmps194
  go_wp2
  go_loop [5] (fun i => ∃ k : Nat, k ≤ ss.length ∧ i = .int .i64 k ∧ Hid (∀ j (h : j < ss.length), j < k → ss[j] ≠ x)) (fun i => ss.length - (intOf i).toNat)
  case atStart => exact ⟨0, Nat.zero_le _, rfl, fun j _ hj => by omega⟩
  case round =>
    obtain ⟨k, hk, rfl, hn⟩ := hrel
    have k0 : (0 : Int) ≤ (k : Int) := by omega
    by_cases hlt : k < ss.length
    · have k1 : (k : Int) < (ss.length : Int) := by omega
      obtain ⟨b, off, rfl, hc⟩ := H.out k hlt
      by_cases he : ss[k] = x
      · have hr : Hid (x ∈ ss) := he ▸ List.getElem_mem hlt
        have g1 := str_eq he
        generalize ss[k] = y at hc g1
        clear he
        go_wp2
        go_ret
        exact ⟨ret_bool (hasS_true hr.out).symm, rfl⟩
      · have g1 := str_ne he
        have hn2 : Hid (∀ j (h : j < ss.length), j < k + 1 → ss[j] ≠ x) := fun j hj hjk => by
          by_cases e : j = k
          · subst e; exact he
          · exact hn.out j hj (by omega)
        generalize ss[k] = y at hc g1
        clear he
        go_wp2
        go_round
        case rel => exact ⟨k + 1, by omega, by go_num, hn2⟩
        case measure => simp [intOf]; omega
    · have k1 : ¬ (k : Int) < (ss.length : Int) := by omega
      have hr : Hid (¬ x ∈ ss) := fun hm => by
        obtain ⟨j, hj, e⟩ := List.getElem_of_mem hm
        exact hn.out j hj (by omega) e
      go_wp2
      go_ret
      exact ⟨ret_bool (hasS_false hr.out).symm, rfl⟩
end Go.Proofs.YtkegjgfggijinaaGreatDoor
