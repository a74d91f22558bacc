/- The contract of the model's UnusedRules. -/
import Derived.Test.YtefkhknfjohnaaaUsedImpl
import Derived.Test.YtefkhknfjohnaaaGKS
import Derived.Deep.RegionHeld3
import Derived.Deep.CutRange
namespace Go.Proofs.Ytefkhknfjohnaaa
open Go Go.RowKit
/-- Whether a number is in a list. -/
def inI (ls : List Int) (x : Int) : Bool := ls.any fun y => y == x
theorem inI_next {ls : List Int} {x : Int} {q : Nat} (h : q < ls.length) : inI (ls.take (q + 1)) x = (inI (ls.take q) x || ls[q] == x) := by
  unfold inI
  rw [List.take_succ_eq_append_getElem h, List.any_append]
  simp
theorem inI_mem {ls : List Int} {x : Int} : inI ls x = true ↔ x ∈ ls := by
  unfold inI
  rw [List.any_eq_true]
  constructor
  · rintro ⟨y, hy, e⟩
    have := eq_of_beq e
    subst this
    exact hy
  · intro h
    exact ⟨x, h, by simp⟩
theorem inI_picks (p : Nat → Bool) {i n : Nat} (h : i < n) : inI (picks p n) (i : Int) = p i := by
  rw [Bool.eq_iff_iff, inI_mem, picks_mem]
  constructor
  · rintro ⟨j, _, h2, h3⟩
    have : i = j := by omega
    subst this
    exact h2
  · intro hp
    exact ⟨i, h, hp, rfl⟩
end Go.Proofs.Ytefkhknfjohnaaa
