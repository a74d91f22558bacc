/- How many bytes a value is printed with. No program is walked here. -/
import Derived.Test.YtfmnjclnhppghaaGreatQW
import Derived.Test.YtfmnjclnhppghaaGreatQE
namespace Go.Proofs.YtfmnjclnhppghaaGreat
open Go Go.RowKit
theorem print_len {rs : List RuleV} {k : Int} {v : ValueV} : (if printB rs k v = true then encV rs k v else []).length ≤ 1048576 := by
  split
  · rename_i h
    unfold printB fitsV at h
    rw [Bool.and_eq_true, Bool.and_eq_true] at h
    obtain ⟨⟨k0, k1⟩, -, hav⟩ := okAt_yes h.1.1
    obtain ⟨m, rfl⟩ : ∃ m : Nat, k = (m : Int) := ⟨k.toNat, by omega⟩
    rw [encV_length hav m (by omega) v h.1.2]
    have := of_decide_eq_true h.2
    omega
  · exact Nat.zero_le _
end Go.Proofs.YtfmnjclnhppghaaGreat
