/- Contracts of the model's CountParts and TotalBytes. -/
import Derived.Test.YtefkhknfjohnaaaGreatDoorFGV
namespace Go.Proofs.YtefkhknfjohnaaaGreatDoor
open Go Go.RowKit
mutual
/-- How many parts a value has, itself among them. -/
def cntV : ValueV → Nat
  | .mk _ _ l => 1 + cntL l
def cntL : List ValueV → Nat
  | [] => 0
  | v :: vs => cntV v + cntL vs
end
theorem cntV_eq (v : ValueV) : cntV v = 1 + cntL v.items := by
  cases v with
  | mk n b l => rw [cntV]; rfl
mutual
theorem cnt_siz : ∀ v : ValueV, cntV v ≤ 1 + sizV v
  | .mk n b l => by
    have := cnt_sizL l
    rw [cntV, sizV]
    omega
theorem cnt_sizL : ∀ l : List ValueV, cntL l ≤ l.length + sizL l
  | [] => by simp [cntL]
  | v :: vs => by
    have h1 := cnt_siz v
    have h2 := cnt_sizL vs
    simp only [cntL, sizL, List.length_cons]
    omega
end
theorem cnt_pos (v : ValueV) : 1 ≤ cntV v := by rw [cntV_eq]; omega
end Go.Proofs.YtefkhknfjohnaaaGreatDoor
