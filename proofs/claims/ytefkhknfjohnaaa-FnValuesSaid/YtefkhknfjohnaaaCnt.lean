/- Contracts of the model's CountParts and TotalBytes. -/
import Derived.Test.YtefkhknfjohnaaaGV
namespace Go.Proofs.Ytefkhknfjohnaaa
open Go Go.RowKit
mutual
/-- How many parts a value has, itself among them. -/
def cntV : ValueV → Nat
  | .mk _ _ l => 1 + cntL l
def cntL : List ValueV → Nat
  | [] => 0
  | v :: vs => cntV v + cntL vs
end
mutual
/-- How many bytes a value has with all its parts. -/
def totV : ValueV → Nat
  | .mk _ b l => b.length + totL l
def totL : List ValueV → Nat
  | [] => 0
  | v :: vs => totV v + totL vs
end
theorem cntV_eq (v : ValueV) : cntV v = 1 + cntL v.items := by
  cases v with
  | mk n b l => rw [cntV]; rfl
theorem totV_eq (v : ValueV) : totV v = v.bytes.length + totL v.items := by
  cases v with
  | mk n b l => rw [totV]; rfl
theorem cntL_append : ∀ (vs us : List ValueV), cntL (vs ++ us) = cntL vs + cntL us
  | [], us => by simp [cntL]
  | v :: vs, us => by rw [List.cons_append, cntL, cntL, cntL_append vs us]; omega
theorem totL_append : ∀ (vs us : List ValueV), totL (vs ++ us) = totL vs + totL us
  | [], us => by simp [totL]
  | v :: vs, us => by rw [List.cons_append, totL, totL, totL_append vs us]; omega
theorem cntL_next (vs : List ValueV) (j : Nat) (h : j < vs.length) : cntL (vs.take (j + 1)) = cntL (vs.take j) + cntV vs[j] := by
  rw [List.take_succ_eq_append_getElem h, cntL_append]; simp [cntL]
theorem totL_next (vs : List ValueV) (j : Nat) (h : j < vs.length) : totL (vs.take (j + 1)) = totL (vs.take j) + totV vs[j] := by
  rw [List.take_succ_eq_append_getElem h, totL_append]; simp [totL]
theorem cntL_take_le (vs : List ValueV) (j : Nat) : cntL (vs.take j) ≤ cntL vs := by
  have h := cntL_append (vs.take j) (vs.drop j)
  rw [List.take_append_drop] at h
  omega
theorem totL_take_le (vs : List ValueV) (j : Nat) : totL (vs.take j) ≤ totL vs := by
  have h := totL_append (vs.take j) (vs.drop j)
  rw [List.take_append_drop] at h
  omega
mutual
theorem cnt_siz : ∀ v : ValueV, cntV v ≤ 1 + sizV v
  | .mk n b l => by
    have := cnt_sizL l
    rw [cntV, sizV]
    omega
theorem cnt_sizL : ∀ l : List ValueV, cntL l ≤ l.length + sizL l
  | [] => by simp [cntL]
  | v :: vs => by
    have h1 := cnt_siz v
    have h2 := cnt_sizL vs
    simp only [cntL, sizL, List.length_cons]
    omega
end
mutual
theorem tot_siz : ∀ v : ValueV, totV v ≤ sizV v
  | .mk n b l => by
    have := tot_sizL l
    rw [totV, sizV]
    omega
theorem tot_sizL : ∀ l : List ValueV, totL l ≤ sizL l
  | [] => by simp [totL]
  | v :: vs => by
    have h1 := tot_siz v
    have h2 := tot_sizL vs
    simp only [totL, sizL]
    omega
end
theorem cnt_pos (v : ValueV) : 1 ≤ cntV v := by rw [cntV_eq]; omega
end Go.Proofs.Ytefkhknfjohnaaa
