/- The contract of the model's l9Item. -/
import Derived.Test.YtefkhknfjohnaaaGV
import Derived.Test.YtefkhknfjohnaaaGP
import Derived.Deep.CutRange
namespace Go.Proofs.Ytefkhknfjohnaaa
open Go Go.RowKit
theorem tagKid_yes {ts ks : List Int} {x : Int} {q : Nat} (h : q < ts.length) (h2 : q < ks.length) (e : ts[q] = x) : tagKid (ts.drop q) (ks.drop q) x = ks[q] := by
  rw [List.drop_eq_getElem_cons h, List.drop_eq_getElem_cons h2, tagKid, if_pos e]
theorem tagKid_no {ts ks : List Int} {x : Int} {q : Nat} (h : q < ts.length) (h2 : q < ks.length) (e : ts[q] ≠ x) : tagKid (ts.drop q) (ks.drop q) x = tagKid (ts.drop (q + 1)) (ks.drop (q + 1)) x := by
  rw [List.drop_eq_getElem_cons h, List.drop_eq_getElem_cons h2, tagKid, if_neg e]
end Go.Proofs.Ytefkhknfjohnaaa
