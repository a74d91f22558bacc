/- The sizes of default values, rule by rule. No program is walked here. -/
import Derived.Test.YtfmnjclnhppghaaQV
namespace Go.Proofs.Ytfmnjclnhppghaa
open Go Go.RowKit
/-- The first of two. -/
def fst (a _b : Int) : Int := a
/-- The first, whatever else there is. -/
def firstT (_t _ks : List Int) (m : Int) : Int := m
theorem firstT_next {t ks : List Int} {j : Nat} {m : Int} (h : j < ks.length) : firstT t (ks.take (j + 1)) m = fst (firstT t (ks.take j) m) (tabAt t ks[j]) := rfl
/-- The length of the encoding of a default value, out of those of the kids. -/
def defOf (t : List Int) (r : RuleV) : Int := if r.kind = 7 then tabAt t (r.kids.getD 0 0) + tabAt t (r.kids.getD 1 0) else minOf t r
def defStep (t : List Int) (r : RuleV) : Int := min 401 (defOf t r)
theorem defOf_b {rs : List RuleV} {t : List Int} {r : RuleV} (h : kindI rs r = true) (ht : InB 401 t) : 0 ≤ defOf t r ∧ defOf t r ≤ 4000 := by
  unfold defOf
  split
  · have h1 := ht (r.kids.getD 0 0)
    have h2 := ht (r.kids.getD 1 0)
    omega
  · exact minOf_b h ht
theorem defs_b {rs : List RuleV} (h : allV (kindI rs) rs) : ∀ n, n ≤ rs.length → InB 401 (tabTo defStep rs n) :=
  tabTo_b (by omega) fun t n hn ht => by
    have h1 := defOf_b (allV_kind h hn) ht
    unfold defStep
    omega
end Go.Proofs.Ytfmnjclnhppghaa
