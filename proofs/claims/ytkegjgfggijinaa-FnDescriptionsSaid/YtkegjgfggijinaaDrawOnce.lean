/- Drawing a bool: l1Once. -/
import Derived.Test.YtkegjgfggijinaaDraw
namespace Go.Proofs.Ytkegjgfggijinaa
open Go Go.RowKit
/-- A bool is drawn. -/
def OnceOut (a : Option Addr) (len cap c : Nat) (w : World) (e : Ending) (w' : World) : Prop :=
  ∃ x : Bool, e = .returned (.bool x) ∧ Cur a len cap c w' ∧ w.grownBy w' (some c)
theorem once_draw (a : Option Addr) (len cap c : Nat) (n : Int) (w : World) (hl : len ≤ 140737488355328) (h1 : 1 ≤ n) (h2 : n ≤ 1000000000) (hc : Cur a len cap c w) :
    Calls Try.prog 69 #[.pointer (some ⟨c, 0, none⟩), .int .i64 n] w (OnceOut a len cap c w) := by
  have HC := Lib.hid hc
  clear hc
  go_enter Try.func69, Try.ntmps69
  go_wp2_with fail
  refine (below_draw a len cap c n _ hl h1 h2 HC.out).mono ?_
  rintro e w1 ⟨x, ⟨x0, x1⟩, rfl, hc1, hg1⟩
  have HC1 := Lib.hid hc1
  have HG1 := Lib.hid hg1
  clear hc1 hg1
  go_wp2_with fail
  go_ret
  exact ⟨_, rfl, HC1.out, HG1.out⟩
end Go.Proofs.Ytkegjgfggijinaa
