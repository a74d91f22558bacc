/- The contracts of AllCanonical, of the model and of the program. -/
import Derived.Test.YtefkhknfjohnaaaBinary
namespace Go.Proofs.Ytefkhknfjohnaaa
open Go Go.RowKit
theorem allcan_spec (a : Option Addr) (rs : List RuleV) (cap : Nat) (w : World) (hl : rs.length ≤ 1048576) (hs : ∀ r ∈ rs, Short r) (hp : ∀ r ∈ rs, Spelt r) (h : RdC a rs w) :
    Calls Try.prog 15 #[.agg #[.slice a rs.length cap]] w fun e w' => e = .returned (.bool (binD rs)) ∧ Below w.heap.size w w' := by
  obtain ⟨w0, hw0⟩ : ∃ w0, w0 = w.alloc (.cells #[.slice a rs.length cap] 38) := ⟨_, rfl⟩
  have hB0 : Below w.heap.size w w0 := by subst hw0; exact (Below.refl _ _).alloc (Nat.le_refl _) _
  have hX0 : CellsAt w.heap.size [.slice a rs.length cap] w0 := by subst hw0; exact CellsAt.new w _ _
  have HB := Lib.hid hB0
  have HC := Lib.hid (binary_spec a rs cap w0 hl hs hp (h.below hB0))
  have HW := Lib.hid hw0
  have x0 := (hX0 0 _ rfl).1
  generalize binD rs = b at HC ⊢
  clear hs hp h hB0 hX0 hw0
  go_enter Try.func15, Try.ntmps15
  go_upto_region 1 with fail
  rw [← HW.out]
  clear HW
  go_wp2_with fail
  refine HC.out.mono ?_
  rintro e w1 ⟨rfl, hb⟩
  have HB1 := Lib.hid (HB.out.trans (hb.mono HB.out.size))
  clear hb
  go_wp2
  go_ret
  exact ⟨rfl, HB1.out⟩
theorem allcan_impl (a : Option Addr) (rs : List RuleV) (cap : Nat) (w : World) (hl : rs.length ≤ 1048576) (hs : ∀ r ∈ rs, Short r) (hp : ∀ r ∈ rs, Spelt r) (h : RdC a rs w) :
    Calls Try.prog 17 #[.agg #[.slice a rs.length cap]] w fun e w' => e = .returned (.bool (binD rs)) ∧ Below w.heap.size w w' := by
  obtain ⟨w0, hw0⟩ : ∃ w0, w0 = w.alloc (.cells #[.slice a rs.length cap] 38) := ⟨_, rfl⟩
  have hB0 : Below w.heap.size w w0 := by subst hw0; exact (Below.refl _ _).alloc (Nat.le_refl _) _
  have hX0 : CellsAt w.heap.size [.slice a rs.length cap] w0 := by subst hw0; exact CellsAt.new w _ _
  have HB := Lib.hid hB0
  have HC := Lib.hid (binary_impl a rs cap w0 hl hs hp (h.below hB0))
  have HW := Lib.hid hw0
  have x0 := (hX0 0 _ rfl).1
  generalize binD rs = b at HC ⊢
  clear hs hp h hB0 hX0 hw0
  go_enter Try.func17, Try.ntmps17
  go_upto_region 1 with fail
  rw [← HW.out]
  clear HW
  go_wp2_with fail
  refine HC.out.mono ?_
  rintro e w1 ⟨rfl, hb⟩
  have HB1 := Lib.hid (HB.out.trans (hb.mono HB.out.size))
  clear hb
  go_wp2
  go_ret
  exact ⟨rfl, HB1.out⟩
end Go.Proofs.Ytefkhknfjohnaaa
