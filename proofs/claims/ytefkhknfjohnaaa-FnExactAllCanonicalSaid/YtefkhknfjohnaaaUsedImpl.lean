/- The contracts of the program's UsedRules, UnusedRules. -/
import Derived.Test.YtefkhknfjohnaaaSUsed
import Derived.Test.YtefkhknfjohnaaaMarkUsed
import Derived.Test.YtefkhknfjohnaaaRulesMarked
import Derived.Test.YtefkhknfjohnaaaGVI
import Derived.Test.YtefkhknfjohnaaaGX
import Derived.Deep.RegionHeld3
namespace Go.Proofs.Ytefkhknfjohnaaa
open Go Go.RowKit
/-- The answer of UnusedRules. -/
noncomputable def unusedD (rs : List RuleV) : List Int := if descrB (kindI rs) rs = true then picks (fun i => !usedBy rs (rs.length - 1) i) rs.length else []
theorem unusedD_no {rs : List RuleV} (h : descrB (kindI rs) rs = false) : unusedD rs = [] := by unfold unusedD; rw [h]; rfl
theorem unusedD_yes {rs : List RuleV} (h : descrB (kindI rs) rs = true) : unusedD rs = picks (fun i => !usedBy rs (rs.length - 1) i) rs.length := by unfold unusedD; rw [if_pos h]
theorem picks_ext {p q : Nat → Bool} (h : ∀ i, p i = q i) (n : Nat) : picks p n = picks q n := by rw [show p = q from funext h]
theorem empty_row (w : World) (lo : Nat) (h : lo ≤ w.heap.size) : RowF (Value.int .i64) lo (some ⟨w.heap.size, 0, none⟩) [] 0 (w.alloc (.cells #[] 3)) := by
  obtain ⟨x, c, hv, hrow⟩ := own_row (f := Value.int .i64) (xs := []) (World.ownsRow_made (e := 3) (size := 1) w #[] 0 (Nat.le_refl _) (Nat.zero_le _) rfl)
  injection hv with h1 h2 h3
  subst h1
  subst h3
  exact hrow.more h
theorem marked_any (a : Option Addr) (rs : List RuleV) (cap : Nat) (u : Nat → Bool) (b : Bool) (xs : List Int) (w : World) (hn24 : rs.length ≤ 24) (hx : picks (fun i => u i == b) rs.length = xs) :
    Calls Try.prog 88 #[.agg #[.slice a rs.length cap], .agg (arrB u 24).toArray, .bool b] w (IntsOut xs w) := by subst hx; exact marked_impl a rs cap u b w hn24
set_option maxRecDepth 100000 in
set_option maxHeartbeats 4000000 in
theorem used_impl (a : Option Addr) (rs : List RuleV) (cap : Nat) (k : Int) (w : World) (hl : rs.length ≤ 1048576) (hs : ∀ r ∈ rs, Short r) (hp : ∀ r ∈ rs, Spelt r) (h : RdC a rs w) :
    Calls Try.prog 62 #[.agg #[.slice a rs.length cap], .int .i64 k] w (IntsOut (usedD rs k) w) := by
  obtain ⟨w0, hw0⟩ : ∃ w0, w0 = w.alloc (.cells #[.slice a rs.length cap] 38) := ⟨_, rfl⟩
  have hB0 : Below w.heap.size w w0 := by subst hw0; exact (Below.refl _ _).alloc (Nat.le_refl _) _
  have hX0 : CellsAt w.heap.size [.slice a rs.length cap] w0 := by subst hw0; exact CellsAt.new w _ _
  have bx := (hX0 0 _ rfl).1
  have HX := Lib.hid hX0
  have HB := Lib.hid hB0
  have HC := Lib.hid (h.below hB0)
  have HS := Lib.hid hs
  have HP := Lib.hid hp
  have hW := Lib.hid hw0
  clear h hB0 hX0 hs hp hw0
  obtain ⟨b, hb⟩ : ∃ b, b = okAt rs k := ⟨_, rfl⟩
  have HBB := Lib.hid hb
  clear hb
  go_enter Try.func62, Try.ntmps62
  go_wp2_with fail
  rw [← hW.out]
  clear hW
  refine (isdescr_impl a rs cap k _ hl HS.out HP.out HC.out).mono ?_
  rintro e w1 ⟨rfl, hb1⟩
  rw [← HBB.out]
  replace HX := Lib.hid (HX.out.below hb1)
  replace HC := Lib.hid (HC.out.below hb1)
  replace HB := Lib.hid (HB.out.trans (hb1.mono HB.out.size))
  clear hb1 bx
  have bx := (HX.out 0 _ rfl).1
  cases b with
  | false =>
    have hr : Hid (usedD rs k = []) := usedD_no HBB.out.symm
    go_wp2
    go_ret
    rw [hr.out]
    exact ⟨_, _, rfl, empty_row _ _ HB.out.size, HB.out.alloc HB.out.size _⟩
  | true =>
    have hok : okAt rs k = true := HBB.out.symm
    obtain ⟨hk, hn, hv⟩ := okAt_yes hok
    have hn24 := hn.2
    obtain ⟨m, rfl⟩ : ∃ m : Nat, k = (m : Int) := ⟨k.toNat, by omega⟩
    have hm : m < rs.length := by omega
    obtain ⟨xs, hxs⟩ : ∃ xs, xs = usedD rs (m : Int) := ⟨_, rfl⟩
    have HXS := Lib.hid hxs
    have hr : Hid (picks (fun i => usedBy rs m i == true) rs.length = xs) := by
      show _ = _
      rw [hxs]
      rw [usedD_yes hok]
      exact picks_ext (fun i => by cases usedBy rs m i <;> rfl) _
    have HV := Lib.hid hv
    clear hv hn HBB hk hok hxs
    obtain ⟨w2, hww⟩ : ∃ w2, w2 = w1 := ⟨_, rfl⟩
    rw [← hww] at HX HC HB bx ⊢
    clear hww
    go_upto_region 3 with fail
    replace HX : Hid (CellsAt w.heap.size [.slice a rs.length cap] w2.drew) := HX.out
    replace HC : Hid (RdC a rs w2.drew) := HC.out
    replace HB : Hid (Below w.heap.size w w2.drew) := below_drewN HB.out 1
    go_region_held3 (fun W => W.cell? ⟨w.heap.size, 0, none⟩ = some (.slice a rs.length cap)) (exact (HX.out 0 _ rfl).1) (first | (go_at_call 89; refine (marku_impl a rs cap m _ hm hn24 HS.out HV.out HC.out.rd).mono ?_; rintro e w3 ⟨rfl, hb3⟩; replace HX := Lib.hid (HX.out.below hb3); replace HB := Lib.hid (HB.out.trans (hb3.mono HB.out.size)); clear hb3) | (go_at_call 88; refine (marked_any a rs cap (usedBy rs m) true xs _ hn24 hr.out).mono ?_; rintro e w4 ⟨x, c, rfl, hrow, hb4⟩; have HRW := Lib.hid (hrow.more HB.out.size); replace HX := Lib.hid (HX.out.below hb4); replace HB := Lib.hid (HB.out.trans (hb4.mono HB.out.size)); clear hb4 hrow))
    all_goals (go_wp2; go_ret; rw [← HXS.out]; exact ⟨x, c, rfl, HRW.out, HB.out⟩)
end Go.Proofs.Ytefkhknfjohnaaa
