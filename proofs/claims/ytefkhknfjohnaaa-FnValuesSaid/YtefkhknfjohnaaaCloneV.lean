/- The contract of slices.Clone at values: three cells an element. -/
import Derived.Test.YtefkhknfjohnaaaClone
import Derived.Test.YtefkhknfjohnaaaGV
namespace Go.Proofs.Ytefkhknfjohnaaa
open Go Go.RowKit
set_option maxRecDepth 100000 in
set_option maxHeartbeats 2000000 in
/-- The cells come back in a block of their own. -/
theorem clone_vals (a : Option Addr) (n cap : Nat) (xs : List Value) (w : World) (hl : n ≤ 16777216) (hx : xs.length = n * 3) (h1 : ∀ u ∈ xs, u.oneCell' = true) (h : ∀ j u, xs[j]? = some u → ∃ b off, a = some ⟨b, off, none⟩ ∧ w.cell? ⟨b, off + j, none⟩ = some u) :
    Calls Try.prog 47 #[.slice a n cap] w fun e w' => ∃ a' c', e = .returned (.slice a' n c') ∧ Below w.heap.size w w' ∧
      (n ≠ 0 → ∃ g, a' = some ⟨g, 0, none⟩ ∧ w.heap.size ≤ g ∧ g < w'.heap.size ∧ ∀ j u, xs[j]? = some u → w'.cell? ⟨g, j, none⟩ = some u ∧ w'.frozen? ⟨g, j, none⟩ = false) := by
  have q22 : ∀ (w : World) (a : Option Addr) (n c n' c' : Nat), (binOp .eql 45 (.slice a n c) (.slice none n' c')).run Try.prog w = .ok (.bool a.isNone) w := fun w a n c n' c' => Lib.run_eql_slice_nil w _ _ a n c n' c' Try.underlying45
  obtain ⟨i0, hi, hh⟩ := Option.map_eq_some_iff.1 infoVal
  simp only [Prod.mk.injEq] at hh
  obtain ⟨hz0, hz1, hz2⟩ := hh
  rcases a with _ | ad
  · have hn : n = 0 := by
      rcases Nat.eq_zero_or_pos n with e | e
      · exact e
      · obtain ⟨b, off, e2, _⟩ := h 0 xs[0] (List.getElem?_eq_getElem (by omega))
        cases e2
    subst hn
    clear h h1 hx
    go_enter Try.func47, Try.ntmps47
    go_wp2
    go_ret
    exact ⟨none, 0, rfl, Below.refl _ _, fun h => absurd rfl h⟩
  · have hnews : ∀ (W : World), Below w.heap.size w W → ∀ j u, xs[j]? = some u → W.cell? (ad.add j) = some u := fun W hb j u hj => by
      obtain ⟨b, off, e, hc⟩ := h j u hj
      injection e with e
      subst e
      rw [Addr.add_lit]
      exact (hb.cell (cell_lt hc)).trans hc
    have HN := Lib.hid hnews
    have H1 := Lib.hid h1
    have HX := Lib.hid hx
    clear hnews h h1 hx
    go_enter Try.func47, Try.ntmps47
    go_wp2_with (at_builtin; refine wpList_append_own _ rfl _ _ 45 rfl w.heap.size 47 i0 _ 3 56 Try.underlying45 hi hz0 hz1 hz2 rfl (by decide) _ _ _ rfl (World.ownsRow_made w #[] 0 (Nat.le_refl _) (Nat.zero_le _) rfl) ad n cap xs rfl ?qc1 ?qc2 ?qc3 ?qc4 ?qc5 ?qc6 ?_)
    case qc1 => exact HX.out
    case qc2 => exact HN.out _ ((Below.refl _ w).alloc (Nat.le_refl _) _)
    case qc3 => exact H1.out
    case qc4 => unfold maxLen; omega
    case qc5 => omega
    case qc6 => simp
    intro v' w1 hown hgrow hnil
    have hB : Below w.heap.size w w1 := ((Below.refl _ w).alloc (Nat.le_refl _) _).grown hgrow (by simp) (by intro k hk; simp [Value.ownBlock] at hk; omega)
    have hform : ∃ a' c', v' = .slice a' n c' ∧ (n ≠ 0 → ∃ g, a' = some ⟨g, 0, none⟩ ∧ w.heap.size ≤ g ∧ g < w1.heap.size ∧ ∀ j u, xs[j]? = some u → w1.cell? ⟨g, j, none⟩ = some u ∧ w1.frozen? ⟨g, j, none⟩ = false) := by
      have ho := hown
      rcases hown.2 with ⟨rfl, rfl⟩ | ⟨g, cp, cur, rfl, hb, hg, hr⟩
      · exact ⟨none, 0, rfl, fun h => absurd rfl h⟩
      · refine ⟨_, cp, rfl, fun _ => ⟨g, rfl, hb, ?_, fun j u hj => ⟨?_, ho.frozenAt j⟩⟩⟩
        · rcases Nat.lt_or_ge g w1.heap.size with h | h
          · exact h
          · rw [Array.getElem?_eq_none (by omega)] at hg; cases hg
        · have hjl : j < n * 3 := by
            rcases Nat.lt_or_ge j (n * 3) with h | h
            · exact h
            · rw [List.getElem?_eq_none (by rw [HX.out]; exact h)] at hj; cases hj
          rw [ho.cellAt j hjl, hj]
    obtain ⟨a', c', rfl, hf⟩ := hform
    have HF := Lib.hid hf
    have HB := Lib.hid hB
    clear hown hgrow hnil hf hB
    go_wp2
    go_ret
    exact ⟨a', c', rfl, HB.out, HF.out⟩
end Go.Proofs.Ytefkhknfjohnaaa
