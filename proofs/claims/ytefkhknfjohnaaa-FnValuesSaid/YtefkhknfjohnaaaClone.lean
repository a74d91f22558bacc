/- Contracts of slices.Clone at []byte, []string, []int. -/
import Derived.Test.YtefkhknfjohnaaaGBase
import Derived.Lib.SliceRun
import Derived.Laws.AppendOwn
namespace Go.Proofs.Ytefkhknfjohnaaa
open Go Go.RowKit
theorem infoByte8 : (Try.prog.info? 5).map (fun i => (i.zero, i.size, i.bytes)) = some (some (.int .u8 0), 1, 1) := by kernel_rfl
theorem infoParts8 : ∃ i, Try.prog.info? 5 = some i ∧ i.zero = some (.int .u8 0) ∧ i.size = 1 ∧ i.bytes = 1 := by
  obtain ⟨i, hi, h⟩ := Option.map_eq_some_iff.1 infoByte8
  simp only [Prod.mk.injEq] at h
  exact ⟨i, hi, h.1, h.2.1, h.2.2⟩

set_option maxRecDepth 100000 in
set_option maxHeartbeats 2000000 in
theorem clone_bytes (a : Option Addr) (xs : List UInt8) (cap : Nat) (w : World) (hl : xs.length ≤ 16777216) (h : Rd a xs w) :
    Calls Try.prog 46 #[.slice a xs.length cap] w fun e w' => ∃ a' c', e = .returned (.slice a' xs.length c') ∧ Row w.heap.size a' xs c' w' ∧ Below w.heap.size w w' := by
  have q22 : ∀ (w : World) (a : Option Addr) (n c n' c' : Nat), (binOp .eql 22 (.slice a n c) (.slice none n' c')).run Try.prog w = .ok (.bool a.isNone) w := fun w a n c n' c' => Lib.run_eql_slice_nil w _ _ a n c n' c' Try.underlying22
  obtain ⟨i0, hi, hz0, hz1, hz2⟩ := infoParts8
  rcases a with _ | ad
  · have hx : xs = [] := by
      cases xs with
      | nil => rfl
      | cons x r => obtain ⟨b, off, e, _⟩ := h 0 (by simp); cases e
    subst hx
    clear h
    go_enter Try.func46, Try.ntmps46
    go_wp2
    go_ret
    exact ⟨none, 0, rfl, ⟨.inl rfl, Nat.le_refl _, fun _ => rfl⟩, Below.refl _ _⟩
  · have hnews : ∀ (W : World), Below w.heap.size w W → ∀ j u, (xs.map (fun b : UInt8 => Value.int .u8 (b.toNat : Int)))[j]? = some u → W.cell? (ad.add j) = some u := fun W hb j u hj => by
      have hj2 : j < xs.length := by
        rcases Nat.lt_or_ge j xs.length with h1 | h1
        · exact h1
        · rw [List.getElem?_eq_none (by simpa using h1)] at hj; cases hj
      obtain ⟨b, off, e, hc⟩ := (h.below hb) j hj2
      injection e with e
      subst e
      rw [List.getElem?_map, List.getElem?_eq_getElem hj2] at hj
      simp only [Option.map_some, Option.some.injEq] at hj
      subst hj
      rw [Addr.add_lit]
      exact hc
    have HN := Lib.hid hnews
    clear hnews h
    go_enter Try.func46, Try.ntmps46
    go_wp2_with (at_builtin; refine wpList_append_own _ rfl _ _ 22 rfl w.heap.size 5 i0 (.int .u8 0) 1 1 Try.underlying22 hi hz0 hz1 hz2 rfl (by decide) _ _ _ rfl (World.ownsRow_made w #[] 0 (Nat.le_refl _) (Nat.zero_le _) rfl) ad xs.length cap (xs.map (fun b : UInt8 => Value.int .u8 (b.toNat : Int))) rfl ?qc1 ?qc2 ?qc3 ?qc4 ?qc5 ?qc6 ?_)
    case qc1 => simp
    case qc2 => exact HN.out _ ((Below.refl _ w).alloc (Nat.le_refl _) _)
    case qc3 =>
      intro u hu
      obtain ⟨x, _, rfl⟩ := List.mem_map.1 hu
      rfl
    case qc4 => unfold maxLen; omega
    case qc5 => omega
    case qc6 => simp
    intro v' w1 hown hgrow hnil
    have hB : Below w.heap.size w w1 := ((Below.refl _ w).alloc (Nat.le_refl _) _).grown hgrow (by simp) (by intro k hk; simp [Value.ownBlock] at hk; omega)
    obtain ⟨a', c', rfl, hrow⟩ := own_row (f := fun b : UInt8 => Value.int .u8 (b.toNat : Int)) (base := w.heap.size) (t := 5) (v := v') (xs := xs) (w := w1) (by simpa using hown)
    clear hown hgrow hnil
    have HB := Lib.hid hB
    have HR := Lib.hid hrow
    clear hB hrow
    go_wp2
    go_ret
    exact ⟨a', c', rfl, HR.out, HB.out⟩
end Go.Proofs.Ytefkhknfjohnaaa
