/- append of what a slice holds to an empty literal: the same values in new memory. -/
import Derived.Test.YtefkhknfjohnaaaClone
import Derived.Test.YtefkhknfjohnaaaGPu
namespace Go.Proofs.Ytefkhknfjohnaaa
open Go Go.RowKit
theorem run_copyF {P : Program} {α : Type} {f : α → Value} (t ty e : TypeId) (z : Value) (bytes : Nat) (ht : P.underlying t = some (.slice e)) (hinfo : (P.info? e).map (fun i => (i.zero, i.size, i.bytes)) = some (some z, 1, bytes)) (hz1 : z.cells.size = 1) (hone : ∀ x, (f x).oneCell' = true)
    (a : Option Addr) (xs : List α) (cap : Nat) (W : World) (h : RdF f a xs W) (hn : a = none → cap = 0) (hm : xs.length ≤ maxLen) (hb : xs.length * bytes ≤ 140737488355328) :
    ∃ a' c' w', (Builtin.append_ #[t, t] ty #[.slice (some ⟨W.heap.size, 0, none⟩) 0 0, .slice a xs.length cap]).run P (W.alloc (.cells #[] e)) = .ok (.slice a' xs.length c') w' ∧ RowF f W.heap.size a' xs c' w' ∧ Below W.heap.size W w' := by
  obtain ⟨i, hi, hh⟩ := Option.map_eq_some_iff.1 hinfo
  simp only [Prod.mk.injEq] at hh
  obtain ⟨hz, hs, hby⟩ := hh
  have hown : (W.alloc (.cells #[] e)).ownsRow W.heap.size e 1 (.slice (some ⟨W.heap.size, 0, none⟩) 0 0) 0 [] := World.ownsRow_made W #[] 0 (Nat.le_refl _) (Nat.zero_le _) rfl
  rcases a with _ | ad
  · have hx : xs = [] := by
      cases xs with
      | nil => rfl
      | cons x r => obtain ⟨b, off, e, _⟩ := h 0 (by simp); cases e
    subst hx
    obtain rfl := hn rfl
    exact ⟨_, 0, _, run_append_owned_none (P := P) (w := W.alloc (.cells #[] e)) W.heap.size t ty e i 1 ht hi _ 0 [] hown, ⟨.inl rfl, Nat.le_refl _, fun e => by cases e⟩, (Below.refl _ W).alloc (Nat.le_refl _) _⟩
  · have hB : Below W.heap.size W (W.alloc (.cells #[] e)) := (Below.refl _ W).alloc (Nat.le_refl _) _
    obtain ⟨v', w', hr, ho, hg, _⟩ := run_append_own (P := P) (W.alloc (.cells #[] e)) W.heap.size t ty e i z 1 bytes ht hi hz hs hby hz1 (by omega) _ 0 [] hown ad xs.length cap (xs.map f) (by simp)
      (fun j u hj => by
        have hj2 : j < xs.length := by
          rcases Nat.lt_or_ge j xs.length with h1 | h1
          · exact h1
          · rw [List.getElem?_eq_none (by simpa using h1)] at hj; cases hj
        obtain ⟨b, off, e, hc⟩ := (h.below hB) j hj2
        injection e with e
        subst e
        rw [List.getElem?_map, List.getElem?_eq_getElem hj2] at hj
        simp only [Option.map_some, Option.some.injEq] at hj
        subst hj
        rw [Addr.add_lit]
        exact hc)
      (fun u hu => by
        obtain ⟨x, _, rfl⟩ := List.mem_map.1 hu
        exact hone x)
      (by omega) (by simpa using hb) (by simp)
    obtain ⟨a', c', rfl, hrow⟩ := own_row (f := f) (base := W.heap.size) (t := e) (v := v') (xs := xs) (w := w') (by simpa using ho)
    exact ⟨a', c', w', hr, hrow, hB.grown hg (by simp) (by intro k hk; simp [Value.ownBlock] at hk; omega)⟩
theorem wp_copyF {P : Program} {α : Type} {f : α → Value} (t e : TypeId) (z : Value) (bytes : Nat) (ht : P.underlying t = some (.slice e)) (hinfo : (P.info? e).map (fun i => (i.zero, i.size, i.bytes)) = some (some z, 1, bytes)) (hz1 : z.cells.size = 1) (hone : ∀ x, (f x).oneCell' = true)
    {ops : Array Oper} {rest : List Oper} {o : Oper} {A : Act} {Q : Exit → Act → World → Prop} (hgd : o.guard = none) (s x : Operand)
    (ho : o.op = .call { callee := .builtin .append, args := #[s, x], argTypes := #[t, t] })
    (a : Option Addr) (xs : List α) (cap : Nat) (W : World) (hsv : A.eval s = .slice (some ⟨W.heap.size, 0, none⟩) 0 0) (hxv : A.eval x = .slice a xs.length cap)
    (h : RdF f a xs W) (hn : a = none → cap = 0) (hm : xs.length ≤ maxLen) (hb : xs.length * bytes ≤ 140737488355328)
    (hk : ∀ a' c' w', RowF f W.heap.size a' xs c' w' → Below W.heap.size W w' → wpList P ops Q rest (A.put o.dst (.slice a' xs.length c')) w') :
    wpList P ops Q (o :: rest) A (W.alloc (.cells #[] e)) := by
  refine wpList_plain hgd fun K hK => ?_
  obtain ⟨a', c', w', hr, h2, h3⟩ := run_copyF (P := P) t o.type e z bytes ht hinfo hz1 hone a xs cap W h hn hm hb
  unfold Oper.wp
  simp [execOp, ho, resolve, invoke, builtin, hsv, hxv, hr, Result.andThen]
  exact hK _ _ (hk a' c' w' h2 h3)
end Go.Proofs.Ytefkhknfjohnaaa
