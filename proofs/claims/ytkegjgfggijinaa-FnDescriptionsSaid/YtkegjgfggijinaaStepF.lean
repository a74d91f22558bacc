/- One value is appended, as a step of a region that draws its order. -/
import Derived.Test.YtkegjgfggijinaaPushF
import Derived.Deep.RegionLaw
namespace Go.Proofs.Ytkegjgfggijinaa
open Go Go.RowKit
theorem step_pushF {P : Program} {α : Type} {f : α → Value} (t e : TypeId) (z : Value) (bytes : Nat) (ht : P.underlying t = some (.slice e)) (hinfo : (P.info? e).map (fun i => (i.zero, i.size, i.bytes)) = some (some z, 1, bytes)) (hz1 : z.cells.size = 1)
    {ops : Array Oper} {o : Oper} {A : Act} {K : Act → World → Prop} {Q : Exit → Act → World → Prop} {E : Prop} (hgd : o.guard = none) (s x : Operand)
    (ho : o.op = .call { callee := .builtin .append, args := #[s, x], argTypes := #[t, t] })
    (base : Nat) (v : Value) (acc : List α) (y : α) (hone : (f y).oneCell' = true) (w : World) (hsv : A.eval s = v) (hxv : A.eval x = .slice (some ⟨w.heap.size, 0, none⟩) 1 1)
    (hown : w.ownsRow base e 1 v acc.length (acc.map f)) (hm : acc.length + 1 ≤ maxLen) (hl : (acc.length + 1) * bytes ≤ 140737488355328) (hbase : base ≤ w.heap.size)
    (h : ∀ v' w', w'.ownsRow base e 1 v' (acc ++ [y]).length ((acc ++ [y]).map f) → w.grownBy w' v.ownBlock → (v'.ownBlock = v.ownBlock ∨ ∃ g, v'.ownBlock = some g ∧ w.heap.size ≤ g) → K (A.put o.dst v') w') :
    if Region.wanted o (yielded ops A.tmps) = true then Oper.wp P o A (w.alloc (.cells #[f y] e)) K Q else E := by
  have hw : Region.wanted o (yielded ops A.tmps) = true := by simp [Region.wanted, hgd]
  rw [if_pos hw]
  obtain ⟨v', w', hr, h2, h3, h4⟩ := run_pushF (P := P) t o.type e z bytes ht hinfo hz1 base v acc y hone w hown hm hl hbase
  unfold Oper.wp
  simp [execOp, ho, resolve, invoke, builtin, hsv, hxv, hr, Result.andThen]
  exact h v' w' h2 h3 h4
/-- A row that a call owns stays when another block turns. -/
theorem own_keep {base : Nat} {t : TypeId} {v : Value} {n : Nat} {vs : List Value} {w w' : World} {row : Option Nat} (h : w.ownsRow base t 1 v n vs) (hg : w.grownBy w' row) (hne : ∀ g, v.ownBlock = some g → row ≠ some g) : w'.ownsRow base t 1 v n vs := by
  refine World.ownsRow.kept (w := w) h hg ?_
  cases hv : v.ownBlock with
  | none => exact .inl rfl
  | some g => exact .inr (fun e => hne g hv e.symm)
end Go.Proofs.Ytkegjgfggijinaa
