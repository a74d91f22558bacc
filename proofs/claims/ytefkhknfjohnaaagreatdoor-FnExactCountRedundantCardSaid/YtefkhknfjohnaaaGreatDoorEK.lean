/- Steps that many texts take. -/
import Derived.Test.YtefkhknfjohnaaaGreatDoorEGBase
import Derived.Deep.RegionHeld3
namespace Go.Proofs.YtefkhknfjohnaaaGreatDoor
open Go Go.RowKit
theorem zb1 {w v : World} {o : Obj} (h : v = w.alloc o) : Below w.heap.size w v:=by subst h; exact (Below.refl _ _).alloc (Nat.le_refl _) _
theorem zb2 {w v : World} {o p : Obj} (h : v = (w.alloc o).alloc p) : Below w.heap.size w v:=by subst h; exact ((Below.refl _ _).alloc (Nat.le_refl _) _).alloc (by simp) _
theorem zk1 {w v : World} {cs : List Value} {t : TypeId} (h : v = w.alloc (.cells cs.toArray t)) : CellsAt w.heap.size cs v:=by subst h; exact CellsAt.new w _ _
theorem zk2 {w v : World} {cs : List Value} {t : TypeId} {o : Obj} (h : v = (w.alloc (.cells cs.toArray t)).alloc o) : CellsAt w.heap.size cs v:=by subst h; exact (CellsAt.new w _ _).below ((Below.refl _ _).alloc (Nat.le_refl _) _)
theorem zk3 {w v : World} {cs : List Value} {t : TypeId} {o : Obj} (h : v = (w.alloc o).alloc (.cells cs.toArray t)) : CellsAt (w.heap.size + 1) cs v:=by subst h; have h1:=CellsAt.new (w.alloc o) cs t; rw [World.size_alloc] at h1; exact h1
theorem tk {P : Program} {ops : Array Oper} {Q : Exit → Act → World → Prop} {md : Region.Mode} {S : World → Prop} (i : Nat) {oi : Oper} {v : Value} {fuel : Nat} {listed : Array Bool} {a : Act} {w : World} (hi : ops[i]? = some oi:=by simp only [List.getElem?_toArray,List.getElem?_cons_succ,List.getElem?_cons_zero]; rfl)
 (hs : Region.noSelect ops = true:=by kernel_rfl) (hf : Region.free md ops listed i = true:=by kernel_rfl) (hr : (Region.ready md ops listed).contains i = true:=by kernel_rfl)
 (hQ : ∀ c a w,Q (.panic c) (a.put oi.dst v) w → Q (.panic c) a w:=by exact fun _ _ _ h => h) (hy : YieldsIf P ops S oi v a) (hS : S w:=by assumption)
 (h : wpAnyH P md ops Q S fuel (listed.setIfInBounds i true) (a.put oi.dst v) w) : wpAnyH P md ops Q S (fuel + 1) listed a w:=wpAnyH_take hi hs hf hr hQ hy hS h
theorem tq {P : Program} {ops : Array Oper} {Q : Exit → Act → World → Prop} {md : Region.Mode} {S : World → Prop} (i : Nat) {oi : Oper} {v : Value} {fuel : Nat} {listed : Array Bool} {a a' : Act} {w : World} (hi : ops[i]? = some oi:=by simp only [List.getElem?_toArray,List.getElem?_cons_succ,List.getElem?_cons_zero]; rfl)
 (hs : Region.noSelect ops = true:=by kernel_rfl) (hf : Region.free md ops listed i = true:=by kernel_rfl) (hr : (Region.ready md ops listed).contains i = true:=by kernel_rfl)
 (hQ : ∀ c a w,Q (.panic c) (a.put oi.dst v) w → Q (.panic c) a w:=by exact fun _ _ _ h => h)
 (hy : YieldsIf P ops S oi v a:=by refine Or.inl ⟨by rfl,?_⟩; (intro W hSw; (try dsimp only at hSw); go_simp); (try with_reducible rfl)) (hS : S w:=by assumption)
 (ha : a.put oi.dst v = a':=by (try simp only [Act.put,List.setIfInBounds_toArray,List.set_cons_zero,List.set_cons_succ]); (try rfl))
 (h : wpAnyH P md ops Q S fuel (listed.setIfInBounds i true) a' w) : wpAnyH P md ops Q S (fuel + 1) listed a w:=by subst ha; exact wpAnyH_take hi hs hf hr hQ hy hS h
theorem ac {P : Program} {md : Region.Mode} {ops : Array Oper} {Q : Exit → Act → World → Prop} {S : World → Prop} {fuel : Nat} {listed : Array Bool} {a : Act} {w : World} {i : Nat} {o : Oper} (ho : ops[i]? = some o:=by simp only [List.getElem?_toArray,List.getElem?_cons_succ,List.getElem?_cons_zero]; rfl)
 (h : ∀ K' : Act → World → Prop,Shut (∀ a w,S w → (S w → wpAnyH P md ops Q S fuel (listed.setIfInBounds i true) a w) → K' a w) → if Region.wanted o (yielded ops a.tmps) = true then Oper.wp P o a w K' Q else K' (a.put o.dst undef) w) : AllReadyH P md ops Q S fuel listed a w [i]:=AllReadyH.cons ho h AllReadyH.nil
end Go.Proofs.YtefkhknfjohnaaaGreatDoor
