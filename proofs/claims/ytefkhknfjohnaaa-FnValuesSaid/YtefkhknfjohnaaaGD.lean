/- Appending what a slice holds to bytes that the call owns (out of Splice: never import both). A cell that was there, behind a frame. -/
import Derived.Test.YtefkhknfjohnaaaGPu
import Derived.Laws.AppendOwnNone
import Derived.Deep.RegionLaw
import Derived.Test.YtefkhknfjohnaaaGBase
namespace Go.Proofs.Ytefkhknfjohnaaa
open Go Go.RowKit
/-- A slice that may be appended: what it reads as; nil holds nothing. -/
def Src1 (a : Option Addr) (bs : List UInt8) (cap : Nat) (w : World) : Prop := Rd a bs w ∧ (a = none → cap = 0)
set_option maxRecDepth 100000 in
theorem run_app (base : Nat) (ty : TypeId) (v : Value) (acc cs : List UInt8) (a : Option Addr) (cap : Nat) (w : World) (hown : OwnB base v acc w) (hs : Src1 a cs cap w) (hl : acc.length + cs.length ≤ 1099511627776) (hbase : base ≤ w.heap.size) :
    ∃ v' w', (Builtin.append_ #[22, 22] ty #[v, .slice a cs.length cap]).run Try.prog w = .ok v' w' ∧ OwnB base v' (acc ++ cs) w' ∧ w.grownBy w' v.ownBlock := by
  obtain ⟨i0, hi, hz0, hz1, hz2⟩ := infoParts
  rcases a with _ | ad
  · have hcs : cs = [] := by
      cases cs with
      | nil => rfl
      | cons c r => obtain ⟨b, off, h, _⟩ := hs.1 0 (by simp); cases h
    subst hcs
    obtain rfl := hs.2 rfl
    exact ⟨v, w, run_append_owned_none (P := Try.prog) (w := w) base 22 ty 5 i0 1 Try.underlying22 hi v acc.length (acc.map bv) hown, by simpa using hown, World.grownBy.refl _ _⟩
  · obtain ⟨v', w', hr, ho, hg, _⟩ := run_append_own (P := Try.prog) w base 22 ty 5 i0 (.int .u8 0) 1 1 Try.underlying22 hi hz0 hz1 hz2 rfl (by omega) v acc.length (acc.map bv) hown ad cs.length cap (cs.map bv) (by simp)
      (fun j u hj => by
        have hjl : j < cs.length := by
          rcases Nat.lt_or_ge j cs.length with h | h
          · exact h
          · rw [List.getElem?_eq_none (by simpa using h)] at hj; cases hj
        obtain ⟨b, off, hab, hc⟩ := hs.1 j hjl
        injection hab with hab
        subst hab
        rw [Go.WideShapes.add_plain, hc]
        simp [hjl] at hj
        subst hj
        rfl)
      (fun u hu => by
        obtain ⟨b, _, rfl⟩ := List.mem_map.1 hu
        rfl)
      (by unfold maxLen; omega) (by omega) hbase
    refine ⟨v', w', hr, ?_, hg⟩
    unfold OwnB
    rw [List.length_append, List.map_append]
    exact ho
/-- .. as a step of a plain region. -/
theorem wp_app {ops : Array Oper} {rest : List Oper} {o : Oper} {A : Act} {Q : Exit → Act → World → Prop} (hgd : o.guard = none) (s x : Operand)
    (ho : o.op = .call { callee := .builtin .append, args := #[s, x], argTypes := #[22, 22] })
    (base : Nat) (v : Value) (acc cs : List UInt8) (a : Option Addr) (cap : Nat) (w : World) (hsv : A.eval s = v) (hxv : A.eval x = .slice a cs.length cap)
    (hown : OwnB base v acc w) (hs : Src1 a cs cap w) (hl : acc.length + cs.length ≤ 1099511627776) (hbase : base ≤ w.heap.size)
    (h : ∀ v' w', OwnB base v' (acc ++ cs) w' → w.grownBy w' v.ownBlock → wpList Try.prog ops Q rest (A.put o.dst v') w') : wpList Try.prog ops Q (o :: rest) A w := by
  refine wpList_plain hgd fun K hK => ?_
  obtain ⟨v', w', hr, h2, h3⟩ := run_app base o.type v acc cs a cap w hown hs hl hbase
  unfold Oper.wp
  simp [execOp, ho, resolve, invoke, builtin, hsv, hxv, hr, Result.andThen]
  exact hK _ _ (h v' w' h2 h3)
/-- .. as a step of a region that draws its order. -/
theorem step_app {ops : Array Oper} {o : Oper} {A : Act} {w : World} {K : Act → World → Prop} {Q : Exit → Act → World → Prop} {E : Prop} (hgd : o.guard = none) (s x : Operand)
    (ho : o.op = .call { callee := .builtin .append, args := #[s, x], argTypes := #[22, 22] })
    (base : Nat) (v : Value) (acc cs : List UInt8) (a : Option Addr) (cap : Nat) (hsv : A.eval s = v) (hxv : A.eval x = .slice a cs.length cap)
    (hown : OwnB base v acc w) (hs : Src1 a cs cap w) (hl : acc.length + cs.length ≤ 1099511627776) (hbase : base ≤ w.heap.size)
    (h : ∀ v' w', OwnB base v' (acc ++ cs) w' → w.grownBy w' v.ownBlock → K (A.put o.dst v') w') :
    if Region.wanted o (yielded ops A.tmps) = true then Oper.wp Try.prog o A w K Q else E := by
  have hw : Region.wanted o (yielded ops A.tmps) = true := by simp [Region.wanted, hgd]
  rw [if_pos hw]
  obtain ⟨v', w', hr, h2, h3⟩ := run_app base o.type v acc cs a cap w hown hs hl hbase
  unfold Oper.wp
  simp [execOp, ho, resolve, invoke, builtin, hsv, hxv, hr, Result.andThen]
  exact h v' w' h2 h3
theorem app_frame {B : Nat} {w W W' : World} {v : Value} {acc : List UInt8} (hb : Below B w W) (hB : B ≤ W.heap.size) (ho : OwnB B v acc W) (hg : W.grownBy W' v.ownBlock) : Below B w W' :=
  hb.grown hg hB fun j hj => (World.ownsRow.lt (w := W) ho j hj).1
theorem Src1.below {a : Option Addr} {bs : List UInt8} {cap : Nat} {w w' : World} (h : Src1 a bs cap w) (hb : Below w.heap.size w w') : Src1 a bs cap w' := ⟨h.1.below hb, h.2⟩
theorem Row.src {B cap : Nat} {a : Option Addr} {bs : List UInt8} {w : World} (h : Row B a bs cap w) : Src1 a bs cap w := ⟨h.rd, h.2.2⟩
end Go.Proofs.Ytefkhknfjohnaaa
namespace Go.Proofs.Ytefkhknfjohnaaa
open Go Go.RowKit
theorem cellK {B : Nat} {w w' : World} {b i : Nat} {v : Value} (h : Below B w w') (hB : w.heap.size ≤ B) (hc : w.cell? ⟨b, i, none⟩ = some v) : w'.cell? ⟨b, i, none⟩ = some v :=
  (h.cell (p := ⟨b, i, none⟩) (Nat.lt_of_lt_of_le (cell_lt hc) hB)).trans hc
end Go.Proofs.Ytefkhknfjohnaaa
