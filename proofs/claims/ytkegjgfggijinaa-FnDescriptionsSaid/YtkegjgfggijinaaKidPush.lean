/- A rule index appended to the Kids of a copied rule: what the copy reads as then; and that such a rule is not valid. -/
import Derived.Test.YtkegjgfggijinaaCopyKid
import Derived.Test.YtkegjgfggijinaaEqDescr
namespace Go.Proofs.Ytkegjgfggijinaa
open Go Go.RowKit
/-- The rule with one kid more. -/
def moreKid (r : RuleV) (x : Int) : RuleV := { r with kids := r.kids ++ [x] }
theorem rdF_keep {α : Type} {f : α → Value} {N o q h c : Nat} {a : Option Addr} {xs : List α} {W W' : World} {v' : Value} {row : Option Nat} (hr : RdF f a xs W) (hg : W.grownBy W' row) (hrow : ∀ g, row = some g → q ≤ g ∧ g < h)
    (hb : ∀ b ∈ sliceBlk (.slice a xs.length c), N < b ∧ (b < q ∨ h ≤ b)) : RdF f a xs (W'.setCell ⟨N, o, none⟩ v') := fun j hj => by
  obtain ⟨b, off, rfl, hc⟩ := hr j hj
  have h1 := hb b (by simp only [sliceBlk, if_neg (show xs.length ≠ 0 by omega), List.mem_singleton])
  refine ⟨b, off, rfl, ?_⟩
  rw [World.cell?_setCell_other _ _ _ _ (fun he => by have h2 := congrArg Addr.block he; simp at h2; omega)]
  refine hg.cell hc fun e => ?_
  have := hrow b e.symm
  omega
theorem kid_pushed {rs : List RuleV} {i N q h : Nat} {W W' : World} {x : Int} {v7 v' : Value} (hi : i < rs.length) (hrd : RdC (some ⟨N, 0, none⟩) rs W) (k1 : N < q) (k3 : W.cell? ⟨N, i * 8 + 7, none⟩ = some v7)
    (k5 : W.ownsRow q 3 1 v7 rs[i].kids.length (rs[i].kids.map (Value.int .i64))) (k6 : ∀ g, v7.ownBlock = some g → g < h)
    (k7 : ∀ j c, j < rs.length → c < 8 → ¬ (j = i ∧ c = 7) → ∀ v, W.cell? ⟨N, j * 8 + c, none⟩ = some v → ∀ b ∈ sliceBlk v, N < b ∧ (b < q ∨ h ≤ b))
    (ho : W'.ownsRow q 3 1 v' (rs[i].kids ++ [x]).length ((rs[i].kids ++ [x]).map (Value.int .i64))) (hg : W.grownBy W' v7.ownBlock) :
    RdC (some ⟨N, 0, none⟩) (rs.set i (moreKid rs[i] x)) (W'.setCell ⟨N, i * 8 + 7, none⟩ v') := fun j hj => by
  have hj2 : j < rs.length := by simpa using hj
  obtain ⟨b, off, cs, e, hr, hcap, hc⟩ := hrd j hj2
  injection e with e
  injection e with e1 e2
  subst e1 e2
  have hrow : ∀ g, v7.ownBlock = some g → q ≤ g ∧ g < h := fun g hgv => ⟨(World.ownsRow.lt k5 g hgv).1, k6 g hgv⟩
  have hN : some N ≠ v7.ownBlock := fun e => by have := hrow N e.symm; omega
  obtain ⟨a4, c4, a5, c5, a6, c6, a7, c7, rfl, r4, r5, r6, r7⟩ := hr
  have hkeep : ∀ c v, ([.string rs[j].name, .int .i64 rs[j].kind, .int .i64 rs[j].size, .bool rs[j].little, .slice a4 rs[j].bytes.length c4, .slice a5 rs[j].names.length c5, .slice a6 rs[j].tags.length c6, .slice a7 rs[j].kids.length c7] : List Value)[c]? = some v → ¬ (j = i ∧ c = 7) → (W'.setCell ⟨N, i * 8 + 7, none⟩ v').cell? ⟨N, 0 + j * 8 + c, none⟩ = some v := fun c v hv hne => by
    have hc8 : c < 8 := by
      rcases Nat.lt_or_ge c 8 with h | h
      · exact h
      · rw [List.getElem?_eq_none (by simpa using h)] at hv; cases hv
    rw [World.cell?_setCell_other _ _ _ _ (fun he => by have h2 := congrArg Addr.off he; simp at h2; omega)]
    exact hg.cell (hc c v hv) hN
  have far := fun c v hc8 hne hv => k7 j c hj2 hc8 hne v (by have := hc c v hv; rw [Nat.zero_add] at this; exact this)
  by_cases hji : j = i
  · subst hji
    obtain ⟨a', cap', rfl, hrow'⟩ := own_row (f := Value.int .i64) ho
    refine ⟨N, 0, [.string rs[j].name, .int .i64 rs[j].kind, .int .i64 rs[j].size, .bool rs[j].little, .slice a4 rs[j].bytes.length c4, .slice a5 rs[j].names.length c5, .slice a6 rs[j].tags.length c6, .slice a' (rs[j].kids ++ [x]).length cap'], rfl, ?_, ?_, ?_⟩
    · rw [List.getElem_set_self]
      exact ⟨a4, c4, a5, c5, a6, c6, a', cap', rfl, rdF_keep (f := fun b : UInt8 => Value.int .u8 (b.toNat : Int)) r4 hg hrow (far 4 _ (by omega) (by omega) rfl), rdF_keep r5 hg hrow (far 5 _ (by omega) (by omega) rfl), rdF_keep r6 hg hrow (far 6 _ (by omega) (by omega) rfl), (hrow'.setFar k1).rd⟩
    · intro a n c hh
      exact hcap a n c hh
    · intro c v hv
      by_cases hc7 : c = 7
      · subst hc7
        simp only [List.getElem?_cons_succ, List.getElem?_cons_zero, Option.some.injEq] at hv
        subst hv
        rw [Nat.zero_add]
        exact World.cell?_setCell_same _ _ _ (hg.cell (v := v7) k3 hN)
      · refine hkeep c v ?_ (by omega)
        match c, hv, hc7 with
        | 0, hv, _ => exact hv
        | 1, hv, _ => exact hv
        | 2, hv, _ => exact hv
        | 3, hv, _ => exact hv
        | 4, hv, _ => exact hv
        | 5, hv, _ => exact hv
        | 6, hv, _ => exact hv
        | c + 8, hv, _ => simp at hv
  · refine ⟨N, 0, _, rfl, ?_, hcap, fun c v hv => hkeep c v hv (by omega)⟩
    rw [List.getElem_set_ne (fun e => hji e.symm)]
    exact ⟨a4, c4, a5, c5, a6, c6, a7, c7, rfl, rdF_keep (f := fun b : UInt8 => Value.int .u8 (b.toNat : Int)) r4 hg hrow (far 4 _ (by omega) (by omega) rfl), rdF_keep r5 hg hrow (far 5 _ (by omega) (by omega) rfl), rdF_keep r6 hg hrow (far 6 _ (by omega) (by omega) rfl), rdF_keep r7 hg hrow (far 7 _ (by omega) (by omega) rfl)⟩
theorem more_invalid {f : RuleV → Bool} {rs : List RuleV} {i : Nat} (hi : i < rs.length) : validAt f (rs.set i (moreKid rs[i] (i : Int))) (i : Int) = false := by
  rw [validAt_in (by simpa using hi)]
  have h1 : kidsB (rs[i].kids ++ [(i : Int)]) (i : Int) = false := by
    unfold kidsB
    rw [List.all_append]
    simp
    omega
  have h2 : (rs.set i (moreKid rs[i] (i : Int)))[i]'(by simpa using hi) = moreKid rs[i] (i : Int) := List.getElem_set_self _
  rw [h2]
  show (_ && (kidsB (rs[i].kids ++ [(i : Int)]) (i : Int) && _)) = false
  rw [h1]
  simp
theorem more_other {rs : List RuleV} {i : Nat} {x : Int} (hi : i < rs.length) : sameD (rs.set i (moreKid rs[i] x)) rs = false := by
  refine sameD_no fun e => ?_
  have h1 : (rs.set i (moreKid rs[i] x))[i]? = rs[i]? := by rw [e]
  rw [List.getElem?_set_self hi, List.getElem?_eq_getElem hi] at h1
  injection h1 with h1
  have h2 := congrArg (fun r : RuleV => r.kids.length) h1
  simp [moreKid] at h2
theorem more_all {p : RuleV → Prop} {rs : List RuleV} {i : Nat} {x : Int} (hi : i < rs.length) (h : ∀ r ∈ rs, p r) (hm : p (moreKid rs[i] x)) : ∀ r ∈ rs.set i (moreKid rs[i] x), p r := fun r hr => by
  rcases List.mem_or_eq_of_mem_set hr with hr | rfl
  · exact h r hr
  · exact hm
end Go.Proofs.Ytkegjgfggijinaa
