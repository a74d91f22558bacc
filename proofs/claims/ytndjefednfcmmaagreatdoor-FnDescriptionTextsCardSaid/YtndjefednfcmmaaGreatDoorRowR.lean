/- A slice of rules that a call builds by append: what it holds, and one rule more. -/
import Derived.Test.YtndjefednfcmmaaGreatDoorGVal
import Derived.Test.YtndjefednfcmmaaGreatDoorPushF
import Derived.Laws.AppendOwnNone
import Derived.Deep.RegionLaw
namespace Go.Proofs.YtndjefednfcmmaaGreatDoor
open Go Go.RowKit
theorem Rd.grown {a : Option Addr} {bs : List UInt8} {w w' : World} {row : Option Nat} (h : Rd a bs w) (hg : w.grownBy w' row) (hne : ∀ b off, a = some ⟨b, off, none⟩ → bs.length ≠ 0 → some b ≠ row) : Rd a bs w' := fun j hj => by
 obtain ⟨b, off, ha, hc⟩ := h j hj
 exact ⟨b, off, ha, hg.cell hc (hne b off ha (by omega))⟩
theorem RdF.grown {α : Type} {f : α → Value} {a : Option Addr} {bs : List α} {w w' : World} {row : Option Nat} (h : RdF f a bs w) (hg : w.grownBy w' row) (hne : ∀ b off, a = some ⟨b, off, none⟩ → bs.length ≠ 0 → some b ≠ row) : RdF f a bs w' := fun j hj => by
 obtain ⟨b, off, ha, hc⟩ := h j hj
 exact ⟨b, off, ha, hg.cell hc (hne b off ha (by omega))⟩
theorem blk_of {b off n c : Nat} (h : n ≠ 0) : b ∈ sliceBlk (.slice (some ⟨b, off, none⟩) n c) := by simp [sliceBlk, h]
theorem IsRule.grown {r : RuleV} {cs : List Value} {w w' : World} {row : Option Nat} (h : IsRule r cs w) (hg : w.grownBy w' row) (hne : ∀ b ∈ cs.flatMap sliceBlk, some b ≠ row) : IsRule r cs w' := by
 obtain ⟨a4, c4, a5, c5, a6, c6, a7, c7, rfl, h4, h5, h6, h7⟩ := h
 have hin : ∀ v ∈ ([.slice a4 r.bytes.length c4, .slice a5 r.names.length c5, .slice a6 r.tags.length c6, .slice a7 r.kids.length c7] : List Value), ∀ b ∈ sliceBlk v, some b ≠ row := fun v hv b hb => hne b (List.mem_flatMap.2 ⟨v, List.mem_cons_of_mem _ (List.mem_cons_of_mem _ (List.mem_cons_of_mem _ (List.mem_cons_of_mem _ hv))), hb⟩)
 exact ⟨a4, c4, a5, c5, a6, c6, a7, c7, rfl,
  h4.grown hg (fun b off ha hn => hin (.slice a4 r.bytes.length c4) (by simp) b (by subst ha; exact blk_of hn)),
  h5.grown hg (fun b off ha hn => hin (.slice a5 r.names.length c5) (by simp) b (by subst ha; exact blk_of hn)),
  h6.grown hg (fun b off ha hn => hin (.slice a6 r.tags.length c6) (by simp) b (by subst ha; exact blk_of hn)),
  h7.grown hg (fun b off ha hn => hin (.slice a7 r.kids.length c7) (by simp) b (by subst ha; exact blk_of hn))⟩
theorem blk_lt {f : Nat → Prop} {a : Option Addr} {n c : Nat} (h : ∀ b off, a = some ⟨b, off, none⟩ → n ≠ 0 → f b) (hs : n ≠ 0 → ∃ b off, a = some ⟨b, off, none⟩) : ∀ b ∈ sliceBlk (.slice a n c), f b := fun b hb => by
 by_cases hn : n = 0
 ·subst hn
  cases a <;> simp [sliceBlk] at hb
 ·obtain ⟨b', off, rfl⟩ := hs hn
  simp only [sliceBlk, if_neg hn, List.mem_singleton] at hb
  subst hb
  exact h _ _ rfl hn
theorem IsRule.lt {r : RuleV} {cs : List Value} {w : World} (h : IsRule r cs w) : ∀ b ∈ cs.flatMap sliceBlk, b < w.heap.size := fun b hb => by
 obtain ⟨a4, c4, a5, c5, a6, c6, a7, c7, rfl, h4, h5, h6, h7⟩ := h
 simp only [List.flatMap_cons, List.flatMap_nil, List.append_nil, List.mem_append] at hb
 have one : ∀ {α : Type} {g : α → Value} {a : Option Addr} {xs : List α} {c : Nat}, (∀ j (hj : j < xs.length), ∃ b off, a = some ⟨b, off, none⟩ ∧ w.cell? ⟨b, off + j, none⟩ = some (g xs[j])) → ∀ b ∈ sliceBlk (.slice a xs.length c), b < w.heap.size := fun {α} {g} {a} {xs} {c} hr =>
  blk_lt (f := fun b => b < w.heap.size) (fun b off ha hn => by
   obtain ⟨b', off', ha', hc⟩ := hr 0 (by omega)
   rw [ha] at ha'
   injection ha' with ha'
   injection ha' with e1
   subst e1
   exact cell_lt hc) (fun hn => by
   obtain ⟨b', off', ha', _⟩ := hr 0 (by omega)
   exact ⟨b', off', ha'⟩)
 rcases hb with hb | hb | hb | hb | hb | hb | hb | hb
 ·simp [sliceBlk] at hb
 ·simp [sliceBlk] at hb
 ·simp [sliceBlk] at hb
 ·simp [sliceBlk] at hb
 ·exact one (g := fun b : UInt8 => Value.int .u8 (b.toNat : Int)) h4 b hb
 ·exact one h5 b hb
 ·exact one h6 b hb
 ·exact one h7 b hb
theorem IsRule.length {r : RuleV} {cs : List Value} {w : World} (h : IsRule r cs w) : cs.length = 8 := by
 obtain ⟨a4, c4, a5, c5, a6, c6, a7, c7, rfl, _⟩ := h
 rfl
theorem IsRule.one {r : RuleV} {cs : List Value} {w : World} (h : IsRule r cs w) : ∀ u ∈ cs, u.oneCell' = true := by
 obtain ⟨a4, c4, a5, c5, a6, c6, a7, c7, rfl, _⟩ := h
 intro u hu
 simp at hu
 rcases hu with rfl | rfl | rfl | rfl | rfl | rfl | rfl | rfl <;> rfl
def RowR (base : Nat) (v : Value) (rs : List RuleV) (w : World) : Prop :=
 ∃ css : List (List Value), css.length = rs.length ∧ w.ownsRow base 59 8 v rs.length css.flatten ∧
  (∀ j (h : j < rs.length) (h' : j < css.length), IsRule rs[j] css[j] w ∧ Cap5 css[j] ∧ ∀ b ∈ css[j].flatMap sliceBlk, base ≤ b ∧ some b ≠ v.ownBlock)
theorem RowR.start (base : Nat) (w : World) : RowR base (.slice none 0 0) [] w := ⟨[], rfl, ⟨rfl, .inl ⟨rfl, rfl⟩⟩, fun j h => by simp at h⟩
theorem flat_at {css : List (List Value)} (h8 : ∀ cs ∈ css, cs.length = 8) : ∀ (j i : Nat) (hj : j < css.length), i < 8 → css.flatten[j * 8 + i]? = css[j][i]? := by
 induction css with
 | nil => intro j i hj; simp at hj
 | cons cs css ih =>
  intro j i hj hi
  have hl := h8 cs (by simp)
  cases j with
  | zero => rw [List.flatten_cons, List.getElem?_append_left (by omega)]; simp
  | succ j =>
   rw [List.flatten_cons, List.getElem?_append_right (by omega), hl, show (j + 1) * 8 + i - 8 = j * 8 + i from by omega]
   exact ih (fun c hc => h8 c (by simp [hc])) j i (by simpa using hj) hi
theorem RowR.rdc {base : Nat} {v : Value} {rs : List RuleV} {w : World} (h : RowR base v rs w) : ∃ a cap, v = .slice a rs.length cap ∧ RdC a rs w ∧ rs.length ≤ cap ∧ (a = none → cap = 0) := by
 obtain ⟨css, hl, ho, hr⟩ := h
 have h8 : ∀ cs ∈ css, cs.length = 8 := fun cs hc => by
  obtain ⟨j, hj, rfl⟩ := List.getElem_of_mem hc
  exact (hr j (by omega) hj).1.length
 have h0 := ho
 rcases ho.2 with ⟨rfl, hn⟩ | ⟨g, cap, cur, rfl, hb, hg, hnc, hcm, hcs, ht⟩
 ·have : rs = [] := List.eq_nil_of_length_eq_zero hn
  subst this
  exact ⟨none, 0, rfl, fun j hj => by simp at hj, Nat.le_refl _, fun _ => rfl⟩
 ·refine ⟨_, cap, rfl, fun j hj => ?_, hnc, fun e => by cases e⟩
  have hj' : j < css.length := by omega
  refine ⟨g, 0, css[j], rfl, (hr j hj hj').1, (hr j hj hj').2.1, fun i u hu => ?_⟩
  have hi : i < 8 := by
   have := h8 _ (List.getElem_mem hj')
   rcases Nat.lt_or_ge i 8 with h | h
   ·exact h
   ·rw [List.getElem?_eq_none (by omega)] at hu; cases hu
  rw [Nat.zero_add, h0.cellAt (j * 8 + i) (by
   have : (j + 1) * 8 ≤ rs.length * 8 := Nat.mul_le_mul_right 8 (by omega)
   omega), flat_at h8 j i hj' hi]
  exact hu
theorem RowR.below {base : Nat} {v : Value} {rs : List RuleV} {w w' : World} (h : RowR base v rs w) (hb : Below w.heap.size w w') : RowR base v rs w' := by
 obtain ⟨css, hl, ho, hr⟩ := h
 have hg : w.grownBy w' none := ⟨hb.os, hb.tape, hb.output, hb.size, fun b hlt _ => hb.block b hlt⟩
 refine ⟨css, hl, World.ownsRow.kept (w := w) ho hg ?_, fun j h1 h2 => ⟨(hr j h1 h2).1.below hb, (hr j h1 h2).2⟩⟩
 cases v.ownBlock with
 | none => exact .inl rfl
 | some g => exact .inr (by simp)
theorem RowR.grown {base : Nat} {v : Value} {rs : List RuleV} {w w' : World} {c : Nat} (h : RowR base v rs w) (hg : w.grownBy w' (some c)) (hc : c < base) : RowR base v rs w' := by
 obtain ⟨css, hl, ho, hr⟩ := h
 refine ⟨css, hl, World.ownsRow.kept (w := w) ho hg ?_, fun j h1 h2 => ⟨(hr j h1 h2).1.grown hg fun b hbb e => by injection e with e; have := ((hr j h1 h2).2.2 b hbb).1; omega, (hr j h1 h2).2⟩⟩
 cases hv : v.ownBlock with
 | none => exact .inl rfl
 | some g =>
  have := (World.ownsRow.lt (w := w) ho g hv).1
  exact .inr (by intro e; injection e with e; omega)
theorem RowR.own {base : Nat} {v : Value} {rs : List RuleV} {w : World} (h : RowR base v rs w) : ∀ g, v.ownBlock = some g → base ≤ g ∧ g < w.heap.size := fun g hg => by
 obtain ⟨css, hl, ho, hr⟩ := h
 exact World.ownsRow.lt (w := w) ho g hg
theorem CellsAt.grown {b : Nat} {vs : List Value} {w w' : World} {row : Option Nat} (h : CellsAt b vs w) (hg : w.grownBy w' row) (hne : some b ≠ row) : CellsAt b vs w' := fun i v hv => by
 obtain ⟨q1, q2⟩ := h i v hv
 exact ⟨hg.cell q1 hne, (World.frozen?_of_block (a := ⟨b, i, none⟩) (hg.block b (cell_lt q1) hne)).trans q2⟩
theorem run_pushR (ty : TypeId) (base : Nat) (v : Value) (rs : List RuleV) (r : RuleV) (cs : List Value) (w : World) (hrow : RowR base v rs w) (hr : IsRule r cs w) (hcap : Cap5 cs) (hne : ∀ b ∈ cs.flatMap sliceBlk, base ≤ b ∧ some b ≠ v.ownBlock) (hl : rs.length ≤ 1048576) (hbase : base ≤ w.heap.size) :
  ∃ v' w', (Builtin.append_ #[24, 24] ty #[v, .slice (some ⟨w.heap.size, 0, none⟩) 1 1]).run Tryz.prog (w.alloc (.cells cs.toArray 59)) = .ok v' w' ∧ RowR base v' (rs ++ [r]) w' ∧ w.grownBy w' v.ownBlock ∧
   (v'.ownBlock = v.ownBlock ∨ ∃ g, v'.ownBlock = some g ∧ w.heap.size ≤ g) := by
 obtain ⟨css, hcl, ho, hrs⟩ := hrow
 obtain ⟨i, hi, h⟩ := Option.map_eq_some_iff.1 infoRule
 simp only [Prod.mk.injEq] at h
 obtain ⟨hz, hsz, hby⟩ := h
 have h8 := hr.length
 obtain ⟨v', w', hrun, ho', hg, hw⟩ := run_append_where (P := Tryz.prog) (w.alloc (.cells cs.toArray 59)) base 24 ty 59 i _ 8 136 Tryz.underlying24 hi hz hsz hby rfl (by omega) v rs.length css.flatten (World.ownsRow.alloc ho _) ⟨w.heap.size, 0, none⟩ 1 1 cs (by omega)
  (fun j u hj => by
   rw [Addr.add_lit, Nat.zero_add]
   refine (World.cell?_alloc_mark w cs.toArray _ (0, 0) j).trans ?_
   simpa using hj)
  hr.one (by omega) (by unfold maxLen; omega) (by omega) (by simp; omega)
 have hgw : w.grownBy w' v.ownBlock := Lib.grownBy_trans (World.grownBy_alloc w _ _) hg
 have hown' : v'.ownBlock = v.ownBlock ∨ ∃ g, v'.ownBlock = some g ∧ w.heap.size ≤ g := by
  rcases hw with h | h
  ·exact .inl h
  ·exact .inr ⟨_, h, by simp⟩
 refine ⟨v', w', hrun, ⟨css ++ [cs], by simp [hcl], by simpa using ho', fun j h1 h2 => ?_⟩, hgw, hown'⟩
 have hblk : ∀ b, b < w.heap.size → some b ≠ v.ownBlock → some b ≠ v'.ownBlock := fun b hb hn => by
  rcases hown' with h | ⟨g, h, hg⟩
  ·rw [h]; exact hn
  ·rw [h]; intro e; injection e with e; omega
 by_cases hj : j < rs.length
 ·have hj2 : j < css.length := by omega
  obtain ⟨q1, q2, q3⟩ := hrs j hj hj2
  rw [List.getElem_append_left hj, List.getElem_append_left hj2]
  exact ⟨q1.grown hgw fun b hb => (q3 b hb).2, q2, fun b hb => ⟨(q3 b hb).1, hblk b (q1.lt b hb) (q3 b hb).2⟩⟩
 ·have e1 : j = rs.length := by simp at h1; omega
  have a1 : (rs ++ [r])[j] = r := by subst e1; simp
  have a2 : (css ++ [cs])[j] = cs := by
   have e2 : j = css.length := by omega
   subst e2; simp
  rw [a1, a2]
  exact ⟨hr.grown hgw fun b hb => (hne b hb).2, hcap, fun b hb => ⟨(hne b hb).1, hblk b (hr.lt b hb) (hne b hb).2⟩⟩
theorem step_pushR {ops : Array Oper} {o : Oper} {A : Act} {K : Act → World → Prop} {Q : Exit → Act → World → Prop} {E : Prop} (hgd : o.guard = none) (s x : Operand)
  (ho : o.op = .call { callee := .builtin .append, args := #[s, x], argTypes := #[24, 24] })
  (base : Nat) (v : Value) (rs : List RuleV) (r : RuleV) (cs : List Value) (w : World) (hsv : A.eval s = v) (hxv : A.eval x = .slice (some ⟨w.heap.size, 0, none⟩) 1 1)
  (hrow : RowR base v rs w) (hr : IsRule r cs w) (hcap : Cap5 cs) (hne : ∀ b ∈ cs.flatMap sliceBlk, base ≤ b ∧ some b ≠ v.ownBlock) (hl : rs.length ≤ 1048576) (hbase : base ≤ w.heap.size)
  (h : ∀ v' w', RowR base v' (rs ++ [r]) w' → w.grownBy w' v.ownBlock → K (A.put o.dst v') w') :
  if Region.wanted o (yielded ops A.tmps) = true then Oper.wp Tryz.prog o A (w.alloc (.cells cs.toArray 59)) K Q else E := by
 have hw : Region.wanted o (yielded ops A.tmps) = true := by simp [Region.wanted, hgd]
 rw [if_pos hw]
 obtain ⟨v', w', hrun, h2, h3, _⟩ := run_pushR o.type base v rs r cs w hrow hr hcap hne hl hbase
 unfold Oper.wp
 simp [execOp, ho, resolve, invoke, builtin, hsv, hxv, hrun, Result.andThen]
 exact h v' w' h2 h3
end Go.Proofs.YtndjefednfcmmaaGreatDoor
