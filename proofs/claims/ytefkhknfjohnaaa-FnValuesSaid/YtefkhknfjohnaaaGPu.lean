/- Appending one value to a row that the call owns: where the row lies afterwards. No function of the program is named here. A slice of rules that a call builds by append: what it holds, and one rule more. Bytes gathered by append: the row that a call makes; l1Bytes. One value is appended, as a step of a region that draws its order. Rows that a call owns: a literal slice; new memory elsewhere. -/
import Derived.Test.YtefkhknfjohnaaaGBase
import Derived.Test.YtefkhknfjohnaaaGRul
import Derived.Laws.AppendOwnNone
import Derived.Deep.RegionLaw
import Derived.Maps.Range
namespace Go.Proofs.Ytefkhknfjohnaaa
open Go Go.RowKit
theorem run_append_where {P : Program} (w : World) (base : Nat) (t ty e : TypeId) (i : TypeInfo) (z : Value) (size bytes : Nat) (ht : P.underlying t = some (.slice e)) (hi : P.info? e = some i) (hz : i.zero = some z)
    (hsize : i.size = size) (hby : i.bytes = bytes) (hzs : z.cells.size = size) (hsz : 0 < size)
    (v : Value) (n : Nat) (xs : List Value) (hown : w.ownsRow base e size v n xs)
    (a : Addr) (m c : Nat) (news : List Value) (hl : news.length = m * size) (hnews : ∀ j u, news[j]? = some u → w.cell? (a.add j) = some u) (h1 : ∀ u ∈ news, u.oneCell' = true)
    (hm : 0 < m) (h63 : n + m ≤ maxLen) (hbytes : (n + m) * bytes ≤ 140737488355328) (hbase : base ≤ w.heap.size) :
    ∃ v' w', (Builtin.append_ #[t, t] ty #[v, .slice (some a) m c]).run P w = .ok v' w' ∧ w'.ownsRow base e size v' (n + m) (xs ++ news) ∧ w.grownBy w' v.ownBlock ∧
      (v'.ownBlock = v.ownBlock ∨ v'.ownBlock = some w.heap.size) := by
  obtain ⟨v', w', hr, ho, hg, _⟩ := run_append_own (P := P) w base t ty e i z size bytes ht hi hz hsize hby hzs hsz v n xs hown a m c news hl hnews h1 h63 hbytes hbase
  refine ⟨v', w', hr, ho, hg, ?_⟩
  subst hsize hby
  have hsmall : n + m ≤ 9223372036854775807 := by simp only [maxLen] at h63; omega
  rcases hown.2 with ⟨rfl, rfl⟩ | ⟨g, cap, cur, rfl, hbg, hgc, hnc, hcm, hcs, htake⟩
  · have h2 := run_append_nil (P := P) w t ty e i z ht hi hz a m c news hl hnews (by omega) (by omega) (by have hb := hbytes; simp only [Nat.zero_add] at hb; omega)
    rw [hr] at h2
    injection h2 with e1 e2
    subst e1
    exact .inr rfl
  · by_cases hroom : n + m ≤ cap
    · have hfit : n * i.size + news.length ≤ cur.size := by rw [hl, hcs, ← Nat.add_mul]; exact Nat.mul_le_mul_right _ hroom
      have h2 := run_append_room (P := P) w t ty e i ht hi g n cap cur hgc a m c news hl hnews h1 hroom hfit
      rw [hr] at h2
      injection h2 with e1 e2
      subst e1
      exact .inl rfl
    · have holds : ∀ j u, xs[j]? = some u → w.cell? ((⟨g, 0, none⟩ : Addr).add j) = some u := hown.cells (g := g) rfl
      have h2 := run_append_grow (P := P) w t ty e i z ht hi hz ⟨g, 0, none⟩ n cap xs hown.1 holds a m c news hl hnews (by omega) (by omega) (growslice_fits (by omega) hbytes)
      rw [hr] at h2
      injection h2 with e1 e2
      subst e1
      exact .inr rfl
/-- One value is appended; 't' is the slice's type, 'e' the element's. -/
theorem run_pushF {P : Program} {α : Type} {f : α → Value} (t ty e : TypeId) (z : Value) (bytes : Nat) (ht : P.underlying t = some (.slice e)) (hinfo : (P.info? e).map (fun i => (i.zero, i.size, i.bytes)) = some (some z, 1, bytes)) (hz1 : z.cells.size = 1)
    (base : Nat) (v : Value) (acc : List α) (y : α) (hone : (f y).oneCell' = true) (w : World) (hown : w.ownsRow base e 1 v acc.length (acc.map f)) (hm : acc.length + 1 ≤ maxLen) (hl : (acc.length + 1) * bytes ≤ 140737488355328) (hbase : base ≤ w.heap.size) :
    ∃ v' w', (Builtin.append_ #[t, t] ty #[v, .slice (some ⟨w.heap.size, 0, none⟩) 1 1]).run P (w.alloc (.cells #[f y] e)) = .ok v' w' ∧ w'.ownsRow base e 1 v' (acc ++ [y]).length ((acc ++ [y]).map f) ∧ w.grownBy w' v.ownBlock ∧
      (v'.ownBlock = v.ownBlock ∨ ∃ g, v'.ownBlock = some g ∧ w.heap.size ≤ g) := by
  obtain ⟨i, hi, h⟩ := Option.map_eq_some_iff.1 hinfo
  simp only [Prod.mk.injEq] at h
  obtain ⟨hz, hs, hb⟩ := h
  obtain ⟨v', w', hr, ho, hg, hw⟩ := run_append_where (P := P) (w.alloc (.cells #[f y] e)) base t ty e i z 1 bytes ht hi hz hs hb hz1 (by omega) v acc.length (acc.map f) (World.ownsRow.alloc hown _) ⟨w.heap.size, 0, none⟩ 1 1 [f y] rfl
    (fun j u hj => by
      match j, hj with
      | 0, hj => simp at hj; subst hj; simp [Addr.add])
    (fun u hu => by simp at hu; subst hu; exact hone) (by omega) hm hl (by simp; omega)
  refine ⟨v', w', hr, by simpa using ho, Lib.grownBy_trans (World.grownBy_alloc w _ _) hg, ?_⟩
  rcases hw with h | h
  · exact .inl h
  · exact .inr ⟨_, h, by simp⟩
/-- .. as a step of a plain region. -/
theorem wp_pushF {P : Program} {α : Type} {f : α → Value} (t e : TypeId) (z : Value) (bytes : Nat) (ht : P.underlying t = some (.slice e)) (hinfo : (P.info? e).map (fun i => (i.zero, i.size, i.bytes)) = some (some z, 1, bytes)) (hz1 : z.cells.size = 1)
    {ops : Array Oper} {rest : List Oper} {o : Oper} {A : Act} {Q : Exit → Act → World → Prop} (hgd : o.guard = none) (s x : Operand)
    (ho : o.op = .call { callee := .builtin .append, args := #[s, x], argTypes := #[t, t] })
    (base : Nat) (v : Value) (acc : List α) (y : α) (hone : (f y).oneCell' = true) (w : World) (hsv : A.eval s = v) (hxv : A.eval x = .slice (some ⟨w.heap.size, 0, none⟩) 1 1)
    (hown : w.ownsRow base e 1 v acc.length (acc.map f)) (hm : acc.length + 1 ≤ maxLen) (hl : (acc.length + 1) * bytes ≤ 140737488355328) (hbase : base ≤ w.heap.size)
    (h : ∀ v' w', w'.ownsRow base e 1 v' (acc ++ [y]).length ((acc ++ [y]).map f) → w.grownBy w' v.ownBlock → (v'.ownBlock = v.ownBlock ∨ ∃ g, v'.ownBlock = some g ∧ w.heap.size ≤ g) → wpList P ops Q rest (A.put o.dst v') w') :
    wpList P ops Q (o :: rest) A (w.alloc (.cells #[f y] e)) := by
  refine wpList_plain hgd fun K hK => ?_
  obtain ⟨v', w', hr, h2, h3, h4⟩ := run_pushF (P := P) t o.type e z bytes ht hinfo hz1 base v acc y hone w hown hm hl hbase
  unfold Oper.wp
  simp [execOp, ho, resolve, invoke, builtin, hsv, hxv, hr, Result.andThen]
  exact hK _ _ (h v' w' h2 h3 h4)
end Go.Proofs.Ytefkhknfjohnaaa
namespace Go.Proofs.Ytefkhknfjohnaaa
open Go Go.RowKit
theorem Rd.grown {a : Option Addr} {bs : List UInt8} {w w' : World} {row : Option Nat} (h : Rd a bs w) (hg : w.grownBy w' row) (hne : ∀ b off, a = some ⟨b, off, none⟩ → bs.length ≠ 0 → some b ≠ row) : Rd a bs w' := fun j hj => by
  obtain ⟨b, off, ha, hc⟩ := h j hj
  exact ⟨b, off, ha, hg.cell hc (hne b off ha (by omega))⟩
theorem RdF.grown {α : Type} {f : α → Value} {a : Option Addr} {bs : List α} {w w' : World} {row : Option Nat} (h : RdF f a bs w) (hg : w.grownBy w' row) (hne : ∀ b off, a = some ⟨b, off, none⟩ → bs.length ≠ 0 → some b ≠ row) : RdF f a bs w' := fun j hj => by
  obtain ⟨b, off, ha, hc⟩ := h j hj
  exact ⟨b, off, ha, hg.cell hc (hne b off ha (by omega))⟩
theorem blk_of {b off n c : Nat} (h : n ≠ 0) : b ∈ sliceBlk (.slice (some ⟨b, off, none⟩) n c) := by simp [sliceBlk, h]
theorem IsRule.grown {r : RuleV} {cs : List Value} {w w' : World} {row : Option Nat} (h : IsRule r cs w) (hg : w.grownBy w' row) (hne : ∀ b ∈ cs.flatMap sliceBlk, some b ≠ row) : IsRule r cs w' := by
  obtain ⟨a4, c4, a5, c5, a6, c6, a7, c7, rfl, h4, h5, h6, h7⟩ := h
  have hin : ∀ v ∈ ([.slice a4 r.bytes.length c4, .slice a5 r.names.length c5, .slice a6 r.tags.length c6, .slice a7 r.kids.length c7] : List Value), ∀ b ∈ sliceBlk v, some b ≠ row := fun v hv b hb => hne b (List.mem_flatMap.2 ⟨v, List.mem_cons_of_mem _ (List.mem_cons_of_mem _ (List.mem_cons_of_mem _ (List.mem_cons_of_mem _ hv))), hb⟩)
  exact ⟨a4, c4, a5, c5, a6, c6, a7, c7, rfl,
    h4.grown hg (fun b off ha hn => hin (.slice a4 r.bytes.length c4) (by simp) b (by subst ha; exact blk_of hn)),
    h5.grown hg (fun b off ha hn => hin (.slice a5 r.names.length c5) (by simp) b (by subst ha; exact blk_of hn)),
    h6.grown hg (fun b off ha hn => hin (.slice a6 r.tags.length c6) (by simp) b (by subst ha; exact blk_of hn)),
    h7.grown hg (fun b off ha hn => hin (.slice a7 r.kids.length c7) (by simp) b (by subst ha; exact blk_of hn))⟩
theorem blk_lt {f : Nat → Prop} {a : Option Addr} {n c : Nat} (h : ∀ b off, a = some ⟨b, off, none⟩ → n ≠ 0 → f b) (hs : n ≠ 0 → ∃ b off, a = some ⟨b, off, none⟩) : ∀ b ∈ sliceBlk (.slice a n c), f b := fun b hb => by
  by_cases hn : n = 0
  · subst hn
    cases a <;> simp [sliceBlk] at hb
  · obtain ⟨b', off, rfl⟩ := hs hn
    simp only [sliceBlk, if_neg hn, List.mem_singleton] at hb
    subst hb
    exact h _ _ rfl hn
/-- The slices of a rule lie in blocks that are there. -/
theorem IsRule.lt {r : RuleV} {cs : List Value} {w : World} (h : IsRule r cs w) : ∀ b ∈ cs.flatMap sliceBlk, b < w.heap.size := fun b hb => by
  obtain ⟨a4, c4, a5, c5, a6, c6, a7, c7, rfl, h4, h5, h6, h7⟩ := h
  simp only [List.flatMap_cons, List.flatMap_nil, List.append_nil, List.mem_append] at hb
  have one : ∀ {α : Type} {g : α → Value} {a : Option Addr} {xs : List α} {c : Nat}, (∀ j (hj : j < xs.length), ∃ b off, a = some ⟨b, off, none⟩ ∧ w.cell? ⟨b, off + j, none⟩ = some (g xs[j])) → ∀ b ∈ sliceBlk (.slice a xs.length c), b < w.heap.size := fun {α} {g} {a} {xs} {c} hr =>
    blk_lt (f := fun b => b < w.heap.size) (fun b off ha hn => by
      obtain ⟨b', off', ha', hc⟩ := hr 0 (by omega)
      rw [ha] at ha'
      injection ha' with ha'
      injection ha' with e1
      subst e1
      exact cell_lt hc) (fun hn => by
      obtain ⟨b', off', ha', _⟩ := hr 0 (by omega)
      exact ⟨b', off', ha'⟩)
  rcases hb with hb | hb | hb | hb | hb | hb | hb | hb
  · simp [sliceBlk] at hb
  · simp [sliceBlk] at hb
  · simp [sliceBlk] at hb
  · simp [sliceBlk] at hb
  · exact one (g := fun b : UInt8 => Value.int .u8 (b.toNat : Int)) h4 b hb
  · exact one h5 b hb
  · exact one h6 b hb
  · exact one h7 b hb
theorem IsRule.length {r : RuleV} {cs : List Value} {w : World} (h : IsRule r cs w) : cs.length = 8 := by
  obtain ⟨a4, c4, a5, c5, a6, c6, a7, c7, rfl, _⟩ := h
  rfl
theorem IsRule.one {r : RuleV} {cs : List Value} {w : World} (h : IsRule r cs w) : ∀ u ∈ cs, u.oneCell' = true := by
  obtain ⟨a4, c4, a5, c5, a6, c6, a7, c7, rfl, _⟩ := h
  intro u hu
  simp at hu
  rcases hu with rfl | rfl | rfl | rfl | rfl | rfl | rfl | rfl <;> rfl
/-- A slice of rules that the call owns. -/
def RowR (base : Nat) (v : Value) (rs : List RuleV) (w : World) : Prop :=
  ∃ css : List (List Value), css.length = rs.length ∧ w.ownsRow base 76 8 v rs.length css.flatten ∧
    (∀ j (h : j < rs.length) (h' : j < css.length), IsRule rs[j] css[j] w ∧ CapK css[j] ∧ ∀ b ∈ css[j].flatMap sliceBlk, base ≤ b ∧ some b ≠ v.ownBlock)
theorem RowR.start (base : Nat) (w : World) : RowR base (.slice none 0 0) [] w := ⟨[], rfl, ⟨rfl, .inl ⟨rfl, rfl⟩⟩, fun j h => by simp at h⟩
theorem flat_at {css : List (List Value)} (h8 : ∀ cs ∈ css, cs.length = 8) : ∀ (j i : Nat) (hj : j < css.length), i < 8 → css.flatten[j * 8 + i]? = css[j][i]? := by
  induction css with
  | nil => intro j i hj; simp at hj
  | cons cs css ih =>
    intro j i hj hi
    have hl := h8 cs (by simp)
    cases j with
    | zero => rw [List.flatten_cons, List.getElem?_append_left (by omega)]; simp
    | succ j =>
      rw [List.flatten_cons, List.getElem?_append_right (by omega), hl, show (j + 1) * 8 + i - 8 = j * 8 + i from by omega]
      exact ih (fun c hc => h8 c (by simp [hc])) j i (by simpa using hj) hi
theorem RowR.rdc {base : Nat} {v : Value} {rs : List RuleV} {w : World} (h : RowR base v rs w) : ∃ a cap, v = .slice a rs.length cap ∧ RdC a rs w ∧ rs.length ≤ cap ∧ (a = none → cap = 0) := by
  obtain ⟨css, hl, ho, hr⟩ := h
  have h8 : ∀ cs ∈ css, cs.length = 8 := fun cs hc => by
    obtain ⟨j, hj, rfl⟩ := List.getElem_of_mem hc
    exact (hr j (by omega) hj).1.length
  have h0 := ho
  rcases ho.2 with ⟨rfl, hn⟩ | ⟨g, cap, cur, rfl, hb, hg, hnc, hcm, hcs, ht⟩
  · have : rs = [] := List.eq_nil_of_length_eq_zero hn
    subst this
    exact ⟨none, 0, rfl, fun j hj => by simp at hj, Nat.le_refl _, fun _ => rfl⟩
  · refine ⟨_, cap, rfl, fun j hj => ?_, hnc, fun e => by cases e⟩
    have hj' : j < css.length := by omega
    refine ⟨g, 0, css[j], rfl, (hr j hj hj').1, (hr j hj hj').2.1.1, fun i u hu => ?_⟩
    have hi : i < 8 := by
      have := h8 _ (List.getElem_mem hj')
      rcases Nat.lt_or_ge i 8 with h | h
      · exact h
      · rw [List.getElem?_eq_none (by omega)] at hu; cases hu
    rw [Nat.zero_add, h0.cellAt (j * 8 + i) (by
      have : (j + 1) * 8 ≤ rs.length * 8 := Nat.mul_le_mul_right 8 (by omega)
      omega), flat_at h8 j i hj' hi]
    exact hu
theorem RowR.below {base : Nat} {v : Value} {rs : List RuleV} {w w' : World} (h : RowR base v rs w) (hb : Below w.heap.size w w') : RowR base v rs w' := by
  obtain ⟨css, hl, ho, hr⟩ := h
  have hg : w.grownBy w' none := ⟨hb.os, hb.tape, hb.output, hb.size, fun b hlt _ => hb.block b hlt⟩
  refine ⟨css, hl, World.ownsRow.kept (w := w) ho hg ?_, fun j h1 h2 => ⟨(hr j h1 h2).1.below hb, (hr j h1 h2).2⟩⟩
  cases v.ownBlock with
  | none => exact .inl rfl
  | some g => exact .inr (by simp)
theorem RowR.grown {base : Nat} {v : Value} {rs : List RuleV} {w w' : World} {c : Nat} (h : RowR base v rs w) (hg : w.grownBy w' (some c)) (hc : c < base) : RowR base v rs w' := by
  obtain ⟨css, hl, ho, hr⟩ := h
  refine ⟨css, hl, World.ownsRow.kept (w := w) ho hg ?_, fun j h1 h2 => ⟨(hr j h1 h2).1.grown hg fun b hbb e => by injection e with e; have := ((hr j h1 h2).2.2 b hbb).1; omega, (hr j h1 h2).2⟩⟩
  cases hv : v.ownBlock with
  | none => exact .inl rfl
  | some g =>
    have := (World.ownsRow.lt (w := w) ho g hv).1
    exact .inr (by intro e; injection e with e; omega)
theorem RowR.own {base : Nat} {v : Value} {rs : List RuleV} {w : World} (h : RowR base v rs w) : ∀ g, v.ownBlock = some g → base ≤ g ∧ g < w.heap.size := fun g hg => by
  obtain ⟨css, hl, ho, hr⟩ := h
  exact World.ownsRow.lt (w := w) ho g hg
theorem CellsAt.grown {b : Nat} {vs : List Value} {w w' : World} {row : Option Nat} (h : CellsAt b vs w) (hg : w.grownBy w' row) (hne : some b ≠ row) : CellsAt b vs w' := fun i v hv => by
  obtain ⟨q1, q2⟩ := h i v hv
  exact ⟨hg.cell q1 hne, (World.frozen?_of_block (a := ⟨b, i, none⟩) (hg.block b (cell_lt q1) hne)).trans q2⟩
/-- One rule more. -/
theorem run_pushR (ty : TypeId) (base : Nat) (v : Value) (rs : List RuleV) (r : RuleV) (cs : List Value) (w : World) (hrow : RowR base v rs w) (hr : IsRule r cs w) (hcap : CapK cs) (hne : ∀ b ∈ cs.flatMap sliceBlk, base ≤ b ∧ some b ≠ v.ownBlock) (hl : rs.length ≤ 1048576) (hbase : base ≤ w.heap.size) :
    ∃ v' w', (Builtin.append_ #[36, 36] ty #[v, .slice (some ⟨w.heap.size, 0, none⟩) 1 1]).run Try.prog (w.alloc (.cells cs.toArray 76)) = .ok v' w' ∧ RowR base v' (rs ++ [r]) w' ∧ w.grownBy w' v.ownBlock ∧
      (v'.ownBlock = v.ownBlock ∨ ∃ g, v'.ownBlock = some g ∧ w.heap.size ≤ g) := by
  obtain ⟨css, hcl, ho, hrs⟩ := hrow
  obtain ⟨i, hi, h⟩ := Option.map_eq_some_iff.1 infoRule
  simp only [Prod.mk.injEq] at h
  obtain ⟨hz, hsz, hby⟩ := h
  have h8 := hr.length
  obtain ⟨v', w', hrun, ho', hg, hw⟩ := run_append_where (P := Try.prog) (w.alloc (.cells cs.toArray 76)) base 36 ty 76 i _ 8 136 Try.underlying36 hi hz hsz hby rfl (by omega) v rs.length css.flatten (World.ownsRow.alloc ho _) ⟨w.heap.size, 0, none⟩ 1 1 cs (by omega)
    (fun j u hj => by
      rw [Addr.add_lit, Nat.zero_add]
      refine (World.cell?_alloc_mark w cs.toArray _ (0, 0) j).trans ?_
      simpa using hj)
    hr.one (by omega) (by unfold maxLen; omega) (by omega) (by simp; omega)
  have hgw : w.grownBy w' v.ownBlock := Lib.grownBy_trans (World.grownBy_alloc w _ _) hg
  have hown' : v'.ownBlock = v.ownBlock ∨ ∃ g, v'.ownBlock = some g ∧ w.heap.size ≤ g := by
    rcases hw with h | h
    · exact .inl h
    · exact .inr ⟨_, h, by simp⟩
  refine ⟨v', w', hrun, ⟨css ++ [cs], by simp [hcl], by simpa using ho', fun j h1 h2 => ?_⟩, hgw, hown'⟩
  have hblk : ∀ b, b < w.heap.size → some b ≠ v.ownBlock → some b ≠ v'.ownBlock := fun b hb hn => by
    rcases hown' with h | ⟨g, h, hg⟩
    · rw [h]; exact hn
    · rw [h]; intro e; injection e with e; omega
  by_cases hj : j < rs.length
  · have hj2 : j < css.length := by omega
    obtain ⟨q1, q2, q3⟩ := hrs j hj hj2
    rw [List.getElem_append_left hj, List.getElem_append_left hj2]
    exact ⟨q1.grown hgw fun b hb => (q3 b hb).2, q2, fun b hb => ⟨(q3 b hb).1, hblk b (q1.lt b hb) (q3 b hb).2⟩⟩
  · have e1 : j = rs.length := by simp at h1; omega
    have a1 : (rs ++ [r])[j] = r := by subst e1; simp
    have a2 : (css ++ [cs])[j] = cs := by
      have e2 : j = css.length := by omega
      subst e2; simp
    rw [a1, a2]
    exact ⟨hr.grown hgw fun b hb => (hne b hb).2, hcap, fun b hb => ⟨(hne b hb).1, hblk b (hr.lt b hb) (hne b hb).2⟩⟩
/-- .. as a step of a region that draws its order. -/
theorem step_pushR {ops : Array Oper} {o : Oper} {A : Act} {K : Act → World → Prop} {Q : Exit → Act → World → Prop} {E : Prop} (hgd : o.guard = none) (s x : Operand)
    (ho : o.op = .call { callee := .builtin .append, args := #[s, x], argTypes := #[36, 36] })
    (base : Nat) (v : Value) (rs : List RuleV) (r : RuleV) (cs : List Value) (w : World) (hsv : A.eval s = v) (hxv : A.eval x = .slice (some ⟨w.heap.size, 0, none⟩) 1 1)
    (hrow : RowR base v rs w) (hr : IsRule r cs w) (hcap : CapK cs) (hne : ∀ b ∈ cs.flatMap sliceBlk, base ≤ b ∧ some b ≠ v.ownBlock) (hl : rs.length ≤ 1048576) (hbase : base ≤ w.heap.size)
    (h : ∀ v' w', RowR base v' (rs ++ [r]) w' → w.grownBy w' v.ownBlock → K (A.put o.dst v') w') :
    if Region.wanted o (yielded ops A.tmps) = true then Oper.wp Try.prog o A (w.alloc (.cells cs.toArray 76)) K Q else E := by
  have hw : Region.wanted o (yielded ops A.tmps) = true := by simp [Region.wanted, hgd]
  rw [if_pos hw]
  obtain ⟨v', w', hrun, h2, h3, _⟩ := run_pushR o.type base v rs r cs w hrow hr hcap hne hl hbase
  unfold Oper.wp
  simp [execOp, ho, resolve, invoke, builtin, hsv, hxv, hrun, Result.andThen]
  exact h v' w' h2 h3
/-- .. as a step of a plain region. -/
theorem wp_pushR {ops : Array Oper} {rest : List Oper} {o : Oper} {A : Act} {Q : Exit → Act → World → Prop} (hgd : o.guard = none) (s x : Operand)
    (ho : o.op = .call { callee := .builtin .append, args := #[s, x], argTypes := #[36, 36] })
    (base : Nat) (v : Value) (rs : List RuleV) (r : RuleV) (cs : List Value) (w : World) (hsv : A.eval s = v) (hxv : A.eval x = .slice (some ⟨w.heap.size, 0, none⟩) 1 1)
    (hrow : RowR base v rs w) (hr : IsRule r cs w) (hcap : CapK cs) (hne : ∀ b ∈ cs.flatMap sliceBlk, base ≤ b ∧ some b ≠ v.ownBlock) (hl : rs.length ≤ 1048576) (hbase : base ≤ w.heap.size)
    (h : ∀ v' w', RowR base v' (rs ++ [r]) w' → w.grownBy w' v.ownBlock → wpList Try.prog ops Q rest (A.put o.dst v') w') :
    wpList Try.prog ops Q (o :: rest) A (w.alloc (.cells cs.toArray 76)) := by
  refine wpList_plain hgd fun K hK => ?_
  obtain ⟨v', w', hrun, h2, h3, _⟩ := run_pushR o.type base v rs r cs w hrow hr hcap hne hl hbase
  unfold Oper.wp
  simp [execOp, ho, resolve, invoke, builtin, hsv, hxv, hrun, Result.andThen]
  exact hK _ _ (h v' w' h2 h3)
end Go.Proofs.Ytefkhknfjohnaaa
namespace Go.Proofs.Ytefkhknfjohnaaa
open Go Go.RowKit
/-- A byte as a cell. -/
def bv (b : UInt8) : Value := .int .u8 (b.toNat : Int)
/-- The slice v owns these bytes, in a block from base on. -/
def OwnB (base : Nat) (v : Value) (bs : List UInt8) (w : World) : Prop := w.ownsRow base 5 1 v bs.length (bs.map bv)
theorem OwnB.fresh {base : Nat} {v : Value} {bs : List UInt8} {w : World} (h : OwnB base v bs w) : ∃ a cap, v = .slice a bs.length cap ∧ Fresh base a bs w := by
  have h0 : w.ownsRow base 5 1 v bs.length (bs.map bv) := h
  rcases h.2 with ⟨rfl, hn⟩ | ⟨g, cap, cur, rfl, hb, hg, hnc, hcm, hcs, ht⟩
  · have : bs = [] := List.eq_nil_of_length_eq_zero hn
    subst this
    exact ⟨none, 0, rfl, .inl rfl⟩
  · refine ⟨_, cap, rfl, .inr ⟨g, 0, rfl, hb, fun j hj => ⟨?_, ?_⟩⟩⟩
    · rw [Nat.zero_add, h0.cellAt j (by omega)]
      simp [hj, bv]
    · rw [Nat.zero_add]; exact h0.frozenAt j
theorem OwnB.row {base : Nat} {v : Value} {bs : List UInt8} {w : World} (h : OwnB base v bs w) : ∃ a cap, v = .slice a bs.length cap ∧ Row base a bs cap w := by
  obtain ⟨a, cap, hv, hf⟩ := h.fresh
  refine ⟨a, cap, hv, hf, ?_⟩
  rcases h.2 with ⟨rfl, hn⟩ | ⟨g, cap', cur, rfl, hb, hg, hnc, _⟩
  · injection hv with h1 h2 h3
    subst h3
    exact ⟨by omega, fun _ => rfl⟩
  · injection hv with h1 h2 h3
    subst h1 h3
    exact ⟨hnc, fun e => by cases e⟩
theorem OwnB.start (w : World) : OwnB w.heap.size (.slice (some ⟨w.heap.size, 0, none⟩) 0 0) [] (w.alloc (.cells #[] 5)) :=
  World.ownsRow_made w #[] 0 (Nat.le_refl _) (by unfold maxLen; omega) rfl
theorem OwnB.far {base c : Nat} {v : Value} {bs : List UInt8} {w w' : World} (h : OwnB base v bs w) (hc : c < base) (hg : w.grownBy w' (some c)) : OwnB base v bs w' := by
  refine World.ownsRow.kept (w := w) h hg ?_
  cases hv : v.ownBlock with
  | none => exact .inl rfl
  | some g =>
    have := (World.ownsRow.lt (w := w) h g hv).1
    exact .inr (by intro e; injection e with e; omega)
theorem infoParts : ∃ i, Try.prog.info? 5 = some i ∧ i.zero = some (.int .u8 0) ∧ i.size = 1 ∧ i.bytes = 1 := by
  obtain ⟨i, hi, h⟩ := Option.map_eq_some_iff.1 infoU8
  simp only [Prod.mk.injEq] at h
  exact ⟨i, hi, h.1, h.2.1, h.2.2⟩
theorem Cur.far {a : Option Addr} {len cap c : Nat} {w w' : World} {row : Option Nat} (h : Cur a len cap c w) (hg : w.grownBy w' row) (hne : some c ≠ row) (hs : Src a len c w') : Cur a len cap c w' := by
  obtain ⟨k, x, hk, c0, c1, c2, f1, f2, _⟩ := h
  have hlt : c < w.heap.size := cell_lt c0
  exact ⟨k, x, hk, hg.cell c0 hne, hg.cell c1 hne, hg.cell c2 hne, (World.frozen?_of_block (a := ⟨c, 1, none⟩) (hg.block c hlt hne)).trans f1, (World.frozen?_of_block (a := ⟨c, 2, none⟩) (hg.block c hlt hne)).trans f2, hs⟩
theorem Cur.src {a : Option Addr} {len cap c : Nat} {w : World} (h : Cur a len cap c w) : Src a len c w := by
  obtain ⟨k, x, hk, c0, c1, c2, f1, f2, hs⟩ := h
  exact hs
/-- Bytes are drawn. -/
def RowOut (n : Nat) (a : Option Addr) (len cap c : Nat) (w : World) (e : Ending) (w' : World) : Prop :=
  ∃ v bs, bs.length = n ∧ e = .returned v ∧ OwnB w.heap.size v bs w' ∧ Cur a len cap c w' ∧ w.grownBy w' (some c)
/-- The state between two bytes. -/
def Mid (k : Nat) (a : Option Addr) (len cap c : Nat) (v : Value) (w W : World) : Prop :=
  ∃ bs, bs.length = k ∧ OwnB w.heap.size v bs W ∧ Cur a len cap c W ∧ w.grownBy W (some c)
theorem mid_next {k : Nat} {a : Option Addr} {len cap c : Nat} {v v' : Value} {bs : List UInt8} {x : UInt8} {w w1 w2 : World} {o : Obj} (hs : Cur a len cap c w)
    (hk : bs.length = k) (hown : OwnB w.heap.size v bs w1) (hc : Cur a len cap c w1) (hg : w.grownBy w1 (some c))
    (hown' : w2.ownsRow w.heap.size 5 1 v' (bs.length + 1) (bs.map bv ++ [bv x])) (hg2 : (w1.alloc o).grownBy w2 v.ownBlock) : Mid (k + 1) a len cap c v' w w2 := by
  have hlt := hs.lt
  have hrow : ∀ j, v.ownBlock = some j → w.heap.size ≤ j := fun j hj => (World.ownsRow.lt (w := w1) hown j hj).1
  have hg3 : w1.grownBy w2 v.ownBlock := Lib.grownBy_trans (World.grownBy_alloc w1 o _) hg2
  have hg4 : w.grownBy w2 (some c) := hg.andThen hg3 fun j hj => .inl (hrow j hj)
  refine ⟨bs ++ [x], by simp [hk], ?_, ?_, hg4⟩
  · unfold OwnB
    simpa using hown'
  · exact hc.far hg3 (fun e => by have := hrow c e.symm; omega) (hs.src.grown hg4)
set_option maxRecDepth 100000 in
set_option maxHeartbeats 1000000 in
theorem bytes_draw (a : Option Addr) (len cap c n : Nat) (w : World) (hl : len ≤ 140737488355328) (hn : n ≤ 1048576) (hc : Cur a len cap c w) :
    Calls Try.prog 69 #[.pointer (some ⟨c, 0, none⟩), .int .i64 n] w (RowOut n a len cap c w) := by
  obtain ⟨i0, hi, hz0, hz1, hz2⟩ := infoParts
  have HC := Lib.hid hc
  have hlt := hc.lt
  have h0 : Hid (Mid 0 a len cap c (.slice (some ⟨w.heap.size, 0, none⟩) 0 0) w (w.alloc (.cells #[] 5))) :=
    ⟨[], rfl, OwnB.start w, hc.below ((Below.refl _ _).alloc (Nat.le_refl _) _), World.grownBy_alloc _ _ _⟩
  clear hc
  go_enter Try.func69, Try.ntmps69
  go_wp2
  go_loopw [5, 6] (fun v i W => ∃ k : Nat, k ≤ n ∧ i = .int .i64 k ∧ Hid (Mid k a len cap c v w W)) (fun _ i _ => n - (intOf i).toNat)
  case atStart => exact ⟨0, Nat.zero_le _, rfl, h0.out⟩
  case round =>
    obtain ⟨k, hk, rfl, hm⟩ := hrel
    have k0 : (0 : Int) ≤ (k : Int) := by omega
    by_cases hlt2 : k < n
    · have k1 : (k : Int) < (n : Int) := by omega
      obtain ⟨bs, hbs, hown, hcur, hg⟩ := hm.out
      have HB := Lib.hid hbs
      have HO := Lib.hid hown
      have HU := Lib.hid hcur
      have HG := Lib.hid hg
      have hle : bs.length ≤ n := by omega
      clear hm hbs hown hcur hg
      go_wp2_with fail
      refine (byte_draw a len cap c _ hl HU.out).mono ?_
      rintro e w1 ⟨x, ⟨x0, x1⟩, rfl, hc1, hg1⟩
      obtain ⟨y, rfl⟩ : ∃ y : Nat, x = (y : Int) := ⟨x.toNat, by omega⟩
      have hy : y < 256 := by omega
      have HO1 := Lib.hid (HO.out.far hlt hg1)
      have HU1 := Lib.hid hc1
      have HG1 := Lib.hid (Lib.grownBy_trans HG.out hg1)
      clear hc1 hg1
      go_wp2_with (at_builtin; refine wpList_append_own _ rfl _ _ 22 rfl w.heap.size 5 i0 (.int .u8 0) 1 1 Try.underlying22 hi hz0 hz1 hz2 rfl (by decide) _ _ _ rfl (World.ownsRow.alloc HO1.out _) ⟨w1.heap.size, 0, none⟩ 1 1 [.int .u8 y] rfl rfl ?c1 ?c2 ?c3 ?c4 ?c5 ?_)
      case c1 =>
        intro j u hj
        match j, hj with
        | 0, hj => simp at hj; subst hj; simp [Addr.add]
      case c2 => intro u hu; simp at hu; subst hu; rfl
      case c3 => unfold maxLen; omega
      case c4 => omega
      case c5 => have := HG1.out.size; simp; omega
      · intro v' w2 hown' hgrow _
        have hbv : Value.int .u8 (y : Int) = bv (UInt8.ofNat y) := by
          unfold bv; rw [UInt8.toNat_ofNat', Nat.mod_eq_of_lt (by omega)]
        rw [hbv] at hown'
        have R := Lib.hid (mid_next HC.out HB.out HO1.out HU1.out HG1.out hown' hgrow)
        clear hown' hgrow hbv
        go_wp2
        go_roundw
        case rel => exact ⟨k + 1, by omega, by go_num, R.out⟩
        case measure => simp [intOf]; omega
    · have k1 : ¬ (k : Int) < (n : Int) := by omega
      obtain rfl : k = n := by omega
      go_wp2
      go_ret
      obtain ⟨bs, hbs, hown, hcur, hg⟩ := hm.out
      exact ⟨_, bs, hbs, rfl, hown, hcur, hg⟩
end Go.Proofs.Ytefkhknfjohnaaa
namespace Go.Proofs.Ytefkhknfjohnaaa
open Go Go.RowKit
theorem step_pushF {P : Program} {α : Type} {f : α → Value} (t e : TypeId) (z : Value) (bytes : Nat) (ht : P.underlying t = some (.slice e)) (hinfo : (P.info? e).map (fun i => (i.zero, i.size, i.bytes)) = some (some z, 1, bytes)) (hz1 : z.cells.size = 1)
    {ops : Array Oper} {o : Oper} {A : Act} {K : Act → World → Prop} {Q : Exit → Act → World → Prop} {E : Prop} (hgd : o.guard = none) (s x : Operand)
    (ho : o.op = .call { callee := .builtin .append, args := #[s, x], argTypes := #[t, t] })
    (base : Nat) (v : Value) (acc : List α) (y : α) (hone : (f y).oneCell' = true) (w : World) (hsv : A.eval s = v) (hxv : A.eval x = .slice (some ⟨w.heap.size, 0, none⟩) 1 1)
    (hown : w.ownsRow base e 1 v acc.length (acc.map f)) (hm : acc.length + 1 ≤ maxLen) (hl : (acc.length + 1) * bytes ≤ 140737488355328) (hbase : base ≤ w.heap.size)
    (h : ∀ v' w', w'.ownsRow base e 1 v' (acc ++ [y]).length ((acc ++ [y]).map f) → w.grownBy w' v.ownBlock → (v'.ownBlock = v.ownBlock ∨ ∃ g, v'.ownBlock = some g ∧ w.heap.size ≤ g) → K (A.put o.dst v') w') :
    if Region.wanted o (yielded ops A.tmps) = true then Oper.wp P o A (w.alloc (.cells #[f y] e)) K Q else E := by
  have hw : Region.wanted o (yielded ops A.tmps) = true := by simp [Region.wanted, hgd]
  rw [if_pos hw]
  obtain ⟨v', w', hr, h2, h3, h4⟩ := run_pushF (P := P) t o.type e z bytes ht hinfo hz1 base v acc y hone w hown hm hl hbase
  unfold Oper.wp
  simp [execOp, ho, resolve, invoke, builtin, hsv, hxv, hr, Result.andThen]
  exact h v' w' h2 h3 h4
/-- A row that a call owns stays when another block turns. -/
theorem own_keep {base : Nat} {t : TypeId} {v : Value} {n : Nat} {vs : List Value} {w w' : World} {row : Option Nat} (h : w.ownsRow base t 1 v n vs) (hg : w.grownBy w' row) (hne : ∀ g, v.ownBlock = some g → row ≠ some g) : w'.ownsRow base t 1 v n vs := by
  refine World.ownsRow.kept (w := w) h hg ?_
  cases hv : v.ownBlock with
  | none => exact .inl rfl
  | some g => exact .inr (fun e => hne g hv e.symm)
end Go.Proofs.Ytefkhknfjohnaaa
namespace Go.Proofs.Ytefkhknfjohnaaa
open Go Go.RowKit
theorem own_lits {α : Type} {f : α → Value} (w : World) (base : Nat) (e : TypeId) (xs : List α) (hb : base ≤ w.heap.size) (hm : xs.length ≤ maxLen) : (w.alloc (.cells (xs.map f).toArray e)).ownsRow base e 1 (.slice (some ⟨w.heap.size, 0, none⟩) xs.length xs.length) xs.length (xs.map f) :=
  ⟨by simp, .inr ⟨w.heap.size, xs.length, (xs.map f).toArray, rfl, hb, heap_alloc_new w _, Nat.le_refl _, hm, by simp, by simp; exact List.take_of_length_le (by simp)⟩⟩
theorem own_below {base : Nat} {t : TypeId} {v : Value} {n : Nat} {vs : List Value} {w w' : World} (h : w.ownsRow base t 1 v n vs) (hb : Below w.heap.size w w') : w'.ownsRow base t 1 v n vs :=
  own_keep h (row := none) ⟨hb.os, hb.tape, hb.output, hb.size, fun k hk _ => hb.block k hk⟩ (fun g _ => by simp)
end Go.Proofs.Ytefkhknfjohnaaa
