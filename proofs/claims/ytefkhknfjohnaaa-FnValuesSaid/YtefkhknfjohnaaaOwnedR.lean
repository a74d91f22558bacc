/- Rules whose slices a call owns, each in a block of its own; slices of such rules. -/
import Derived.Test.YtefkhknfjohnaaaGPu
namespace Go.Proofs.Ytefkhknfjohnaaa
open Go Go.RowKit
/-- The block in which a slice lies, be it empty. -/
def blkO (v : Value) : List Nat := v.ownBlock.toList
theorem blkO_mem {v : Value} {b : Nat} : b ∈ blkO v ↔ v.ownBlock = some b := by unfold blkO; rw [Option.mem_toList]
theorem sub_blkO {v : Value} {b : Nat} (h : b ∈ sliceBlk v) : b ∈ blkO v := by
  cases v with
  | slice a n c =>
    cases a with
    | none => simp [sliceBlk] at h
    | some a =>
      by_cases hn : n = 0
      · simp [sliceBlk, hn] at h
      · simp only [sliceBlk, if_neg hn, List.mem_singleton] at h
        rw [blkO_mem, h]
        rfl
  | _ => simp [sliceBlk] at h
theorem sub_blks {cs : List Value} {b : Nat} (h : b ∈ cs.flatMap sliceBlk) : b ∈ cs.flatMap blkO := by
  obtain ⟨v, hv, hb⟩ := List.mem_flatMap.1 h
  exact List.mem_flatMap.2 ⟨v, hv, sub_blkO hb⟩
/-- Eight cells hold this rule; each slice may be appended to, in a block of its own. -/
def OwnedR (lo : Nat) (r : RuleV) (cs : List Value) (w : World) : Prop :=
  ∃ v4 v5 v6 v7, cs = [.string r.name, .int .i64 r.kind, .int .i64 r.size, .bool r.little, v4, v5, v6, v7] ∧
    w.ownsRow lo 5 1 v4 r.bytes.length (r.bytes.map bv) ∧ w.ownsRow lo 9 1 v5 r.names.length (r.names.map Value.string) ∧ w.ownsRow lo 3 1 v6 r.tags.length (r.tags.map (Value.int .i64)) ∧ w.ownsRow lo 3 1 v7 r.kids.length (r.kids.map (Value.int .i64)) ∧
    (blkO v4 ++ (blkO v5 ++ (blkO v6 ++ blkO v7))).Nodup
theorem blks_four (nm : ByteArray) (k s : Int) (l : Bool) (v4 v5 v6 v7 : Value) : ([.string nm, .int .i64 k, .int .i64 s, .bool l, v4, v5, v6, v7] : List Value).flatMap blkO = blkO v4 ++ (blkO v5 ++ (blkO v6 ++ blkO v7)) := by
  simp only [List.flatMap_cons, List.flatMap_nil, List.append_nil]
  rfl
theorem OwnedR.nodup {lo : Nat} {r : RuleV} {cs : List Value} {w : World} (h : OwnedR lo r cs w) : (cs.flatMap blkO).Nodup := by
  obtain ⟨v4, v5, v6, v7, rfl, _, _, _, _, hn⟩ := h
  rw [blks_four]
  exact hn
theorem OwnedR.lt {lo : Nat} {r : RuleV} {cs : List Value} {w : World} (h : OwnedR lo r cs w) : ∀ b ∈ cs.flatMap blkO, lo ≤ b ∧ b < w.heap.size := fun b hb => by
  obtain ⟨v4, v5, v6, v7, rfl, h4, h5, h6, h7, _⟩ := h
  rw [blks_four] at hb
  simp only [List.mem_append, blkO_mem] at hb
  rcases hb with hb | hb | hb | hb
  · exact World.ownsRow.lt h4 b hb
  · exact World.ownsRow.lt h5 b hb
  · exact World.ownsRow.lt h6 b hb
  · exact World.ownsRow.lt h7 b hb
theorem OwnedR.is {lo : Nat} {r : RuleV} {cs : List Value} {w : World} (h : OwnedR lo r cs w) : IsRule r cs w ∧ CapK cs := by
  obtain ⟨v4, v5, v6, v7, rfl, h4, h5, h6, h7, _⟩ := h
  obtain ⟨a4, c4, rfl, r4⟩ := OwnB.row h4
  obtain ⟨a5, c5, rfl, r5⟩ := own_row (f := Value.string) h5
  obtain ⟨a6, c6, rfl, r6⟩ := own_row (f := Value.int .i64) h6
  obtain ⟨a7, c7, rfl, r7⟩ := own_row (f := Value.int .i64) h7
  exact ⟨⟨a4, c4, a5, c5, a6, c6, a7, c7, rfl, r4.rd, r5.rd, r6.rd, r7.rd⟩, fun a n c h => by simp at h; obtain ⟨_, rfl, rfl⟩ := h; exact r5.2.1, fun a n c h => by simp at h; obtain ⟨_, rfl, rfl⟩ := h; exact r7.2.1⟩
theorem OwnedR.keep {lo : Nat} {r : RuleV} {cs : List Value} {w w' : World} {row : Option Nat} (h : OwnedR lo r cs w) (hg : w.grownBy w' row) (hne : ∀ b ∈ cs.flatMap blkO, row ≠ some b) : OwnedR lo r cs w' := by
  obtain ⟨v4, v5, v6, v7, rfl, h4, h5, h6, h7, hn⟩ := h
  rw [blks_four] at hne
  simp only [List.mem_append, blkO_mem] at hne
  exact ⟨v4, v5, v6, v7, rfl, own_keep h4 hg fun g e => hne g (.inl e), own_keep h5 hg fun g e => hne g (.inr (.inl e)), own_keep h6 hg fun g e => hne g (.inr (.inr (.inl e))), own_keep h7 hg fun g e => hne g (.inr (.inr (.inr e))), hn⟩
theorem own_mono {w : World} {base base' : Nat} {e : TypeId} {size : Nat} {v : Value} {n : Nat} {xs : List Value} (h : w.ownsRow base e size v n xs) (hb : base' ≤ base) : w.ownsRow base' e size v n xs := by
  refine ⟨h.1, ?_⟩
  rcases h.2 with h2 | ⟨g, cap, cur, e, hg, rest⟩
  · exact .inl h2
  · exact .inr ⟨g, cap, cur, e, Nat.le_trans hb hg, rest⟩
theorem OwnedR.mono {lo lo' : Nat} {r : RuleV} {cs : List Value} {w : World} (h : OwnedR lo r cs w) (hb : lo' ≤ lo) : OwnedR lo' r cs w := by
  obtain ⟨v4, v5, v6, v7, rfl, h4, h5, h6, h7, hn⟩ := h
  exact ⟨v4, v5, v6, v7, rfl, own_mono h4 hb, own_mono h5 hb, own_mono h6 hb, own_mono h7 hb, hn⟩
theorem own_none (w : World) (base : Nat) (e : TypeId) : w.ownsRow base e 1 (.slice none 0 0) 0 [] := World.ownsRow_nil w base e 1
theorem OwnedR.empty (lo : Nat) (nm : ByteArray) (kd sz : Int) (lt : Bool) (w : World) : OwnedR lo ⟨nm, kd, sz, lt, [], [], [], []⟩ [.string nm, .int .i64 kd, .int .i64 sz, .bool lt, .slice none 0 0, .slice none 0 0, .slice none 0 0, .slice none 0 0] w :=
  ⟨_, _, _, _, rfl, own_none _ _ _, own_none _ _ _, own_none _ _ _, own_none _ _ _, List.nodup_nil⟩
theorem nodup_one (v : Value) : (blkO v).Nodup := by
  unfold blkO
  cases v.ownBlock with
  | none => exact List.nodup_nil
  | some b => exact List.nodup_cons.2 ⟨by simp, List.nodup_nil⟩
theorem nodup_two {u v : Value} (h : ∀ g, u.ownBlock = some g → v.ownBlock ≠ some g) : (blkO u ++ blkO v).Nodup := by
  refine List.nodup_append.2 ⟨nodup_one u, nodup_one v, fun a ha b hb e => ?_⟩
  subst e
  exact h a (blkO_mem.1 ha) (blkO_mem.1 hb)
/-- .. with kids alone. -/
theorem OwnedR.kids {lo : Nat} {nm : ByteArray} {kd sz : Int} {lt : Bool} {ks : List Int} {v : Value} {w : World} (h : w.ownsRow lo 3 1 v ks.length (ks.map (Value.int .i64))) : OwnedR lo ⟨nm, kd, sz, lt, [], [], [], ks⟩ [.string nm, .int .i64 kd, .int .i64 sz, .bool lt, .slice none 0 0, .slice none 0 0, .slice none 0 0, v] w :=
  ⟨_, _, _, _, rfl, own_none _ _ _, own_none _ _ _, own_none _ _ _, h, nodup_one v⟩
theorem OwnedR.bytes {lo : Nat} {nm : ByteArray} {kd sz : Int} {lt : Bool} {bs : List UInt8} {v : Value} {w : World} (h : w.ownsRow lo 5 1 v bs.length (bs.map bv)) : OwnedR lo ⟨nm, kd, sz, lt, bs, [], [], []⟩ [.string nm, .int .i64 kd, .int .i64 sz, .bool lt, v, .slice none 0 0, .slice none 0 0, .slice none 0 0] w :=
  ⟨_, _, _, _, rfl, h, own_none _ _ _, own_none _ _ _, own_none _ _ _, by show (blkO v ++ []).Nodup; rw [List.append_nil]; exact nodup_one v⟩
theorem OwnedR.names {lo : Nat} {nm : ByteArray} {kd sz : Int} {lt : Bool} {ns : List ByteArray} {ks : List Int} {u v : Value} {w : World} (h5 : w.ownsRow lo 9 1 u ns.length (ns.map Value.string)) (h7 : w.ownsRow lo 3 1 v ks.length (ks.map (Value.int .i64))) (hd : ∀ g, u.ownBlock = some g → v.ownBlock ≠ some g) : OwnedR lo ⟨nm, kd, sz, lt, [], ns, [], ks⟩ [.string nm, .int .i64 kd, .int .i64 sz, .bool lt, .slice none 0 0, u, .slice none 0 0, v] w :=
  ⟨_, _, _, _, rfl, own_none _ _ _, h5, own_none _ _ _, h7, nodup_two hd⟩
theorem OwnedR.tags {lo : Nat} {nm : ByteArray} {kd sz : Int} {lt : Bool} {ns : List Int} {ks : List Int} {u v : Value} {w : World} (h6 : w.ownsRow lo 3 1 u ns.length (ns.map (Value.int .i64))) (h7 : w.ownsRow lo 3 1 v ks.length (ks.map (Value.int .i64))) (hd : ∀ g, u.ownBlock = some g → v.ownBlock ≠ some g) : OwnedR lo ⟨nm, kd, sz, lt, [], [], ns, ks⟩ [.string nm, .int .i64 kd, .int .i64 sz, .bool lt, .slice none 0 0, .slice none 0 0, u, v] w :=
  ⟨_, _, _, _, rfl, own_none _ _ _, own_none _ _ _, h6, h7, nodup_two hd⟩
/-- A slice of such rules that the call owns, all of its blocks below hi. -/
def RowO (base hi : Nat) (v : Value) (rs : List RuleV) (w : World) : Prop :=
  ∃ css : List (List Value), css.length = rs.length ∧ w.ownsRow base 76 8 v rs.length css.flatten ∧
    (∀ j (h : j < rs.length) (h' : j < css.length), OwnedR base rs[j] css[j] w) ∧ (v.ownBlock.toList ++ css.flatten.flatMap blkO).Nodup ∧ ∀ b ∈ v.ownBlock.toList ++ css.flatten.flatMap blkO, b < hi
theorem mem_flat {css : List (List Value)} {j : Nat} (h : j < css.length) {b : Nat} (hb : b ∈ css[j].flatMap blkO) : b ∈ css.flatten.flatMap blkO := by
  obtain ⟨v, hv, hb⟩ := List.mem_flatMap.1 hb
  exact List.mem_flatMap.2 ⟨v, List.mem_flatten.2 ⟨_, List.getElem_mem h, hv⟩, hb⟩
theorem own_ne {v : Value} {css : List (List Value)} (h : (v.ownBlock.toList ++ css.flatten.flatMap blkO).Nodup) {b : Nat} (hb : b ∈ css.flatten.flatMap blkO) : some b ≠ v.ownBlock := fun e => by
  have h1 := (List.nodup_append.1 h).2.2 b (by rw [← e]; simp) b hb
  exact h1 rfl
theorem RowO.row {base hi : Nat} {v : Value} {rs : List RuleV} {w : World} (h : RowO base hi v rs w) : RowR base v rs w := by
  obtain ⟨css, hl, ho, hr, hn, hb2⟩ := h
  exact ⟨css, hl, ho, fun j h1 h2 => ⟨(hr j h1 h2).is.1, (hr j h1 h2).is.2, fun b hb => ⟨((hr j h1 h2).lt b (sub_blks hb)).1, own_ne hn (mem_flat h2 (sub_blks hb))⟩⟩⟩
theorem RowO.start (base hi : Nat) (w : World) : RowO base hi (.slice none 0 0) [] w := ⟨[], rfl, ⟨rfl, .inl ⟨rfl, rfl⟩⟩, fun j h => by simp at h, List.nodup_nil, fun b hb => by cases hb⟩
theorem RowO.mono {base base' hi : Nat} {v : Value} {rs : List RuleV} {w : World} (h : RowO base hi v rs w) (hb : base' ≤ base) : RowO base' hi v rs w := by
  obtain ⟨css, hl, ho, hr, hn, hb2⟩ := h
  exact ⟨css, hl, own_mono ho hb, fun j h1 h2 => (hr j h1 h2).mono hb, hn, hb2⟩
theorem RowO.keep {base hi : Nat} {v : Value} {rs : List RuleV} {w w' : World} {row : Option Nat} (h : RowO base hi v rs w) (hg : w.grownBy w' row) (hne : ∀ b, base ≤ b → b < w.heap.size → row ≠ some b) : RowO base hi v rs w' := by
  obtain ⟨css, hl, ho, hr, hn, hb2⟩ := h
  refine ⟨css, hl, World.ownsRow.kept (w := w) ho hg ?_, fun j h1 h2 => (hr j h1 h2).keep hg fun b hb => hne b ((hr j h1 h2).lt b hb).1 ((hr j h1 h2).lt b hb).2, hn, hb2⟩
  cases hv : v.ownBlock with
  | none => exact .inl rfl
  | some g =>
    have := World.ownsRow.lt (w := w) ho g hv
    exact .inr (fun e => hne g this.1 this.2 e.symm)
theorem RowO.below {base hi : Nat} {v : Value} {rs : List RuleV} {w w' : World} (h : RowO base hi v rs w) (hb : Below w.heap.size w w') : RowO base hi v rs w' :=
  h.keep (row := none) ⟨hb.os, hb.tape, hb.output, hb.size, fun k hk _ => hb.block k hk⟩ (fun b _ _ => by simp)
theorem RowO.grown {base hi : Nat} {v : Value} {rs : List RuleV} {w w' : World} {c : Nat} (h : RowO base hi v rs w) (hg : w.grownBy w' (some c)) (hc : c < base) : RowO base hi v rs w' :=
  h.keep hg (fun b hb _ e => by injection e with e; omega)
theorem RowO.wide {base hi hi' : Nat} {v : Value} {rs : List RuleV} {w : World} (h : RowO base hi v rs w) (hb : hi ≤ hi') : RowO base hi' v rs w := by
  obtain ⟨css, hl, ho, hr, hn, hb2⟩ := h
  exact ⟨css, hl, ho, hr, hn, fun b hq => Nat.lt_of_lt_of_le (hb2 b hq) hb⟩
/-- One rule more. -/
theorem run_pushO (ty : TypeId) (base hi : Nat) (v : Value) (rs : List RuleV) (r : RuleV) (cs : List Value) (w : World) (hrow : RowO base hi v rs w) (hr : OwnedR base r cs w) (hne : ∀ b ∈ cs.flatMap blkO, hi ≤ b) (hl : rs.length ≤ 1048576) (hbase : base ≤ w.heap.size) :
    ∃ v' w', (Builtin.append_ #[36, 36] ty #[v, .slice (some ⟨w.heap.size, 0, none⟩) 1 1]).run Try.prog (w.alloc (.cells cs.toArray 76)) = .ok v' w' ∧ RowO base w'.heap.size v' (rs ++ [r]) w' ∧ w.grownBy w' v.ownBlock ∧
      (v'.ownBlock = v.ownBlock ∨ ∃ g, v'.ownBlock = some g ∧ w.heap.size ≤ g) := by
  obtain ⟨css, hcl, ho, hrs, hnd, hhi⟩ := hrow
  obtain ⟨i, hi, h⟩ := Option.map_eq_some_iff.1 infoRule
  simp only [Prod.mk.injEq] at h
  obtain ⟨hz, hsz, hby⟩ := h
  have h8 := hr.is.1.length
  obtain ⟨v', w', hrun, ho', hg, hw⟩ := run_append_where (P := Try.prog) (w.alloc (.cells cs.toArray 76)) base 36 ty 76 i _ 8 136 Try.underlying36 hi hz hsz hby rfl (by omega) v rs.length css.flatten (World.ownsRow.alloc ho _) ⟨w.heap.size, 0, none⟩ 1 1 cs (by omega)
    (fun j u hj => by
      rw [Addr.add_lit, Nat.zero_add]
      refine (World.cell?_alloc_mark w cs.toArray _ (0, 0) j).trans ?_
      simpa using hj)
    hr.is.1.one (by omega) (by unfold maxLen; omega) (by omega) (by simp; omega)
  have hgw : w.grownBy w' v.ownBlock := Lib.grownBy_trans (World.grownBy_alloc w _ _) hg
  have hown' : v'.ownBlock = v.ownBlock ∨ ∃ g, v'.ownBlock = some g ∧ w.heap.size ≤ g := by
    rcases hw with h | h
    · exact .inl h
    · exact .inr ⟨_, h, by simp⟩
  have hall : (v.ownBlock.toList ++ (css.flatten.flatMap blkO ++ cs.flatMap blkO)).Nodup := by
    rw [← List.append_assoc]
    exact List.nodup_append.2 ⟨hnd, hr.nodup, fun a ha b hb e => by have := hhi a ha; have := hne b hb; omega⟩
  have hold : ∀ b ∈ css.flatten.flatMap blkO ++ cs.flatMap blkO, b < w.heap.size ∧ v.ownBlock ≠ some b := fun b hb => by
    refine ⟨?_, fun e => ?_⟩
    · rcases List.mem_append.1 hb with hb | hb
      · obtain ⟨u, hu, hb⟩ := List.mem_flatMap.1 hb
        obtain ⟨q, hq, hu⟩ := List.mem_flatten.1 hu
        obtain ⟨j, hj, rfl⟩ := List.getElem_of_mem hq
        exact ((hrs j (by omega) hj).lt b (List.mem_flatMap.2 ⟨u, hu, hb⟩)).2
      · exact (hr.lt b hb).2
    · exact (List.nodup_append.1 hall).2.2 b (by rw [e]; simp) b hb rfl
  refine ⟨v', w', hrun, ⟨css ++ [cs], by simp [hcl], by simpa using ho', fun j h1 h2 => ?_, ?_, ?_⟩, hgw, hown'⟩
  · by_cases hj : j < rs.length
    · have hj2 : j < css.length := by omega
      rw [List.getElem_append_left hj, List.getElem_append_left hj2]
      exact (hrs j hj hj2).keep hgw fun b hb => (hold b (List.mem_append_left _ (mem_flat hj2 hb))).2
    · have e1 : j = rs.length := by simp at h1; omega
      have a1 : (rs ++ [r])[j] = r := by subst e1; simp
      have a2 : (css ++ [cs])[j] = cs := by
        have e2 : j = css.length := by omega
        subst e2; simp
      rw [a1, a2]
      exact hr.keep hgw fun b hb => (hold b (List.mem_append_right _ hb)).2
  · have e : (css ++ [cs]).flatten.flatMap blkO = css.flatten.flatMap blkO ++ cs.flatMap blkO := by simp
    rw [e]
    rcases hown' with h | ⟨g, h, hg2⟩
    · rw [h]; exact hall
    · rw [h]
      refine List.nodup_append.2 ⟨by simp, (List.nodup_append.1 hall).2.1, fun a ha b hb e => ?_⟩
      simp at ha
      have := (hold b hb).1
      omega
  · have e : (css ++ [cs]).flatten.flatMap blkO = css.flatten.flatMap blkO ++ cs.flatMap blkO := by simp
    rw [e]
    intro b hb
    rcases List.mem_append.1 hb with hb | hb
    · exact (World.ownsRow.lt (w := w') ho' b (by simpa using hb)).2
    · exact Nat.lt_of_lt_of_le (hold b hb).1 hgw.size
/-- .. as a step of a region that draws its order. -/
theorem step_pushO {ops : Array Oper} {o : Oper} {A : Act} {K : Act → World → Prop} {Q : Exit → Act → World → Prop} {E : Prop} (hgd : o.guard = none) (s x : Operand)
    (ho : o.op = .call { callee := .builtin .append, args := #[s, x], argTypes := #[36, 36] })
    (base hi : Nat) (v : Value) (rs : List RuleV) (r : RuleV) (cs : List Value) (w : World) (hsv : A.eval s = v) (hxv : A.eval x = .slice (some ⟨w.heap.size, 0, none⟩) 1 1)
    (hrow : RowO base hi v rs w) (hr : OwnedR base r cs w) (hne : ∀ b ∈ cs.flatMap blkO, hi ≤ b) (hl : rs.length ≤ 1048576) (hbase : base ≤ w.heap.size)
    (h : ∀ v' w', RowO base w'.heap.size v' (rs ++ [r]) w' → w.grownBy w' v.ownBlock → K (A.put o.dst v') w') :
    if Region.wanted o (yielded ops A.tmps) = true then Oper.wp Try.prog o A (w.alloc (.cells cs.toArray 76)) K Q else E := by
  have hw : Region.wanted o (yielded ops A.tmps) = true := by simp [Region.wanted, hgd]
  rw [if_pos hw]
  obtain ⟨v', w', hrun, h2, h3, _⟩ := run_pushO o.type base hi v rs r cs w hrow hr hne hl hbase
  unfold Oper.wp
  simp [execOp, ho, resolve, invoke, builtin, hsv, hxv, hrun, Result.andThen]
  exact h v' w' h2 h3
end Go.Proofs.Ytefkhknfjohnaaa
