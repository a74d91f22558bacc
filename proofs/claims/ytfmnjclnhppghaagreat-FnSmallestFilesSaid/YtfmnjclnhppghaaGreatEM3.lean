/- Rules whose slices a call owns, each in a block of its own; slices of such rules. -/
import Derived.Test.YtfmnjclnhppghaaGreatEGPu
import Derived.Test.YtfmnjclnhppghaaGreatEGBase
import Derived.Test.YtfmnjclnhppghaaGreatEGSz
import Derived.Deep.CutRange
set_option maxRecDepth 100000
namespace Go.Proofs.YtfmnjclnhppghaaGreat
open Go Go.RowKit
def blkO (v : Value) : List Nat := v.ownBlock.toList
theorem blkO_mem {v : Value} {b : Nat} : b ∈ blkO v ↔ v.ownBlock = some b := by unfold blkO; rw [Option.mem_toList]
theorem sub_blkO {v : Value} {b : Nat} (h : b ∈ sliceBlk v) : b ∈ blkO v := by
 cases v with
 | slice a n c =>
  cases a with
  | none => simp [sliceBlk] at h
  | some a =>
   by_cases hn : n = 0
   ·simp [sliceBlk, hn] at h
   ·simp only [sliceBlk, if_neg hn, List.mem_singleton] at h
    rw [blkO_mem, h]
    rfl
 | _ => simp [sliceBlk] at h
theorem sub_blks {cs : List Value} {b : Nat} (h : b ∈ cs.flatMap sliceBlk) : b ∈ cs.flatMap blkO := by
 obtain ⟨v, hv, hb⟩ := List.mem_flatMap.1 h
 exact List.mem_flatMap.2 ⟨v, hv, sub_blkO hb⟩
def OwnedR (lo : Nat) (r : RuleV) (cs : List Value) (w : World) : Prop :=
 ∃ v4 v5 v6 v7, cs = [.string r.name, .int .i64 r.kind, .int .i64 r.size, .bool r.little, v4, v5, v6, v7] ∧
  w.ownsRow lo 5 1 v4 r.bytes.length (r.bytes.map bv) ∧ w.ownsRow lo 9 1 v5 r.names.length (r.names.map Value.string) ∧ w.ownsRow lo 3 1 v6 r.tags.length (r.tags.map (Value.int .i64)) ∧ w.ownsRow lo 3 1 v7 r.kids.length (r.kids.map (Value.int .i64)) ∧
  (blkO v4 ++ (blkO v5 ++ (blkO v6 ++ blkO v7))).Nodup
theorem blks_four (nm : ByteArray) (k s : Int) (l : Bool) (v4 v5 v6 v7 : Value) : ([.string nm, .int .i64 k, .int .i64 s, .bool l, v4, v5, v6, v7] : List Value).flatMap blkO = blkO v4 ++ (blkO v5 ++ (blkO v6 ++ blkO v7)) := by
 simp only [List.flatMap_cons, List.flatMap_nil, List.append_nil]
 rfl
theorem OwnedR.nodup {lo : Nat} {r : RuleV} {cs : List Value} {w : World} (h : OwnedR lo r cs w) : (cs.flatMap blkO).Nodup := by
 obtain ⟨v4, v5, v6, v7, rfl, _, _, _, _, hn⟩ := h
 rw [blks_four]
 exact hn
theorem OwnedR.lt {lo : Nat} {r : RuleV} {cs : List Value} {w : World} (h : OwnedR lo r cs w) : ∀ b ∈ cs.flatMap blkO, lo ≤ b ∧ b < w.heap.size := fun b hb => by
 obtain ⟨v4, v5, v6, v7, rfl, h4, h5, h6, h7, _⟩ := h
 rw [blks_four] at hb
 simp only [List.mem_append, blkO_mem] at hb
 rcases hb with hb | hb | hb | hb
 ·exact World.ownsRow.lt h4 b hb
 ·exact World.ownsRow.lt h5 b hb
 ·exact World.ownsRow.lt h6 b hb
 ·exact World.ownsRow.lt h7 b hb
theorem OwnedR.is {lo : Nat} {r : RuleV} {cs : List Value} {w : World} (h : OwnedR lo r cs w) : IsRule r cs w ∧ CapK cs := by
 obtain ⟨v4, v5, v6, v7, rfl, h4, h5, h6, h7, _⟩ := h
 obtain ⟨a4, c4, rfl, r4⟩ := OwnB.row h4
 obtain ⟨a5, c5, rfl, r5⟩ := own_row (f := Value.string) h5
 obtain ⟨a6, c6, rfl, r6⟩ := own_row (f := Value.int .i64) h6
 obtain ⟨a7, c7, rfl, r7⟩ := own_row (f := Value.int .i64) h7
 exact ⟨⟨a4, c4, a5, c5, a6, c6, a7, c7, rfl, r4.rd, r5.rd, r6.rd, r7.rd⟩, fun a n c h => by simp at h; obtain ⟨_, rfl, rfl⟩ := h; exact r5.2.1, fun a n c h => by simp at h; obtain ⟨_, rfl, rfl⟩ := h; exact r7.2.1⟩
theorem OwnedR.keep {lo : Nat} {r : RuleV} {cs : List Value} {w w' : World} {row : Option Nat} (h : OwnedR lo r cs w) (hg : w.grownBy w' row) (hne : ∀ b ∈ cs.flatMap blkO, row ≠ some b) : OwnedR lo r cs w' := by
 obtain ⟨v4, v5, v6, v7, rfl, h4, h5, h6, h7, hn⟩ := h
 rw [blks_four] at hne
 simp only [List.mem_append, blkO_mem] at hne
 exact ⟨v4, v5, v6, v7, rfl, own_keep h4 hg fun g e => hne g (.inl e), own_keep h5 hg fun g e => hne g (.inr (.inl e)), own_keep h6 hg fun g e => hne g (.inr (.inr (.inl e))), own_keep h7 hg fun g e => hne g (.inr (.inr (.inr e))), hn⟩
theorem own_mono {w : World} {base base' : Nat} {e : TypeId} {size : Nat} {v : Value} {n : Nat} {xs : List Value} (h : w.ownsRow base e size v n xs) (hb : base' ≤ base) : w.ownsRow base' e size v n xs := by
 refine ⟨h.1, ?_⟩
 rcases h.2 with h2 | ⟨g, cap, cur, e, hg, rest⟩
 ·exact .inl h2
 ·exact .inr ⟨g, cap, cur, e, Nat.le_trans hb hg, rest⟩
theorem OwnedR.mono {lo lo' : Nat} {r : RuleV} {cs : List Value} {w : World} (h : OwnedR lo r cs w) (hb : lo' ≤ lo) : OwnedR lo' r cs w := by
 obtain ⟨v4, v5, v6, v7, rfl, h4, h5, h6, h7, hn⟩ := h
 exact ⟨v4, v5, v6, v7, rfl, own_mono h4 hb, own_mono h5 hb, own_mono h6 hb, own_mono h7 hb, hn⟩
theorem own_none (w : World) (base : Nat) (e : TypeId) : w.ownsRow base e 1 (.slice none 0 0) 0 [] := World.ownsRow_nil w base e 1
theorem OwnedR.empty (lo : Nat) (nm : ByteArray) (kd sz : Int) (lt : Bool) (w : World) : OwnedR lo ⟨nm, kd, sz, lt, [], [], [], []⟩ [.string nm, .int .i64 kd, .int .i64 sz, .bool lt, .slice none 0 0, .slice none 0 0, .slice none 0 0, .slice none 0 0] w :=
 ⟨_, _, _, _, rfl, own_none _ _ _, own_none _ _ _, own_none _ _ _, own_none _ _ _, List.nodup_nil⟩
theorem nodup_one (v : Value) : (blkO v).Nodup := by
 unfold blkO
 cases v.ownBlock with
 | none => exact List.nodup_nil
 | some b => exact List.nodup_cons.2 ⟨by simp, List.nodup_nil⟩
theorem nodup_two {u v : Value} (h : ∀ g, u.ownBlock = some g → v.ownBlock ≠ some g) : (blkO u ++ blkO v).Nodup := by
 refine List.nodup_append.2 ⟨nodup_one u, nodup_one v, fun a ha b hb e => ?_⟩
 subst e
 exact h a (blkO_mem.1 ha) (blkO_mem.1 hb)
theorem OwnedR.kids {lo : Nat} {nm : ByteArray} {kd sz : Int} {lt : Bool} {ks : List Int} {v : Value} {w : World} (h : w.ownsRow lo 3 1 v ks.length (ks.map (Value.int .i64))) : OwnedR lo ⟨nm, kd, sz, lt, [], [], [], ks⟩ [.string nm, .int .i64 kd, .int .i64 sz, .bool lt, .slice none 0 0, .slice none 0 0, .slice none 0 0, v] w :=
 ⟨_, _, _, _, rfl, own_none _ _ _, own_none _ _ _, own_none _ _ _, h, nodup_one v⟩
theorem OwnedR.bytes {lo : Nat} {nm : ByteArray} {kd sz : Int} {lt : Bool} {bs : List UInt8} {v : Value} {w : World} (h : w.ownsRow lo 5 1 v bs.length (bs.map bv)) : OwnedR lo ⟨nm, kd, sz, lt, bs, [], [], []⟩ [.string nm, .int .i64 kd, .int .i64 sz, .bool lt, v, .slice none 0 0, .slice none 0 0, .slice none 0 0] w :=
 ⟨_, _, _, _, rfl, h, own_none _ _ _, own_none _ _ _, own_none _ _ _, by show (blkO v ++ []).Nodup; rw [List.append_nil]; exact nodup_one v⟩
theorem OwnedR.names {lo : Nat} {nm : ByteArray} {kd sz : Int} {lt : Bool} {ns : List ByteArray} {ks : List Int} {u v : Value} {w : World} (h5 : w.ownsRow lo 9 1 u ns.length (ns.map Value.string)) (h7 : w.ownsRow lo 3 1 v ks.length (ks.map (Value.int .i64))) (hd : ∀ g, u.ownBlock = some g → v.ownBlock ≠ some g) : OwnedR lo ⟨nm, kd, sz, lt, [], ns, [], ks⟩ [.string nm, .int .i64 kd, .int .i64 sz, .bool lt, .slice none 0 0, u, .slice none 0 0, v] w :=
 ⟨_, _, _, _, rfl, own_none _ _ _, h5, own_none _ _ _, h7, nodup_two hd⟩
theorem OwnedR.tags {lo : Nat} {nm : ByteArray} {kd sz : Int} {lt : Bool} {ns : List Int} {ks : List Int} {u v : Value} {w : World} (h6 : w.ownsRow lo 3 1 u ns.length (ns.map (Value.int .i64))) (h7 : w.ownsRow lo 3 1 v ks.length (ks.map (Value.int .i64))) (hd : ∀ g, u.ownBlock = some g → v.ownBlock ≠ some g) : OwnedR lo ⟨nm, kd, sz, lt, [], [], ns, ks⟩ [.string nm, .int .i64 kd, .int .i64 sz, .bool lt, .slice none 0 0, .slice none 0 0, u, v] w :=
 ⟨_, _, _, _, rfl, own_none _ _ _, own_none _ _ _, h6, h7, nodup_two hd⟩
def RowO (base hi : Nat) (v : Value) (rs : List RuleV) (w : World) : Prop :=
 ∃ css : List (List Value), css.length = rs.length ∧ w.ownsRow base 47 8 v rs.length css.flatten ∧
  (∀ j (h : j < rs.length) (h' : j < css.length), OwnedR base rs[j] css[j] w) ∧ (v.ownBlock.toList ++ css.flatten.flatMap blkO).Nodup ∧ ∀ b ∈ v.ownBlock.toList ++ css.flatten.flatMap blkO, b < hi
theorem mem_flat {css : List (List Value)} {j : Nat} (h : j < css.length) {b : Nat} (hb : b ∈ css[j].flatMap blkO) : b ∈ css.flatten.flatMap blkO := by
 obtain ⟨v, hv, hb⟩ := List.mem_flatMap.1 hb
 exact List.mem_flatMap.2 ⟨v, List.mem_flatten.2 ⟨_, List.getElem_mem h, hv⟩, hb⟩
theorem own_ne {v : Value} {css : List (List Value)} (h : (v.ownBlock.toList ++ css.flatten.flatMap blkO).Nodup) {b : Nat} (hb : b ∈ css.flatten.flatMap blkO) : some b ≠ v.ownBlock := fun e => by
 have h1 := (List.nodup_append.1 h).2.2 b (by rw [← e]; simp) b hb
 exact h1 rfl
theorem RowO.row {base hi : Nat} {v : Value} {rs : List RuleV} {w : World} (h : RowO base hi v rs w) : RowR base v rs w := by
 obtain ⟨css, hl, ho, hr, hn, hb2⟩ := h
 exact ⟨css, hl, ho, fun j h1 h2 => ⟨(hr j h1 h2).is.1, (hr j h1 h2).is.2, fun b hb => ⟨((hr j h1 h2).lt b (sub_blks hb)).1, own_ne hn (mem_flat h2 (sub_blks hb))⟩⟩⟩
theorem RowO.start (base hi : Nat) (w : World) : RowO base hi (.slice none 0 0) [] w := ⟨[], rfl, ⟨rfl, .inl ⟨rfl, rfl⟩⟩, fun j h => by simp at h, List.nodup_nil, fun b hb => by cases hb⟩
theorem RowO.mono {base base' hi : Nat} {v : Value} {rs : List RuleV} {w : World} (h : RowO base hi v rs w) (hb : base' ≤ base) : RowO base' hi v rs w := by
 obtain ⟨css, hl, ho, hr, hn, hb2⟩ := h
 exact ⟨css, hl, own_mono ho hb, fun j h1 h2 => (hr j h1 h2).mono hb, hn, hb2⟩
theorem RowO.keep {base hi : Nat} {v : Value} {rs : List RuleV} {w w' : World} {row : Option Nat} (h : RowO base hi v rs w) (hg : w.grownBy w' row) (hne : ∀ b, base ≤ b → b < w.heap.size → row ≠ some b) : RowO base hi v rs w' := by
 obtain ⟨css, hl, ho, hr, hn, hb2⟩ := h
 refine ⟨css, hl, World.ownsRow.kept (w := w) ho hg ?_, fun j h1 h2 => (hr j h1 h2).keep hg fun b hb => hne b ((hr j h1 h2).lt b hb).1 ((hr j h1 h2).lt b hb).2, hn, hb2⟩
 cases hv : v.ownBlock with
 | none => exact .inl rfl
 | some g =>
  have := World.ownsRow.lt (w := w) ho g hv
  exact .inr (fun e => hne g this.1 this.2 e.symm)
theorem RowO.below {base hi : Nat} {v : Value} {rs : List RuleV} {w w' : World} (h : RowO base hi v rs w) (hb : Below w.heap.size w w') : RowO base hi v rs w' :=
 h.keep (row := none) ⟨hb.os, hb.tape, hb.output, hb.size, fun k hk _ => hb.block k hk⟩ (fun b _ _ => by simp)
theorem RowO.grown {base hi : Nat} {v : Value} {rs : List RuleV} {w w' : World} {c : Nat} (h : RowO base hi v rs w) (hg : w.grownBy w' (some c)) (hc : c < base) : RowO base hi v rs w' :=
 h.keep hg (fun b hb _ e => by injection e with e; omega)
theorem RowO.wide {base hi hi' : Nat} {v : Value} {rs : List RuleV} {w : World} (h : RowO base hi v rs w) (hb : hi ≤ hi') : RowO base hi' v rs w := by
 obtain ⟨css, hl, ho, hr, hn, hb2⟩ := h
 exact ⟨css, hl, ho, hr, hn, fun b hq => Nat.lt_of_lt_of_le (hb2 b hq) hb⟩
theorem run_pushO (ty : TypeId) (base hi : Nat) (v : Value) (rs : List RuleV) (r : RuleV) (cs : List Value) (w : World) (hrow : RowO base hi v rs w) (hr : OwnedR base r cs w) (hne : ∀ b ∈ cs.flatMap blkO, hi ≤ b) (hl : rs.length ≤ 1048576) (hbase : base ≤ w.heap.size) :
  ∃ v' w', (Builtin.append_ #[24, 24] ty #[v, .slice (some ⟨w.heap.size, 0, none⟩) 1 1]).run Tryz.prog (w.alloc (.cells cs.toArray 47)) = .ok v' w' ∧ RowO base w'.heap.size v' (rs ++ [r]) w' ∧ w.grownBy w' v.ownBlock ∧
   (v'.ownBlock = v.ownBlock ∨ ∃ g, v'.ownBlock = some g ∧ w.heap.size ≤ g) := by
 obtain ⟨css, hcl, ho, hrs, hnd, hhi⟩ := hrow
 obtain ⟨i, hi, h⟩ := Option.map_eq_some_iff.1 infoRule
 simp only [Prod.mk.injEq] at h
 obtain ⟨hz, hsz, hby⟩ := h
 have h8 := hr.is.1.length
 obtain ⟨v', w', hrun, ho', hg, hw⟩ := run_append_where (P := Tryz.prog) (w.alloc (.cells cs.toArray 47)) base 24 ty 47 i _ 8 136 Tryz.underlying24 hi hz hsz hby rfl (by omega) v rs.length css.flatten (World.ownsRow.alloc ho _) ⟨w.heap.size, 0, none⟩ 1 1 cs (by omega)
  (fun j u hj => by
   rw [Addr.add_lit, Nat.zero_add]
   refine (World.cell?_alloc_mark w cs.toArray _ (0, 0) j).trans ?_
   simpa using hj)
  hr.is.1.one (by omega) (by unfold maxLen; omega) (by omega) (by simp; omega)
 have hgw : w.grownBy w' v.ownBlock := Lib.grownBy_trans (World.grownBy_alloc w _ _) hg
 have hown' : v'.ownBlock = v.ownBlock ∨ ∃ g, v'.ownBlock = some g ∧ w.heap.size ≤ g := by
  rcases hw with h | h
  ·exact .inl h
  ·exact .inr ⟨_, h, by simp⟩
 have hall : (v.ownBlock.toList ++ (css.flatten.flatMap blkO ++ cs.flatMap blkO)).Nodup := by
  rw [← List.append_assoc]
  exact List.nodup_append.2 ⟨hnd, hr.nodup, fun a ha b hb e => by have := hhi a ha; have := hne b hb; omega⟩
 have hold : ∀ b ∈ css.flatten.flatMap blkO ++ cs.flatMap blkO, b < w.heap.size ∧ v.ownBlock ≠ some b := fun b hb => by
  refine ⟨?_, fun e => ?_⟩
  ·rcases List.mem_append.1 hb with hb | hb
   ·obtain ⟨u, hu, hb⟩ := List.mem_flatMap.1 hb
    obtain ⟨q, hq, hu⟩ := List.mem_flatten.1 hu
    obtain ⟨j, hj, rfl⟩ := List.getElem_of_mem hq
    exact ((hrs j (by omega) hj).lt b (List.mem_flatMap.2 ⟨u, hu, hb⟩)).2
   ·exact (hr.lt b hb).2
  ·exact (List.nodup_append.1 hall).2.2 b (by rw [e]; simp) b hb rfl
 refine ⟨v', w', hrun, ⟨css ++ [cs], by simp [hcl], by simpa using ho', fun j h1 h2 => ?_, ?_, ?_⟩, hgw, hown'⟩
 ·by_cases hj : j < rs.length
  ·have hj2 : j < css.length := by omega
   rw [List.getElem_append_left hj, List.getElem_append_left hj2]
   exact (hrs j hj hj2).keep hgw fun b hb => (hold b (List.mem_append_left _ (mem_flat hj2 hb))).2
  ·have e1 : j = rs.length := by simp at h1; omega
   have a1 : (rs ++ [r])[j] = r := by subst e1; simp
   have a2 : (css ++ [cs])[j] = cs := by
    have e2 : j = css.length := by omega
    subst e2; simp
   rw [a1, a2]
   exact hr.keep hgw fun b hb => (hold b (List.mem_append_right _ hb)).2
 ·have e : (css ++ [cs]).flatten.flatMap blkO = css.flatten.flatMap blkO ++ cs.flatMap blkO := by simp
  rw [e]
  rcases hown' with h | ⟨g, h, hg2⟩
  ·rw [h]; exact hall
  ·rw [h]
   refine List.nodup_append.2 ⟨by simp, (List.nodup_append.1 hall).2.1, fun a ha b hb e => ?_⟩
   simp at ha
   have := (hold b hb).1
   omega
 ·have e : (css ++ [cs]).flatten.flatMap blkO = css.flatten.flatMap blkO ++ cs.flatMap blkO := by simp
  rw [e]
  intro b hb
  rcases List.mem_append.1 hb with hb | hb
  ·exact (World.ownsRow.lt (w := w') ho' b (by simpa using hb)).2
  ·exact Nat.lt_of_lt_of_le (hold b hb).1 hgw.size
theorem step_pushO {ops : Array Oper} {o : Oper} {A : Act} {K : Act → World → Prop} {Q : Exit → Act → World → Prop} {E : Prop} (hgd : o.guard = none) (s x : Operand)
  (ho : o.op = .call { callee := .builtin .append, args := #[s, x], argTypes := #[24, 24] })
  (base hi : Nat) (v : Value) (rs : List RuleV) (r : RuleV) (cs : List Value) (w : World) (hsv : A.eval s = v) (hxv : A.eval x = .slice (some ⟨w.heap.size, 0, none⟩) 1 1)
  (hrow : RowO base hi v rs w) (hr : OwnedR base r cs w) (hne : ∀ b ∈ cs.flatMap blkO, hi ≤ b) (hl : rs.length ≤ 1048576) (hbase : base ≤ w.heap.size)
  (h : ∀ v' w', RowO base w'.heap.size v' (rs ++ [r]) w' → w.grownBy w' v.ownBlock → K (A.put o.dst v') w') :
  if Region.wanted o (yielded ops A.tmps) = true then Oper.wp Tryz.prog o A (w.alloc (.cells cs.toArray 47)) K Q else E := by
 have hw : Region.wanted o (yielded ops A.tmps) = true := by simp [Region.wanted, hgd]
 rw [if_pos hw]
 obtain ⟨v', w', hrun, h2, h3, _⟩ := run_pushO o.type base hi v rs r cs w hrow hr hne hl hbase
 unfold Oper.wp
 simp [execOp, ho, resolve, invoke, builtin, hsv, hxv, hrun, Result.andThen]
 exact h v' w' h2 h3
end Go.Proofs.YtfmnjclnhppghaaGreat

/- Drawing rules: an earlier rule that is an integer (l4Integer). The contract of the model's FormatInt. Drawing rules: one more rule (l4Make): what is promised. A drawn sequence between two parts. The names of drawn rules and of drawn parts are names, and differ. No program is walked here. A drawn choice between two alternatives. -/
namespace Go.Proofs.YtfmnjclnhppghaaGreat
open Go Go.RowKit
theorem int_drawC (a : Option Addr) (len cap c g capz : Nat) (zs : List Int) (w : World) (hl : len ≤ 140737488355328) (h1 : 1 ≤ zs.length) (h2 : zs.length ≤ 100000) (hc : Cur a len cap c w) (hg : g ≠ c)
  (hz : ∀ j, j < zs.length → w.cell? ⟨g, j, none⟩ = some (.int .i64 (zs.getD j 0))) :
  Calls Tryz.prog 96 #[.pointer (some ⟨c, 0, none⟩), .slice (some ⟨g, 0, none⟩) zs.length capz] w (DrawOut (fun x => x ∈ zs) a len cap c w) := by
 have HC := kq hc
 have HZ := kq hz
 clear hc hz
 go_enter Tryz.func96, Tryz.ntmps96
 go_wp2_with fail
 refine (below_draw a len cap c (zs.length : Int) _ hl (by omega) (by omega) HC.out).mono ?_
 rintro e w1 ⟨x, ⟨x0, x1⟩, rfl, hc1, hg1⟩
 have HC1 := kq hc1
 have HG1 := kq hg1
 clear hc1 hg1
 obtain ⟨k, rfl⟩ : ∃ k : Nat, x = (k : Int) := ⟨x.toNat, by omega⟩
 have hk : k < zs.length := by omega
 have hcell : w1.cell? ⟨g, k, none⟩ = some (.int .i64 (zs.getD k 0)) := HG1.out.cell (HZ.out k hk) (by simpa using hg)
 go_wp2_with fail
 go_ret
 refine ⟨_, ?_, rfl, HC1.out, HG1.out⟩
 simp
def IntAt (rs : List RuleV) (x : Int) : Prop := ∃ (n : Nat) (h : n < rs.length), x = (n : Int) ∧ rs[n].kind = 1
theorem grown_of {w w' : World} {c : Nat} (h : Below w.heap.size w w') : w.grownBy w' (some c) := ⟨h.os, h.tape, h.output, h.size, fun k hk _ => h.block k hk⟩
set_option maxHeartbeats 1000000 in
theorem integer_draw (a : Option Addr) (len cap c : Nat) (ad : Option Addr) (rs : List RuleV) (capd : Nat) (w : World) (hl : len ≤ 140737488355328) (hrs : rs.length ≤ 1000) (h0 : 0 < rs.length) (hk0 : rs[0].kind = 1) (hrd : RdR ad rs w) (hc : Cur a len cap c w) :
  Calls Tryz.prog 136 #[.pointer (some ⟨c, 0, none⟩), .agg #[.slice ad rs.length capd]] w (DrawOut (IntAt rs) a len cap c w) := by
 obtain ⟨w0, hw0⟩ : ∃ w0, w0 = w.alloc (.cells #[.slice ad rs.length capd] 26) := ⟨_, rfl⟩
 have hB0 : Below w.heap.size w w0 := by subst hw0; exact (Below.refl _ _).alloc (Nat.le_refl _) _
 have hX0 : CellsAt w.heap.size [.slice ad rs.length capd] w0 := by subst hw0; exact CellsAt.new w _ _
 have HB0 := kq hB0
 have HX0 := kq hX0
 have HR := kq (hrd.below hB0)
 have HC := kq hc
 have hclt := hc.lt
 have hs0 : Hid (w0.heap.size = w.heap.size + 1) := by subst hw0; exact World.size_alloc _ _
 have hW := kq hw0
 have HK0 := kq hk0
 clear hrd hc hB0 hX0 hw0 hk0
 go_enter Tryz.func136, Tryz.ntmps136
 go_wp2
 rw [← hW.out]
 go_loopw [5, 6] (fun v i W => ∃ (k : Nat) (zs : List Int) (v0 : Value), k ≤ rs.length ∧ i = .int .i64 k ∧ v0 = v ∧ Hid (W.ownsRow w0.heap.size 3 1 v0 zs.length (zs.map (Value.int .i64))) ∧ Hid (∀ x ∈ zs, IntAt rs x) ∧ Hid (0 < k → zs ≠ []) ∧ zs.length ≤ k ∧ Hid (Below w0.heap.size w0 W)) (fun _ i _ => rs.length - (intOf i).toNat)
 case atStart =>
  refine ⟨0, [], _, Nat.zero_le _, rfl, rfl, ?_, fun x hx => by simp at hx, fun h => by omega, Nat.le_refl _, (Below.refl _ _).alloc (Nat.le_refl _) _⟩
  have hz : w0.heap.size = w.heap.size + 1 := hs0.out
  rw [← hz]
  exact World.ownsRow_made w0 #[] 0 (Nat.le_refl _) (Nat.zero_le _) rfl
 case round =>
  obtain ⟨k, zs, v0, hk, rfl, rfl, ho, hin, hne, hlen, hbw⟩ := hrel
  have k0 : (0 : Int) ≤ (k : Int) := by omega
  have bx := (HX0.out.below hbw.out 0 _ rfl).1
  by_cases hlt : k < rs.length
  ·have k1 : (k : Int) < (rs.length : Int) := by omega
   obtain ⟨b, off, _, _, _, _, _, _, _, _, rfl, ⟨-, d1, -⟩, -⟩ := (HR.out.below hbw.out).at k hlt
   by_cases hkd : rs[k].kind = 1
   ·have hin2 : Hid (∀ x ∈ zs ++ [(k : Int)], IntAt rs x) := fun x hx => by
     rcases List.mem_append.1 hx with hx | hx
     ·exact hin.out x hx
     ·simp at hx
      exact ⟨k, hlt, hx, hkd⟩
    rw [hkd] at d1
    clear hkd
    go_wp2_with (at_builtin; refine wp_pushF 45 3 (.int .i64 0) 8 Tryz.underlying45 infoInt rfl rfl (.tmp 22) (.tmp 24) rfl w0.heap.size v0 zs (k : Int) rfl wr (by simp [Act.eval]) (by simp [Act.eval]) ho.out (by unfold maxLen; omega) (by omega) hbw.out.size ?_)
    intro v' w' hown hgrow _
    have ho2 : Hid (w'.ownsRow w0.heap.size 3 1 v' (zs ++ [(k : Int)]).length ((zs ++ [(k : Int)]).map (Value.int .i64))) := by show World.ownsRow _ _ _ _ _ _ _; simpa using hown
    have hb2 := kq (hbw.out.grown hgrow hbw.out.size fun g hg => (World.ownsRow.lt (w := wr) ho.out g hg).1)
    clear hown hgrow
    go_wp2
    go_roundw
    case rel => exact ⟨k + 1, zs ++ [(k : Int)], v', by omega, by go_num, rfl, ho2, hin2, fun _ => by simp, by simp; omega, hb2⟩
    case measure => simp [intOf]; omega
   ·have g1 : (rs[k].kind == 1) = false := by simpa using hkd
    have hne2 : Hid (0 < k + 1 → zs ≠ []) := fun _ => by
     refine hne.out ?_
     rcases Nat.eq_zero_or_pos k with e | e
     ·subst e; exact absurd HK0.out hkd
     ·exact e
    generalize rs[k].kind = kd at d1 g1
    clear hkd
    go_wp2
    go_roundw
    case rel => exact ⟨k + 1, zs, v0, by omega, by go_num, rfl, ho, hin, hne2, by omega, hbw⟩
    case measure => simp [intOf]; omega
  ·have k1 : ¬ (k : Int) < (rs.length : Int) := by omega
   have hz1 : 1 ≤ zs.length := by
    have := hne.out (by omega)
    cases zs with
    | nil => exact absurd rfl this
    | cons _ _ => simp
   have hBW : Below w.heap.size w wr := HB0.out.trans (hbw.out.mono HB0.out.size)
   have HCW := kq (HC.out.below hBW)
   have HGW : Hid (w.grownBy wr (some c)) := grown_of hBW
   have hoo := ho.out
   rcases hoo.2 with ⟨_, hn⟩ | ⟨g, capz, cur, rfl, hbg, _⟩
   ·omega
   ·have hcells : Hid (∀ q, q < zs.length → wr.cell? ⟨g, q, none⟩ = some (.int .i64 (zs.getD q 0))) := fun q hq => by
     rw [hoo.cellAt q (by omega)]
     simp [hq]
    have hgc : g ≠ c := by have := hs0.out; omega
    clear hoo hBW
    go_wp2_with fail
    refine (int_drawC a len cap c g capz zs _ hl hz1 (by omega) HCW.out hgc hcells.out).mono ?_
    rintro e w2 ⟨x, hx, rfl, hc2, hg2⟩
    have hx2 := kq (hin.out x hx)
    have HC2 := kq hc2
    have HG2 := kq (Lib.grownBy_trans HGW.out hg2)
    clear hx hc2 hg2
    go_wp2
    go_ret
    exact ⟨x, hx2.out, rfl, HC2.out, HG2.out⟩
theorem Cur.put {a : Option Addr} {len cap c q i : Nat} {v : Value} {w : World} (h : Cur a len cap c w) (hq : q ≠ c) (hs : ∀ b off, a = some ⟨b, off, none⟩ → 0 < len → b ≠ q) : Cur a len cap c (w.setCell ⟨q, i, none⟩ v) := by
 obtain ⟨k, x, hk, c0, c1, c2, f1, f2, hsrc⟩ := h
 have other : ∀ {p : Addr} {u : Value}, w.cell? p = some u → p.block ≠ q → (w.setCell ⟨q, i, none⟩ v).cell? p = some u := fun hp hne => (World.cell?_setCell_other _ _ _ _ (fun e => hne (by rw [← e]))).trans hp
 refine ⟨k, x, hk, other c0 (fun e => hq e.symm), other c1 (fun e => hq e.symm), other c2 (fun e => hq e.symm), by simpa using f1, by simpa using f2, fun j hj => ?_⟩
 obtain ⟨b, off, y, ha, hne, hy, hc⟩ := hsrc j hj
 exact ⟨b, off, y, ha, hne, hy, other hc (hs b off ha (by omega))⟩
theorem Cur.old {a : Option Addr} {len cap c : Nat} {w : World} (h : Cur a len cap c w) : ∀ b off, a = some ⟨b, off, none⟩ → 0 < len → b < w.heap.size := fun b off ha hl => by
 obtain ⟨k, x, hk, c0, c1, c2, f1, f2, hsrc⟩ := h
 obtain ⟨b', off', y, ha', hne, hy, hc⟩ := hsrc 0 hl
 rw [ha] at ha'
 injection ha' with ha'
 injection ha' with e
 subst e
 exact cell_lt hc
theorem grown_put {w w' : World} {c q i : Nat} {v : Value} (h : w.grownBy w' (some c)) (hq : w.heap.size ≤ q) : w.grownBy (w'.setCell ⟨q, i, none⟩ v) (some c) := by
 have hs := grown_set (grown_refl w' q) i v
 exact ⟨hs.os.trans h.os, hs.tape.trans h.tape, hs.output.trans h.output, Nat.le_trans h.size hs.size, fun k hk hne => (hs.block k (Nat.lt_of_lt_of_le hk h.size) (by intro e; injection e with e; omega)).trans (h.block k hk hne)⟩
theorem fmt_pos (n : Int) (w : World) (h0 : 0 < n) (h1 : n ≤ 9223372036854775807) :
  Calls Tryz.prog 134 #[.int .i64 n] w fun e w' => e = .returned (.string ⟨(Lib.itoa n).toArray⟩) ∧ Below w.heap.size w w' := by
 have hn : (n == 0) = false := by simp; omega
 go_enter Tryz.func134, Tryz.ntmps134
 go_wp2
 go_loopw [3, 4, 5] (fun s x d W => ∃ (m : Int) (l : List UInt8), 0 ≤ m ∧ m ≤ n ∧ x = .int .i64 m ∧ s = .string ⟨l.toArray⟩ ∧ Hid (digs m.natAbs ++ l = digs n.natAbs) ∧ Below w.heap.size w W) (fun _ x _ _ => (intOf x).toNat)
 case atStart => exact ⟨n, [], by omega, by omega, rfl, rfl, List.append_nil _, Below.refl _ _⟩
 case round =>
  obtain ⟨m, l, hm0, hm1, rfl, rfl, hl, hb⟩ := hrel
  by_cases hz : m = 0
  ·subst hz
   have hnn : 0 ≤ n := by omega
   go_wp2
   go_ret
   refine ⟨?_, hb⟩
   rw [itoa_pos h0, ← hl.out]; rfl
  ·have hne : (m != 0) = true := by simp; omega
   have hlen : l.length ≤ 20 := rest_length hl.out (by omega)
   have a1 : 0 ≤ m % 10 := by omega
   have a2 : m % 10 < 10 := by omega
   have a3 : 0 ≤ m / 10 := by omega
   have a4 : m / 10 < m := by omega
   have hl' := digs_next (by omega) hl
   have hc := conv_one wr (m % 10)
   have hadd := add_one (wr.alloc (.cells #[.int .u8 (48 + m % 10)] 5)) (dgt (m % 10)) l hlen
   go_wp2
   go_roundw
   case rel => exact ⟨m / 10, dgt (m % 10) :: l, by omega, by omega, rfl, rfl, hl', hb.alloc hb.size _⟩
   case measure => simp [intOf]; omega
theorem digs_next_neg {m : Int} {l : List UInt8} {u : Nat} (h0 : m < 0) (h : Hid (digs m.natAbs ++ l = digs u)) : Hid (digs (m.tdiv 10).natAbs ++ dgt (-m.tmod 10) :: l = digs u) := by
 have h' := h.out
 have e1 : m.tdiv 10 = -(((-m) / 10 : Int)) := by
  rw [show m = -(-m) by omega, Int.neg_tdiv, Int.tdiv_eq_ediv_of_nonneg (by omega), show - -(-m) = -m by omega]
 have e2 : m.tmod 10 = -(((-m) % 10 : Int)) := by
  rw [show m = -(-m) by omega, Int.neg_tmod, Int.tmod_eq_emod_of_nonneg (by omega), show - -(-m) = -m by omega]
 rw [digs_step (by omega)] at h'
 rw [e1, e2]
 rw [show m.natAbs / 10 = (-((-m) / 10)).natAbs by omega, show 48 + m.natAbs % 10 = (48 + - -((-m) % 10)).toNat by omega, List.append_assoc] at h'
 exact h'
theorem tm_bounds {m : Int} (h : m < 0) : -10 < m.tmod 10 ∧ m.tmod 10 ≤ 0 ∧ m < m.tdiv 10 ∧ m.tdiv 10 ≤ 0 := by
 have e1 : m.tdiv 10 = -(((-m) / 10 : Int)) := by
  rw [show m = -(-m) by omega, Int.neg_tdiv, Int.tdiv_eq_ediv_of_nonneg (by omega), show - -(-m) = -m by omega]
 have e2 : m.tmod 10 = -(((-m) % 10 : Int)) := by
  rw [show m = -(-m) by omega, Int.neg_tmod, Int.tmod_eq_emod_of_nonneg (by omega), show - -(-m) = -m by omega]
 rw [e1, e2]; omega
theorem add_sign (W : World) (l : List UInt8) (h : l.length ≤ 20) :
  (Op.stringOp .add ⟨#[45]⟩ ⟨l.toArray⟩).run Tryz.prog W = .ok (.string ⟨(45 :: l).toArray⟩) W := add_one W 45 l h
theorem fmt_neg (n : Int) (w : World) (h0 : n < 0) (h1 : -9223372036854775808 ≤ n) :
  Calls Tryz.prog 134 #[.int .i64 n] w fun e w' => e = .returned (.string ⟨(Lib.itoa n).toArray⟩) ∧ Below w.heap.size w w' := by
 have hn : (n == 0) = false := by simp; omega
 go_enter Tryz.func134, Tryz.ntmps134
 go_wp2
 go_loopw [3, 4, 5] (fun s x d W => ∃ (m : Int) (l : List UInt8), m ≤ 0 ∧ n ≤ m ∧ x = .int .i64 m ∧ s = .string ⟨l.toArray⟩ ∧ Hid (digs m.natAbs ++ l = digs n.natAbs) ∧ Below w.heap.size w W) (fun _ x _ _ => (-intOf x).toNat)
 case atStart => exact ⟨n, [], by omega, by omega, rfl, rfl, List.append_nil _, Below.refl _ _⟩
 case round =>
  obtain ⟨m, l, hm0, hm1, rfl, rfl, hl, hb⟩ := hrel
  have hlen : l.length ≤ 20 := rest_length hl.out (by omega)
  by_cases hz : m = 0
  ·subst hz
   have hadd := add_sign wr l hlen
   go_wp2
   go_ret
   refine ⟨?_, hb⟩
   rw [itoa_neg h0, ← hl.out]; rfl
  ·have hne : (m != 0) = true := by simp; omega
   obtain ⟨a1, a2, a3, a4⟩ := tm_bounds (m := m) (by omega)
   have hl' := digs_next_neg (by omega) hl
   have hc := conv_one wr (-m.tmod 10)
   have hadd := add_one (wr.alloc (.cells #[.int .u8 (48 + -m.tmod 10)] 5)) (dgt (-m.tmod 10)) l hlen
   by_cases hd : m.tmod 10 < 0
   ·go_wp2
    go_roundw
    case rel => exact ⟨m.tdiv 10, dgt (-m.tmod 10) :: l, by omega, by omega, rfl, rfl, hl', hb.alloc hb.size _⟩
    case measure => simp [intOf]; omega
   ·have hd0 : m.tmod 10 = 0 := by omega
    rw [hd0] at hl'
    clear hc hadd
    have hc : (convert 22 9 (.slice (some ⟨wr.heap.size, 0, none⟩) 1 1)).run Tryz.prog (wr.alloc (.cells #[.int .u8 48] 5)) = .ok (.string ⟨#[dgt (-0)]⟩) (wr.alloc (.cells #[.int .u8 48] 5)) := conv_one wr 0
    have hadd := add_one (wr.alloc (.cells #[.int .u8 48] 5)) (dgt (-0)) l hlen
    go_wp2
    go_roundw
    case rel => exact ⟨m.tdiv 10, dgt (-0) :: l, by omega, by omega, rfl, rfl, hl', hb.alloc hb.size _⟩
    case measure => simp [intOf]; omega
theorem fmt_zero (w : World) : Calls Tryz.prog 134 #[.int .i64 0] w fun e w' => e = .returned (.string ⟨(Lib.itoa 0).toArray⟩) ∧ Below w.heap.size w w' := by
 rw [itoa_zero]
 go_enter Tryz.func134, Tryz.ntmps134
 go_wp2
 go_ret
 exact ⟨rfl, Below.refl _ _⟩
theorem fmt_spec (n : Int) (w : World) (h0 : -9223372036854775808 ≤ n) (h1 : n ≤ 9223372036854775807) :
  Calls Tryz.prog 134 #[.int .i64 n] w fun e w' => e = .returned (.string ⟨(Lib.itoa n).toArray⟩) ∧ Below w.heap.size w w' := by
 rcases Int.lt_trichotomy n 0 with h | rfl | h
 ·exact fmt_neg n w h h0
 ·exact fmt_zero w
 ·exact fmt_pos n w h h1
def bases : List ByteArray := [⟨#[97]⟩, ⟨#[105, 116, 101, 109]⟩, ⟨#[98]⟩, ⟨#[104, 101, 97, 100]⟩, ⟨#[120]⟩]
def digitS (n : Nat) : ByteArray := ⟨(Lib.itoa (n : Int)).toArray⟩
def MadeR (rs : List RuleV) (r : RuleV) : Prop := (∃ s ∈ bases, r.name = s ++ digitS rs.length) ∧ kidsB r.kids (rs.length : Int) = true ∧ kindI rs r = true
def MakeP (a : Option Addr) (len cap c : Nat) (r : RuleV) (cs : List Value) (w W : World) : Prop := OwnedR (w.heap.size + 2) r cs W ∧ Cur a len cap c W ∧ w.grownBy W (some c)
theorem MakeP.put {a : Option Addr} {len cap c : Nat} {r : RuleV} {cs : List Value} {w W : World} (_hb : ∀ b ∈ cs.flatMap sliceBlk, w.heap.size + 2 ≤ b) (hc : c < w.heap.size) (hs : ∀ b off, a = some ⟨b, off, none⟩ → 0 < len → b < w.heap.size) (i : Nat) (v : Value) (h : MakeP a len cap c r cs w W) : MakeP a len cap c r cs w (W.setCell ⟨w.heap.size + 1, i, none⟩ v) :=
 ⟨h.1.keep (grown_set (grown_refl W (w.heap.size + 1)) i v) (fun b hbb e => by injection e with e; have := (h.1.lt b hbb).1; omega), h.2.1.put (by omega) (fun b off ha hl => by have := hs b off ha hl; omega), grown_put h.2.2 (by omega)⟩
def MakeOut (a : Option Addr) (len cap c : Nat) (rs : List RuleV) (k : Int) (w : World) (e : Ending) (w' : World) : Prop :=
 ∃ (r : RuleV) (cs : List Value), e = .returned (.agg cs.toArray) ∧ (MadeR rs r ∧ r.kind = k) ∧ CapK cs ∧ (∀ b ∈ cs.flatMap sliceBlk, w.heap.size ≤ b) ∧ MakeP a len cap c r cs w w'
theorem RowR.at {base : Nat} {ad : Option Addr} {rs : List RuleV} {n capd : Nat} {w : World} (h : RowR base (.slice ad n capd) rs w) : RdC ad rs w := by
 obtain ⟨a', c', e, hrd, _⟩ := h.rdc
 injection e with e1 e2 e3
 subst e1
 exact hrd
theorem addS (W : World) (x y : ByteArray) (h : x.size + y.size ≤ 9223372036854775807) : (Op.stringOp .add x y).run Tryz.prog W = .ok (.string (x ++ y)) W := run_string_add_sum W x y (by omega)
theorem digit_one : ∀ n : Fin 10, (digitS n.val).size = 1 := by decide +kernel
theorem base_size {s : ByteArray} (h : s ∈ bases) : s.size ≤ 4 := by
 unfold bases at h
 simp only [List.mem_cons, List.not_mem_nil, or_false] at h
 rcases h with rfl | rfl | rfl | rfl | rfl <;> decide
theorem intAt_kind {rs : List RuleV} {x : Int} (h : IntAt rs x) : kindAtB rs x = true := by
 obtain ⟨n, hn, rfl, hk⟩ := h
 unfold kindAtB
 rw [dif_pos (by omega)]
 simpa using hk
theorem Cur.grown {a : Option Addr} {len cap c : Nat} {w w' : World} {row : Option Nat} (h : Cur a len cap c w) (hg : w.grownBy w' row) (hc : some c ≠ row) (hs : ∀ b off, a = some ⟨b, off, none⟩ → 0 < len → some b ≠ row) : Cur a len cap c w' := by
 obtain ⟨k, x, hk, c0, c1, c2, f1, f2, hsrc⟩ := h
 have hb := hg.block c (cell_lt c0) hc
 refine ⟨k, x, hk, hg.cell c0 hc, hg.cell c1 hc, hg.cell c2 hc, (World.frozen?_of_block (a := ⟨c, 1, none⟩) hb).trans f1, (World.frozen?_of_block (a := ⟨c, 2, none⟩) hb).trans f2, fun j hj => ?_⟩
 obtain ⟨b, off, y, ha, hne, hy, hcc⟩ := hsrc j hj
 exact ⟨b, off, y, ha, hne, hy, hg.cell hcc (hs b off ha (by omega))⟩
theorem grown_far {w u v : World} {c : Nat} {row : Option Nat} (h : w.grownBy u (some c)) (g : u.grownBy v row) (hr : ∀ k, row = some k → w.heap.size ≤ k) : w.grownBy v (some c) :=
 ⟨g.os.trans h.os, g.tape.trans h.tape, g.output.trans h.output, Nat.le_trans h.size g.size, fun k hk hne => (g.block k (Nat.lt_of_lt_of_le hk h.size) (by intro e; have := hr k e.symm; omega)).trans (h.block k hk hne)⟩
def SeqN (m j : Nat) (ns : List ByteArray) : Prop := ns.length + j = m ∧ ∀ t (h : t < ns.length), ∃ s ∈ ([⟨#[112]⟩, ⟨#[113]⟩, ⟨#[114]⟩] : List ByteArray), ns[t] = s ++ digitS (m - t)
def KidsN (n : Nat) (ks : List Int) : Prop := ∀ x ∈ ks, 0 ≤ x ∧ x < (n : Int)
theorem pqr_size {s : ByteArray} (h : s ∈ ([⟨#[112]⟩, ⟨#[113]⟩, ⟨#[114]⟩] : List ByteArray)) : s.size = 1 := by
 simp only [List.mem_cons, List.not_mem_nil, or_false] at h
 rcases h with rfl | rfl | rfl <;> rfl
theorem SeqN.push {m j : Nat} {ns : List ByteArray} (h : SeqN m j ns) (hj : 0 < j) {y : ByteArray} (hy : y ∈ ([⟨#[112]⟩, ⟨#[113]⟩, ⟨#[114]⟩] : List ByteArray)) : SeqN m (j - 1) (ns ++ [y ++ digitS j]) := by
 obtain ⟨h1, h2⟩ := h
 refine ⟨by simp; omega, fun t ht => ?_⟩
 by_cases e : t < ns.length
 ·rw [List.getElem_append_left e]; exact h2 t e
 ·simp at ht
  obtain rfl : t = ns.length := by omega
  refine ⟨y, hy, ?_⟩
  rw [List.getElem_append_right (Nat.le_refl _)]
  simp only [Nat.sub_self, List.getElem_cons_zero]
  rw [show m - ns.length = j from by omega]
def Seq6 (a : Option Addr) (len cap c : Nat) (ad : Option Addr) (rs : List RuleV) (capd : Nat) (nm : ByteArray) (N B m jn jk : Nat) (w W : World) : Prop :=
 ∃ (vN vK : Value) (ns : List ByteArray) (ks : List Int), SeqN m jn ns ∧ KidsN rs.length ks ∧ ks.length + jk = m ∧
  W.ownsRow B 9 1 vN ns.length (ns.map Value.string) ∧ W.ownsRow B 3 1 vK ks.length (ks.map (Value.int .i64)) ∧ (∀ g, vN.ownBlock = some g → vK.ownBlock ≠ some g) ∧
  CellsAt w.heap.size [.slice ad rs.length capd] W ∧ CellsAt (w.heap.size + 1) [.string ⟨#[]⟩, .int .i64 0, .int .i64 0, .bool false, .slice none 0 0, .slice none 0 0, .slice none 0 0, .slice none 0 0] W ∧ CellsAt N [.string nm, .int .i64 6, .int .i64 0, .bool false, .slice none 0 0, vN, .slice none 0 0, vK] W ∧ Cur a len cap c W ∧ w.grownBy W (some c) ∧ B ≤ W.heap.size
theorem Seq6.name {a : Option Addr} {len cap c : Nat} {ad : Option Addr} {rs : List RuleV} {capd : Nat} {nm : ByteArray} {N B m j jk : Nat} {w w6 w7 : World} {vN vK v' : Value} {ns : List ByteArray} {ks : List Int} {y ny : ByteArray} (hj : 0 < j)
  (hcw : c < w.heap.size) (hN : w.heap.size + 2 ≤ N) (hNB : N < B) (hold : ∀ b off, a = some ⟨b, off, none⟩ → 0 < len → b < w.heap.size)
  (hns : SeqN m j ns) (hks : KidsN rs.length ks) (hkl : ks.length + jk = m) (hoN : w6.ownsRow B 9 1 vN ns.length (ns.map Value.string)) (hoK : w6.ownsRow B 3 1 vK ks.length (ks.map (Value.int .i64))) (hdis : ∀ g, vN.ownBlock = some g → vK.ownBlock ≠ some g)
  (hX : CellsAt w.heap.size [.slice ad rs.length capd] w6) (hZ : CellsAt (w.heap.size + 1) [.string ⟨#[]⟩, .int .i64 0, .int .i64 0, .bool false, .slice none 0 0, .slice none 0 0, .slice none 0 0, .slice none 0 0] w6) (hO : CellsAt N [.string nm, .int .i64 6, .int .i64 0, .bool false, .slice none 0 0, vN, .slice none 0 0, vK] w6) (hC : Cur a len cap c w6) (hG : w.grownBy w6 (some c)) (hBW : B ≤ w6.heap.size)
  (hy : y ∈ ([⟨#[112]⟩, ⟨#[113]⟩, ⟨#[114]⟩] : List ByteArray)) (hny : ny = y ++ digitS j) (hv : w7.ownsRow B 9 1 v' (ns ++ [ny]).length ((ns ++ [ny]).map Value.string)) (hg : w6.grownBy w7 vN.ownBlock) (hb : v'.ownBlock = vN.ownBlock ∨ ∃ g, v'.ownBlock = some g ∧ w6.heap.size ≤ g) :
  Seq6 a len cap c ad rs capd nm N B m (j - 1) jk w (w7.setCell ⟨N, 5, none⟩ v') := by
 have hlt : ∀ k, vN.ownBlock = some k → B ≤ k := fun k e => (World.ownsRow.lt hoN k e).1
 have hltK : ∀ k, vK.ownBlock = some k → B ≤ k ∧ k < w6.heap.size := fun k e => World.ownsRow.lt hoK k e
 have hX7 := hX.grown hg (by intro e; have := hlt _ e.symm; omega)
 have hZ7 := hZ.grown hg (by intro e; have := hlt _ e.symm; omega)
 have hO7 := (hO.grown hg (by intro e; have := hlt _ e.symm; omega)).set 5 v' (by simp)
 have hC7 := hC.grown hg (by intro e; have := hlt _ e.symm; omega) (fun b off ha hl => by intro e; have := hlt _ e.symm; have := hold b off ha hl; omega)
 have hK7 := own_keep hoK hg (fun g e f => hdis g f e)
 have hg8 := grown_set (grown_refl w7 N) 5 v'
 simp only [List.set] at hO7
 refine ⟨v', vK, ns ++ [ny], ks, hny ▸ hns.push hj hy, hks, hkl, own_keep hv hg8 (fun g e f => ?_), own_keep hK7 hg8 (fun g e f => ?_), fun g e f => ?_, hX7.far (by omega), hZ7.far (by omega), hO7, hC7.put (by omega) (fun b off ha hl => by have := hold b off ha hl; omega), grown_put (grown_far hG hg (fun k e => by have := hlt _ e; omega)) (by omega), ?_⟩
 ·have := (World.ownsRow.lt hv g e).1; injection f with f; omega
 ·have := (hltK g e).1; injection f with f; omega
 ·rcases hb with hb | ⟨q, hb, hq⟩
  ·exact hdis g (hb ▸ e) f
  ·rw [hb] at e; injection e with e; have := (hltK g f).2; omega
 ·exact Nat.le_trans hBW (Nat.le_trans hg.size hg8.size)
theorem Seq6.kid {a : Option Addr} {len cap c : Nat} {ad : Option Addr} {rs : List RuleV} {capd : Nat} {nm : ByteArray} {N B m jn j : Nat} {w w6 w7 : World} {vN vK v' : Value} {ns : List ByteArray} {ks : List Int} {x : Int} (hj : 0 < j)
  (hcw : c < w.heap.size) (hN : w.heap.size + 2 ≤ N) (hNB : N < B) (hold : ∀ b off, a = some ⟨b, off, none⟩ → 0 < len → b < w.heap.size)
  (hns : SeqN m jn ns) (hks : KidsN rs.length ks) (hkl : ks.length + j = m) (hoN : w6.ownsRow B 9 1 vN ns.length (ns.map Value.string)) (hoK : w6.ownsRow B 3 1 vK ks.length (ks.map (Value.int .i64))) (hdis : ∀ g, vN.ownBlock = some g → vK.ownBlock ≠ some g)
  (hX : CellsAt w.heap.size [.slice ad rs.length capd] w6) (hZ : CellsAt (w.heap.size + 1) [.string ⟨#[]⟩, .int .i64 0, .int .i64 0, .bool false, .slice none 0 0, .slice none 0 0, .slice none 0 0, .slice none 0 0] w6) (hO : CellsAt N [.string nm, .int .i64 6, .int .i64 0, .bool false, .slice none 0 0, vN, .slice none 0 0, vK] w6) (hC : Cur a len cap c w6) (hG : w.grownBy w6 (some c)) (hBW : B ≤ w6.heap.size)
  (hx : 0 ≤ x ∧ x < (rs.length : Int)) (hv : w7.ownsRow B 3 1 v' (ks ++ [x]).length ((ks ++ [x]).map (Value.int .i64))) (hg : w6.grownBy w7 vK.ownBlock) (hb : v'.ownBlock = vK.ownBlock ∨ ∃ g, v'.ownBlock = some g ∧ w6.heap.size ≤ g) :
  Seq6 a len cap c ad rs capd nm N B m jn (j - 1) w (w7.setCell ⟨N, 7, none⟩ v') := by
 have hlt : ∀ k, vK.ownBlock = some k → B ≤ k := fun k e => (World.ownsRow.lt hoK k e).1
 have hltN : ∀ k, vN.ownBlock = some k → B ≤ k ∧ k < w6.heap.size := fun k e => World.ownsRow.lt hoN k e
 have hX7 := hX.grown hg (by intro e; have := hlt _ e.symm; omega)
 have hZ7 := hZ.grown hg (by intro e; have := hlt _ e.symm; omega)
 have hO7 := (hO.grown hg (by intro e; have := hlt _ e.symm; omega)).set 7 v' (by simp)
 have hC7 := hC.grown hg (by intro e; have := hlt _ e.symm; omega) (fun b off ha hl => by intro e; have := hlt _ e.symm; have := hold b off ha hl; omega)
 have hN7 := own_keep hoN hg (fun g e f => hdis g e f)
 have hg8 := grown_set (grown_refl w7 N) 7 v'
 simp only [List.set] at hO7
 refine ⟨vN, v', ns, ks ++ [x], hns, fun y hy => ?_, by simp; omega, own_keep hN7 hg8 (fun g e f => ?_), own_keep hv hg8 (fun g e f => ?_), fun g e f => ?_, hX7.far (by omega), hZ7.far (by omega), hO7, hC7.put (by omega) (fun b off ha hl => by have := hold b off ha hl; omega), grown_put (grown_far hG hg (fun k e => by have := hlt _ e; omega)) (by omega), ?_⟩
 ·rcases List.mem_append.1 hy with h | h
  ·exact hks y h
  ·rw [List.mem_singleton] at h; rw [h]; exact hx
 ·have := (hltN g e).1; injection f with f; omega
 ·have := (World.ownsRow.lt hv g e).1; injection f with f; omega
 ·rcases hb with hb | ⟨q, hb, hq⟩
  ·exact hdis g e (hb ▸ f)
  ·rw [hb] at f; injection f with f; have := (hltN g e).2; omega
 ·exact Nat.le_trans hBW (Nat.le_trans hg.size hg8.size)
def pqr : List ByteArray := [⟨#[112]⟩, ⟨#[113]⟩, ⟨#[114]⟩]
theorem name_all : ∀ s ∈ bases ++ pqr, ∀ n : Fin 10, (∀ i : Fin (s ++ digitS n.val).size, nameAt (s ++ digitS n.val)[i.val] i.val) ∧ 1 ≤ (s ++ digitS n.val).size ∧ (s ++ digitS n.val).size ≤ 12 := by decide +kernel
theorem name_made {s : ByteArray} {n : Nat} (hs : s ∈ bases ++ pqr) (hn : n < 10) : nameB (s ++ digitS n) = true := by
 obtain ⟨h1, h2⟩ := name_all s hs ⟨n, hn⟩
 rw [nameB_end (fun i hi _ => h1 ⟨i, hi⟩)]
 exact decide_eq_true h2
theorem name_ne : ∀ s ∈ bases ++ pqr, ∀ t ∈ bases ++ pqr, ∀ n m : Fin 10, n ≠ m → s ++ digitS n.val ≠ t ++ digitS m.val := by decide +kernel
theorem made_ne {s t : ByteArray} {n m : Nat} (hs : s ∈ bases ++ pqr) (ht : t ∈ bases ++ pqr) (hn : n < 10) (hm : m < 10) (hne : n ≠ m) : s ++ digitS n ≠ t ++ digitS m := name_ne s hs t ht ⟨n, hn⟩ ⟨m, hm⟩ fun e => hne (by injection e)
theorem names_seq {m : Nat} {ns : List ByteArray} (h : SeqN m 0 ns) (h1 : 1 ≤ m) (h3 : m ≤ 3) : namesB ns = true := by
 obtain ⟨hl, hn⟩ := h
 have hl' : ns.length = m := by omega
 have hto : namesTo ns ns.length := fun i hi _ => by
  obtain ⟨s, hs, e⟩ := hn i hi
  refine ⟨?_, hasS_false fun hmem => ?_⟩
  ·rw [e]; exact name_made (List.mem_append_right _ hs) (by omega)
  ·obtain ⟨t, ht, e2⟩ := List.getElem_of_mem hmem
   rw [List.getElem_take] at e2
   have ht2 : t < i ∧ t < ns.length := by simp at ht; omega
   obtain ⟨s2, hs2, e3⟩ := hn t ht2.2
   rw [e3, e] at e2
   exact made_ne (List.mem_append_right _ hs2) (List.mem_append_right _ hs) (by omega) (by omega) (by omega) e2
 rw [namesB_end hto]
 exact decide_eq_true (by omega)
theorem kids_seq {n : Nat} {ks : List Int} (h : KidsN n ks) : kidsB ks (n : Int) = true := by
 unfold kidsB
 rw [List.all_eq_true]
 intro x hx
 have := h x hx
 exact decide_eq_true (by omega)
theorem kind6 {rs : List RuleV} {nm : ByteArray} {ns : List ByteArray} {ks : List Int} {m : Nat} (h : SeqN m 0 ns) (hk : ks.length + 0 = m) (h1 : 1 ≤ m) (h3 : m ≤ 3) : kindI rs ⟨nm, 6, 0, false, [], ns, [], ks⟩ = true := by
 have h2 := names_seq h h1 h3
 have h4 := h.1
 simp [kindI, meetsB, onlyR, sameR, h2]
 omega
theorem row_blk {α : Type} {f : α → Value} {B : Nat} {a : Option Addr} {xs : List α} {cap : Nat} {w : World} (h : RowF f B a xs cap w) : ∀ b ∈ sliceBlk (.slice a xs.length cap), B ≤ b := fun b hb => by
 rcases h.1 with rfl | ⟨g, off, rfl, hB, _⟩
 ·cases a <;> simp [sliceBlk] at hb
 ·cases xs with
  | nil => simp [sliceBlk] at hb
  | cons x xs => simp [sliceBlk] at hb; omega
theorem own_lit {α : Type} {f : α → Value} (w : World) (base : Nat) (e : TypeId) (xs : List α) (hb : base ≤ w.heap.size) (hm : xs.length ≤ maxLen) : (w.alloc (.cells (xs.map f).toArray e)).ownsRow base e 1 (.slice (some ⟨w.heap.size, 0, none⟩) xs.length xs.length) xs.length (xs.map f) :=
 ⟨by simp, .inr ⟨w.heap.size, xs.length, (xs.map f).toArray, rfl, hb, heap_alloc_new w _, Nat.le_refl _, hm, by simp, by simp; exact List.take_of_length_le (by simp)⟩⟩
def TagsN (m j : Nat) (ts : List Int) : Prop := ts.length + j = m ∧ ∀ t (h : t < ts.length), 4 * (t : Int) ≤ ts[t] ∧ ts[t] ≤ 4 * (t : Int) + 3
theorem TagsN.push {m j : Nat} {ts : List Int} (h : TagsN m j ts) (hj : 0 < j) {y : Int} (hy : 0 ≤ y ∧ y < 4) : TagsN m (j - 1) (ts ++ [4 * (ts.length : Int) + y]) := by
 obtain ⟨h1, h2⟩ := h
 refine ⟨by simp; omega, fun t ht => ?_⟩
 by_cases e : t < ts.length
 ·rw [List.getElem_append_left e]; exact h2 t e
 ·simp at ht
  obtain rfl : t = ts.length := by omega
  rw [List.getElem_append_right (Nat.le_refl _)]
  simp only [Nat.sub_self, List.getElem_cons_zero]
  omega
def Seq7 (a : Option Addr) (len cap c : Nat) (ad : Option Addr) (rs : List RuleV) (capd : Nat) (nm : ByteArray) (k0 : Int) (N B m jn jk : Nat) (w W : World) : Prop :=
 ∃ (vN vK : Value) (ns : List Int) (ks : List Int), TagsN m jn ns ∧ (KidsN rs.length ks ∧ ks.head? = some k0) ∧ ks.length + jk = m + 1 ∧
  W.ownsRow B 3 1 vN ns.length (ns.map (Value.int .i64)) ∧ W.ownsRow B 3 1 vK ks.length (ks.map (Value.int .i64)) ∧ (∀ g, vN.ownBlock = some g → vK.ownBlock ≠ some g) ∧
  CellsAt w.heap.size [.slice ad rs.length capd] W ∧ CellsAt (w.heap.size + 1) [.string ⟨#[]⟩, .int .i64 0, .int .i64 0, .bool false, .slice none 0 0, .slice none 0 0, .slice none 0 0, .slice none 0 0] W ∧ CellsAt N [.string nm, .int .i64 7, .int .i64 0, .bool false, .slice none 0 0, .slice none 0 0, vN, vK] W ∧ Cur a len cap c W ∧ w.grownBy W (some c) ∧ B ≤ W.heap.size
theorem Seq7.tag {a : Option Addr} {len cap c : Nat} {ad : Option Addr} {rs : List RuleV} {capd : Nat} {nm : ByteArray} {k0 : Int} {N B m j jk : Nat} {w w6 w7 : World} {vN vK v' : Value} {ns : List Int} {ks : List Int} {y ny : Int} (hj : 0 < j)
  (hcw : c < w.heap.size) (hN : w.heap.size + 2 ≤ N) (hNB : N < B) (hold : ∀ b off, a = some ⟨b, off, none⟩ → 0 < len → b < w.heap.size)
  (hns : TagsN m j ns) (hks : KidsN rs.length ks ∧ ks.head? = some k0) (hkl : ks.length + jk = m + 1) (hoN : w6.ownsRow B 3 1 vN ns.length (ns.map (Value.int .i64))) (hoK : w6.ownsRow B 3 1 vK ks.length (ks.map (Value.int .i64))) (hdis : ∀ g, vN.ownBlock = some g → vK.ownBlock ≠ some g)
  (hX : CellsAt w.heap.size [.slice ad rs.length capd] w6) (hZ : CellsAt (w.heap.size + 1) [.string ⟨#[]⟩, .int .i64 0, .int .i64 0, .bool false, .slice none 0 0, .slice none 0 0, .slice none 0 0, .slice none 0 0] w6) (hO : CellsAt N [.string nm, .int .i64 7, .int .i64 0, .bool false, .slice none 0 0, .slice none 0 0, vN, vK] w6) (hC : Cur a len cap c w6) (hG : w.grownBy w6 (some c)) (hBW : B ≤ w6.heap.size)
  (hy : 0 ≤ y ∧ y < 4) (hny : ny = 4 * (ns.length : Int) + y) (hv : w7.ownsRow B 3 1 v' (ns ++ [ny]).length ((ns ++ [ny]).map (Value.int .i64))) (hg : w6.grownBy w7 vN.ownBlock) (hb : v'.ownBlock = vN.ownBlock ∨ ∃ g, v'.ownBlock = some g ∧ w6.heap.size ≤ g) :
  Seq7 a len cap c ad rs capd nm k0 N B m (j - 1) jk w (w7.setCell ⟨N, 6, none⟩ v') := by
 have hlt : ∀ k, vN.ownBlock = some k → B ≤ k := fun k e => (World.ownsRow.lt hoN k e).1
 have hltK : ∀ k, vK.ownBlock = some k → B ≤ k ∧ k < w6.heap.size := fun k e => World.ownsRow.lt hoK k e
 have hX7 := hX.grown hg (by intro e; have := hlt _ e.symm; omega)
 have hZ7 := hZ.grown hg (by intro e; have := hlt _ e.symm; omega)
 have hO7 := (hO.grown hg (by intro e; have := hlt _ e.symm; omega)).set 6 v' (by simp)
 have hC7 := hC.grown hg (by intro e; have := hlt _ e.symm; omega) (fun b off ha hl => by intro e; have := hlt _ e.symm; have := hold b off ha hl; omega)
 have hK7 := own_keep hoK hg (fun g e f => hdis g f e)
 have hg8 := grown_set (grown_refl w7 N) 6 v'
 simp only [List.set] at hO7
 refine ⟨v', vK, ns ++ [ny], ks, hny ▸ hns.push hj hy, hks, hkl, own_keep hv hg8 (fun g e f => ?_), own_keep hK7 hg8 (fun g e f => ?_), fun g e f => ?_, hX7.far (by omega), hZ7.far (by omega), hO7, hC7.put (by omega) (fun b off ha hl => by have := hold b off ha hl; omega), grown_put (grown_far hG hg (fun k e => by have := hlt _ e; omega)) (by omega), ?_⟩
 ·have := (World.ownsRow.lt hv g e).1; injection f with f; omega
 ·have := (hltK g e).1; injection f with f; omega
 ·rcases hb with hb | ⟨q, hb, hq⟩
  ·exact hdis g (hb ▸ e) f
  ·rw [hb] at e; injection e with e; have := (hltK g f).2; omega
 ·exact Nat.le_trans hBW (Nat.le_trans hg.size hg8.size)
theorem Seq7.kid {a : Option Addr} {len cap c : Nat} {ad : Option Addr} {rs : List RuleV} {capd : Nat} {nm : ByteArray} {k0 : Int} {N B m jn j : Nat} {w w6 w7 : World} {vN vK v' : Value} {ns : List Int} {ks : List Int} {x : Int} (hj : 0 < j)
  (hcw : c < w.heap.size) (hN : w.heap.size + 2 ≤ N) (hNB : N < B) (hold : ∀ b off, a = some ⟨b, off, none⟩ → 0 < len → b < w.heap.size)
  (hns : TagsN m jn ns) (hks : KidsN rs.length ks ∧ ks.head? = some k0) (hkl : ks.length + j = m + 1) (hoN : w6.ownsRow B 3 1 vN ns.length (ns.map (Value.int .i64))) (hoK : w6.ownsRow B 3 1 vK ks.length (ks.map (Value.int .i64))) (hdis : ∀ g, vN.ownBlock = some g → vK.ownBlock ≠ some g)
  (hX : CellsAt w.heap.size [.slice ad rs.length capd] w6) (hZ : CellsAt (w.heap.size + 1) [.string ⟨#[]⟩, .int .i64 0, .int .i64 0, .bool false, .slice none 0 0, .slice none 0 0, .slice none 0 0, .slice none 0 0] w6) (hO : CellsAt N [.string nm, .int .i64 7, .int .i64 0, .bool false, .slice none 0 0, .slice none 0 0, vN, vK] w6) (hC : Cur a len cap c w6) (hG : w.grownBy w6 (some c)) (hBW : B ≤ w6.heap.size)
  (hx : 0 ≤ x ∧ x < (rs.length : Int)) (hv : w7.ownsRow B 3 1 v' (ks ++ [x]).length ((ks ++ [x]).map (Value.int .i64))) (hg : w6.grownBy w7 vK.ownBlock) (hb : v'.ownBlock = vK.ownBlock ∨ ∃ g, v'.ownBlock = some g ∧ w6.heap.size ≤ g) :
  Seq7 a len cap c ad rs capd nm k0 N B m jn (j - 1) w (w7.setCell ⟨N, 7, none⟩ v') := by
 have hlt : ∀ k, vK.ownBlock = some k → B ≤ k := fun k e => (World.ownsRow.lt hoK k e).1
 have hltN : ∀ k, vN.ownBlock = some k → B ≤ k ∧ k < w6.heap.size := fun k e => World.ownsRow.lt hoN k e
 have hX7 := hX.grown hg (by intro e; have := hlt _ e.symm; omega)
 have hZ7 := hZ.grown hg (by intro e; have := hlt _ e.symm; omega)
 have hO7 := (hO.grown hg (by intro e; have := hlt _ e.symm; omega)).set 7 v' (by simp)
 have hC7 := hC.grown hg (by intro e; have := hlt _ e.symm; omega) (fun b off ha hl => by intro e; have := hlt _ e.symm; have := hold b off ha hl; omega)
 have hN7 := own_keep hoN hg (fun g e f => hdis g e f)
 have hg8 := grown_set (grown_refl w7 N) 7 v'
 simp only [List.set] at hO7
 refine ⟨vN, v', ns, ks ++ [x], hns, ⟨fun y hy => ?_, by cases ks with | nil => simp at hks | cons k ks => exact hks.2⟩, by simp; omega, own_keep hN7 hg8 (fun g e f => ?_), own_keep hv hg8 (fun g e f => ?_), fun g e f => ?_, hX7.far (by omega), hZ7.far (by omega), hO7, hC7.put (by omega) (fun b off ha hl => by have := hold b off ha hl; omega), grown_put (grown_far hG hg (fun k e => by have := hlt _ e; omega)) (by omega), ?_⟩
 ·rcases List.mem_append.1 hy with h | h
  ·exact hks.1 y h
  ·rw [List.mem_singleton] at h; rw [h]; exact hx
 ·have := (hltN g e).1; injection f with f; omega
 ·have := (World.ownsRow.lt hv g e).1; injection f with f; omega
 ·rcases hb with hb | ⟨q, hb, hq⟩
  ·exact hdis g e (hb ▸ f)
  ·rw [hb] at f; injection f with f; have := (hltN g e).2; omega
 ·exact Nat.le_trans hBW (Nat.le_trans hg.size hg8.size)
theorem tags_ok (lim : Int) : ∀ (ts : List Int) (lo : Int) (k : Nat), (∀ t (h : t < ts.length), 4 * ((k + t : Nat) : Int) ≤ ts[t] ∧ ts[t] ≤ 4 * ((k + t : Nat) : Int) + 3) → lo ≤ 4 * (k : Int) → 4 * ((k + ts.length : Nat) : Int) ≤ lim → tagsOk lim lo ts = true
 | [], _, _, _, _, _ => rfl
 | t :: ts, lo, k, h, h1, h2 => by
  have h0 := h 0 (by simp)
  simp only [List.getElem_cons_zero, Nat.add_zero] at h0
  have hl : (k + (t :: ts).length : Nat) = k + 1 + ts.length := by simp; omega
  unfold tagsOk
  rw [Bool.and_eq_true]
  refine ⟨decide_eq_true (by rw [hl] at h2; omega), tags_ok lim ts (t + 1) (k + 1) (fun j hj => ?_) (by omega) (by rw [hl] at h2; exact h2)⟩
  have := h (j + 1) (by simpa using hj)
  simp only [List.getElem_cons_succ] at this
  have e : k + 1 + j = k + (j + 1) := by omega
  rw [e]
  exact this
theorem limit_int {rs : List RuleV} {x : Int} (hs : ∀ r ∈ rs, r.kind = 1 → 1 ≤ r.size ∧ r.size ≤ 4) (h : IntAt rs x) : 255 ≤ limitAt rs x := by
 obtain ⟨n, hn, rfl, hk⟩ := h
 have h1 := hs _ (List.getElem_mem hn) hk
 rw [limitAt_in hn, if_pos ⟨hk, h1⟩]
 have := (pow256_bounds rs[n].size).1
 omega
theorem kind7 {rs : List RuleV} {nm : ByteArray} {ts ks : List Int} {k0 : Int} {m : Nat} (h : TagsN m 0 ts) (hk : KidsN rs.length ks ∧ ks.head? = some k0) (hl : ks.length + 0 = m + 1) (h1 : 1 ≤ m) (h3 : m ≤ 3) (hlim : 255 ≤ limitAt rs k0) : kindI rs ⟨nm, 7, 0, false, [], [], ts, ks⟩ = true := by
 obtain ⟨ht, hn⟩ := h
 have e : ks.headD 0 = k0 := by
  cases ks with
  | nil => simp at hk
  | cons k ks => simpa using hk.2
 have hok := tags_ok (limitAt rs k0) ts 0 0 (fun t h => by simpa using hn t h) (by omega) (by omega)
 have htb : tagsB rs ⟨nm, 7, 0, false, [], [], ts, ks⟩ = true := by
  unfold tagsB
  rw [Bool.and_eq_true]
  refine ⟨decide_eq_true ⟨by show ks.length = ts.length + 1; omega, by show 1 ≤ ts.length; omega, by show ts.length ≤ 8; omega⟩, ?_⟩
  show tagsOk (limitAt rs (ks.headD 0)) 0 ts = true
  rw [e]
  exact hok
 simp [kindI, meetsB, onlyR, sameR, htb]
end Go.Proofs.YtfmnjclnhppghaaGreat
