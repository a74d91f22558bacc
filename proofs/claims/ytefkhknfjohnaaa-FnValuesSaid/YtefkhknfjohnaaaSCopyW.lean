/- (with the row of the top items, to be appended to) The contract of the model's CopyValue. -/
import Derived.Test.YtefkhknfjohnaaaCopyF
import Derived.Test.YtefkhknfjohnaaaGV
import Derived.Deep.RegionLaw
import Derived.Deep.CutRange
import Derived.IntWalk
namespace Go.Proofs.Ytefkhknfjohnaaa
open Go Go.RowKit
theorem infoByteC : (Try.prog.info? 5).map (fun i => (i.zero, i.size, i.bytes)) = some (some (.int .u8 0), 1, 1) := by kernel_rfl
/-- append of what a slice holds to an empty row that the call owns. -/
theorem run_copyG {P : Program} {α : Type} {f : α → Value} (t ty e : TypeId) (z : Value) (bytes : Nat) (ht : P.underlying t = some (.slice e)) (hinfo : (P.info? e).map (fun i => (i.zero, i.size, i.bytes)) = some (some z, 1, bytes)) (hz1 : z.cells.size = 1) (hone : ∀ x, (f x).oneCell' = true)
    (base g : Nat) (a : Option Addr) (xs : List α) (cap : Nat) (W : World) (hown : W.ownsRow base e 1 (.slice (some ⟨g, 0, none⟩) 0 0) 0 []) (h : RdF f a xs W) (hn : a = none → cap = 0) (hm : xs.length ≤ maxLen) (hb : xs.length * bytes ≤ 140737488355328) (hbase : base ≤ W.heap.size) :
    ∃ a' c' w', (Builtin.append_ #[t, t] ty #[.slice (some ⟨g, 0, none⟩) 0 0, .slice a xs.length cap]).run P W = .ok (.slice a' xs.length c') w' ∧ RowF f base a' xs c' w' ∧ W.grownBy w' (some g) ∧ (xs.length ≠ 0 → ∀ b off, a' = some ⟨b, off, none⟩ → b = g ∨ W.heap.size ≤ b) := by
  obtain ⟨i, hi, hh⟩ := Option.map_eq_some_iff.1 hinfo
  simp only [Prod.mk.injEq] at hh
  obtain ⟨hz, hs, hby⟩ := hh
  rcases a with _ | ad
  · have hx : xs = [] := by
      cases xs with
      | nil => rfl
      | cons x r => obtain ⟨b, off, e, _⟩ := h 0 (by simp); cases e
    subst hx
    obtain rfl := hn rfl
    exact ⟨_, 0, _, run_append_owned_none (P := P) (w := W) base t ty e i 1 ht hi _ 0 [] hown, ⟨.inl rfl, Nat.le_refl _, fun e => by cases e⟩, World.grownBy.refl W _, fun h => absurd rfl h⟩
  · have hnews : ∀ j u, (xs.map f)[j]? = some u → W.cell? (ad.add j) = some u := fun j u hj => by
      have hj2 : j < xs.length := by
        rcases Nat.lt_or_ge j xs.length with h1 | h1
        · exact h1
        · rw [List.getElem?_eq_none (by simpa using h1)] at hj; cases hj
      obtain ⟨b, off, e, hc⟩ := h j hj2
      injection e with e
      subst e
      rw [List.getElem?_map, List.getElem?_eq_getElem hj2] at hj
      simp only [Option.map_some, Option.some.injEq] at hj
      subst hj
      rw [Addr.add_lit]
      exact hc
    have hones : ∀ u ∈ xs.map f, u.oneCell' = true := fun u hu => by
      obtain ⟨x, _, rfl⟩ := List.mem_map.1 hu
      exact hone x
    by_cases h0 : xs.length = 0
    · obtain ⟨v', w', hr, ho, hg, _⟩ := run_append_own (P := P) W base t ty e i z 1 bytes ht hi hz hs hby hz1 (by omega) _ 0 [] hown ad xs.length cap (xs.map f) (by simp) hnews hones (by omega) (by simpa using hb) hbase
      obtain ⟨a', c', rfl, hrow⟩ := own_row (f := f) (base := base) (t := e) (v := v') (xs := xs) (w := w') (by simpa using ho)
      exact ⟨a', c', w', hr, hrow, hg, fun h => absurd h0 h⟩
    · obtain ⟨v', w', hr, ho, hg, hw⟩ := run_append_where (P := P) W base t ty e i z 1 bytes ht hi hz hs hby hz1 (by omega) _ 0 [] hown ad xs.length cap (xs.map f) (by simp) hnews hones (by omega) (by omega) (by simpa using hb) hbase
      obtain ⟨a', c', rfl, hrow⟩ := own_row (f := f) (base := base) (t := e) (v := v') (xs := xs) (w := w') (by simpa using ho)
      refine ⟨a', c', w', hr, hrow, hg, fun _ b off e => ?_⟩
      subst e
      simp only [Value.ownBlock, Option.some.injEq] at hw
      rcases hw with h | h
      · exact .inl h
      · exact .inr (by omega)
theorem step_copyG {P : Program} {α : Type} {f : α → Value} (t e : TypeId) (z : Value) (bytes : Nat) (ht : P.underlying t = some (.slice e)) (hinfo : (P.info? e).map (fun i => (i.zero, i.size, i.bytes)) = some (some z, 1, bytes)) (hz1 : z.cells.size = 1) (hone : ∀ x, (f x).oneCell' = true)
    {ops : Array Oper} {o : Oper} {A : Act} {K : Act → World → Prop} {Q : Exit → Act → World → Prop} {E : Prop} (hgd : o.guard = none) (s x : Operand)
    (ho : o.op = .call { callee := .builtin .append, args := #[s, x], argTypes := #[t, t] })
    (base g : Nat) (a : Option Addr) (xs : List α) (cap : Nat) (W : World) (hsv : A.eval s = .slice (some ⟨g, 0, none⟩) 0 0) (hxv : A.eval x = .slice a xs.length cap)
    (hown : W.ownsRow base e 1 (.slice (some ⟨g, 0, none⟩) 0 0) 0 []) (h : RdF f a xs W) (hn : a = none → cap = 0) (hm : xs.length ≤ maxLen) (hb : xs.length * bytes ≤ 140737488355328) (hbase : base ≤ W.heap.size)
    (hk : ∀ a' c' w', RowF f base a' xs c' w' → W.grownBy w' (some g) → (xs.length ≠ 0 → ∀ b off, a' = some ⟨b, off, none⟩ → b = g ∨ W.heap.size ≤ b) → K (A.put o.dst (.slice a' xs.length c')) w') :
    if Region.wanted o (yielded ops A.tmps) = true then Oper.wp P o A W K Q else E := by
  have hw : Region.wanted o (yielded ops A.tmps) = true := by simp [Region.wanted, hgd]
  rw [if_pos hw]
  obtain ⟨a', c', w', hr, h2, h3, h4⟩ := run_copyG (P := P) t o.type e z bytes ht hinfo hz1 hone base g a xs cap W hown h hn hm hb hbase
  unfold Oper.wp
  simp [execOp, ho, resolve, invoke, builtin, hsv, hxv, hr, Result.andThen]
  exact hk a' c' w' h2 h3 h4
theorem RdN.grownC {a : Option Addr} {bs : List UInt8} {cap : Nat} {w w' : World} {row : Option Nat} (h : RdN a bs cap w) (hg : w.grownBy w' row) (hne : ∀ b off, a = some ⟨b, off, none⟩ → bs.length ≠ 0 → some b ≠ row) : RdN a bs cap w' := ⟨h.1.grown hg hne, h.2⟩
/-- What the literal of the new value leaves: where it lies, what its bytes are. -/
def LitC (num : Int) (bs : List UInt8) (w0 : World) (p : Value) (W : World) : Prop :=
  ∃ (N : Nat) (a1 : Option Addr) (c1 : Nat), p = .pointer (some ⟨N, 0, none⟩) ∧ w0.heap.size ≤ N ∧ CellsAt N [.int .i64 num, .slice a1 bs.length c1, .slice none 0 0] W ∧ Below w0.heap.size w0 W ∧ RdN a1 bs c1 W ∧ ∀ b off, a1 = some ⟨b, off, none⟩ → bs.length ≠ 0 → w0.heap.size ≤ b ∧ b ≠ N
theorem FreshF.blk {α : Type} {f : α → Value} {B : Nat} {a : Option Addr} {xs : List α} {w : World} (h : FreshF f B a xs w) : ∀ b off, a = some ⟨b, off, none⟩ → xs.length ≠ 0 → B ≤ b ∧ b < w.heap.size := fun b off e hn => by
  rcases h with h | ⟨b', off', e', hB, hc⟩
  · rw [h] at hn; exact absurd rfl hn
  · rw [e] at e'
    injection e' with e'
    injection e' with e1 e2
    subst e1 e2
    exact ⟨hB, cell_lt (hc 0 (by omega)).1⟩
theorem litA {num : Int} {bs : List UInt8} {a1 : Option Addr} {c1 : Nat} {w0 w1 : World} (hrow : RowF (fun b : UInt8 => Value.int .u8 (b.toNat : Int)) w0.heap.size a1 bs c1 w1) (hb : Below w0.heap.size w0 w1) (t : TypeId) :
    LitC num bs w0 (.pointer (some ⟨w1.heap.size, 0, none⟩)) (w1.alloc (.cells #[.int .i64 num, .slice a1 bs.length c1, .slice none 0 0] t)) := by
  have hb2 : Below w1.heap.size w1 (w1.alloc (.cells #[.int .i64 num, .slice a1 bs.length c1, .slice none 0 0] t)) := (Below.refl _ _).alloc (Nat.le_refl _) _
  refine ⟨w1.heap.size, a1, c1, rfl, hb.size, CellsAt.new w1 _ t, hb.trans (hb2.mono hb.size), ⟨hrow.rd.below hb2, hrow.2.2⟩, fun b off e hn => ?_⟩
  have := hrow.1.blk b off e hn
  exact ⟨this.1, by omega⟩
theorem litB {num : Int} {bs : List UInt8} {a1 : Option Addr} {c1 N : Nat} {w0 w1 : World} (hrow : RowF (fun b : UInt8 => Value.int .u8 (b.toNat : Int)) w0.heap.size a1 bs c1 w1) (hb : Below w0.heap.size w0 w1) (hN : w0.heap.size ≤ N) (hz : CellsAt N [.int .i64 0, .slice none 0 0, .slice none 0 0] w1)
    (hne : bs.length ≠ 0 → ∀ b off, a1 = some ⟨b, off, none⟩ → b ≠ N) :
    LitC num bs w0 (.pointer (some ⟨N, 0, none⟩)) (((w1.setCell ⟨N, 0, none⟩ (.int .i64 num)).setCell ⟨N, 1, none⟩ (.slice a1 bs.length c1)).setCell ⟨N, 2, none⟩ (.slice none 0 0)) := by
  have hg : w1.grownBy (((w1.setCell ⟨N, 0, none⟩ (.int .i64 num)).setCell ⟨N, 1, none⟩ (.slice a1 bs.length c1)).setCell ⟨N, 2, none⟩ (.slice none 0 0)) (some N) := grown_set (grown_set (grown_set (grown_refl w1 N) 0 _) 1 _) 2 _
  have hc := ((hz.set 0 (.int .i64 num) (by simp)).set 1 (.slice a1 bs.length c1) (by simp)).set 2 (.slice none 0 0) (by simp)
  simp only [List.set] at hc
  refine ⟨N, a1, c1, rfl, hN, hc, ((hb.setCell (p := ⟨N, 0, none⟩) hN _).setCell (p := ⟨N, 1, none⟩) hN _).setCell (p := ⟨N, 2, none⟩) hN _, ⟨hrow.rd.grown hg fun b off e hn e2 => hne hn b off e (by injection e2), hrow.2.2⟩, fun b off e hn => ?_⟩
  exact ⟨(hrow.1.blk b off e hn).1, hne hn b off e⟩
/-- The state of CopyValue's loop. -/
structure ScSt (n : Nat) (v : ValueV) (xcs : List Value) (N B : Nat) (a1 : Option Addr) (c1 : Nat) (V : Value) (k : Nat) (w W : World) : Prop where
  x : CellsAt w.heap.size xcs W
  z : CellsAt (w.heap.size + 1) [.int .i64 0, .slice none 0 0, .slice none 0 0] W
  q : CellsAt N [.int .i64 v.number, .slice a1 v.bytes.length c1, V] W
  rd : RdN a1 v.bytes c1 W
  bl : ∀ b off, a1 = some ⟨b, off, none⟩ → v.bytes.length ≠ 0 → w.heap.size + 1 < b ∧ b ≠ N ∧ b < B
  row : RowV n B V (v.items.take k) W
  below : Below w.heap.size w W
  n1 : w.heap.size + 1 < N
  nB : N < B
  le : B ≤ W.heap.size
theorem ScSt.later {n : Nat} {v : ValueV} {xcs : List Value} {N B : Nat} {a1 : Option Addr} {c1 : Nat} {V : Value} {k : Nat} {w W W' : World} (h : ScSt n v xcs N B a1 c1 V k w W) (hb : Below W.heap.size W W') : ScSt n v xcs N B a1 c1 V k w W' :=
  ⟨h.x.below hb, h.z.below hb, h.q.below hb, h.rd.below hb, h.bl, h.row.below hb, h.below.trans (hb.mono h.below.size), h.n1, h.nB, Nat.le_trans h.le hb.size⟩
/-- .. while the row grows. -/
theorem ScSt.cellN {n : Nat} {v : ValueV} {xcs : List Value} {N B : Nat} {a1 : Option Addr} {c1 : Nat} {V : Value} {k : Nat} {w W W' : World} (h : ScSt n v xcs N B a1 c1 V k w W) (hg : W.grownBy W' V.ownBlock) : CellsAt N [.int .i64 v.number, .slice a1 v.bytes.length c1, V] W' :=
  h.q.grown hg fun e => by have := (h.row.own N e.symm).1; have := h.nB; omega
theorem ScSt.push {n : Nat} {v : ValueV} {xcs : List Value} {N B : Nat} {a1 : Option Addr} {c1 : Nat} {V V' : Value} {k : Nat} {w W W' : World} (h : ScSt n v xcs N B a1 c1 V k w W) (hg : W.grownBy W' V.ownBlock) (hk : k < v.items.length) (hrow : RowV n B V' (v.items.take k ++ [v.items[k]]) W') :
    ScSt n v xcs N B a1 c1 V' (k + 1) w (W'.setCell ⟨N, 2, none⟩ V') := by
  have hown := fun g e => (h.row.own g e).1
  have h1 := h.n1
  have h2 := h.nB
  have hq := (h.cellN hg).set 2 V' (by simp)
  simp only [List.set] at hq
  have hs := hg.size
  have hle := h.le
  have hgs : W'.grownBy (W'.setCell ⟨N, 2, none⟩ V') (some N) := grown_set (grown_refl W' N) 2 V'
  refine ⟨(h.x.grown hg fun e => ?_).far (by omega), (h.z.grown hg fun e => ?_).far (by omega), hq, (h.rd.grownC hg fun b off e hn e2 => ?_).grownC hgs fun b off e hn e2 => ?_, h.bl, ?_, ?_, h1, h2, by simp; omega⟩
  · have := hown _ e.symm; omega
  · have := hown _ e.symm; omega
  · have := hown _ e2.symm; have := h.bl b off e hn; omega
  · injection e2 with e2; exact (h.bl b off e hn).2.1 e2
  · rw [List.take_succ_eq_append_getElem hk]
    exact hrow.grown hgs fun k e => by injection e with e; omega
  · exact (h.below.grown hg h.below.size fun k e => by have := hown k e; omega).setCell (p := ⟨N, 2, none⟩) (by show w.heap.size ≤ N; omega) _
/-- The top row of a copy: it may be appended to. -/
def TopRow : Nat → ValueV → List Value → World → World → Prop
  | 0, _, _, _, _ => True
  | n + 1, v, cs, w, W => ∃ a1 c1 V B, cs = [.int .i64 v.number, .slice a1 v.bytes.length c1, V] ∧ RdN a1 v.bytes c1 W ∧ (∀ b off, a1 = some ⟨b, off, none⟩ → v.bytes.length ≠ 0 → w.heap.size ≤ b ∧ b < B) ∧ RowV n B V v.items W ∧ w.heap.size ≤ B ∧ B ≤ W.heap.size
/-- .. at its end. -/
theorem ScSt.fin {n : Nat} {v : ValueV} {xcs : List Value} {N B : Nat} {a1 : Option Addr} {c1 : Nat} {V : Value} {w W : World} (h : ScSt n v xcs N B a1 c1 V v.items.length w W) (u0 u1 u2 : Value) :
    let W' := ((W.setCell ⟨w.heap.size + 1, 0, none⟩ u0).setCell ⟨w.heap.size + 1, 1, none⟩ u1).setCell ⟨w.heap.size + 1, 2, none⟩ u2
    OwnV (fun b => w.heap.size ≤ b) (n + 1) v [.int .i64 v.number, .slice a1 v.bytes.length c1, V] W' ∧ Below w.heap.size w W' ∧ TopRow (n + 1) v [.int .i64 v.number, .slice a1 v.bytes.length c1, V] w W' := by
  have hgs : W.grownBy (((W.setCell ⟨w.heap.size + 1, 0, none⟩ u0).setCell ⟨w.heap.size + 1, 1, none⟩ u1).setCell ⟨w.heap.size + 1, 2, none⟩ u2) (some (w.heap.size + 1)) := grown_set (grown_set (grown_set (grown_refl W _) 0 _) 1 _) 2 _
  have hrow := h.row
  rw [List.take_length] at hrow
  obtain ⟨a, cap, rfl, hit⟩ := hrow.items
  have h1 := h.n1
  have h2 := h.nB
  have ho : OwnV (fun b => w.heap.size + 1 < b) (n + 1) v [.int .i64 v.number, .slice a1 v.bytes.length c1, .slice a v.items.length cap] W := by
    refine ⟨a1, c1, a, cap, rfl, h.rd, fun b off e hn => (h.bl b off e hn).1, fun j hj => ?_⟩
    obtain ⟨b, off, cs', e, hB, ho, hc⟩ := hit j hj
    exact ⟨b, off, cs', e, by omega, ho.mono fun b _ h => by omega, hc⟩
  exact ⟨ho.grown hgs fun b _ hb => ⟨by omega, fun e => by injection e with e; omega⟩, ((h.below.setCell (p := ⟨w.heap.size + 1, 0, none⟩) (by show w.heap.size ≤ w.heap.size + 1; omega) _).setCell (p := ⟨w.heap.size + 1, 1, none⟩) (by show w.heap.size ≤ w.heap.size + 1; omega) _).setCell (p := ⟨w.heap.size + 1, 2, none⟩) (by show w.heap.size ≤ w.heap.size + 1; omega) _, a1, c1, _, B, rfl, h.rd.grownC hgs fun b off e hn e2 => (by injection e2 with e2; have := (h.bl b off e hn).1; omega), fun b off e hn => ⟨by have := (h.bl b off e hn).1; omega, (h.bl b off e hn).2.2⟩, hrow.grown hgs fun k e => (by injection e with e; exact .inl (by omega)), by omega, by have := h.le; simp; omega⟩
/-- What the model's CopyValue promises of values of a height. -/
def SCopyC (n : Nat) : Prop := ∀ (v : ValueV) (cs : List Value) (w : World), IsVal n v cs w → sizV v ≤ 16777216 →
  Calls Try.prog 27 #[.agg cs.toArray] w fun e w' => ∃ cs', e = .returned (.agg cs'.toArray) ∧ OwnV (fun b => w.heap.size ≤ b) n v cs' w' ∧ Below w.heap.size w w' ∧ TopRow n v cs' w w'
set_option maxRecDepth 100000 in
set_option maxHeartbeats 8000000 in
theorem scopy_step (n : Nat) (ih : SCopyC n) : SCopyC (n + 1) := by
  intro v cs w hv hs
  obtain ⟨ab, cb, ai, ci, rfl, hrb, hit⟩ := hv.open
  obtain ⟨w0, hw0⟩ : ∃ w0, w0 = (w.alloc (.cells #[.int .i64 v.number, .slice ab v.bytes.length cb, .slice ai v.items.length ci] 47)).alloc (.cells #[.int .i64 0, .slice none 0 0, .slice none 0 0] 47) := ⟨_, rfl⟩
  have hB : Below w.heap.size w w0 := by subst hw0; exact ((Below.refl _ _).alloc (Nat.le_refl _) _).alloc (by simp) _
  have hX : CellsAt w.heap.size [.int .i64 v.number, .slice ab v.bytes.length cb, .slice ai v.items.length ci] w0 := by subst hw0; exact (CellsAt.new w _ _).below ((Below.refl _ _).alloc (Nat.le_refl _) _)
  have hZ : CellsAt (w.heap.size + 1) [.int .i64 0, .slice none 0 0, .slice none 0 0] w0 := by
    subst hw0
    have h1 := CellsAt.new (w.alloc (.cells #[.int .i64 v.number, .slice ab v.bytes.length cb, .slice ai v.items.length ci] 47)) [.int .i64 0, .slice none 0 0, .slice none 0 0] 47
    rw [World.size_alloc] at h1
    exact h1
  have hz : w0.heap.size = w.heap.size + 2 := by subst hw0; simp
  have hse := sizV_eq v
  have hbl : v.bytes.length ≤ 16777216 := by omega
  have hil : v.items.length ≤ 16777216 := by omega
  have HSZL : Hid (sizL v.items ≤ 16777216) := by show _ ≤ _; omega
  have HB := Lib.hid hB
  have HX := Lib.hid hX
  have HZ := Lib.hid hZ
  have HZ0 := Lib.hid hz
  have HRB := Lib.hid (hrb.1.below hB)
  have HRN := Lib.hid hrb.2
  have HIT := Lib.hid hit
  have HIH := Lib.hid ih
  have HW := Lib.hid hw0
  clear hB hX hZ hrb hit ih hw0 hv hs hse hz
  go_enter Try.func27, Try.ntmps27
  go_upto_region 1 with fail
  rw [← HW.out]
  clear HW
  obtain ⟨wz, hwz⟩ : ∃ wz, wz = w0.alloc (.cells #[.int .i64 0, .slice none 0 0, .slice none 0 0] 47) := ⟨_, rfl⟩
  have HA : Hid (Below w0.heap.size w0 (w0.alloc (.cells #[] 5)).drew) := below_drewN ((Below.refl _ _).alloc (Nat.le_refl _) _) 1
  have HBb : Hid (Below w0.heap.size w0 ((w0.alloc (.cells #[] 5)).alloc (.cells #[.int .i64 0, .slice none 0 0, .slice none 0 0] 47)).drew) := below_drewN (((Below.refl _ _).alloc (Nat.le_refl _) _).alloc (by simp) _) 1
  have HC : Hid (Below w0.heap.size w0 ((w0.alloc (.cells #[.int .i64 0, .slice none 0 0, .slice none 0 0] 47)).alloc (.cells #[] 5)).drew) := below_drewN (((Below.refl _ _).alloc (Nat.le_refl _) _).alloc (by simp) _) 1
  have hoa : (w0.alloc (.cells #[] 5)).ownsRow w0.heap.size 5 1 (.slice (some ⟨w0.heap.size, 0, none⟩) 0 0) 0 [] := World.ownsRow_made w0 #[] 0 (Nat.le_refl _) (Nat.zero_le _) rfl
  have HOA : Hid ((w0.alloc (.cells #[] 5)).drew.ownsRow w0.heap.size 5 1 (.slice (some ⟨w0.heap.size, 0, none⟩) 0 0) 0 []) := hoa
  have HOB : Hid (((w0.alloc (.cells #[] 5)).alloc (.cells #[.int .i64 0, .slice none 0 0, .slice none 0 0] 47)).drew.ownsRow w0.heap.size 5 1 (.slice (some ⟨w0.heap.size, 0, none⟩) 0 0) 0 []) := World.ownsRow.alloc hoa _
  have hoc := World.ownsRow_made (base := w0.heap.size) (e := 5) (size := 1) (w0.alloc (.cells #[.int .i64 0, .slice none 0 0, .slice none 0 0] 47)) #[] 0 (by simp) (Nat.zero_le _) rfl
  rw [World.size_alloc] at hoc
  have HOC : Hid (((w0.alloc (.cells #[.int .i64 0, .slice none 0 0, .slice none 0 0] 47)).alloc (.cells #[] 5)).drew.ownsRow w0.heap.size 5 1 (.slice (some ⟨w0.heap.size + 1, 0, none⟩) 0 0) 0 []) := hoc
  have HZB : Hid (CellsAt (w0.heap.size + 1) [.int .i64 0, .slice none 0 0, .slice none 0 0] ((w0.alloc (.cells #[] 5)).alloc (.cells #[.int .i64 0, .slice none 0 0, .slice none 0 0] 47)).drew) := by
    have h1 := CellsAt.new (w0.alloc (.cells #[] 5)) [.int .i64 0, .slice none 0 0, .slice none 0 0] 47
    rw [World.size_alloc] at h1
    exact h1
  have HZC : Hid (CellsAt w0.heap.size [.int .i64 0, .slice none 0 0, .slice none 0 0] ((w0.alloc (.cells #[.int .i64 0, .slice none 0 0, .slice none 0 0] 47)).alloc (.cells #[] 5)).drew) := (CellsAt.new w0 [.int .i64 0, .slice none 0 0, .slice none 0 0] 47).below (below_drewN ((Below.refl _ _).alloc (Nat.le_refl _) _) 1)
  clear hoa hoc hwz wz
  have x0 := (HX.out 0 _ rfl).1
  have x1 := (HX.out 1 _ rfl).1
  have x0a := (HX.out.below ((Below.refl w0.heap.size w0).alloc (Nat.le_refl _) (.cells #[] 5)) 0 _ rfl).1
  have x1a := (HX.out.below ((Below.refl w0.heap.size w0).alloc (Nat.le_refl _) (.cells #[] 5)) 1 _ rfl).1
  have x0z := (HX.out.below ((Below.refl w0.heap.size w0).alloc (Nat.le_refl _) (.cells #[.int .i64 0, .slice none 0 0, .slice none 0 0] 47)) 0 _ rfl).1
  have x1z := (HX.out.below ((Below.refl w0.heap.size w0).alloc (Nat.le_refl _) (.cells #[.int .i64 0, .slice none 0 0, .slice none 0 0] 47)) 1 _ rfl).1
  have x0b := (HX.out.below (((Below.refl w0.heap.size w0).alloc (Nat.le_refl _) (.cells #[] 5)).alloc (by simp) (.cells #[.int .i64 0, .slice none 0 0, .slice none 0 0] 47)) 0 _ rfl).1
  have x1b := (HX.out.below (((Below.refl w0.heap.size w0).alloc (Nat.le_refl _) (.cells #[] 5)).alloc (by simp) (.cells #[.int .i64 0, .slice none 0 0, .slice none 0 0] 47)) 1 _ rfl).1
  have x0c := (HX.out.below (((Below.refl w0.heap.size w0).alloc (Nat.le_refl _) (.cells #[.int .i64 0, .slice none 0 0, .slice none 0 0] 47)).alloc (by simp) (.cells #[] 5)) 0 _ rfl).1
  have x1c := (HX.out.below (((Below.refl w0.heap.size w0).alloc (Nat.le_refl _) (.cells #[.int .i64 0, .slice none 0 0, .slice none 0 0] 47)).alloc (by simp) (.cells #[] 5)) 1 _ rfl).1
  go_cut [3] from 5 to 11 (fun p W => Hid (LitC v.number v.bytes w0 p W))
  case first =>
    go_region_law (first | (refine step_copyG (f := (fun b : UInt8 => Value.int .u8 (b.toNat : Int))) 22 5 (.int .u8 0) 1 Try.underlying22 infoByteC rfl (fun _ => rfl) rfl (.tmp 7) (.tmp 9) rfl w0.heap.size (w0.heap.size) ab v.bytes cb (w0.alloc (.cells #[] 5)).drew (by simp [Act.eval]) (by simp [Act.eval]) HOA.out (HRB.out.below (HA.out.mono (Nat.le_refl _))) HRN.out (by unfold maxLen; omega) (by omega) (by simp <;> omega) ?_; intro a1 c1 w1 hrow hg hblk; have HROW := Lib.hid hrow; have HBLK := Lib.hid hblk; have HGA := Lib.hid hg; have HGW : Hid (Below w0.heap.size w0 w1) := HA.out.grown hg (by simp <;> omega) (fun k e => by injection e with e; omega); have x0w := (HX.out.below HGW.out 0 _ rfl).1; have x0v := (HX.out.below (HGW.out.trans (((Below.refl w1.heap.size w1).alloc (Nat.le_refl _) (.cells #[.int .i64 0, .slice none 0 0, .slice none 0 0] 47)).mono HGW.out.size)) 0 _ rfl).1; clear hrow hg hblk) | (refine step_copyG (f := (fun b : UInt8 => Value.int .u8 (b.toNat : Int))) 22 5 (.int .u8 0) 1 Try.underlying22 infoByteC rfl (fun _ => rfl) rfl (.tmp 7) (.tmp 9) rfl w0.heap.size (w0.heap.size) ab v.bytes cb ((w0.alloc (.cells #[] 5)).alloc (.cells #[.int .i64 0, .slice none 0 0, .slice none 0 0] 47)).drew (by simp [Act.eval]) (by simp [Act.eval]) HOB.out (HRB.out.below (HBb.out.mono (Nat.le_refl _))) HRN.out (by unfold maxLen; omega) (by omega) (by simp <;> omega) ?_; intro a1 c1 w1 hrow hg hblk; have HROW := Lib.hid hrow; have HBLK := Lib.hid hblk; have HGB := Lib.hid hg; have HGW : Hid (Below w0.heap.size w0 w1) := HBb.out.grown hg (by simp <;> omega) (fun k e => by injection e with e; omega); have HNB : Hid (CellsAt (w0.heap.size + 1) [.int .i64 0, .slice none 0 0, .slice none 0 0] w1) := HZB.out.grown hg (fun e => by injection e with e; omega); obtain ⟨q0, f0⟩ := HNB.out 0 _ rfl; obtain ⟨q1, f1⟩ := HNB.out 1 _ rfl; obtain ⟨q2, f2⟩ := HNB.out 2 _ rfl; have x0w := (HX.out.below HGW.out 0 _ rfl).1; have x0v := (HX.out.below (HGW.out.trans (((Below.refl w1.heap.size w1).alloc (Nat.le_refl _) (.cells #[.int .i64 0, .slice none 0 0, .slice none 0 0] 47)).mono HGW.out.size)) 0 _ rfl).1; clear hrow hg hblk) | (refine step_copyG (f := (fun b : UInt8 => Value.int .u8 (b.toNat : Int))) 22 5 (.int .u8 0) 1 Try.underlying22 infoByteC rfl (fun _ => rfl) rfl (.tmp 7) (.tmp 9) rfl w0.heap.size (w0.heap.size + 1) ab v.bytes cb ((w0.alloc (.cells #[.int .i64 0, .slice none 0 0, .slice none 0 0] 47)).alloc (.cells #[] 5)).drew (by simp [Act.eval]) (by simp [Act.eval]) HOC.out (HRB.out.below (HC.out.mono (Nat.le_refl _))) HRN.out (by unfold maxLen; omega) (by omega) (by simp <;> omega) ?_; intro a1 c1 w1 hrow hg hblk; have HROW := Lib.hid hrow; have HBLK := Lib.hid hblk; have HGC := Lib.hid hg; have HGW : Hid (Below w0.heap.size w0 w1) := HC.out.grown hg (by simp <;> omega) (fun k e => by injection e with e; omega); have HNC : Hid (CellsAt (w0.heap.size) [.int .i64 0, .slice none 0 0, .slice none 0 0] w1) := HZC.out.grown hg (fun e => by injection e with e; omega); obtain ⟨q0, f0⟩ := HNC.out 0 _ rfl; obtain ⟨q1, f1⟩ := HNC.out 1 _ rfl; obtain ⟨q2, f2⟩ := HNC.out 2 _ rfl; have x0w := (HX.out.below HGW.out 0 _ rfl).1; have x0v := (HX.out.below (HGW.out.trans (((Below.refl w1.heap.size w1).alloc (Nat.le_refl _) (.cells #[.int .i64 0, .slice none 0 0, .slice none 0 0] 47)).mono HGW.out.size)) 0 _ rfl).1; clear hrow hg hblk))
    all_goals (clear HX HRB HRN HIT HIH HOA HOB HOC HZB HZC x0 x1 x0a x1a x0z x1z x0b x1b x0c x1c x0w x0v)
    all_goals
      first
        | (have HL := Lib.hid (litA (num := v.number) HROW.out HGW.out 47)
           clear HROW HGW HBLK
           go_wp2_with fail
           go_meet
           exact HL)
        | (have HL := Lib.hid (litB (num := v.number) HROW.out HGW.out (by omega) HNB.out (fun hn b off e => by have h3 := HBLK.out hn b off e; simp at h3; omega))
           clear HROW HGW HBLK
           go_wp2_with fail
           go_meet
           exact HL)
        | (have HL := Lib.hid (litB (num := v.number) HROW.out HGW.out (by omega) HNC.out (fun hn b off e => by have h3 := HBLK.out hn b off e; simp at h3; omega))
           clear HROW HGW HBLK
           go_wp2_with fail
           go_meet
           exact HL)
  case rest =>
    obtain ⟨N, a1, c1, rfl, hN, hq, hbc, hrd, hblk⟩ := hcut.out
    have hst : ScSt n v [.int .i64 v.number, .slice ab v.bytes.length cb, .slice ai v.items.length ci] N wc.heap.size a1 c1 (.slice none 0 0) 0 w wc := by
      have hz := HZ0.out
      have hBw := HB.out
      refine ⟨HX.out.below hbc, HZ.out.below hbc, hq, hrd, fun b off e hn => ?_, ?_, hBw.trans (hbc.mono hBw.size), by omega, cell_lt (hq 0 _ rfl).1, Nat.le_refl _⟩
      · obtain ⟨b', off', e', hc⟩ := hrd.1 0 (by omega)
        have := hblk b off e hn
        rw [e] at e'
        injection e' with e'
        injection e' with e1 e2
        subst e1
        have h9 : b < wc.heap.size := cell_lt hc
        omega
      · rw [List.take_zero]; exact RowV.start _ _ _
    have HST := Lib.hid hst
    clear hst hq hbc hrd hblk HX HZ HB HRB HRN HA HBb HC HOA HOB HOC HZB HZC x0 x1 x0a x1a x0z x1z x0b x1b x0c x1c HZ0 hN
    generalize wc.heap.size = B at HST
    have hnl : v.items.length ≤ 16777216 := hil
    obtain ⟨ni, hni⟩ : ∃ ni, ni = v.items.length := ⟨_, rfl⟩
    have HNI := Lib.hid hni
    have x2 := (HST.out.x 2 _ rfl).1
    rw [← hni] at x2
    have hni1 : ni ≤ 16777216 := by omega
    clear hnl hni
    go_wp2
    clear x2
    go_loopw [4] (fun i W => ∃ (k : Nat) (V : Value), k ≤ ni ∧ i = .int .i64 k ∧ Hid (ScSt n v [.int .i64 v.number, .slice ab v.bytes.length cb, .slice ai v.items.length ci] N B a1 c1 V k w W)) (fun i _ => ni - (intOf i).toNat)
    case atStart => exact ⟨0, _, Nat.zero_le _, rfl, HST⟩
    case round =>
      clear HST
      obtain ⟨k, V, hk, rfl, HST⟩ := hrel
      have k0 : (0 : Int) ≤ (k : Int) := by omega
      have x2 := (HST.out.x 2 _ rfl).1
      rw [← HNI.out] at x2
      by_cases hlt : k < ni
      · have k1 : (k : Int) < (ni : Int) := by omega
        have hlt2 : k < v.items.length := by have := HNI.out; omega
        obtain ⟨xv, cv, hV⟩ := HST.out.row.slice
        have hl : (v.items.take k).length = k := by simp; omega
        rw [hl] at hV
        subst hV
        obtain ⟨b, off, cs1, rfl, hiv, hc⟩ := (HIT.out.below HST.out.below) k hlt2
        obtain ⟨a3, c3, a4, c4, rfl⟩ := hiv.three
        have d0 := hc 0 _ rfl
        have d1 := hc 1 _ rfl
        have d2 := hc 2 _ rfl
        simp only [Nat.add_zero] at d0
        have hsz : Hid (sizV v.items[k] ≤ 16777216) := by show _ ≤ _; have := sizL_at hlt2; have := HSZL.out; omega
        have hD : Below wr.heap.size wr wr.drew := below_drewN (Below.refl _ _) 1
        have HOB : Hid (∀ g, (Value.slice xv k cv).ownBlock = some g → g < wr.heap.size) := fun g e => (HST.out.row.own g e).2
        have HIV := Lib.hid (hiv.below hD)
        replace HST := Lib.hid (HST.out.later hD)
        have o2 := (HST.out.q 2 _ rfl).1
        have HL := Lib.hid hl
        clear hiv hc hD hl
        go_upto_region 5 with fail
        go_region_law (first | (go_simp; go_at_call 27; refine (HIH.out v.items[k] _ wr.drew HIV.out hsz.out).mono ?_; rintro e w6 ⟨cy, rfl, hown, hb6, -⟩; obtain ⟨xab, xcb, xai, xci, rfl⟩ := hown.cells; have HOY : Hid (OwnV (fun b => B ≤ b ∧ some b ≠ (Value.slice xv k cv).ownBlock) n v.items[k] [.int .i64 v.items[k].number, .slice xab v.items[k].bytes.length xcb, .slice xai v.items[k].items.length xci] w6) := (hown.mono (fun b _ h => by have h8 : wr.heap.size ≤ b := h; have h9 : B ≤ wr.heap.size := HST.out.le; exact ⟨by omega, fun e => by have := HOB.out b e.symm; omega⟩)); replace HST := Lib.hid (HST.out.later hb6); have o2b := (HST.out.q 2 _ rfl).1; have o2c := (HST.out.q.below ((Below.refl w6.heap.size w6).alloc (Nat.le_refl _) (.cells #[.int .i64 v.items[k].number, .slice xab v.items[k].bytes.length xcb, .slice xai v.items[k].items.length xci] 47)) 2 _ rfl).1; clear hown hb6) | (refine step_pushV rfl (.tmp 20) (.tmp 27) rfl n B (.slice xv k cv) (v.items.take k) v.items[k] _ w6 (by simp [Act.eval]) (by simp [Act.eval]) HST.out.row HOY.out (by have := HL.out; omega) HST.out.le ?_; intro v' w7 hrow hg; have HR7 := Lib.hid hrow; have HG7 := Lib.hid hg; obtain ⟨o2d, p2d⟩ := (HST.out.cellN hg) 2 _ rfl; obtain ⟨xn, cn, rfl⟩ := hrow.slice; clear hrow hg))
        all_goals (have HS9 := Lib.hid (HST.out.push HG7.out hlt2 HR7.out); have HYL : Hid ((v.items.take k ++ [v.items[k]]).length = k + 1) := (by show _ = _; have := HL.out; simp; omega); rw [HYL.out] at HS9; clear HST HR7 HG7 HOY HOB HIV o2d p2d d0 d1 d2 hsz)
        all_goals (try rw [show min (k + 1) v.items.length = k + 1 from by omega])
        all_goals go_wp2
        all_goals go_roundw
        all_goals first | (simp [intOf]; omega) | exact ⟨k + 1, _, by omega, by go_num, HS9⟩
      · have k1 : ¬ (k : Int) < (ni : Int) := by omega
        obtain rfl : k = ni := by omega
        obtain ⟨xv, cv, hV⟩ := HST.out.row.slice
        have hl : (v.items.take k).length = k := by have := HNI.out; simp; omega
        rw [hl] at hV
        subst hV
        have HFI : Hid (∀ u0 u1 u2 : Value, _) := (by have h9 := HST.out; rw [HNI.out] at h9; exact h9.fin)
        obtain ⟨z0, t0⟩ := HST.out.z 0 _ rfl
        obtain ⟨z1, t1⟩ := HST.out.z 1 _ rfl
        obtain ⟨z2, t2⟩ := HST.out.z 2 _ rfl
        have q0 := (HST.out.q 0 _ rfl).1
        have q1 := (HST.out.q 1 _ rfl).1
        have q2 := (HST.out.q 2 _ rfl).1
        clear HST hl
        go_wp2
        (try simp only [Exit.inBlock, Exit.then])
        refine bodyPost_ret (v := .agg #[.int .i64 v.number, .slice a1 v.bytes.length c1, .slice xv k cv]) ?_ rfl ?_
        · simp [results, Try.results27, go_sem, z0, z1, z2]
        · obtain ⟨h1, h2, h3⟩ := HFI.out _ _ _
          exact ⟨_, by rw [HNI.out], h1, h2, h3⟩
theorem scopy_all : ∀ n, SCopyC n
  | 0 => fun _ _ _ h => h.elim
  | n + 1 => scopy_step n (scopy_all n)
end Go.Proofs.Ytefkhknfjohnaaa
