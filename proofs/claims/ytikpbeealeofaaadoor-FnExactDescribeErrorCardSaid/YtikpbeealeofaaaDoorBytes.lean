/- Contracts of the laws' helpers on slices of bytes: copying, comparing, marking, looking for the marks. -/
import Derived.Test.YtikpbeealeofaaaDoorRowF
namespace Go.Proofs.YtikpbeealeofaaaDoor
open Go Go.RowKit
/-- A row that may be written, in a block from B on, holds these bytes. -/
def Fresh (B : Nat) (a : Option Addr) (bs : List UInt8) (w : World) : Prop :=
  bs = [] ∨ ∃ b off, a = some ⟨b, off, none⟩ ∧ B ≤ b ∧ ∀ j (h : j < bs.length), w.cell? ⟨b, off + j, none⟩ = some (.int .u8 (bs[j].toNat : Int)) ∧ w.frozen? ⟨b, off + j, none⟩ = false
theorem Fresh.rd {B : Nat} {a : Option Addr} {bs : List UInt8} {w : World} (h : Fresh B a bs w) : Rd a bs w := fun j hj => by
  rcases h with rfl | ⟨b, off, ha, _, hc⟩
  · simp at hj
  · exact ⟨b, off, ha, (hc j hj).1⟩
theorem Fresh.below {B : Nat} {a : Option Addr} {bs : List UInt8} {w w' : World} (h : Fresh B a bs w) (hb : Below w.heap.size w w') : Fresh B a bs w' := by
  rcases h with rfl | ⟨b, off, ha, hB, hc⟩
  · exact .inl rfl
  · exact .inr ⟨b, off, ha, hB, fun j hj => ⟨(hb.cell (cell_lt (hc j hj).1)).trans (hc j hj).1, (hb.frozen (p := ⟨b, off + j, none⟩) (cell_lt (hc j hj).1)).trans (hc j hj).2⟩⟩
theorem Fresh.more {B B' : Nat} {a : Option Addr} {bs : List UInt8} {w : World} (h : Fresh B a bs w) (hB : B' ≤ B) : Fresh B' a bs w := by
  rcases h with rfl | ⟨b, off, ha, hb, hc⟩
  · exact .inl rfl
  · exact .inr ⟨b, off, ha, Nat.le_trans hB hb, hc⟩
/-- A slice of these bytes in new memory: where it lies and how much it may hold. -/
def Row (B : Nat) (a : Option Addr) (bs : List UInt8) (cap : Nat) (w : World) : Prop := Fresh B a bs w ∧ bs.length ≤ cap ∧ (a = none → cap = 0)
theorem Row.rd {B cap : Nat} {a : Option Addr} {bs : List UInt8} {w : World} (h : Row B a bs cap w) : Rd a bs w := h.1.rd
theorem Row.below {B cap : Nat} {a : Option Addr} {bs : List UInt8} {w w' : World} (h : Row B a bs cap w) (hb : Below w.heap.size w w') : Row B a bs cap w' := ⟨h.1.below hb, h.2⟩
theorem Row.more {B B' cap : Nat} {a : Option Addr} {bs : List UInt8} {w : World} (h : Row B a bs cap w) (hB : B' ≤ B) : Row B' a bs cap w := ⟨h.1.more hB, h.2⟩
/-- New bytes come back; what was there is as it was. -/
def BytesOut (bs : List UInt8) (w : World) (e : Ending) (w' : World) : Prop :=
  ∃ a cap, e = .returned (.slice a bs.length cap) ∧ Row w.heap.size a bs cap w' ∧ Below w.heap.size w w'
/-- The first k bytes copied, the rest 0. -/
def Half (bs : List UInt8) (k N : Nat) (w W : World) : Prop :=
  Below w.heap.size w W ∧ ∀ j (h : j < bs.length), W.cell? ⟨N, j, none⟩ = some (.int .u8 (if j < k then (bs[j].toNat : Int) else 0)) ∧ W.frozen? ⟨N, j, none⟩ = false
theorem Half.next {bs : List UInt8} {k N : Nat} {w W : World} (h : Half bs k N w W) (hN : w.heap.size ≤ N) (hk : k < bs.length) : Half bs (k + 1) N w (W.setCell ⟨N, k, none⟩ (.int .u8 (bs[k].toNat : Int))) := by
  refine ⟨h.1.setCell (p := ⟨N, k, none⟩) hN _, fun j hj => ⟨?_, by simpa using (h.2 j hj).2⟩⟩
  by_cases e : j = k
  · subst e
    rw [World.cell?_setCell_same _ _ _ (h.2 j hj).1, if_pos (by omega)]
  · rw [World.cell?_setCell_other _ _ _ _ (fun he => e (by have := congrArg Addr.off he; simpa using this.symm)), (h.2 j hj).1]
    by_cases hlt : j < k
    · rw [if_pos hlt, if_pos (by omega)]
    · rw [if_neg hlt, if_neg (by omega)]
theorem infoU8 : (Tryd.prog.info? 5).map (fun i => (i.zero, i.size, i.bytes)) = some (some (.int .u8 0), 1, 1) := by kernel_rfl
theorem half_start (bs : List UInt8) (w : World) : Half bs 0 w.heap.size w (w.alloc (.cells (madeCells #[.int .u8 0] bs.length) 5)) := by
  have hr := World.rowIs_made w (.int .u8 0) bs.length 5
  exact ⟨(Below.refl _ _).alloc (Nat.le_refl _) _, fun j hj => ⟨by rw [hr.cell hj, if_neg (by omega)], hr.frozen j⟩⟩
theorem half_end {bs : List UInt8} {w W : World} (h : Half bs bs.length w.heap.size w W) : Fresh w.heap.size (some ⟨w.heap.size, 0, none⟩) bs W := by
  refine .inr ⟨w.heap.size, 0, rfl, Nat.le_refl _, fun j hj => ?_⟩
  have := h.2 j hj
  rw [if_pos hj] at this
  simpa using this
theorem take_next {bs cs : List UInt8} {k : Nat} (h : bs.take k = cs.take k) (hb : k < bs.length) (hc : k < cs.length) (e : bs[k] = cs[k]) : bs.take (k + 1) = cs.take (k + 1) := by
  rw [List.take_succ_eq_append_getElem hb, List.take_succ_eq_append_getElem hc, h, e]
theorem take_not {bs cs : List UInt8} {k : Nat} (hb : k < bs.length) (hc : k < cs.length) (e : bs[k] ≠ cs[k]) : bs ≠ cs := fun h => e (by subst h; rfl)
theorem byte_ne {x y : UInt8} (h : x ≠ y) : ((x.toNat : Int) != (y.toNat : Int)) = true := by
  simp only [bne_iff_ne, ne_eq, Int.natCast_inj]
  exact fun e => h (UInt8.toNat_inj.1 e)
/-- Whether two slices hold the same bytes; only draws. -/
def EqOut (bs cs : List UInt8) (w : World) (e : Ending) (w' : World) : Prop := e = .returned (.bool (decide (bs = cs))) ∧ ∃ n, w' = w.drewN n
/-- The marks k, k + 1, .. -/
def marks (k : Nat) : Nat → List UInt8
  | 0 => []
  | n + 1 => UInt8.ofNat k :: marks (k + 1) n
theorem marks_length : ∀ (k n : Nat), (marks k n).length = n
  | _, 0 => rfl
  | k, n + 1 => by simp [marks, marks_length (k + 1) n]
theorem marks_at : ∀ (k n j : Nat) (h : j < (marks k n).length), (marks k n)[j] = UInt8.ofNat (k + j)
  | k, 0, j, h => by simp [marks] at h
  | k, n + 1, 0, h => by simp [marks]
  | k, n + 1, j + 1, h => by
    simp only [marks, List.getElem_cons_succ]
    rw [marks_at (k + 1) n j]
    congr 1; omega
/-- The first i cells are marked. -/
def Marked (b off n k i : Nat) (w W : World) : Prop :=
  w.grownBy W (some b) ∧ ∀ j, j < n → (∃ x : Int, W.cell? ⟨b, off + j, none⟩ = some (.int .u8 x) ∧ (j < i → x = ((k + j) % 256 : Nat))) ∧ W.frozen? ⟨b, off + j, none⟩ = false
theorem Marked.next {b off n k i : Nat} {w W : World} (h : Marked b off n k i w W) (hi : i < n) : Marked b off n k (i + 1) w (W.setCell ⟨b, off + i, none⟩ (.int .u8 (((k + i) % 256 : Nat) : Int))) := by
  refine ⟨grown_set h.1 (off + i) _, fun j hj => ⟨?_, by simpa using (h.2 j hj).2⟩⟩
  obtain ⟨⟨x, hx, hxi⟩, _⟩ := h.2 j hj
  by_cases e : j = i
  · subst e
    exact ⟨_, World.cell?_setCell_same _ _ _ hx, fun _ => rfl⟩
  · refine ⟨x, (World.cell?_setCell_other _ _ _ _ (fun he => e (by have := congrArg Addr.off he; simp at this; omega))).trans hx, fun hlt => hxi (by omega)⟩
theorem Fresh.old {B : Nat} {a : Option Addr} {bs : List UInt8} {w : World} (h : Fresh B a bs w) : Old w.heap.size a bs.length := by
  cases bs with
  | nil => exact .inl rfl
  | cons x r =>
    rcases h with h | ⟨b, off, ha, _, hc⟩
    · cases h
    · exact .inr ⟨b, off, ha, cell_lt (hc 0 (by simp)).1⟩
theorem Fresh.grown {B : Nat} {a : Option Addr} {bs : List UInt8} {w w' : World} {c : Nat} (h : Fresh B a bs w) (hg : w.grownBy w' (some c)) (hne : ∀ b off, a = some ⟨b, off, none⟩ → bs ≠ [] → b ≠ c) : Fresh B a bs w' := by
  rcases h with rfl | ⟨b, off, ha, hB, hc⟩
  · exact .inl rfl
  · by_cases hbs : bs = []
    · exact .inl hbs
    · have hb := hne b off ha hbs
      refine .inr ⟨b, off, ha, hB, fun j hj => ⟨hg.cell (hc j hj).1 (by simpa using hb), ?_⟩⟩
      exact (World.frozen?_of_block (a := ⟨b, off + j, none⟩) (hg.block b (cell_lt (hc j hj).1) (by simpa using hb))).trans (hc j hj).2
/-- An older row stays when a newer one is touched. -/
theorem Fresh.keepOld {BX BY : Nat} {aX aY : Option Addr} {bs : List UInt8} {n : Nat} {w w' : World} (h : Fresh BX aX bs w) (ho : Old BY aX bs.length) (ht : Touch BY aY n w w') : Fresh BX aX bs w' := by
  rcases ht with rfl | ⟨_, c, off, _, hB, hg⟩
  · exact h
  · refine h.grown hg fun b off ha hbs => ?_
    rcases ho with h0 | ⟨b', off', ha', hlt⟩
    · exact absurd (List.eq_nil_of_length_eq_zero h0) hbs
    · rw [ha] at ha'
      injection ha' with ha'
      injection ha' with h1
      omega
/-- A newer row stays when an older one is touched. -/
theorem Fresh.keepNew {BX BY : Nat} {aX aY : Option Addr} {bs : List UInt8} {n : Nat} {w w' : World} (h : Fresh BX aX bs w) (ho : Old BX aY n) (ht : Touch BY aY n w w') : Fresh BX aX bs w' := by
  rcases ht with rfl | ⟨hn, c, off, hc, hB, hg⟩
  · exact h
  · rcases ho with h0 | ⟨b', off', ha', hlt⟩
    · exact absurd h0 hn
    · rw [hc] at ha'
      injection ha' with ha'
      injection ha' with h1
      subst h1
      rcases h with rfl | ⟨b, off2, ha, hBX, hcell⟩
      · exact .inl rfl
      · exact (show Fresh BX aX bs w from .inr ⟨b, off2, ha, hBX, hcell⟩).grown hg fun b2 off3 ha2 _ => by
          rw [ha] at ha2
          injection ha2 with ha2
          injection ha2 with h2
          omega
theorem Row.old {B cap : Nat} {a : Option Addr} {bs : List UInt8} {w : World} (h : Row B a bs cap w) : Old w.heap.size a bs.length := h.1.old
theorem Row.keepOld {BX BY cap : Nat} {aX aY : Option Addr} {bs : List UInt8} {n : Nat} {w w' : World} (h : Row BX aX bs cap w) (ho : Old BY aX bs.length) (ht : Touch BY aY n w w') : Row BX aX bs cap w' := ⟨h.1.keepOld ho ht, h.2⟩
theorem Row.keepNew {BX BY cap : Nat} {aX aY : Option Addr} {bs : List UInt8} {n : Nat} {w w' : World} (h : Row BX aX bs cap w) (ho : Old BX aY n) (ht : Touch BY aY n w w') : Row BX aX bs cap w' := ⟨h.1.keepNew ho ht, h.2⟩
/-- A row is marked: only its block has turned. -/
def MarkOut (B : Nat) (a : Option Addr) (n cap k : Nat) (w : World) (e : Ending) (w' : World) : Prop :=
  e = .returned (.int .i64 ((k + n : Nat) : Int)) ∧ Row B a (marks k n) cap w' ∧ Touch B a n w w'
end Go.Proofs.YtikpbeealeofaaaDoor
