/- Contracts of the laws' helpers on slices of ints: copying, comparing, marking, looking for the marks, the size. Rules and descriptions in memory: what a slice of rules reads as. Contracts of the laws' helpers on slices of strings: copying, comparing, counting. Contracts of the laws' helpers on slices of bytes: copying, comparing, marking, looking for the marks. -/
import Derived.Test.YtndjefednfcmmaaGreatDoorRowF
import Derived.Test.YtndjefednfcmmaaGreatDoorGNum
namespace Go.Proofs.YtndjefednfcmmaaGreatDoor
open Go Go.RowKit
theorem infoInt : (Tryz.prog.info? 3).map (fun i => (i.zero, i.size, i.bytes)) = some (some (.int .i64 0), 1, 8) := by kernel_rfl
theorem infoPartsI : ∃ i, Tryz.prog.info? 3 = some i ∧ i.zero = some (.int .i64 0) ∧ i.size = 1 ∧ i.bytes = 8 := by
 obtain ⟨i, hi, h⟩ := Option.map_eq_some_iff.1 infoInt
 simp only [Prod.mk.injEq] at h
 exact ⟨i, hi, h.1, h.2.1, h.2.2⟩
abbrev RdI := RdF (Value.int .i64)
def EqOutI (bs cs : List Int) (w : World) (e : Ending) (w' : World) : Prop := e = .returned (.bool (decide (bs = cs))) ∧ ∃ n, w' = w.drewN n
def MarkedI (b off n k i : Nat) (w W : World) : Prop :=
 w.grownBy W (some b) ∧ ∀ j, j < n → (∃ x : Int, W.cell? ⟨b, off + j, none⟩ = some (.int .i64 x) ∧ (j < i → x = ((k + j : Nat) : Int))) ∧ W.frozen? ⟨b, off + j, none⟩ = false
theorem MarkedI.next {b off n k i : Nat} {w W : World} (h : MarkedI b off n k i w W) (hi : i < n) : MarkedI b off n k (i + 1) w (W.setCell ⟨b, off + i, none⟩ (.int .i64 ((k + i : Nat) : Int))) := by
 refine ⟨grown_set h.1 (off + i) _, fun j hj => ⟨?_, by simpa using (h.2 j hj).2⟩⟩
 obtain ⟨⟨x, hx, hxi⟩, _⟩ := h.2 j hj
 by_cases e : j = i
 ·subst e
  exact ⟨_, World.cell?_setCell_same _ _ _ hx, fun _ => rfl⟩
 ·refine ⟨x, (World.cell?_setCell_other _ _ _ _ (fun he => e (by have := congrArg Addr.off he; simp at this; omega))).trans hx, fun hlt => hxi (by omega)⟩
structure RuleV where
 name : ByteArray
 kind : Int
 size : Int
 little : Bool
 bytes : List UInt8
 names : List ByteArray
 tags : List Int
 kids : List Int

abbrev RdStr := RdF Value.string
def IsRule (r : RuleV) (cs : List Value) (w : World) : Prop :=
 ∃ a4 c4 a5 c5 a6 c6 a7 c7, cs = [.string r.name, .int .i64 r.kind, .int .i64 r.size, .bool r.little, .slice a4 r.bytes.length c4, .slice a5 r.names.length c5, .slice a6 r.tags.length c6, .slice a7 r.kids.length c7] ∧
  Rd a4 r.bytes w ∧ RdStr a5 r.names w ∧ RdI a6 r.tags w ∧ RdI a7 r.kids w
theorem IsRule.below {r : RuleV} {cs : List Value} {w w' : World} (h : IsRule r cs w) (hb : Below w.heap.size w w') : IsRule r cs w' := by
 obtain ⟨a4, c4, a5, c5, a6, c6, a7, c7, e, h4, h5, h6, h7⟩ := h
 exact ⟨a4, c4, a5, c5, a6, c6, a7, c7, e, h4.below hb, h5.below hb, h6.below hb, h7.below hb⟩
def RdR (a : Option Addr) (rs : List RuleV) (w : World) : Prop :=
 ∀ j (h : j < rs.length), ∃ b off cs, a = some ⟨b, off, none⟩ ∧ IsRule rs[j] cs w ∧ ∀ i v, cs[i]? = some v → w.cell? ⟨b, off + j * 8 + i, none⟩ = some v
theorem RdR.below {a : Option Addr} {rs : List RuleV} {w w' : World} (h : RdR a rs w) (hb : Below w.heap.size w w') : RdR a rs w' := fun j hj => by
 obtain ⟨b, off, cs, ha, hr, hc⟩ := h j hj
 exact ⟨b, off, cs, ha, hr.below hb, fun i v hi => (hb.cell (cell_lt (hc i v hi))).trans (hc i v hi)⟩
theorem RdR.at {a : Option Addr} {rs : List RuleV} {w : World} (h : RdR a rs w) (j : Nat) (hj : j < rs.length) : ∃ b off a4 c4 a5 c5 a6 c6 a7 c7, a = some ⟨b, off, none⟩ ∧
  (w.cell? ⟨b, off + j * 8, none⟩ = some (.string rs[j].name) ∧ w.cell? ⟨b, off + j * 8 + 1, none⟩ = some (.int .i64 rs[j].kind) ∧ w.cell? ⟨b, off + j * 8 + 2, none⟩ = some (.int .i64 rs[j].size) ∧ w.cell? ⟨b, off + j * 8 + 3, none⟩ = some (.bool rs[j].little) ∧
  w.cell? ⟨b, off + j * 8 + 4, none⟩ = some (.slice a4 rs[j].bytes.length c4) ∧ w.cell? ⟨b, off + j * 8 + 5, none⟩ = some (.slice a5 rs[j].names.length c5) ∧ w.cell? ⟨b, off + j * 8 + 6, none⟩ = some (.slice a6 rs[j].tags.length c6) ∧ w.cell? ⟨b, off + j * 8 + 7, none⟩ = some (.slice a7 rs[j].kids.length c7)) ∧
  Rd a4 rs[j].bytes w ∧ RdStr a5 rs[j].names w ∧ RdI a6 rs[j].tags w ∧ RdI a7 rs[j].kids w := by
 obtain ⟨b, off, cs, ha, ⟨a4, c4, a5, c5, a6, c6, a7, c7, rfl, h4, h5, h6, h7⟩, hc⟩ := h j hj
 exact ⟨b, off, a4, c4, a5, c5, a6, c6, a7, c7, ha, ⟨hc 0 _ rfl, hc 1 _ rfl, hc 2 _ rfl, hc 3 _ rfl, hc 4 _ rfl, hc 5 _ rfl, hc 6 _ rfl, hc 7 _ rfl⟩, h4, h5, h6, h7⟩
def findFrom (x : ByteArray) : List RuleV → Nat → Int
 | [], _ => -1
 | r :: rs, k => if r.name = x then (k : Int) else findFrom x rs (k + 1)
theorem findFrom_yes {x : ByteArray} {rs : List RuleV} {k : Nat} (h : k < rs.length) (hx : rs[k].name = x) : findFrom x (rs.drop k) k = (k : Int) := by
 rw [List.drop_eq_getElem_cons h]
 simp only [findFrom, if_pos hx]
theorem findFrom_no {x : ByteArray} {rs : List RuleV} {k : Nat} (h : k < rs.length) (hx : rs[k].name ≠ x) : findFrom x (rs.drop k) k = findFrom x (rs.drop (k + 1)) (k + 1) := by
 rw [List.drop_eq_getElem_cons h]
 simp only [findFrom, if_neg hx]
set_option maxRecDepth 100000 in
theorem find_spec (a : Option Addr) (rs : List RuleV) (cap : Nat) (x : ByteArray) (w : World) (hl : rs.length ≤ 1073741824) (h : RdR a rs w) :
  Calls Tryz.prog 159 #[.agg #[.slice a rs.length cap], .string x] w fun e w' => e = .returned (.int .i64 (findFrom x rs 0)) ∧ Below w.heap.size w w' := by
 have hB : Below w.heap.size w (w.alloc (.cells #[.slice a rs.length cap] 26)) := (Below.refl _ _).alloc (Nat.le_refl _) _
 have H := Lib.hid (h.below hB)
 have HB := Lib.hid hB
 clear h hB
 go_enter Tryz.func159, Tryz.ntmps159
 go_wp2
 go_loop [5] (fun i => ∃ k : Nat, k ≤ rs.length ∧ i = .int .i64 k ∧ Hid (findFrom x rs 0 = findFrom x (rs.drop k) k)) (fun i => rs.length - (intOf i).toNat)
 case atStart => exact ⟨0, Nat.zero_le _, rfl, rfl⟩
 case round =>
  obtain ⟨k, hk, rfl, hf⟩ := hrel
  have k0 : (0 : Int) ≤ (k : Int) := by omega
  by_cases hlt : k < rs.length
  ·have k1 : (k : Int) < (rs.length : Int) := by omega
   obtain ⟨b, off, a4, c4, a5, c5, a6, c6, a7, c7, rfl, ⟨d0, -⟩, -⟩ := H.out.at k hlt
   by_cases hx : rs[k].name = x
   ·have hr : Hid (findFrom x rs 0 = (k : Int)) := hf.out.trans (findFrom_yes hlt hx)
    have g1 := str_eq hx
    generalize rs[k].name = y at d0 g1
    clear hx
    go_wp2
    go_ret
    exact ⟨ret_int hr.out.symm, HB.out⟩
   ·have hr : Hid (findFrom x rs 0 = findFrom x (rs.drop (k + 1)) (k + 1)) := hf.out.trans (findFrom_no hlt hx)
    have g1 := str_ne hx
    generalize rs[k].name = y at d0 g1
    clear hx
    go_wp2
    go_round
    case rel => exact ⟨k + 1, by omega, by go_num, hr⟩
    case measure => simp [intOf]; omega
  ·have k1 : ¬ (k : Int) < (rs.length : Int) := by omega
   have hr : Hid (findFrom x rs 0 = -1) := by
    have := hf.out
    rw [List.drop_of_length_le (by omega)] at this
    exact this
   go_wp2
   go_ret
   exact ⟨ret_int hr.out.symm, HB.out⟩
theorem infoStr : (Tryz.prog.info? 9).map (fun i => (i.zero, i.size, i.bytes)) = some (some (.string ⟨#[]⟩), 1, 16) := by kernel_rfl
theorem infoPartsS : ∃ i, Tryz.prog.info? 9 = some i ∧ i.zero = some (.string ⟨#[]⟩) ∧ i.size = 1 ∧ i.bytes = 16 := by
 obtain ⟨i, hi, h⟩ := Option.map_eq_some_iff.1 infoStr
 simp only [Prod.mk.injEq] at h
 exact ⟨i, hi, h.1, h.2.1, h.2.2⟩
abbrev RdS := RdF Value.string
abbrev RowS := RowF Value.string
abbrev StrsOut := ListOut Value.string
def EqOutS (bs cs : List ByteArray) (w : World) (e : Ending) (w' : World) : Prop := e = .returned (.bool (decide (bs = cs))) ∧ ∃ n, w' = w.drewN n
def Fresh (B : Nat) (a : Option Addr) (bs : List UInt8) (w : World) : Prop :=
 bs = [] ∨ ∃ b off, a = some ⟨b, off, none⟩ ∧ B ≤ b ∧ ∀ j (h : j < bs.length), w.cell? ⟨b, off + j, none⟩ = some (.int .u8 (bs[j].toNat : Int)) ∧ w.frozen? ⟨b, off + j, none⟩ = false
theorem Fresh.rd {B : Nat} {a : Option Addr} {bs : List UInt8} {w : World} (h : Fresh B a bs w) : Rd a bs w := fun j hj => by
 rcases h with rfl | ⟨b, off, ha, _, hc⟩
 ·simp at hj
 ·exact ⟨b, off, ha, (hc j hj).1⟩
theorem Fresh.below {B : Nat} {a : Option Addr} {bs : List UInt8} {w w' : World} (h : Fresh B a bs w) (hb : Below w.heap.size w w') : Fresh B a bs w' := by
 rcases h with rfl | ⟨b, off, ha, hB, hc⟩
 ·exact .inl rfl
 ·exact .inr ⟨b, off, ha, hB, fun j hj => ⟨(hb.cell (cell_lt (hc j hj).1)).trans (hc j hj).1, (hb.frozen (p := ⟨b, off + j, none⟩) (cell_lt (hc j hj).1)).trans (hc j hj).2⟩⟩
theorem Fresh.more {B B' : Nat} {a : Option Addr} {bs : List UInt8} {w : World} (h : Fresh B a bs w) (hB : B' ≤ B) : Fresh B' a bs w := by
 rcases h with rfl | ⟨b, off, ha, hb, hc⟩
 ·exact .inl rfl
 ·exact .inr ⟨b, off, ha, Nat.le_trans hB hb, hc⟩
def Row (B : Nat) (a : Option Addr) (bs : List UInt8) (cap : Nat) (w : World) : Prop := Fresh B a bs w ∧ bs.length ≤ cap ∧ (a = none → cap = 0)
theorem Row.rd {B cap : Nat} {a : Option Addr} {bs : List UInt8} {w : World} (h : Row B a bs cap w) : Rd a bs w := h.1.rd
theorem Row.below {B cap : Nat} {a : Option Addr} {bs : List UInt8} {w w' : World} (h : Row B a bs cap w) (hb : Below w.heap.size w w') : Row B a bs cap w' := ⟨h.1.below hb, h.2⟩
theorem Row.more {B B' cap : Nat} {a : Option Addr} {bs : List UInt8} {w : World} (h : Row B a bs cap w) (hB : B' ≤ B) : Row B' a bs cap w := ⟨h.1.more hB, h.2⟩
def Half (bs : List UInt8) (k N : Nat) (w W : World) : Prop :=
 Below w.heap.size w W ∧ ∀ j (h : j < bs.length), W.cell? ⟨N, j, none⟩ = some (.int .u8 (if j < k then (bs[j].toNat : Int) else 0)) ∧ W.frozen? ⟨N, j, none⟩ = false
theorem Half.next {bs : List UInt8} {k N : Nat} {w W : World} (h : Half bs k N w W) (hN : w.heap.size ≤ N) (hk : k < bs.length) : Half bs (k + 1) N w (W.setCell ⟨N, k, none⟩ (.int .u8 (bs[k].toNat : Int))) := by
 refine ⟨h.1.setCell (p := ⟨N, k, none⟩) hN _, fun j hj => ⟨?_, by simpa using (h.2 j hj).2⟩⟩
 by_cases e : j = k
 ·subst e
  rw [World.cell?_setCell_same _ _ _ (h.2 j hj).1, if_pos (by omega)]
 ·rw [World.cell?_setCell_other _ _ _ _ (fun he => e (by have := congrArg Addr.off he; simpa using this.symm)), (h.2 j hj).1]
  by_cases hlt : j < k
  ·rw [if_pos hlt, if_pos (by omega)]
  ·rw [if_neg hlt, if_neg (by omega)]
theorem infoU8 : (Tryz.prog.info? 5).map (fun i => (i.zero, i.size, i.bytes)) = some (some (.int .u8 0), 1, 1) := by kernel_rfl
def Marked (b off n k i : Nat) (w W : World) : Prop :=
 w.grownBy W (some b) ∧ ∀ j, j < n → (∃ x : Int, W.cell? ⟨b, off + j, none⟩ = some (.int .u8 x) ∧ (j < i → x = ((k + j) % 256 : Nat))) ∧ W.frozen? ⟨b, off + j, none⟩ = false
theorem Marked.next {b off n k i : Nat} {w W : World} (h : Marked b off n k i w W) (hi : i < n) : Marked b off n k (i + 1) w (W.setCell ⟨b, off + i, none⟩ (.int .u8 (((k + i) % 256 : Nat) : Int))) := by
 refine ⟨grown_set h.1 (off + i) _, fun j hj => ⟨?_, by simpa using (h.2 j hj).2⟩⟩
 obtain ⟨⟨x, hx, hxi⟩, _⟩ := h.2 j hj
 by_cases e : j = i
 ·subst e
  exact ⟨_, World.cell?_setCell_same _ _ _ hx, fun _ => rfl⟩
 ·refine ⟨x, (World.cell?_setCell_other _ _ _ _ (fun he => e (by have := congrArg Addr.off he; simp at this; omega))).trans hx, fun hlt => hxi (by omega)⟩
theorem Fresh.old {B : Nat} {a : Option Addr} {bs : List UInt8} {w : World} (h : Fresh B a bs w) : Old w.heap.size a bs.length := by
 cases bs with
 | nil => exact .inl rfl
 | cons x r =>
  rcases h with h | ⟨b, off, ha, _, hc⟩
  ·cases h
  ·exact .inr ⟨b, off, ha, cell_lt (hc 0 (by simp)).1⟩
theorem Fresh.grown {B : Nat} {a : Option Addr} {bs : List UInt8} {w w' : World} {c : Nat} (h : Fresh B a bs w) (hg : w.grownBy w' (some c)) (hne : ∀ b off, a = some ⟨b, off, none⟩ → bs ≠ [] → b ≠ c) : Fresh B a bs w' := by
 rcases h with rfl | ⟨b, off, ha, hB, hc⟩
 ·exact .inl rfl
 ·by_cases hbs : bs = []
  ·exact .inl hbs
  ·have hb := hne b off ha hbs
   refine .inr ⟨b, off, ha, hB, fun j hj => ⟨hg.cell (hc j hj).1 (by simpa using hb), ?_⟩⟩
   exact (World.frozen?_of_block (a := ⟨b, off + j, none⟩) (hg.block b (cell_lt (hc j hj).1) (by simpa using hb))).trans (hc j hj).2
theorem Row.old {B cap : Nat} {a : Option Addr} {bs : List UInt8} {w : World} (h : Row B a bs cap w) : Old w.heap.size a bs.length := h.1.old
end Go.Proofs.YtndjefednfcmmaaGreatDoor
