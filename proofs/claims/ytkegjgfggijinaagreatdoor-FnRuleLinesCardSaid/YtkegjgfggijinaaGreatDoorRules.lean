/- Rules and descriptions in memory: what a slice of rules reads as. -/
import Derived.Test.YtkegjgfggijinaaGreatDoorRowF
import Derived.Test.YtkegjgfggijinaaGreatDoorGNum
import Derived.Test.YtkegjgfggijinaaGreatDoorInts
namespace Go.Proofs.YtkegjgfggijinaaGreatDoor
open Go Go.RowKit
/-- A rule, as a value. -/
structure RuleV where
  name : ByteArray
  kind : Int
  size : Int
  little : Bool
  bytes : List UInt8
  names : List ByteArray
  tags : List Int
  kids : List Int

abbrev RdStr := RdF Value.string
/-- Eight cells hold this rule. -/
def IsRule (r : RuleV) (cs : List Value) (w : World) : Prop :=
  ∃ a4 c4 a5 c5 a6 c6 a7 c7, cs = [.string r.name, .int .i64 r.kind, .int .i64 r.size, .bool r.little, .slice a4 r.bytes.length c4, .slice a5 r.names.length c5, .slice a6 r.tags.length c6, .slice a7 r.kids.length c7] ∧
    Rd a4 r.bytes w ∧ RdStr a5 r.names w ∧ RdI a6 r.tags w ∧ RdI a7 r.kids w
theorem IsRule.below {r : RuleV} {cs : List Value} {w w' : World} (h : IsRule r cs w) (hb : Below w.heap.size w w') : IsRule r cs w' := by
  obtain ⟨a4, c4, a5, c5, a6, c6, a7, c7, e, h4, h5, h6, h7⟩ := h
  exact ⟨a4, c4, a5, c5, a6, c6, a7, c7, e, h4.below hb, h5.below hb, h6.below hb, h7.below hb⟩
/-- The slice at a reads as these rules. -/
def RdR (a : Option Addr) (rs : List RuleV) (w : World) : Prop :=
  ∀ j (h : j < rs.length), ∃ b off cs, a = some ⟨b, off, none⟩ ∧ IsRule rs[j] cs w ∧ ∀ i v, cs[i]? = some v → w.cell? ⟨b, off + j * 8 + i, none⟩ = some v
theorem RdR.below {a : Option Addr} {rs : List RuleV} {w w' : World} (h : RdR a rs w) (hb : Below w.heap.size w w') : RdR a rs w' := fun j hj => by
  obtain ⟨b, off, cs, ha, hr, hc⟩ := h j hj
  exact ⟨b, off, cs, ha, hr.below hb, fun i v hi => (hb.cell (cell_lt (hc i v hi))).trans (hc i v hi)⟩
/-- One rule of a slice, cell by cell. -/
theorem RdR.at {a : Option Addr} {rs : List RuleV} {w : World} (h : RdR a rs w) (j : Nat) (hj : j < rs.length) : ∃ b off a4 c4 a5 c5 a6 c6 a7 c7, a = some ⟨b, off, none⟩ ∧
    (w.cell? ⟨b, off + j * 8, none⟩ = some (.string rs[j].name) ∧ w.cell? ⟨b, off + j * 8 + 1, none⟩ = some (.int .i64 rs[j].kind) ∧ w.cell? ⟨b, off + j * 8 + 2, none⟩ = some (.int .i64 rs[j].size) ∧ w.cell? ⟨b, off + j * 8 + 3, none⟩ = some (.bool rs[j].little) ∧
    w.cell? ⟨b, off + j * 8 + 4, none⟩ = some (.slice a4 rs[j].bytes.length c4) ∧ w.cell? ⟨b, off + j * 8 + 5, none⟩ = some (.slice a5 rs[j].names.length c5) ∧ w.cell? ⟨b, off + j * 8 + 6, none⟩ = some (.slice a6 rs[j].tags.length c6) ∧ w.cell? ⟨b, off + j * 8 + 7, none⟩ = some (.slice a7 rs[j].kids.length c7)) ∧
    Rd a4 rs[j].bytes w ∧ RdStr a5 rs[j].names w ∧ RdI a6 rs[j].tags w ∧ RdI a7 rs[j].kids w := by
  obtain ⟨b, off, cs, ha, ⟨a4, c4, a5, c5, a6, c6, a7, c7, rfl, h4, h5, h6, h7⟩, hc⟩ := h j hj
  exact ⟨b, off, a4, c4, a5, c5, a6, c6, a7, c7, ha, ⟨hc 0 _ rfl, hc 1 _ rfl, hc 2 _ rfl, hc 3 _ rfl, hc 4 _ rfl, hc 5 _ rfl, hc 6 _ rfl, hc 7 _ rfl⟩, h4, h5, h6, h7⟩
/-- The first rule with a name, from k on. -/
def findFrom (x : ByteArray) : List RuleV → Nat → Int
  | [], _ => -1
  | r :: rs, k => if r.name = x then (k : Int) else findFrom x rs (k + 1)
theorem findFrom_yes {x : ByteArray} {rs : List RuleV} {k : Nat} (h : k < rs.length) (hx : rs[k].name = x) : findFrom x (rs.drop k) k = (k : Int) := by
  rw [List.drop_eq_getElem_cons h]
  simp only [findFrom, if_pos hx]
theorem findFrom_no {x : ByteArray} {rs : List RuleV} {k : Nat} (h : k < rs.length) (hx : rs[k].name ≠ x) : findFrom x (rs.drop k) k = findFrom x (rs.drop (k + 1)) (k + 1) := by
  rw [List.drop_eq_getElem_cons h]
  simp only [findFrom, if_neg hx]
set_option maxRecDepth 100000 in
theorem find_spec (a : Option Addr) (rs : List RuleV) (cap : Nat) (x : ByteArray) (w : World) (hl : rs.length ≤ 1073741824) (h : RdR a rs w) :
    Calls Tryz.prog 176 #[.agg #[.slice a rs.length cap], .string x] w fun e w' => e = .returned (.int .i64 (findFrom x rs 0)) ∧ Below w.heap.size w w' := by
  have hB : Below w.heap.size w (w.alloc (.cells #[.slice a rs.length cap] 26)) := (Below.refl _ _).alloc (Nat.le_refl _) _
  have H := Lib.hid (h.below hB)
  have HB := Lib.hid hB
  clear h hB
  go_enter Tryz.func176, Tryz.ntmps176
  go_wp2
  go_loop [5] (fun i => ∃ k : Nat, k ≤ rs.length ∧ i = .int .i64 k ∧ Hid (findFrom x rs 0 = findFrom x (rs.drop k) k)) (fun i => rs.length - (intOf i).toNat)
  case atStart => exact ⟨0, Nat.zero_le _, rfl, rfl⟩
  case round =>
    obtain ⟨k, hk, rfl, hf⟩ := hrel
    have k0 : (0 : Int) ≤ (k : Int) := by omega
    by_cases hlt : k < rs.length
    · have k1 : (k : Int) < (rs.length : Int) := by omega
      obtain ⟨b, off, a4, c4, a5, c5, a6, c6, a7, c7, rfl, ⟨d0, -⟩, -⟩ := H.out.at k hlt
      by_cases hx : rs[k].name = x
      · have hr : Hid (findFrom x rs 0 = (k : Int)) := hf.out.trans (findFrom_yes hlt hx)
        have g1 := str_eq hx
        generalize rs[k].name = y at d0 g1
        clear hx
        go_wp2
        go_ret
        exact ⟨ret_int hr.out.symm, HB.out⟩
      · have hr : Hid (findFrom x rs 0 = findFrom x (rs.drop (k + 1)) (k + 1)) := hf.out.trans (findFrom_no hlt hx)
        have g1 := str_ne hx
        generalize rs[k].name = y at d0 g1
        clear hx
        go_wp2
        go_round
        case rel => exact ⟨k + 1, by omega, by go_num, hr⟩
        case measure => simp [intOf]; omega
    · have k1 : ¬ (k : Int) < (rs.length : Int) := by omega
      have hr : Hid (findFrom x rs 0 = -1) := by
        have := hf.out
        rw [List.drop_of_length_le (by omega)] at this
        exact this
      go_wp2
      go_ret
      exact ⟨ret_int hr.out.symm, HB.out⟩
end Go.Proofs.YtkegjgfggijinaaGreatDoor
