/- The contracts of the program's formOf and of the forms' signs. The contracts of the program's labelOf and itemTexts. The contracts of the program's itemsText and textOf. The contract of the program's FormatValue; how long the text of a value is. -/
import Derived.Test.YtfmnjclnhppghabGreatDoorGFI
import Derived.Test.YtfmnjclnhppghabGreatDoorVText
import Derived.Test.YtfmnjclnhppghabGreatDoorGST
import Derived.Test.YtfmnjclnhppghabGreatDoorIsVal
import Derived.Test.YtfmnjclnhppghabGreatDoorKidOf
import Derived.Test.YtfmnjclnhppghabGreatDoorGPu
import Derived.BigQuiet
import Derived.Deep.RegionHeld3
import Derived.Deep.CutRange
import Derived.Test.YtfmnjclnhppghabGreatDoorTextImpl
import Derived.Test.YtfmnjclnhppghabGreatDoorGHX
namespace Go.Proofs.YtfmnjclnhppghabGreatDoor
open Go Go.RowKit
theorem formof_1 (w : World) : Calls Tryz.prog 47 #[.int .i64 1] w fun e w' => e = .returned (.iface 84 (.agg #[])) ∧ w = w' := by
  go_enter Tryz.func47, Tryz.ntmps47
  go_wp2
  go_ret
  exact ⟨rfl, rfl⟩
theorem formof_2 (w : World) : Calls Tryz.prog 47 #[.int .i64 2] w fun e w' => e = .returned (.iface 85 (.agg #[])) ∧ w = w' := by
  go_enter Tryz.func47, Tryz.ntmps47
  go_wp2
  go_ret
  exact ⟨rfl, rfl⟩
theorem formof_3 (w : World) : Calls Tryz.prog 47 #[.int .i64 3] w fun e w' => e = .returned (.iface 86 (.agg #[])) ∧ w = w' := by
  go_enter Tryz.func47, Tryz.ntmps47
  go_wp2
  go_ret
  exact ⟨rfl, rfl⟩
theorem formof_4 (w : World) : Calls Tryz.prog 47 #[.int .i64 4] w fun e w' => e = .returned (.iface 86 (.agg #[])) ∧ w = w' := by
  go_enter Tryz.func47, Tryz.ntmps47
  go_wp2
  go_ret
  exact ⟨rfl, rfl⟩
theorem formof_5 (w : World) : Calls Tryz.prog 47 #[.int .i64 5] w fun e w' => e = .returned (.iface 102 (.agg #[])) ∧ w = w' := by
  go_enter Tryz.func47, Tryz.ntmps47
  go_wp2
  go_ret
  exact ⟨rfl, rfl⟩
theorem formof_6 (w : World) : Calls Tryz.prog 47 #[.int .i64 6] w fun e w' => e = .returned (.iface 103 (.agg #[])) ∧ w = w' := by
  go_enter Tryz.func47, Tryz.ntmps47
  go_wp2
  go_ret
  exact ⟨rfl, rfl⟩
theorem formof_7 (w : World) : Calls Tryz.prog 47 #[.int .i64 7] w fun e w' => e = .returned (.iface 87 (.agg #[])) ∧ w = w' := by
  go_enter Tryz.func47, Tryz.ntmps47
  go_wp2
  go_ret
  exact ⟨rfl, rfl⟩
theorem formof_8 (w : World) : Calls Tryz.prog 47 #[.int .i64 8] w fun e w' => e = .returned (.iface 88 (.agg #[])) ∧ w = w' := by
  go_enter Tryz.func47, Tryz.ntmps47
  go_wp2
  go_ret
  exact ⟨rfl, rfl⟩
theorem formof_9 (w : World) : Calls Tryz.prog 47 #[.int .i64 9] w fun e w' => e = .returned (.iface 104 (.agg #[])) ∧ w = w' := by
  go_enter Tryz.func47, Tryz.ntmps47
  go_wp2
  go_ret
  exact ⟨rfl, rfl⟩
theorem formof_10 (w : World) : Calls Tryz.prog 47 #[.int .i64 10] w fun e w' => e = .returned (.iface 86 (.agg #[])) ∧ w = w' := by
  go_enter Tryz.func47, Tryz.ntmps47
  go_wp2
  go_ret
  exact ⟨rfl, rfl⟩
theorem meth_integer (w : World) : (method 309 84 (.agg #[]) "loop.example/g00518/impl.signs").run Tryz.prog w = .ok (142, .agg #[]) w := by kernel_rfl
theorem signs_integer (w : World) : Calls Tryz.prog 142 #[.agg #[]] w fun e w' => e = .returned (.tuple #[.string ⟨#[]⟩, .string ⟨#[]⟩]) ∧ Below w.heap.size w w' := by
  go_enter Tryz.func142, Tryz.ntmps142
  go_wp2
  go_ret2
  exact ⟨rfl, (Below.refl _ _).alloc (Nat.le_refl _) _⟩
theorem meth_const (w : World) : (method 309 85 (.agg #[]) "loop.example/g00518/impl.signs").run Tryz.prog w = .ok (143, .agg #[]) w := by kernel_rfl
theorem signs_const (w : World) : Calls Tryz.prog 143 #[.agg #[]] w fun e w' => e = .returned (.tuple #[.string ⟨#[33]⟩, .string ⟨#[]⟩]) ∧ Below w.heap.size w w' := by
  go_enter Tryz.func143, Tryz.ntmps143
  go_wp2
  go_ret2
  exact ⟨rfl, (Below.refl _ _).alloc (Nat.le_refl _) _⟩
theorem meth_bytes (w : World) : (method 309 86 (.agg #[]) "loop.example/g00518/impl.signs").run Tryz.prog w = .ok (144, .agg #[]) w := by kernel_rfl
theorem signs_bytes (w : World) : Calls Tryz.prog 144 #[.agg #[]] w fun e w' => e = .returned (.tuple #[.string ⟨#[120]⟩, .string ⟨#[]⟩]) ∧ Below w.heap.size w w' := by
  go_enter Tryz.func144, Tryz.ntmps144
  go_wp2
  go_ret2
  exact ⟨rfl, (Below.refl _ _).alloc (Nat.le_refl _) _⟩
theorem meth_array (w : World) : (method 309 102 (.agg #[]) "loop.example/g00518/impl.signs").run Tryz.prog w = .ok (147, .agg #[]) w := by kernel_rfl
theorem signs_array (w : World) : Calls Tryz.prog 147 #[.agg #[]] w fun e w' => e = .returned (.tuple #[.string ⟨#[91]⟩, .string ⟨#[93]⟩]) ∧ Below w.heap.size w w' := by
  go_enter Tryz.func147, Tryz.ntmps147
  go_wp2
  go_ret2
  exact ⟨rfl, (Below.refl _ _).alloc (Nat.le_refl _) _⟩
theorem meth_sequence (w : World) : (method 309 103 (.agg #[]) "loop.example/g00518/impl.signs").run Tryz.prog w = .ok (148, .agg #[]) w := by kernel_rfl
theorem signs_sequence (w : World) : Calls Tryz.prog 148 #[.agg #[]] w fun e w' => e = .returned (.tuple #[.string ⟨#[123]⟩, .string ⟨#[125]⟩]) ∧ Below w.heap.size w w' := by
  go_enter Tryz.func148, Tryz.ntmps148
  go_wp2
  go_ret2
  exact ⟨rfl, (Below.refl _ _).alloc (Nat.le_refl _) _⟩
theorem meth_choice (w : World) : (method 309 87 (.agg #[]) "loop.example/g00518/impl.signs").run Tryz.prog w = .ok (145, .agg #[]) w := by kernel_rfl
theorem signs_choice (w : World) : Calls Tryz.prog 145 #[.agg #[]] w fun e w' => e = .returned (.tuple #[.string ⟨#[60]⟩, .string ⟨#[62]⟩]) ∧ Below w.heap.size w w' := by
  go_enter Tryz.func145, Tryz.ntmps145
  go_wp2
  go_ret2
  exact ⟨rfl, (Below.refl _ _).alloc (Nat.le_refl _) _⟩
theorem meth_option (w : World) : (method 309 88 (.agg #[]) "loop.example/g00518/impl.signs").run Tryz.prog w = .ok (146, .agg #[]) w := by kernel_rfl
theorem signs_option (w : World) : Calls Tryz.prog 146 #[.agg #[]] w fun e w' => e = .returned (.tuple #[.string ⟨#[63]⟩, .string ⟨#[]⟩]) ∧ Below w.heap.size w w' := by
  go_enter Tryz.func146, Tryz.ntmps146
  go_wp2
  go_ret2
  exact ⟨rfl, (Below.refl _ _).alloc (Nat.le_refl _) _⟩
theorem meth_checked (w : World) : (method 309 104 (.agg #[]) "loop.example/g00518/impl.signs").run Tryz.prog w = .ok (149, .agg #[]) w := by kernel_rfl
theorem signs_checked (w : World) : Calls Tryz.prog 149 #[.agg #[]] w fun e w' => e = .returned (.tuple #[.string ⟨#[40]⟩, .string ⟨#[41]⟩]) ∧ Below w.heap.size w w' := by
  go_enter Tryz.func149, Tryz.ntmps149
  go_wp2
  go_ret2
  exact ⟨rfl, (Below.refl _ _).alloc (Nat.le_refl _) _⟩
end Go.Proofs.YtfmnjclnhppghabGreatDoor
namespace Go.Proofs.YtfmnjclnhppghabGreatDoor
open Go Go.RowKit
set_option maxRecDepth 100000 in
theorem label_impl (r : RuleV) (cs : List Value) (i : Nat) (c : UInt8) (w : World) (hn : r.kind = 6 → i < r.names.length ∧ ∀ s ∈ r.names, s.size ≤ 12) (h : IsRule r cs w) :
    Calls Tryz.prog 46 #[.agg cs.toArray, .int .i64 (i : Int), .string ⟨#[c]⟩] w fun e w' => e = .returned (.string (txt (labelT r i c))) ∧ Below w.heap.size w w' := by
  obtain ⟨a4, c4, a5, c5, a6, c6, a7, c7, rfl, r4, r5, r6, r7⟩ := h
  obtain ⟨w0, hw0⟩ : ∃ w0, w0 = w.alloc (.cells #[.string r.name, .int .i64 r.kind, .int .i64 r.size, .bool r.little, .slice a4 r.bytes.length c4, .slice a5 r.names.length c5, .slice a6 r.tags.length c6, .slice a7 r.kids.length c7] 54) := ⟨_, rfl⟩
  have hB : Below w.heap.size w w0 := by subst hw0; exact (Below.refl _ _).alloc (Nat.le_refl _) _
  have hC : CellsAt w.heap.size [.string r.name, .int .i64 r.kind, .int .i64 r.size, .bool r.little, .slice a4 r.bytes.length c4, .slice a5 r.names.length c5, .slice a6 r.tags.length c6, .slice a7 r.kids.length c7] w0 := by subst hw0; exact CellsAt.new w _ _
  have y1 := (hC 1 _ rfl).1
  have y5 := (hC 5 _ rfl).1
  have HB := Lib.hid hB
  have HW := Lib.hid hw0
  by_cases h6 : r.kind = 6
  · obtain ⟨n1, n2⟩ := hn h6
    obtain ⟨bn, on, rfl, hcn⟩ := (r5.below hB) i n1
    have hns := n2 _ (List.getElem_mem n1)
    have hr : Hid (r.names[i] ++ (⟨#[c]⟩ : ByteArray) = txt (labelT r i c)) := by
      show _ = _
      have e : r.names.getD i ⟨#[]⟩ = r.names[i] := by simp [List.getD, List.getElem?_eq_getElem n1]
      unfold labelT
      rw [if_pos h6, e, show (⟨#[c]⟩ : ByteArray) = txt [c] from rfl, ← txt_add, txt_lst]
    have i0 : (0 : Int) ≤ (i : Int) := by omega
    have i1 : (i : Int) < (r.names.length : Int) := by omega
    have hc1 : (⟨#[c]⟩ : ByteArray).size = 1 := rfl
    generalize r.names[i] = nm at hcn hns hr
    clear hB hC hw0 hn n1 n2 r4 r5 r6 r7
    rw [h6] at y1
    go_enter Tryz.func46, Tryz.ntmps46
    go_upto_region 1 with fail
    simp only [← h6]
    rw [← HW.out]
    clear HW
    go_wp2
    go_ret
    exact ⟨ret_txt hr.out, HB.out⟩
  · have hr : Hid ((⟨#[]⟩ : ByteArray) = txt (labelT r i c)) := by show _ = _; unfold labelT; rw [if_neg h6]; rfl
    have hk6 : (r.kind != 6) = true := by simp [h6]
    clear hB hC hw0 hn r4 r5 r6 r7
    go_enter Tryz.func46, Tryz.ntmps46
    go_upto_region 1 with fail
    rw [← HW.out]
    clear HW
    go_wp2
    go_ret
    exact ⟨ret_txt hr.out, HB.out⟩
/-- What textOf promises of values of a height. -/
def ITextC (a : Option Addr) (rs : List RuleV) (cap n : Nat) : Prop :=
  ∀ (v : ValueV) (vs : List Value) (k b o : Nat) (w : World), k < rs.length → RdR a rs w → IsVal n v vs w → (∀ i u, vs[i]? = some u → w.cell? ⟨b, o + i, none⟩ = some u) → validV rs (k : Int) v = true → (textV rs (k : Int) v).length ≤ 4398046511104 → PowTab w →
    Calls Tryz.prog 27 #[.agg #[.slice a rs.length cap], .int .i64 (k : Int), .pointer (some ⟨b, o, none⟩)] w fun e w' => e = .returned (.string (txt (textV rs (k : Int) v))) ∧ Below w.heap.size w w'
/-- The texts of items, as strings. -/
def partsS (rs : List RuleV) (r : RuleV) (x : Int) (c : UInt8) (l : List ValueV) : List ByteArray := (partsT rs r x c 0 l).map txt
theorem partsS_length (rs : List RuleV) (r : RuleV) (x : Int) (c : UInt8) (l : List ValueV) : (partsS rs r x c l).length = l.length := by unfold partsS; rw [List.length_map, partsT_length]
theorem partsS_at {rs : List RuleV} {r : RuleV} {x : Int} {c : UInt8} {l : List ValueV} {q : Nat} (h : q < l.length) (h' : q < (partsS rs r x c l).length) : (partsS rs r x c l)[q] = txt (labelT r q c) ++ txt (textV rs (itemR r x q) l[q]) := by
  have h1 := partsT_at (rs := rs) (r := r) (x := x) (c := c) l 0 q h
  have h2 : (partsS rs r x c l)[q]? = some (txt (partT rs r x c q l[q])) := by
    unfold partsS
    rw [List.getElem?_map, h1, Nat.zero_add]
    rfl
  rw [List.getElem?_eq_getElem h'] at h2
  exact (Option.some.inj h2).trans (txt_add _ _).symm
theorem HalfF.laterT {α : Type} {f : α → Value} {z : Value} {xs : List α} {k N : Nat} {w W W' : World} (h : HalfF f z xs k N w W) (hb : Below W.heap.size W W') : HalfF f z xs k N w W' :=
  ⟨h.1.trans (hb.mono h.1.size), fun j hj => ⟨(hb.cell (cell_lt (h.2 j hj).1)).trans (h.2 j hj).1, (hb.frozen (p := ⟨N, j, none⟩) (cell_lt (h.2 j hj).1)).trans (h.2 j hj).2⟩⟩
/-- What itemTexts promises of values of a height. -/
def IPartsC (a : Option Addr) (rs : List RuleV) (cap n : Nat) : Prop :=
  ∀ (v : ValueV) (vs : List Value) (k b o : Nat) (c : UInt8) (w : World), k < rs.length → RdR a rs w → IsVal (n + 1) v vs w → (∀ i u, vs[i]? = some u → w.cell? ⟨b, o + i, none⟩ = some u) → validV rs (k : Int) v = true → (textV rs (k : Int) v).length ≤ 4398046511104 → PowTab w →
    Calls Tryz.prog 26 #[.agg #[.slice a rs.length cap], .int .i64 (k : Int), .pointer (some ⟨b, o, none⟩), .string ⟨#[c]⟩] w (StrsOut (partsS rs (ruleAt rs (k : Int)) v.number c v.items) w)
set_option maxRecDepth 100000 in
set_option maxHeartbeats 8000000 in
theorem iparts_step (a : Option Addr) (rs : List RuleV) (cap n : Nat) (_hl : rs.length ≤ 1048576) (hall : allV (kindI rs) rs) (ih : ITextC a rs cap n) : IPartsC a rs cap n := by
  intro v vs k b o c w hk hrd hv hcl hvv htl htab
  obtain ⟨hown, hvl⟩ := validV_own hk hvv
  have hki0 := allV_kind hall hk
  have hle := textL_le hk hki0 hown
  have hkids := allV_kids hall hk
  rw [ruleAt_at hk]
  obtain ⟨ab, cb, ai, ci, rfl, hb, hit⟩ := hv
  obtain ⟨w0, hw0⟩ : ∃ w0, w0 = w.alloc (.cells #[.slice a rs.length cap] 35) := ⟨_, rfl⟩
  have hB0 : Below w.heap.size w w0 := by subst hw0; exact (Below.refl _ _).alloc (Nat.le_refl _) _
  have hD0 : CellsAt w.heap.size [.slice a rs.length cap] w0 := by subst hw0; exact CellsAt.new w _ _
  obtain ⟨b0, off, a4, c4, a5, c5, a6, c6, a7, c7, rfl, ⟨d0, d1, d2, d3, d4, d5, d6, d7⟩, r4, r5, r6, r7⟩ := (hrd.below hB0).at k hk
  obtain ⟨r, hr⟩ : ∃ r, r = rs[k] := ⟨_, rfl⟩
  rw [← hr] at d0 d1 d2 d3 d4 d5 d6 d7 r4 r5 r6 r7 hown hvl hle hki0 hkids ⊢
  clear hr
  obtain ⟨w1, hw1⟩ : ∃ w1, w1 = w0.alloc (.cells #[.string r.name, .int .i64 r.kind, .int .i64 r.size, .bool r.little, .slice a4 r.bytes.length c4, .slice a5 r.names.length c5, .slice a6 r.tags.length c6, .slice a7 r.kids.length c7] 54) := ⟨_, rfl⟩
  have hb1 : Below w0.heap.size w0 w1 := by subst hw1; exact (Below.refl _ _).alloc (Nat.le_refl _) _
  have hC : CellsAt w0.heap.size [.string r.name, .int .i64 r.kind, .int .i64 r.size, .bool r.little, .slice a4 r.bytes.length c4, .slice a5 r.names.length c5, .slice a6 r.tags.length c6, .slice a7 r.kids.length c7] w1 := by subst hw1; exact CellsAt.new w0 _ _
  have hD := hD0.below hb1
  have hB := hB0.trans (hb1.mono hB0.size)
  have x0 := cell_keep hB (hcl 0 _ rfl)
  have x1 := cell_keep hB (hcl 1 _ rfl)
  have x2 := cell_keep hB (hcl 2 _ rfl)
  simp only [Nat.add_zero] at x0
  have hil := own_len hki0 hown
  have HSW : Hid (∀ W, Below w1.heap.size w1 W → W.cell? ⟨w.heap.size, 0, none⟩ = some (.slice (some ⟨b0, off, none⟩) rs.length cap) ∧ W.cell? ⟨w0.heap.size, 0, none⟩ = some (.string r.name) ∧ W.cell? ⟨w0.heap.size, 1, none⟩ = some (.int .i64 r.kind) ∧ W.cell? ⟨w0.heap.size, 2, none⟩ = some (.int .i64 r.size) ∧ W.cell? ⟨w0.heap.size, 3, none⟩ = some (.bool r.little) ∧ W.cell? ⟨w0.heap.size, 4, none⟩ = some (.slice a4 r.bytes.length c4) ∧ W.cell? ⟨w0.heap.size, 5, none⟩ = some (.slice a5 r.names.length c5) ∧ W.cell? ⟨w0.heap.size, 6, none⟩ = some (.slice a6 r.tags.length c6) ∧ W.cell? ⟨w0.heap.size, 7, none⟩ = some (.slice a7 r.kids.length c7) ∧ W.cell? ⟨b, o, none⟩ = some (.int .i64 v.number) ∧ W.cell? ⟨b, o + 1, none⟩ = some (.slice ab v.bytes.length cb) ∧ W.cell? ⟨b, o + 2, none⟩ = some (.slice ai v.items.length ci)) := fun W hW => ⟨(hD.below hW 0 _ rfl).1, (hC.below hW 0 _ rfl).1, (hC.below hW 1 _ rfl).1, (hC.below hW 2 _ rfl).1, (hC.below hW 3 _ rfl).1, (hC.below hW 4 _ rfl).1, (hC.below hW 5 _ rfl).1, (hC.below hW 6 _ rfl).1, (hC.below hW 7 _ rfl).1, cell_keep hW x0, cell_keep hW x1, cell_keep hW x2⟩
  have HN6 : Hid (r.kind = 6 → r.names.length = r.kids.length ∧ v.items.length = r.kids.length ∧ ∀ s ∈ r.names, s.size ≤ 12) := fun h6 => by
    have h1 := kindI_6 hki0 h6
    simp [ownB, h6] at hown
    exact ⟨h1.1, hown.2.2, seq_spelt hki0 h6⟩
  have HIK : Hid (∀ q, q < v.items.length → ∃ m : Nat, (kidI r v.number q = (m : Int) ∧ itemR r v.number q = (m : Int)) ∧ m < rs.length) := fun q hq => by
    have hf : fitB (bndV rs r) v = true := by
      cases hf : fitB (bndV rs r) v with
      | true => rfl
      | false => have := fit_no hki0 hf; rw [hown] at this; cases this
    have h1 := hkids _ (item_kid hki0 hown hq)
    have h2 := (fit_kid hki0 (fun x hx => (hkids x hx).1) hf hq).1
    exact ⟨(itemR r v.number q).toNat, ⟨by omega, by omega⟩, by omega⟩
  have HIT : Hid (∀ j (h : j < v.items.length), ∃ b off cs', ai = some ⟨b, off, none⟩ ∧ IsVal n v.items[j] cs' w1 ∧ ∀ i u, cs'[i]? = some u → w1.cell? ⟨b, off + j * 3 + i, none⟩ = some u) := fun j hj => by obtain ⟨b, off, cs', e, h3, h4⟩ := hit j hj; exact ⟨b, off, cs', e, h3.below hB, fun i u hi => cell_keep hB (h4 i u hi)⟩
  have HIS : Hid (IsRule r [.string r.name, .int .i64 r.kind, .int .i64 r.size, .bool r.little, .slice a4 r.bytes.length c4, .slice a5 r.names.length c5, .slice a6 r.tags.length c6, .slice a7 r.kids.length c7] w1) := ⟨a4, c4, a5, c5, a6, c6, a7, c7, rfl, r4.below hb1, r5.below hb1, r6.below hb1, r7.below hb1⟩
  have HVL := Lib.hid hvl
  have HTL : Hid ((textL rs r v.number 0 v.items).length ≤ 4398046511104) := by show _ ≤ _; omega
  have HKI := Lib.hid hki0
  have HRD := Lib.hid (hrd.below hB)
  have HTAB := Lib.hid (htab.below hB)
  have HIH := Lib.hid ih
  have HB := Lib.hid hB
  have HW := Lib.hid hw0
  have HW1 := Lib.hid hw1
  obtain ⟨SS, hSS⟩ : ∃ SS, SS = partsS rs r v.number c v.items := ⟨_, rfl⟩
  have hSL : SS.length = v.items.length := by rw [hSS, partsS_length]
  rw [← hSS]
  have HSS := Lib.hid hSS
  have HSL := Lib.hid hSL
  have bx := (hD0 0 _ rfl).1
  have k0 : (0 : Int) ≤ (k : Int) := by omega
  have k1 : (k : Int) < (rs.length : Int) := by omega
  have hmk := make_strs v.items.length (by omega)
  clear hB0 hD0 hb1 hC hD hB x0 x1 x2 hw0 hw1 hb hit hrd hcl hvv htl htab hown hvl hki0 hle hkids ih hall r4 r5 r6 r7 hSS hSL
  go_enter Tryz.func26, Tryz.ntmps26
  go_upto_region 1 with fail
  rw [← HW.out]
  clear HW
  go_upto_region 2 with fail
  rw [← HW1.out]
  clear HW1 bx d0 d1 d2 d3 d4 d5 d6 d7
  obtain ⟨-, -, -, -, -, -, -, -, -, -, -, z2⟩ := HSW.out w1 (Below.refl _ _)
  go_upto_region 3 with fail
  clear z2 hmk
  obtain ⟨M, hM0⟩ : ∃ M, M = w1.heap.size := ⟨_, rfl⟩
  obtain ⟨w2, hw2⟩ : ∃ w2, w2 = w1.alloc (.cells (madeCells #[.string ⟨#[]⟩] v.items.length) 9) := ⟨_, rfl⟩
  rw [← hw2, ← hM0]
  have hst := HalfF.start (f := Value.string) (.string ⟨#[]⟩) SS 9 w1
  rw [HSL.out, ← hw2, ← hM0] at hst
  have HST := Lib.hid hst
  have HM := Lib.hid hM0
  clear hst hM0 hw2
  obtain ⟨-, -, -, -, -, -, -, -, -, -, -, z2⟩ := HSW.out w2 HST.out.1
  go_wp2
  clear z2
  go_loopw [29] (fun i W => ∃ q : Nat, q ≤ v.items.length ∧ i = .int .i64 q ∧ Hid (HalfF Value.string (.string ⟨#[]⟩) SS q M w1 W)) (fun i _ => v.items.length - (intOf i).toNat)
  case atStart => exact ⟨0, Nat.zero_le _, rfl, HST⟩
  case round =>
    clear HST
    obtain ⟨q, hql, rfl, HH⟩ := hrel
    have q0 : (0 : Int) ≤ (q : Int) := by omega
    by_cases hlt : q < v.items.length
    · have q1 : (q : Int) < (v.items.length : Int) := by omega
      obtain ⟨m, ⟨hm, hm2⟩, hmr⟩ := HIK.out q hlt
      have hvi := validL_at HVL.out q hlt
      rw [Nat.zero_add, hm2] at hvi
      have hpart := textL_part (rs := rs) (r := r) (x := v.number) hlt
      have hill := itemT_len rs r v.number q v.items[q]
      rw [hm2] at hill
      have htot := HTL.out
      have hUl : (textV rs (m : Int) v.items[q]).length ≤ 4398046511104 := by omega
      have hlab : (txt (labelT r q c)).size ≤ 13 := by
        rw [txt_size]
        unfold labelT
        by_cases h6 : r.kind = 6
        · obtain ⟨n1, n2, n3⟩ := HN6.out h6
          have hq6 : q < r.names.length := by omega
          have e : r.names.getD q ⟨#[]⟩ = r.names[q] := by simp [List.getD, List.getElem?_eq_getElem hq6]
          rw [if_pos h6, e, List.length_append, lst_length]
          have := n3 _ (List.getElem_mem hq6)
          simp; omega
        · rw [if_neg h6]; simp
      have hUs : (txt (textV rs (m : Int) v.items[q])).size ≤ 4398046511104 := by rw [txt_size]; exact hUl
      have hlt2 : q < SS.length := by rw [HSL.out]; exact hlt
      have hnx : SS[q] = txt (labelT r q c) ++ txt (textV rs (m : Int) v.items[q]) := by
        have h1 := partsS_at (rs := rs) (r := r) (x := v.number) (c := c) hlt (by rw [partsS_length]; exact hlt)
        rw [hm2] at h1
        simp only [HSS.out]
        exact h1
      have hln : r.kind = 6 → q < r.names.length ∧ ∀ s ∈ r.names, s.size ≤ 12 := fun h6 => by obtain ⟨n1, n2, n3⟩ := HN6.out h6; exact ⟨by omega, n3⟩
      obtain ⟨bi, oi, cs', hai, hiv, hcc⟩ := HIT.out q hlt
      subst hai
      obtain ⟨it, hitt⟩ : ∃ it, it = v.items[q] := ⟨_, rfl⟩
      rw [← hitt] at hiv hvi hUs hUl hnx
      obtain ⟨U, hU⟩ : ∃ U, U = txt (textV rs (m : Int) it) := ⟨_, rfl⟩
      obtain ⟨LB, hLB⟩ : ∃ LB, LB = txt (labelT r q c) := ⟨_, rfl⟩
      rw [← hU] at hUs hnx
      rw [← hLB] at hlab hnx
      obtain ⟨NX, hNX⟩ : ∃ NX, NX = SS[q] := ⟨_, rfl⟩
      have hadd : ∀ W, (Op.stringOp .add LB U).run Tryz.prog W = .ok (.string NX) W := fun W => by rw [run_string_add_sum W _ _ (by omega), hNX, hnx]
      have HNX := Lib.hid hNX
      have HK := Lib.hid hm
      have HIV := Lib.hid hiv
      have HCC := Lib.hid hcc
      have HVI := Lib.hid hvi
      have HU := Lib.hid hU
      have HLB := Lib.hid hLB
      have HLN := Lib.hid hln
      have hml : M < wr.heap.size := cell_lt (HH.out.2 q hlt2).1
      clear hm hm2 hiv hcc hitt hvi hpart hill htot hU hLB hNX hnx hUs hlab hln
      have HBW := Lib.hid HH.out.1
      replace HH : Hid (HalfF Value.string (.string ⟨#[]⟩) SS q M w1 wr.drew) := HH.out.laterT (below_drewN (Below.refl _ wr) 1)
      go_upto_region 6 with fail
      go_region_held3 (fun W => W.cell? ⟨w.heap.size, 0, none⟩ = some (.slice (some ⟨b0, off, none⟩) rs.length cap) ∧ W.cell? ⟨w0.heap.size, 0, none⟩ = some (.string r.name) ∧ W.cell? ⟨w0.heap.size, 1, none⟩ = some (.int .i64 r.kind) ∧ W.cell? ⟨w0.heap.size, 2, none⟩ = some (.int .i64 r.size) ∧ W.cell? ⟨w0.heap.size, 3, none⟩ = some (.bool r.little) ∧ W.cell? ⟨w0.heap.size, 4, none⟩ = some (.slice a4 r.bytes.length c4) ∧ W.cell? ⟨w0.heap.size, 5, none⟩ = some (.slice a5 r.names.length c5) ∧ W.cell? ⟨w0.heap.size, 6, none⟩ = some (.slice a6 r.tags.length c6) ∧ W.cell? ⟨w0.heap.size, 7, none⟩ = some (.slice a7 r.kids.length c7) ∧ W.cell? ⟨b, o, none⟩ = some (.int .i64 v.number) ∧ W.cell? ⟨b, o + 1, none⟩ = some (.slice ab v.bytes.length cb) ∧ W.cell? ⟨b, o + 2, none⟩ = some (.slice (some ⟨bi, oi, none⟩) v.items.length ci)) (exact HSW.out _ HH.out.1) (first | (go_at_call 45; refine (kidof_impl rs r _ v.number q _ (by omega) HKI.out (HIS.out.below HH.out.1)).mono ?_; rintro e w5 ⟨rfl, hb5⟩; rw [HK.out]; replace HH := Lib.hid (HH.out.laterT hb5); clear hb5))
      go_upto_region 7 with fail
      replace HH := Lib.hid (HH.out.laterT (below_drewN (Below.refl _ _) 1))
      refine wp_region_held_drew (S := (fun W => W.cell? ⟨w.heap.size, 0, none⟩ = some (.slice (some ⟨b0, off, none⟩) rs.length cap) ∧ W.cell? ⟨w0.heap.size, 0, none⟩ = some (.string r.name) ∧ W.cell? ⟨w0.heap.size, 1, none⟩ = some (.int .i64 r.kind) ∧ W.cell? ⟨w0.heap.size, 2, none⟩ = some (.int .i64 r.size) ∧ W.cell? ⟨w0.heap.size, 3, none⟩ = some (.bool r.little) ∧ W.cell? ⟨w0.heap.size, 4, none⟩ = some (.slice a4 r.bytes.length c4) ∧ W.cell? ⟨w0.heap.size, 5, none⟩ = some (.slice a5 r.names.length c5) ∧ W.cell? ⟨w0.heap.size, 6, none⟩ = some (.slice a6 r.tags.length c6) ∧ W.cell? ⟨w0.heap.size, 7, none⟩ = some (.slice a7 r.kids.length c7) ∧ W.cell? ⟨b, o, none⟩ = some (.int .i64 v.number) ∧ W.cell? ⟨b, o + 1, none⟩ = some (.slice ab v.bytes.length cb) ∧ W.cell? ⟨b, o + 2, none⟩ = some (.slice (some ⟨bi, oi, none⟩) v.items.length ci))) (by kernel_rfl) ?_ (fun hHeld => ?_)
      · (try dsimp only); exact HSW.out _ HH.out.1
      refine wpAnyH_take (i := 0) (v := ?v1) (by simp only [List.getElem?_toArray, List.getElem?_cons_zero]; rfl) (by kernel_rfl) (by kernel_rfl) (by kernel_rfl) (by exact fun _ _ _ h => h) (Or.inl ⟨by rfl, ?hy1⟩) (by assumption) ?rest1
      case hy1 => ((intro W hSw; (try dsimp only at hSw); go_simp); (try with_reducible rfl))
      simp only [Act.put, List.setIfInBounds_toArray, List.set_cons_zero, List.set_cons_succ]
      refine wpAnyH_take (i := 1) (v := ?v2) (by simp only [List.getElem?_toArray, List.getElem?_cons_succ, List.getElem?_cons_zero]; rfl) (by kernel_rfl) (by kernel_rfl) (by kernel_rfl) (by exact fun _ _ _ h => h) (Or.inl ⟨by rfl, ?hy2⟩) (by assumption) ?rest2
      case hy2 => ((intro W hSw; (try dsimp only at hSw); go_simp); (try with_reducible rfl))
      simp only [Act.put, List.setIfInBounds_toArray, List.set_cons_zero, List.set_cons_succ]
      refine wpAnyH_take (i := 2) (v := ?v3) (by simp only [List.getElem?_toArray, List.getElem?_cons_succ, List.getElem?_cons_zero]; rfl) (by kernel_rfl) (by kernel_rfl) (by kernel_rfl) (by exact fun _ _ _ h => h) (Or.inl ⟨by rfl, ?hy3⟩) (by assumption) ?rest3
      case hy3 => ((intro W hSw; (try dsimp only at hSw); go_simp); (try with_reducible rfl))
      simp only [Act.put, List.setIfInBounds_toArray, List.set_cons_zero, List.set_cons_succ]
      refine wpAnyH_take (i := 3) (v := ?v4) (by simp only [List.getElem?_toArray, List.getElem?_cons_succ, List.getElem?_cons_zero]; rfl) (by kernel_rfl) (by kernel_rfl) (by kernel_rfl) (by exact fun _ _ _ h => h) (Or.inl ⟨by rfl, ?hy4⟩) (by assumption) ?rest4
      case hy4 => ((intro W hSw; (try dsimp only at hSw); go_simp); (try with_reducible rfl))
      simp only [Act.put, List.setIfInBounds_toArray, List.set_cons_zero, List.set_cons_succ]
      refine wpAnyH_take (i := 4) (v := ?v5) (by simp only [List.getElem?_toArray, List.getElem?_cons_succ, List.getElem?_cons_zero]; rfl) (by kernel_rfl) (by kernel_rfl) (by kernel_rfl) (by exact fun _ _ _ h => h) (Or.inl ⟨by rfl, ?hy5⟩) (by assumption) ?rest5
      case hy5 => ((intro W hSw; (try dsimp only at hSw); go_simp); (try with_reducible rfl))
      simp only [Act.put, List.setIfInBounds_toArray, List.set_cons_zero, List.set_cons_succ]
      refine wpAnyH_take (i := 6) (v := ?v6) (by simp only [List.getElem?_toArray, List.getElem?_cons_succ, List.getElem?_cons_zero]; rfl) (by kernel_rfl) (by kernel_rfl) (by kernel_rfl) (by exact fun _ _ _ h => h) (Or.inl ⟨by rfl, ?hy6⟩) (by assumption) ?rest6
      case hy6 => ((intro W hSw; (try dsimp only at hSw); go_simp); (try with_reducible rfl))
      simp only [Act.put, List.setIfInBounds_toArray, List.set_cons_zero, List.set_cons_succ]
      refine wpAnyH_take (i := 7) (v := ?v7) (by simp only [List.getElem?_toArray, List.getElem?_cons_succ, List.getElem?_cons_zero]; rfl) (by kernel_rfl) (by kernel_rfl) (by kernel_rfl) (by exact fun _ _ _ h => h) (Or.inl ⟨by rfl, ?hy7⟩) (by assumption) ?rest7
      case hy7 => ((intro W hSw; (try dsimp only at hSw); go_simp); (try with_reducible rfl))
      simp only [Act.put, List.setIfInBounds_toArray, List.set_cons_zero, List.set_cons_succ]
      refine wpAnyH_take (i := 8) (v := ?v8) (by simp only [List.getElem?_toArray, List.getElem?_cons_succ, List.getElem?_cons_zero]; rfl) (by kernel_rfl) (by kernel_rfl) (by kernel_rfl) (by exact fun _ _ _ h => h) (Or.inl ⟨by rfl, ?hy8⟩) (by assumption) ?rest8
      case hy8 => ((intro W hSw; (try dsimp only at hSw); go_simp); (try with_reducible rfl))
      simp only [Act.put, List.setIfInBounds_toArray, List.set_cons_zero, List.set_cons_succ]
      refine wpAnyH_take (i := 9) (v := ?v9) (by simp only [List.getElem?_toArray, List.getElem?_cons_succ, List.getElem?_cons_zero]; rfl) (by kernel_rfl) (by kernel_rfl) (by kernel_rfl) (by exact fun _ _ _ h => h) (Or.inl ⟨by rfl, ?hy9⟩) (by assumption) ?rest9
      case hy9 => ((intro W hSw; (try dsimp only at hSw); go_simp); (try with_reducible rfl))
      simp only [Act.put, List.setIfInBounds_toArray, List.set_cons_zero, List.set_cons_succ]
      refine wpAnyH_take (i := 10) (v := ?v10) (by simp only [List.getElem?_toArray, List.getElem?_cons_succ, List.getElem?_cons_zero]; rfl) (by kernel_rfl) (by kernel_rfl) (by kernel_rfl) (by exact fun _ _ _ h => h) (Or.inl ⟨by rfl, ?hy10⟩) (by assumption) ?rest10
      case hy10 => ((intro W hSw; (try dsimp only at hSw); go_simp); (try with_reducible rfl))
      simp only [Act.put, List.setIfInBounds_toArray, List.set_cons_zero, List.set_cons_succ]
      refine wpAnyH_take (i := 11) (v := ?v11) (by simp only [List.getElem?_toArray, List.getElem?_cons_succ, List.getElem?_cons_zero]; rfl) (by kernel_rfl) (by kernel_rfl) (by kernel_rfl) (by exact fun _ _ _ h => h) (Or.inl ⟨by rfl, ?hy11⟩) (by assumption) ?rest11
      case hy11 => ((intro W hSw; (try dsimp only at hSw); go_simp); (try with_reducible rfl))
      simp only [Act.put, List.setIfInBounds_toArray, List.set_cons_zero, List.set_cons_succ]
      refine wpAnyH_take (i := 12) (v := ?v12) (by simp only [List.getElem?_toArray, List.getElem?_cons_succ, List.getElem?_cons_zero]; rfl) (by kernel_rfl) (by kernel_rfl) (by kernel_rfl) (by exact fun _ _ _ h => h) (Or.inl ⟨by rfl, ?hy12⟩) (by assumption) ?rest12
      case hy12 => ((intro W hSw; (try dsimp only at hSw); go_simp); (try with_reducible rfl))
      simp only [Act.put, List.setIfInBounds_toArray, List.set_cons_zero, List.set_cons_succ]
      refine wpAnyH_take (i := 13) (v := ?v13) (by simp only [List.getElem?_toArray, List.getElem?_cons_succ, List.getElem?_cons_zero]; rfl) (by kernel_rfl) (by kernel_rfl) (by kernel_rfl) (by exact fun _ _ _ h => h) (Or.inl ⟨by rfl, ?hy13⟩) (by assumption) ?rest13
      case hy13 => ((intro W hSw; (try dsimp only at hSw); go_simp); (try with_reducible rfl))
      simp only [Act.put, List.setIfInBounds_toArray, List.set_cons_zero, List.set_cons_succ]
      refine wpAnyH_ready (rs := [5]) (by kernel_rfl) (by simp) ?_
      refine AllReadyH.cons (by simp only [List.getElem?_toArray, List.getElem?_cons_succ, List.getElem?_cons_zero]; rfl) (fun K hK => ?_) AllReadyH.nil
      go_simp
      (go_at_call 46; refine (label_impl r _ q c _ HLN.out (HIS.out.below HH.out.1)).mono ?_; rintro e w6 ⟨rfl, hb6⟩; rw [← HLB.out]; replace HH := Lib.hid (HH.out.laterT hb6); clear hb6)
      go_wp2_with fail
      refine hK.out _ _ ?_ (fun hHeld => ?_)
      · (try dsimp only); exact HSW.out _ HH.out.1
      clear hK K
      refine wpAnyH_ready (rs := [14]) (by kernel_rfl) (by simp) ?_
      refine AllReadyH.cons (by simp only [List.getElem?_toArray, List.getElem?_cons_succ, List.getElem?_cons_zero]; rfl) (fun K hK => ?_) AllReadyH.nil
      go_simp
      (go_at_call 27; refine (HIH.out it cs' m bi (oi + q * 3) _ hmr (HRD.out.below HH.out.1) (HIV.out.below HH.out.1) (fun i u hi => cell_keep HH.out.1 (HCC.out i u hi)) HVI.out hUl (HTAB.out.below HH.out.1)).mono ?_; rintro e w7 ⟨rfl, hb7⟩; rw [← HU.out]; replace HH := Lib.hid (HH.out.laterT hb7); clear hb7)
      go_wp2_with fail
      refine hK.out _ _ ?_ (fun hHeld => ?_)
      · (try dsimp only); exact HSW.out _ HH.out.1
      clear hK K
      refine wpAnyH_take (i := 15) (v := ?v14) (by simp only [List.getElem?_toArray, List.getElem?_cons_succ, List.getElem?_cons_zero]; rfl) (by kernel_rfl) (by kernel_rfl) (by kernel_rfl) (by exact fun _ _ _ h => h) (Or.inl ⟨by rfl, ?hy14⟩) (by assumption) ?rest14
      case hy14 => ((intro W hSw; (try dsimp only at hSw); go_simp); (try with_reducible rfl))
      simp only [Act.put, List.setIfInBounds_toArray, List.set_cons_zero, List.set_cons_succ]
      refine wpAnyH_take (i := 16) (v := ?v15) (by simp only [List.getElem?_toArray, List.getElem?_cons_succ, List.getElem?_cons_zero]; rfl) (by kernel_rfl) (by kernel_rfl) (by kernel_rfl) (by exact fun _ _ _ h => h) (Or.inl ⟨by rfl, ?hy15⟩) (by assumption) ?rest15
      case hy15 => ((intro W hSw; (try dsimp only at hSw); go_simp); (try with_reducible rfl))
      simp only [Act.put, List.setIfInBounds_toArray, List.set_cons_zero, List.set_cons_succ]
      have hnext := HH.out.next (Nat.le_of_eq HM.out.symm) hlt2
      rw [← HNX.out] at hnext
      have HN9 := Lib.hid hnext
      clear hnext
      obtain ⟨hd, hf⟩ := HH.out.2 q hlt2
      rw [if_neg (by omega)] at hd
      refine wpAnyH_ready (rs := [17]) (by kernel_rfl) (by simp) ?_
      refine AllReadyH.cons (by simp only [List.getElem?_toArray, List.getElem?_cons_succ, List.getElem?_cons_zero]; rfl) (fun K hK => ?_) AllReadyH.nil
      go_simp
      refine hK.out _ _ ?_ (fun hHeld => ?_)
      · (try dsimp only); exact HSW.out _ HN9.out.1
      clear hK K
      refine wpAnyH_done (by kernel_rfl) ?_ _
      go_wp2
      go_roundw
      case rel => exact ⟨q + 1, by omega, by go_num, HN9⟩
      case measure => simp [intOf]; omega
    · have q1 : ¬ (q : Int) < (v.items.length : Int) := by omega
      obtain rfl : q = v.items.length := by omega
      have hh2 := HH.out
      rw [← HSL.out, HM.out] at hh2
      have HE := Lib.hid hh2.end
      have HBW := Lib.hid (HB.out.trans (hh2.1.mono HB.out.size))
      have HMM := Lib.hid HB.out.size
      clear hh2
      go_wp2
      go_ret
      simp only [← HSL.out, HM.out]
      exact ⟨_, _, rfl, ⟨HE.out.more HMM.out, Nat.le_refl _, (fun e => by cases e)⟩, HBW.out⟩
end Go.Proofs.YtfmnjclnhppghabGreatDoor
namespace Go.Proofs.YtfmnjclnhppghabGreatDoor
open Go Go.RowKit
theorem join_parts_text (rs : List RuleV) (r : RuleV) (x : Int) (l : List ValueV) : joinS ⟨#[44]⟩ (partsS rs r x 58 l) = txt (textL rs r x 0 l) := by
  unfold joinS partsS
  have e1 : lst (⟨#[44]⟩ : ByteArray) = [44] := rfl
  have e2 : ((partsT rs r x 58 0 l).map txt).map lst = partsT rs r x 58 0 l := by
    rw [List.map_map]
    conv => rhs; rw [← List.map_id (partsT rs r x 58 0 l)]
    exact List.map_congr_left fun y _ => lst_txt y
  rw [e1, e2, joinL_text]
theorem append_none (s : ByteArray) : s ++ (⟨#[]⟩ : ByteArray) = s := by apply lst_inj; rw [append_txt, lst_txt]; simp [lst]
/-- What itemsText promises of values of a height. -/
def IItemsC (a : Option Addr) (rs : List RuleV) (cap n : Nat) : Prop :=
  ∀ (v : ValueV) (vs : List Value) (k b o : Nat) (w : World), k < rs.length → RdR a rs w → IsVal (n + 1) v vs w → (∀ i u, vs[i]? = some u → w.cell? ⟨b, o + i, none⟩ = some u) → validV rs (k : Int) v = true → (textV rs (k : Int) v).length ≤ 4398046511104 → PowTab w →
    Calls Tryz.prog 51 #[.agg #[.slice a rs.length cap], .int .i64 (k : Int), .pointer (some ⟨b, o, none⟩)] w fun e w' => e = .returned (.string (txt (textL rs (ruleAt rs (k : Int)) v.number 0 v.items))) ∧ Below w.heap.size w w'
set_option maxRecDepth 100000 in
theorem iitems_step (a : Option Addr) (rs : List RuleV) (cap n : Nat) (hall : allV (kindI rs) rs) (ih : IPartsC a rs cap n) : IItemsC a rs cap n := by
  intro v vs k b o w hk hrd hv hcl hvv htl htab
  obtain ⟨hown, hvl⟩ := validV_own hk hvv
  have hki0 := allV_kind hall hk
  have hle := textL_le hk hki0 hown
  have hil := own_len hki0 hown
  obtain ⟨w0, hw0⟩ : ∃ w0, w0 = w.alloc (.cells #[.slice a rs.length cap] 35) := ⟨_, rfl⟩
  have hB : Below w.heap.size w w0 := by subst hw0; exact (Below.refl _ _).alloc (Nat.le_refl _) _
  have hD : CellsAt w.heap.size [.slice a rs.length cap] w0 := by subst hw0; exact CellsAt.new w _ _
  have hj := join_parts_text rs (ruleAt rs (k : Int)) v.number v.items
  have hjs : (joinS ⟨#[44]⟩ (partsS rs (ruleAt rs (k : Int)) v.number 58 v.items)).size ≤ 4398046511104 := by rw [hj, txt_size, ruleAt_at hk]; omega
  have hsl := partsS_length rs (ruleAt rs (k : Int)) v.number 58 v.items
  have hcall := ih v vs k b o 58 w0 hk (hrd.below hB) (hv.below hB) (fun i u hi => cell_keep hB (hcl i u hi)) hvv htl (htab.below hB)
  have HCALL := Lib.hid hcall
  have HJ := Lib.hid hj
  have HJS := Lib.hid hjs
  have HB := Lib.hid hB
  have HW := Lib.hid hw0
  have bx := (hD 0 _ rfl).1
  obtain ⟨SS, hSS⟩ : ∃ SS, SS = partsS rs (ruleAt rs (k : Int)) v.number 58 v.items := ⟨_, rfl⟩
  rw [← hSS] at HCALL HJ HJS hsl
  have hss : SS.length ≤ 1073741824 := by omega
  clear hsl hrd hv hcl hvv htl htab hown hvl hki0 hle hw0 hB hD hj hjs hcall hSS ih hall
  go_enter Tryz.func51, Tryz.ntmps51
  go_upto_region 1 with fail
  rw [← HW.out]
  clear HW
  go_wp2_with fail
  refine HCALL.out.mono ?_
  rintro e w1 ⟨x, c, rfl, hrow, hb1⟩
  have HR := Lib.hid hrow
  replace HB := Lib.hid (HB.out.trans (hb1.mono HB.out.size))
  clear hrow hb1 bx HCALL
  go_wp2_with fail
  refine (join_impl x SS c ⟨#[44]⟩ w1 hss HR.out.2.1 HJS.out HR.out.1.rd).mono ?_
  rintro e w2 ⟨rfl, hb2⟩
  rw [HJ.out]
  replace HB := Lib.hid (HB.out.trans (hb2.mono HB.out.size))
  clear hb2
  go_wp2
  go_ret
  exact ⟨rfl, HB.out⟩
set_option maxRecDepth 100000 in
set_option maxHeartbeats 8000000 in
theorem itext_1 (a : Option Addr) (rs : List RuleV) (cap n : Nat) (hall : allV (kindI rs) rs) (ih : IItemsC a rs cap n) (v : ValueV) (vs : List Value) (k b o : Nat) (w : World) (hk : k < rs.length) (hrd : RdR a rs w) (hv : IsVal (n + 1) v vs w) (hcl : ∀ i u, vs[i]? = some u → w.cell? ⟨b, o + i, none⟩ = some u) (hvv : validV rs (k : Int) v = true) (htl : (textV rs (k : Int) v).length ≤ 4398046511104) (htab : PowTab w) (hkd : rs[k].kind = 1) :
    Calls Tryz.prog 27 #[.agg #[.slice a rs.length cap], .int .i64 (k : Int), .pointer (some ⟨b, o, none⟩)] w fun e w' => e = .returned (.string (txt (textV rs (k : Int) v))) ∧ Below w.heap.size w w' := by
  obtain ⟨hown, hvl⟩ := validV_own hk hvv
  have hki0 := allV_kind hall hk
  have hle := textL_le hk hki0 hown
  have hnum := own_num hki0 hown
  have h8 : rs[k].kind = 8 → v.items.length ≤ 1 := fun e => by simp [ownB, e] at hown; exact hown.2.2
  obtain ⟨w0, hw0⟩ : ∃ w0, w0 = w.alloc (.cells #[.slice a rs.length cap] 35) := ⟨_, rfl⟩
  have hB : Below w.heap.size w w0 := by subst hw0; exact (Below.refl _ _).alloc (Nat.le_refl _) _
  have hD : CellsAt w.heap.size [.slice a rs.length cap] w0 := by subst hw0; exact CellsAt.new w _ _
  have HCALL : Hid (∀ W, Below w0.heap.size w0 W → Calls Tryz.prog 51 #[.agg #[.slice a rs.length cap], .int .i64 (k : Int), .pointer (some ⟨b, o, none⟩)] W fun e w' => e = .returned (.string (txt (textL rs rs[k] v.number 0 v.items))) ∧ Below W.heap.size W w') := fun W hW => by
    have h1 := ih v vs k b o W hk (hrd.below (hB.trans (hW.mono hB.size))) (hv.below (hB.trans (hW.mono hB.size))) (fun i u hi => cell_keep (hB.trans (hW.mono hB.size)) (hcl i u hi)) hvv htl (htab.below (hB.trans (hW.mono hB.size)))
    rw [ruleAt_at hk] at h1
    exact h1
  rw [textV_at hk] at htl hle ⊢
  obtain ⟨ab, cb, ai, ci, rfl, hb, hit⟩ := hv
  obtain ⟨b0, off, a4, c4, a5, c5, a6, c6, a7, c7, rfl, ⟨d0, d1, -⟩, -⟩ := (hrd.below hB).at k hk
  have x0 := cell_keep hB (hcl 0 _ rfl)
  have x1 := cell_keep hB (hcl 1 _ rfl)
  have x2 := cell_keep hB (hcl 2 _ rfl)
  simp only [Nat.add_zero] at x0
  obtain ⟨r, hr⟩ : ∃ r, r = rs[k] := ⟨_, rfl⟩
  rw [← hr] at d1 hkd htl hle h8 HCALL ⊢
  rw [hkd] at d1
  clear hr
  have HSW : Hid (∀ W, Below w0.heap.size w0 W → W.cell? ⟨w.heap.size, 0, none⟩ = some (.slice (some ⟨b0, off, none⟩) rs.length cap) ∧ W.cell? ⟨b, o, none⟩ = some (.int .i64 v.number) ∧ W.cell? ⟨b, o + 1, none⟩ = some (.slice ab v.bytes.length cb) ∧ W.cell? ⟨b, o + 2, none⟩ = some (.slice ai v.items.length ci)) := fun W hW => ⟨(hD.below hW 0 _ rfl).1, cell_keep hW x0, cell_keep hW x1, cell_keep hW x2⟩
  have HRB := Lib.hid (hb.1.below hB)
  have HTAB := Lib.hid (htab.below hB)
  have HB := Lib.hid hB
  have HW := Lib.hid hw0
  have hIs : (txt (textL rs r v.number 0 v.items)).size ≤ 4398046511104 := by rw [txt_size]; omega
  have H8 := Lib.hid h8
  obtain ⟨⟨hn0, hn1⟩, hnb⟩ := hnum
  have hna : (-9223372036854775808 : Int) ≤ v.number := by omega
  have hnc : v.number ≤ 9223372036854775807 := by omega
  have bx := (hD 0 _ rfl).1
  have k0 : (0 : Int) ≤ (k : Int) := by omega
  have k1 : (k : Int) < (rs.length : Int) := by omega
  have hr := wrap_1 (r := r) hkd v.number v.bytes v.items.length (textL rs r v.number 0 v.items)
  obtain ⟨I, hI⟩ : ∃ I, I = txt (textL rs r v.number 0 v.items) := ⟨_, rfl⟩
  rw [← hI] at hIs HCALL
  have HR := Lib.hid hr
  clear hr
  have h8l : r.kind = 8 → v.items.length ≤ 1 := H8.out
  clear hI hown hvl hki0 hle hvv htl htab hw0 hB hD hb hit hrd hcl ih hall h8 x0 x1 x2 H8 h8l d0
  clear hkd
  go_enter Tryz.func27, Tryz.ntmps27
  go_upto_region 1 with fail
  rw [← HW.out]
  clear HW
  go_wp2_with fail
  refine (formof_1 _).mono ?_
  rintro e wf ⟨rfl, rfl⟩
  have hm := meth_integer
  go_wp2_with fail
  refine (signs_integer _).mono ?_
  rintro e wg ⟨rfl, hbg⟩
  have HBG := Lib.hid hbg
  clear hbg bx d1 hm
  have ha_integer : ∀ W : World, (Instr.typeAssert (.iface 84 (.agg #[])) 79 84 true).run Tryz.prog W = .ok (.tuple #[.agg #[], .bool true]) W := fun _ => by kernel_rfl
  obtain ⟨bx, z0, z1, z2⟩ := HSW.out _ HBG.out
  go_wp2_with fail
  refine (fmt_impl v.number _ hna hnc (HTAB.out.below HBG.out)).mono ?_
  rintro e wh ⟨rfl, hbh⟩
  have HFIN := Lib.hid (HB.out.trans ((HBG.out.trans (hbh.mono HBG.out.size)).mono HB.out.size))
  clear hbh
  go_wp2
  go_ret
  exact ⟨ret_txt HR.out, HFIN.out⟩
set_option maxRecDepth 100000 in
set_option maxHeartbeats 8000000 in
theorem itext_2 (a : Option Addr) (rs : List RuleV) (cap n : Nat) (hall : allV (kindI rs) rs) (ih : IItemsC a rs cap n) (v : ValueV) (vs : List Value) (k b o : Nat) (w : World) (hk : k < rs.length) (hrd : RdR a rs w) (hv : IsVal (n + 1) v vs w) (hcl : ∀ i u, vs[i]? = some u → w.cell? ⟨b, o + i, none⟩ = some u) (hvv : validV rs (k : Int) v = true) (htl : (textV rs (k : Int) v).length ≤ 4398046511104) (htab : PowTab w) (hkd : rs[k].kind = 2) :
    Calls Tryz.prog 27 #[.agg #[.slice a rs.length cap], .int .i64 (k : Int), .pointer (some ⟨b, o, none⟩)] w fun e w' => e = .returned (.string (txt (textV rs (k : Int) v))) ∧ Below w.heap.size w w' := by
  obtain ⟨hown, hvl⟩ := validV_own hk hvv
  have hki0 := allV_kind hall hk
  have hle := textL_le hk hki0 hown
  have hnum := own_num hki0 hown
  have h8 : rs[k].kind = 8 → v.items.length ≤ 1 := fun e => by simp [ownB, e] at hown; exact hown.2.2
  obtain ⟨w0, hw0⟩ : ∃ w0, w0 = w.alloc (.cells #[.slice a rs.length cap] 35) := ⟨_, rfl⟩
  have hB : Below w.heap.size w w0 := by subst hw0; exact (Below.refl _ _).alloc (Nat.le_refl _) _
  have hD : CellsAt w.heap.size [.slice a rs.length cap] w0 := by subst hw0; exact CellsAt.new w _ _
  have HCALL : Hid (∀ W, Below w0.heap.size w0 W → Calls Tryz.prog 51 #[.agg #[.slice a rs.length cap], .int .i64 (k : Int), .pointer (some ⟨b, o, none⟩)] W fun e w' => e = .returned (.string (txt (textL rs rs[k] v.number 0 v.items))) ∧ Below W.heap.size W w') := fun W hW => by
    have h1 := ih v vs k b o W hk (hrd.below (hB.trans (hW.mono hB.size))) (hv.below (hB.trans (hW.mono hB.size))) (fun i u hi => cell_keep (hB.trans (hW.mono hB.size)) (hcl i u hi)) hvv htl (htab.below (hB.trans (hW.mono hB.size)))
    rw [ruleAt_at hk] at h1
    exact h1
  rw [textV_at hk] at htl hle ⊢
  obtain ⟨ab, cb, ai, ci, rfl, hb, hit⟩ := hv
  obtain ⟨b0, off, a4, c4, a5, c5, a6, c6, a7, c7, rfl, ⟨d0, d1, -⟩, -⟩ := (hrd.below hB).at k hk
  have x0 := cell_keep hB (hcl 0 _ rfl)
  have x1 := cell_keep hB (hcl 1 _ rfl)
  have x2 := cell_keep hB (hcl 2 _ rfl)
  simp only [Nat.add_zero] at x0
  obtain ⟨r, hr⟩ : ∃ r, r = rs[k] := ⟨_, rfl⟩
  rw [← hr] at d1 hkd htl hle h8 HCALL ⊢
  rw [hkd] at d1
  clear hr
  have HSW : Hid (∀ W, Below w0.heap.size w0 W → W.cell? ⟨w.heap.size, 0, none⟩ = some (.slice (some ⟨b0, off, none⟩) rs.length cap) ∧ W.cell? ⟨b, o, none⟩ = some (.int .i64 v.number) ∧ W.cell? ⟨b, o + 1, none⟩ = some (.slice ab v.bytes.length cb) ∧ W.cell? ⟨b, o + 2, none⟩ = some (.slice ai v.items.length ci)) := fun W hW => ⟨(hD.below hW 0 _ rfl).1, cell_keep hW x0, cell_keep hW x1, cell_keep hW x2⟩
  have HRB := Lib.hid (hb.1.below hB)
  have HTAB := Lib.hid (htab.below hB)
  have HB := Lib.hid hB
  have HW := Lib.hid hw0
  have hIs : (txt (textL rs r v.number 0 v.items)).size ≤ 4398046511104 := by rw [txt_size]; omega
  have H8 := Lib.hid h8
  obtain ⟨⟨hn0, hn1⟩, hnb⟩ := hnum
  have hna : (-9223372036854775808 : Int) ≤ v.number := by omega
  have hnc : v.number ≤ 9223372036854775807 := by omega
  have bx := (hD 0 _ rfl).1
  have k0 : (0 : Int) ≤ (k : Int) := by omega
  have k1 : (k : Int) < (rs.length : Int) := by omega
  have hr := wrap_2 (r := r) hkd v.number v.bytes v.items.length (textL rs r v.number 0 v.items)
  obtain ⟨I, hI⟩ : ∃ I, I = txt (textL rs r v.number 0 v.items) := ⟨_, rfl⟩
  rw [← hI] at hIs HCALL
  have HR := Lib.hid hr
  clear hr
  have h8l : r.kind = 8 → v.items.length ≤ 1 := H8.out
  clear hI hown hvl hki0 hle hvv htl htab hw0 hB hD hb hit hrd hcl ih hall h8 x0 x1 x2 H8 h8l d0
  clear hkd
  go_enter Tryz.func27, Tryz.ntmps27
  go_upto_region 1 with fail
  rw [← HW.out]
  clear HW
  go_wp2_with fail
  refine (formof_2 _).mono ?_
  rintro e wf ⟨rfl, rfl⟩
  have hm := meth_const
  go_wp2_with fail
  refine (signs_const _).mono ?_
  rintro e wg ⟨rfl, hbg⟩
  have HBG := Lib.hid hbg
  clear hbg bx d1 hm
  have ha_integer : ∀ W : World, (Instr.typeAssert (.iface 85 (.agg #[])) 79 84 true).run Tryz.prog W = .ok (.tuple #[.agg #[], .bool false]) W := fun _ => by kernel_rfl
  have ha_const : ∀ W : World, (Instr.typeAssert (.iface 85 (.agg #[])) 79 85 true).run Tryz.prog W = .ok (.tuple #[.agg #[], .bool true]) W := fun _ => by kernel_rfl
  obtain ⟨bx, z0, z1, z2⟩ := HSW.out _ HBG.out
  have HFIN := Lib.hid (HB.out.trans (HBG.out.mono HB.out.size))
  go_wp2
  go_ret
  exact ⟨ret_txt HR.out, HFIN.out⟩
set_option maxRecDepth 100000 in
set_option maxHeartbeats 8000000 in
theorem itext_3 (a : Option Addr) (rs : List RuleV) (cap n : Nat) (hall : allV (kindI rs) rs) (ih : IItemsC a rs cap n) (v : ValueV) (vs : List Value) (k b o : Nat) (w : World) (hk : k < rs.length) (hrd : RdR a rs w) (hv : IsVal (n + 1) v vs w) (hcl : ∀ i u, vs[i]? = some u → w.cell? ⟨b, o + i, none⟩ = some u) (hvv : validV rs (k : Int) v = true) (htl : (textV rs (k : Int) v).length ≤ 4398046511104) (htab : PowTab w) (hkd : rs[k].kind = 3) :
    Calls Tryz.prog 27 #[.agg #[.slice a rs.length cap], .int .i64 (k : Int), .pointer (some ⟨b, o, none⟩)] w fun e w' => e = .returned (.string (txt (textV rs (k : Int) v))) ∧ Below w.heap.size w w' := by
  obtain ⟨hown, hvl⟩ := validV_own hk hvv
  have hki0 := allV_kind hall hk
  have hle := textL_le hk hki0 hown
  have hnum := own_num hki0 hown
  have h8 : rs[k].kind = 8 → v.items.length ≤ 1 := fun e => by simp [ownB, e] at hown; exact hown.2.2
  obtain ⟨w0, hw0⟩ : ∃ w0, w0 = w.alloc (.cells #[.slice a rs.length cap] 35) := ⟨_, rfl⟩
  have hB : Below w.heap.size w w0 := by subst hw0; exact (Below.refl _ _).alloc (Nat.le_refl _) _
  have hD : CellsAt w.heap.size [.slice a rs.length cap] w0 := by subst hw0; exact CellsAt.new w _ _
  have HCALL : Hid (∀ W, Below w0.heap.size w0 W → Calls Tryz.prog 51 #[.agg #[.slice a rs.length cap], .int .i64 (k : Int), .pointer (some ⟨b, o, none⟩)] W fun e w' => e = .returned (.string (txt (textL rs rs[k] v.number 0 v.items))) ∧ Below W.heap.size W w') := fun W hW => by
    have h1 := ih v vs k b o W hk (hrd.below (hB.trans (hW.mono hB.size))) (hv.below (hB.trans (hW.mono hB.size))) (fun i u hi => cell_keep (hB.trans (hW.mono hB.size)) (hcl i u hi)) hvv htl (htab.below (hB.trans (hW.mono hB.size)))
    rw [ruleAt_at hk] at h1
    exact h1
  rw [textV_at hk] at htl hle ⊢
  obtain ⟨ab, cb, ai, ci, rfl, hb, hit⟩ := hv
  obtain ⟨b0, off, a4, c4, a5, c5, a6, c6, a7, c7, rfl, ⟨d0, d1, -⟩, -⟩ := (hrd.below hB).at k hk
  have x0 := cell_keep hB (hcl 0 _ rfl)
  have x1 := cell_keep hB (hcl 1 _ rfl)
  have x2 := cell_keep hB (hcl 2 _ rfl)
  simp only [Nat.add_zero] at x0
  obtain ⟨r, hr⟩ : ∃ r, r = rs[k] := ⟨_, rfl⟩
  rw [← hr] at d1 hkd htl hle h8 HCALL ⊢
  rw [hkd] at d1
  clear hr
  have HSW : Hid (∀ W, Below w0.heap.size w0 W → W.cell? ⟨w.heap.size, 0, none⟩ = some (.slice (some ⟨b0, off, none⟩) rs.length cap) ∧ W.cell? ⟨b, o, none⟩ = some (.int .i64 v.number) ∧ W.cell? ⟨b, o + 1, none⟩ = some (.slice ab v.bytes.length cb) ∧ W.cell? ⟨b, o + 2, none⟩ = some (.slice ai v.items.length ci)) := fun W hW => ⟨(hD.below hW 0 _ rfl).1, cell_keep hW x0, cell_keep hW x1, cell_keep hW x2⟩
  have HRB := Lib.hid (hb.1.below hB)
  have HTAB := Lib.hid (htab.below hB)
  have HB := Lib.hid hB
  have HW := Lib.hid hw0
  have hIs : (txt (textL rs r v.number 0 v.items)).size ≤ 4398046511104 := by rw [txt_size]; omega
  have H8 := Lib.hid h8
  obtain ⟨⟨hn0, hn1⟩, hnb⟩ := hnum
  have hna : (-9223372036854775808 : Int) ≤ v.number := by omega
  have hnc : v.number ≤ 9223372036854775807 := by omega
  have bx := (hD 0 _ rfl).1
  have k0 : (0 : Int) ≤ (k : Int) := by omega
  have k1 : (k : Int) < (rs.length : Int) := by omega
  have hr := wrap_b (r := r) (by omega) v.number v.bytes v.items.length (textL rs r v.number 0 v.items)
  obtain ⟨I, hI⟩ : ∃ I, I = txt (textL rs r v.number 0 v.items) := ⟨_, rfl⟩
  rw [← hI] at hIs HCALL
  have HR := Lib.hid hr
  clear hr
  have h8l : r.kind = 8 → v.items.length ≤ 1 := H8.out
  clear hI hown hvl hki0 hle hvv htl htab hw0 hB hD hb hit hrd hcl ih hall h8 x0 x1 x2 H8 h8l d0
  clear hkd
  go_enter Tryz.func27, Tryz.ntmps27
  go_upto_region 1 with fail
  rw [← HW.out]
  clear HW
  go_wp2_with fail
  refine (formof_3 _).mono ?_
  rintro e wf ⟨rfl, rfl⟩
  have hm := meth_bytes
  go_wp2_with fail
  refine (signs_bytes _).mono ?_
  rintro e wg ⟨rfl, hbg⟩
  have HBG := Lib.hid hbg
  clear hbg bx d1 hm
  have ha_integer : ∀ W : World, (Instr.typeAssert (.iface 86 (.agg #[])) 79 84 true).run Tryz.prog W = .ok (.tuple #[.agg #[], .bool false]) W := fun _ => by kernel_rfl
  have ha_const : ∀ W : World, (Instr.typeAssert (.iface 86 (.agg #[])) 79 85 true).run Tryz.prog W = .ok (.tuple #[.agg #[], .bool false]) W := fun _ => by kernel_rfl
  have ha_bytes : ∀ W : World, (Instr.typeAssert (.iface 86 (.agg #[])) 79 86 true).run Tryz.prog W = .ok (.tuple #[.agg #[], .bool true]) W := fun _ => by kernel_rfl
  obtain ⟨bx, z0, z1, z2⟩ := HSW.out _ HBG.out
  have hszx : (⟨(hexL v.bytes).toArray⟩ : ByteArray).size = 2 * v.bytes.length := by rw [← hexL_length]; simp [ByteArray.size]
  have hb40 : v.bytes.length ≤ 1099511627776 := by omega
  go_wp2_with fail
  refine (fmthex_impl ab v.bytes cb _ hb40 (HRB.out.below HBG.out)).mono ?_
  rintro e wh ⟨rfl, hbh⟩
  have HFIN := Lib.hid (HB.out.trans ((HBG.out.trans (hbh.mono HBG.out.size)).mono HB.out.size))
  clear hbh
  generalize (⟨(hexL v.bytes).toArray⟩ : ByteArray) = H at hszx HR ⊢
  go_wp2
  go_ret
  exact ⟨ret_txt HR.out, HFIN.out⟩
set_option maxRecDepth 100000 in
set_option maxHeartbeats 8000000 in
theorem itext_4 (a : Option Addr) (rs : List RuleV) (cap n : Nat) (hall : allV (kindI rs) rs) (ih : IItemsC a rs cap n) (v : ValueV) (vs : List Value) (k b o : Nat) (w : World) (hk : k < rs.length) (hrd : RdR a rs w) (hv : IsVal (n + 1) v vs w) (hcl : ∀ i u, vs[i]? = some u → w.cell? ⟨b, o + i, none⟩ = some u) (hvv : validV rs (k : Int) v = true) (htl : (textV rs (k : Int) v).length ≤ 4398046511104) (htab : PowTab w) (hkd : rs[k].kind = 4) :
    Calls Tryz.prog 27 #[.agg #[.slice a rs.length cap], .int .i64 (k : Int), .pointer (some ⟨b, o, none⟩)] w fun e w' => e = .returned (.string (txt (textV rs (k : Int) v))) ∧ Below w.heap.size w w' := by
  obtain ⟨hown, hvl⟩ := validV_own hk hvv
  have hki0 := allV_kind hall hk
  have hle := textL_le hk hki0 hown
  have hnum := own_num hki0 hown
  have h8 : rs[k].kind = 8 → v.items.length ≤ 1 := fun e => by simp [ownB, e] at hown; exact hown.2.2
  obtain ⟨w0, hw0⟩ : ∃ w0, w0 = w.alloc (.cells #[.slice a rs.length cap] 35) := ⟨_, rfl⟩
  have hB : Below w.heap.size w w0 := by subst hw0; exact (Below.refl _ _).alloc (Nat.le_refl _) _
  have hD : CellsAt w.heap.size [.slice a rs.length cap] w0 := by subst hw0; exact CellsAt.new w _ _
  have HCALL : Hid (∀ W, Below w0.heap.size w0 W → Calls Tryz.prog 51 #[.agg #[.slice a rs.length cap], .int .i64 (k : Int), .pointer (some ⟨b, o, none⟩)] W fun e w' => e = .returned (.string (txt (textL rs rs[k] v.number 0 v.items))) ∧ Below W.heap.size W w') := fun W hW => by
    have h1 := ih v vs k b o W hk (hrd.below (hB.trans (hW.mono hB.size))) (hv.below (hB.trans (hW.mono hB.size))) (fun i u hi => cell_keep (hB.trans (hW.mono hB.size)) (hcl i u hi)) hvv htl (htab.below (hB.trans (hW.mono hB.size)))
    rw [ruleAt_at hk] at h1
    exact h1
  rw [textV_at hk] at htl hle ⊢
  obtain ⟨ab, cb, ai, ci, rfl, hb, hit⟩ := hv
  obtain ⟨b0, off, a4, c4, a5, c5, a6, c6, a7, c7, rfl, ⟨d0, d1, -⟩, -⟩ := (hrd.below hB).at k hk
  have x0 := cell_keep hB (hcl 0 _ rfl)
  have x1 := cell_keep hB (hcl 1 _ rfl)
  have x2 := cell_keep hB (hcl 2 _ rfl)
  simp only [Nat.add_zero] at x0
  obtain ⟨r, hr⟩ : ∃ r, r = rs[k] := ⟨_, rfl⟩
  rw [← hr] at d1 hkd htl hle h8 HCALL ⊢
  rw [hkd] at d1
  clear hr
  have HSW : Hid (∀ W, Below w0.heap.size w0 W → W.cell? ⟨w.heap.size, 0, none⟩ = some (.slice (some ⟨b0, off, none⟩) rs.length cap) ∧ W.cell? ⟨b, o, none⟩ = some (.int .i64 v.number) ∧ W.cell? ⟨b, o + 1, none⟩ = some (.slice ab v.bytes.length cb) ∧ W.cell? ⟨b, o + 2, none⟩ = some (.slice ai v.items.length ci)) := fun W hW => ⟨(hD.below hW 0 _ rfl).1, cell_keep hW x0, cell_keep hW x1, cell_keep hW x2⟩
  have HRB := Lib.hid (hb.1.below hB)
  have HTAB := Lib.hid (htab.below hB)
  have HB := Lib.hid hB
  have HW := Lib.hid hw0
  have hIs : (txt (textL rs r v.number 0 v.items)).size ≤ 4398046511104 := by rw [txt_size]; omega
  have H8 := Lib.hid h8
  obtain ⟨⟨hn0, hn1⟩, hnb⟩ := hnum
  have hna : (-9223372036854775808 : Int) ≤ v.number := by omega
  have hnc : v.number ≤ 9223372036854775807 := by omega
  have bx := (hD 0 _ rfl).1
  have k0 : (0 : Int) ≤ (k : Int) := by omega
  have k1 : (k : Int) < (rs.length : Int) := by omega
  have hr := wrap_b (r := r) (by omega) v.number v.bytes v.items.length (textL rs r v.number 0 v.items)
  obtain ⟨I, hI⟩ : ∃ I, I = txt (textL rs r v.number 0 v.items) := ⟨_, rfl⟩
  rw [← hI] at hIs HCALL
  have HR := Lib.hid hr
  clear hr
  have h8l : r.kind = 8 → v.items.length ≤ 1 := H8.out
  clear hI hown hvl hki0 hle hvv htl htab hw0 hB hD hb hit hrd hcl ih hall h8 x0 x1 x2 H8 h8l d0
  clear hkd
  go_enter Tryz.func27, Tryz.ntmps27
  go_upto_region 1 with fail
  rw [← HW.out]
  clear HW
  go_wp2_with fail
  refine (formof_4 _).mono ?_
  rintro e wf ⟨rfl, rfl⟩
  have hm := meth_bytes
  go_wp2_with fail
  refine (signs_bytes _).mono ?_
  rintro e wg ⟨rfl, hbg⟩
  have HBG := Lib.hid hbg
  clear hbg bx d1 hm
  have ha_integer : ∀ W : World, (Instr.typeAssert (.iface 86 (.agg #[])) 79 84 true).run Tryz.prog W = .ok (.tuple #[.agg #[], .bool false]) W := fun _ => by kernel_rfl
  have ha_const : ∀ W : World, (Instr.typeAssert (.iface 86 (.agg #[])) 79 85 true).run Tryz.prog W = .ok (.tuple #[.agg #[], .bool false]) W := fun _ => by kernel_rfl
  have ha_bytes : ∀ W : World, (Instr.typeAssert (.iface 86 (.agg #[])) 79 86 true).run Tryz.prog W = .ok (.tuple #[.agg #[], .bool true]) W := fun _ => by kernel_rfl
  obtain ⟨bx, z0, z1, z2⟩ := HSW.out _ HBG.out
  have hszx : (⟨(hexL v.bytes).toArray⟩ : ByteArray).size = 2 * v.bytes.length := by rw [← hexL_length]; simp [ByteArray.size]
  have hb40 : v.bytes.length ≤ 1099511627776 := by omega
  go_wp2_with fail
  refine (fmthex_impl ab v.bytes cb _ hb40 (HRB.out.below HBG.out)).mono ?_
  rintro e wh ⟨rfl, hbh⟩
  have HFIN := Lib.hid (HB.out.trans ((HBG.out.trans (hbh.mono HBG.out.size)).mono HB.out.size))
  clear hbh
  generalize (⟨(hexL v.bytes).toArray⟩ : ByteArray) = H at hszx HR ⊢
  go_wp2
  go_ret
  exact ⟨ret_txt HR.out, HFIN.out⟩
set_option maxRecDepth 100000 in
set_option maxHeartbeats 8000000 in
theorem itext_5 (a : Option Addr) (rs : List RuleV) (cap n : Nat) (hall : allV (kindI rs) rs) (ih : IItemsC a rs cap n) (v : ValueV) (vs : List Value) (k b o : Nat) (w : World) (hk : k < rs.length) (hrd : RdR a rs w) (hv : IsVal (n + 1) v vs w) (hcl : ∀ i u, vs[i]? = some u → w.cell? ⟨b, o + i, none⟩ = some u) (hvv : validV rs (k : Int) v = true) (htl : (textV rs (k : Int) v).length ≤ 4398046511104) (htab : PowTab w) (hkd : rs[k].kind = 5) :
    Calls Tryz.prog 27 #[.agg #[.slice a rs.length cap], .int .i64 (k : Int), .pointer (some ⟨b, o, none⟩)] w fun e w' => e = .returned (.string (txt (textV rs (k : Int) v))) ∧ Below w.heap.size w w' := by
  obtain ⟨hown, hvl⟩ := validV_own hk hvv
  have hki0 := allV_kind hall hk
  have hle := textL_le hk hki0 hown
  have hnum := own_num hki0 hown
  have h8 : rs[k].kind = 8 → v.items.length ≤ 1 := fun e => by simp [ownB, e] at hown; exact hown.2.2
  obtain ⟨w0, hw0⟩ : ∃ w0, w0 = w.alloc (.cells #[.slice a rs.length cap] 35) := ⟨_, rfl⟩
  have hB : Below w.heap.size w w0 := by subst hw0; exact (Below.refl _ _).alloc (Nat.le_refl _) _
  have hD : CellsAt w.heap.size [.slice a rs.length cap] w0 := by subst hw0; exact CellsAt.new w _ _
  have HCALL : Hid (∀ W, Below w0.heap.size w0 W → Calls Tryz.prog 51 #[.agg #[.slice a rs.length cap], .int .i64 (k : Int), .pointer (some ⟨b, o, none⟩)] W fun e w' => e = .returned (.string (txt (textL rs rs[k] v.number 0 v.items))) ∧ Below W.heap.size W w') := fun W hW => by
    have h1 := ih v vs k b o W hk (hrd.below (hB.trans (hW.mono hB.size))) (hv.below (hB.trans (hW.mono hB.size))) (fun i u hi => cell_keep (hB.trans (hW.mono hB.size)) (hcl i u hi)) hvv htl (htab.below (hB.trans (hW.mono hB.size)))
    rw [ruleAt_at hk] at h1
    exact h1
  rw [textV_at hk] at htl hle ⊢
  obtain ⟨ab, cb, ai, ci, rfl, hb, hit⟩ := hv
  obtain ⟨b0, off, a4, c4, a5, c5, a6, c6, a7, c7, rfl, ⟨d0, d1, -⟩, -⟩ := (hrd.below hB).at k hk
  have x0 := cell_keep hB (hcl 0 _ rfl)
  have x1 := cell_keep hB (hcl 1 _ rfl)
  have x2 := cell_keep hB (hcl 2 _ rfl)
  simp only [Nat.add_zero] at x0
  obtain ⟨r, hr⟩ : ∃ r, r = rs[k] := ⟨_, rfl⟩
  rw [← hr] at d1 hkd htl hle h8 HCALL ⊢
  rw [hkd] at d1
  clear hr
  have HSW : Hid (∀ W, Below w0.heap.size w0 W → W.cell? ⟨w.heap.size, 0, none⟩ = some (.slice (some ⟨b0, off, none⟩) rs.length cap) ∧ W.cell? ⟨b, o, none⟩ = some (.int .i64 v.number) ∧ W.cell? ⟨b, o + 1, none⟩ = some (.slice ab v.bytes.length cb) ∧ W.cell? ⟨b, o + 2, none⟩ = some (.slice ai v.items.length ci)) := fun W hW => ⟨(hD.below hW 0 _ rfl).1, cell_keep hW x0, cell_keep hW x1, cell_keep hW x2⟩
  have HRB := Lib.hid (hb.1.below hB)
  have HTAB := Lib.hid (htab.below hB)
  have HB := Lib.hid hB
  have HW := Lib.hid hw0
  have hIs : (txt (textL rs r v.number 0 v.items)).size ≤ 4398046511104 := by rw [txt_size]; omega
  have H8 := Lib.hid h8
  obtain ⟨⟨hn0, hn1⟩, hnb⟩ := hnum
  have hna : (-9223372036854775808 : Int) ≤ v.number := by omega
  have hnc : v.number ≤ 9223372036854775807 := by omega
  have bx := (hD 0 _ rfl).1
  have k0 : (0 : Int) ≤ (k : Int) := by omega
  have k1 : (k : Int) < (rs.length : Int) := by omega
  have hr := wrap_5 (r := r) hkd v.number v.bytes v.items.length (textL rs r v.number 0 v.items)
  obtain ⟨I, hI⟩ : ∃ I, I = txt (textL rs r v.number 0 v.items) := ⟨_, rfl⟩
  rw [← hI] at hIs HCALL
  rw [← hI] at hr
  have HR := Lib.hid hr
  clear hr
  have h8l : r.kind = 8 → v.items.length ≤ 1 := H8.out
  clear hI hown hvl hki0 hle hvv htl htab hw0 hB hD hb hit hrd hcl ih hall h8 x0 x1 x2 H8 h8l d0
  clear hkd
  go_enter Tryz.func27, Tryz.ntmps27
  go_upto_region 1 with fail
  rw [← HW.out]
  clear HW
  go_wp2_with fail
  refine (formof_5 _).mono ?_
  rintro e wf ⟨rfl, rfl⟩
  have hm := meth_array
  go_wp2_with fail
  refine (signs_array _).mono ?_
  rintro e wg ⟨rfl, hbg⟩
  have HBG := Lib.hid hbg
  clear hbg bx d1 hm
  have ha_integer : ∀ W : World, (Instr.typeAssert (.iface 102 (.agg #[])) 79 84 true).run Tryz.prog W = .ok (.tuple #[.agg #[], .bool false]) W := fun _ => by kernel_rfl
  have ha_const : ∀ W : World, (Instr.typeAssert (.iface 102 (.agg #[])) 79 85 true).run Tryz.prog W = .ok (.tuple #[.agg #[], .bool false]) W := fun _ => by kernel_rfl
  have ha_bytes : ∀ W : World, (Instr.typeAssert (.iface 102 (.agg #[])) 79 86 true).run Tryz.prog W = .ok (.tuple #[.agg #[], .bool false]) W := fun _ => by kernel_rfl
  have ha_choice : ∀ W : World, (Instr.typeAssert (.iface 102 (.agg #[])) 79 87 true).run Tryz.prog W = .ok (.tuple #[.agg #[], .bool false]) W := fun _ => by kernel_rfl
  have ha_option : ∀ W : World, (Instr.typeAssert (.iface 102 (.agg #[])) 79 88 true).run Tryz.prog W = .ok (.tuple #[.agg #[], .bool false]) W := fun _ => by kernel_rfl
  obtain ⟨bx, z0, z1, z2⟩ := HSW.out _ HBG.out
  go_wp2_with fail
  refine (HCALL.out _ HBG.out).mono ?_
  rintro e wh ⟨rfl, hbh⟩
  have HFIN := Lib.hid (HB.out.trans ((HBG.out.trans (hbh.mono HBG.out.size)).mono HB.out.size))
  clear hbh
  have hs1 : ((⟨#[91]⟩ : ByteArray) ++ I).size = 1 + I.size := by rw [ByteArray.size_append]; rfl
  go_wp2
  go_ret
  exact ⟨ret_txt HR.out, HFIN.out⟩
set_option maxRecDepth 100000 in
set_option maxHeartbeats 8000000 in
theorem itext_6 (a : Option Addr) (rs : List RuleV) (cap n : Nat) (hall : allV (kindI rs) rs) (ih : IItemsC a rs cap n) (v : ValueV) (vs : List Value) (k b o : Nat) (w : World) (hk : k < rs.length) (hrd : RdR a rs w) (hv : IsVal (n + 1) v vs w) (hcl : ∀ i u, vs[i]? = some u → w.cell? ⟨b, o + i, none⟩ = some u) (hvv : validV rs (k : Int) v = true) (htl : (textV rs (k : Int) v).length ≤ 4398046511104) (htab : PowTab w) (hkd : rs[k].kind = 6) :
    Calls Tryz.prog 27 #[.agg #[.slice a rs.length cap], .int .i64 (k : Int), .pointer (some ⟨b, o, none⟩)] w fun e w' => e = .returned (.string (txt (textV rs (k : Int) v))) ∧ Below w.heap.size w w' := by
  obtain ⟨hown, hvl⟩ := validV_own hk hvv
  have hki0 := allV_kind hall hk
  have hle := textL_le hk hki0 hown
  have hnum := own_num hki0 hown
  have h8 : rs[k].kind = 8 → v.items.length ≤ 1 := fun e => by simp [ownB, e] at hown; exact hown.2.2
  obtain ⟨w0, hw0⟩ : ∃ w0, w0 = w.alloc (.cells #[.slice a rs.length cap] 35) := ⟨_, rfl⟩
  have hB : Below w.heap.size w w0 := by subst hw0; exact (Below.refl _ _).alloc (Nat.le_refl _) _
  have hD : CellsAt w.heap.size [.slice a rs.length cap] w0 := by subst hw0; exact CellsAt.new w _ _
  have HCALL : Hid (∀ W, Below w0.heap.size w0 W → Calls Tryz.prog 51 #[.agg #[.slice a rs.length cap], .int .i64 (k : Int), .pointer (some ⟨b, o, none⟩)] W fun e w' => e = .returned (.string (txt (textL rs rs[k] v.number 0 v.items))) ∧ Below W.heap.size W w') := fun W hW => by
    have h1 := ih v vs k b o W hk (hrd.below (hB.trans (hW.mono hB.size))) (hv.below (hB.trans (hW.mono hB.size))) (fun i u hi => cell_keep (hB.trans (hW.mono hB.size)) (hcl i u hi)) hvv htl (htab.below (hB.trans (hW.mono hB.size)))
    rw [ruleAt_at hk] at h1
    exact h1
  rw [textV_at hk] at htl hle ⊢
  obtain ⟨ab, cb, ai, ci, rfl, hb, hit⟩ := hv
  obtain ⟨b0, off, a4, c4, a5, c5, a6, c6, a7, c7, rfl, ⟨d0, d1, -⟩, -⟩ := (hrd.below hB).at k hk
  have x0 := cell_keep hB (hcl 0 _ rfl)
  have x1 := cell_keep hB (hcl 1 _ rfl)
  have x2 := cell_keep hB (hcl 2 _ rfl)
  simp only [Nat.add_zero] at x0
  obtain ⟨r, hr⟩ : ∃ r, r = rs[k] := ⟨_, rfl⟩
  rw [← hr] at d1 hkd htl hle h8 HCALL ⊢
  rw [hkd] at d1
  clear hr
  have HSW : Hid (∀ W, Below w0.heap.size w0 W → W.cell? ⟨w.heap.size, 0, none⟩ = some (.slice (some ⟨b0, off, none⟩) rs.length cap) ∧ W.cell? ⟨b, o, none⟩ = some (.int .i64 v.number) ∧ W.cell? ⟨b, o + 1, none⟩ = some (.slice ab v.bytes.length cb) ∧ W.cell? ⟨b, o + 2, none⟩ = some (.slice ai v.items.length ci)) := fun W hW => ⟨(hD.below hW 0 _ rfl).1, cell_keep hW x0, cell_keep hW x1, cell_keep hW x2⟩
  have HRB := Lib.hid (hb.1.below hB)
  have HTAB := Lib.hid (htab.below hB)
  have HB := Lib.hid hB
  have HW := Lib.hid hw0
  have hIs : (txt (textL rs r v.number 0 v.items)).size ≤ 4398046511104 := by rw [txt_size]; omega
  have H8 := Lib.hid h8
  obtain ⟨⟨hn0, hn1⟩, hnb⟩ := hnum
  have hna : (-9223372036854775808 : Int) ≤ v.number := by omega
  have hnc : v.number ≤ 9223372036854775807 := by omega
  have bx := (hD 0 _ rfl).1
  have k0 : (0 : Int) ≤ (k : Int) := by omega
  have k1 : (k : Int) < (rs.length : Int) := by omega
  have hr := wrap_6 (r := r) hkd v.number v.bytes v.items.length (textL rs r v.number 0 v.items)
  obtain ⟨I, hI⟩ : ∃ I, I = txt (textL rs r v.number 0 v.items) := ⟨_, rfl⟩
  rw [← hI] at hIs HCALL
  rw [← hI] at hr
  have HR := Lib.hid hr
  clear hr
  have h8l : r.kind = 8 → v.items.length ≤ 1 := H8.out
  clear hI hown hvl hki0 hle hvv htl htab hw0 hB hD hb hit hrd hcl ih hall h8 x0 x1 x2 H8 h8l d0
  clear hkd
  go_enter Tryz.func27, Tryz.ntmps27
  go_upto_region 1 with fail
  rw [← HW.out]
  clear HW
  go_wp2_with fail
  refine (formof_6 _).mono ?_
  rintro e wf ⟨rfl, rfl⟩
  have hm := meth_sequence
  go_wp2_with fail
  refine (signs_sequence _).mono ?_
  rintro e wg ⟨rfl, hbg⟩
  have HBG := Lib.hid hbg
  clear hbg bx d1 hm
  have ha_integer : ∀ W : World, (Instr.typeAssert (.iface 103 (.agg #[])) 79 84 true).run Tryz.prog W = .ok (.tuple #[.agg #[], .bool false]) W := fun _ => by kernel_rfl
  have ha_const : ∀ W : World, (Instr.typeAssert (.iface 103 (.agg #[])) 79 85 true).run Tryz.prog W = .ok (.tuple #[.agg #[], .bool false]) W := fun _ => by kernel_rfl
  have ha_bytes : ∀ W : World, (Instr.typeAssert (.iface 103 (.agg #[])) 79 86 true).run Tryz.prog W = .ok (.tuple #[.agg #[], .bool false]) W := fun _ => by kernel_rfl
  have ha_choice : ∀ W : World, (Instr.typeAssert (.iface 103 (.agg #[])) 79 87 true).run Tryz.prog W = .ok (.tuple #[.agg #[], .bool false]) W := fun _ => by kernel_rfl
  have ha_option : ∀ W : World, (Instr.typeAssert (.iface 103 (.agg #[])) 79 88 true).run Tryz.prog W = .ok (.tuple #[.agg #[], .bool false]) W := fun _ => by kernel_rfl
  obtain ⟨bx, z0, z1, z2⟩ := HSW.out _ HBG.out
  go_wp2_with fail
  refine (HCALL.out _ HBG.out).mono ?_
  rintro e wh ⟨rfl, hbh⟩
  have HFIN := Lib.hid (HB.out.trans ((HBG.out.trans (hbh.mono HBG.out.size)).mono HB.out.size))
  clear hbh
  have hs1 : ((⟨#[123]⟩ : ByteArray) ++ I).size = 1 + I.size := by rw [ByteArray.size_append]; rfl
  go_wp2
  go_ret
  exact ⟨ret_txt HR.out, HFIN.out⟩
set_option maxRecDepth 100000 in
set_option maxHeartbeats 8000000 in
theorem itext_7 (a : Option Addr) (rs : List RuleV) (cap n : Nat) (hall : allV (kindI rs) rs) (ih : IItemsC a rs cap n) (v : ValueV) (vs : List Value) (k b o : Nat) (w : World) (hk : k < rs.length) (hrd : RdR a rs w) (hv : IsVal (n + 1) v vs w) (hcl : ∀ i u, vs[i]? = some u → w.cell? ⟨b, o + i, none⟩ = some u) (hvv : validV rs (k : Int) v = true) (htl : (textV rs (k : Int) v).length ≤ 4398046511104) (htab : PowTab w) (hkd : rs[k].kind = 7) :
    Calls Tryz.prog 27 #[.agg #[.slice a rs.length cap], .int .i64 (k : Int), .pointer (some ⟨b, o, none⟩)] w fun e w' => e = .returned (.string (txt (textV rs (k : Int) v))) ∧ Below w.heap.size w w' := by
  obtain ⟨hown, hvl⟩ := validV_own hk hvv
  have hki0 := allV_kind hall hk
  have hle := textL_le hk hki0 hown
  have hnum := own_num hki0 hown
  have h8 : rs[k].kind = 8 → v.items.length ≤ 1 := fun e => by simp [ownB, e] at hown; exact hown.2.2
  obtain ⟨w0, hw0⟩ : ∃ w0, w0 = w.alloc (.cells #[.slice a rs.length cap] 35) := ⟨_, rfl⟩
  have hB : Below w.heap.size w w0 := by subst hw0; exact (Below.refl _ _).alloc (Nat.le_refl _) _
  have hD : CellsAt w.heap.size [.slice a rs.length cap] w0 := by subst hw0; exact CellsAt.new w _ _
  have HCALL : Hid (∀ W, Below w0.heap.size w0 W → Calls Tryz.prog 51 #[.agg #[.slice a rs.length cap], .int .i64 (k : Int), .pointer (some ⟨b, o, none⟩)] W fun e w' => e = .returned (.string (txt (textL rs rs[k] v.number 0 v.items))) ∧ Below W.heap.size W w') := fun W hW => by
    have h1 := ih v vs k b o W hk (hrd.below (hB.trans (hW.mono hB.size))) (hv.below (hB.trans (hW.mono hB.size))) (fun i u hi => cell_keep (hB.trans (hW.mono hB.size)) (hcl i u hi)) hvv htl (htab.below (hB.trans (hW.mono hB.size)))
    rw [ruleAt_at hk] at h1
    exact h1
  rw [textV_at hk] at htl hle ⊢
  obtain ⟨ab, cb, ai, ci, rfl, hb, hit⟩ := hv
  obtain ⟨b0, off, a4, c4, a5, c5, a6, c6, a7, c7, rfl, ⟨d0, d1, -⟩, -⟩ := (hrd.below hB).at k hk
  have x0 := cell_keep hB (hcl 0 _ rfl)
  have x1 := cell_keep hB (hcl 1 _ rfl)
  have x2 := cell_keep hB (hcl 2 _ rfl)
  simp only [Nat.add_zero] at x0
  obtain ⟨r, hr⟩ : ∃ r, r = rs[k] := ⟨_, rfl⟩
  rw [← hr] at d1 hkd htl hle h8 HCALL ⊢
  rw [hkd] at d1
  clear hr
  have HSW : Hid (∀ W, Below w0.heap.size w0 W → W.cell? ⟨w.heap.size, 0, none⟩ = some (.slice (some ⟨b0, off, none⟩) rs.length cap) ∧ W.cell? ⟨b, o, none⟩ = some (.int .i64 v.number) ∧ W.cell? ⟨b, o + 1, none⟩ = some (.slice ab v.bytes.length cb) ∧ W.cell? ⟨b, o + 2, none⟩ = some (.slice ai v.items.length ci)) := fun W hW => ⟨(hD.below hW 0 _ rfl).1, cell_keep hW x0, cell_keep hW x1, cell_keep hW x2⟩
  have HRB := Lib.hid (hb.1.below hB)
  have HTAB := Lib.hid (htab.below hB)
  have HB := Lib.hid hB
  have HW := Lib.hid hw0
  have hIs : (txt (textL rs r v.number 0 v.items)).size ≤ 4398046511104 := by rw [txt_size]; omega
  have H8 := Lib.hid h8
  obtain ⟨⟨hn0, hn1⟩, hnb⟩ := hnum
  have hna : (-9223372036854775808 : Int) ≤ v.number := by omega
  have hnc : v.number ≤ 9223372036854775807 := by omega
  have bx := (hD 0 _ rfl).1
  have k0 : (0 : Int) ≤ (k : Int) := by omega
  have k1 : (k : Int) < (rs.length : Int) := by omega
  have hr := wrap_7 (r := r) hkd v.number v.bytes v.items.length (textL rs r v.number 0 v.items)
  obtain ⟨I, hI⟩ : ∃ I, I = txt (textL rs r v.number 0 v.items) := ⟨_, rfl⟩
  rw [← hI] at hIs HCALL
  rw [← hI] at hr
  have HR := Lib.hid hr
  clear hr
  have h8l : r.kind = 8 → v.items.length ≤ 1 := H8.out
  clear hI hown hvl hki0 hle hvv htl htab hw0 hB hD hb hit hrd hcl ih hall h8 x0 x1 x2 H8 h8l d0
  clear hkd
  go_enter Tryz.func27, Tryz.ntmps27
  go_upto_region 1 with fail
  rw [← HW.out]
  clear HW
  go_wp2_with fail
  refine (formof_7 _).mono ?_
  rintro e wf ⟨rfl, rfl⟩
  have hm := meth_choice
  go_wp2_with fail
  refine (signs_choice _).mono ?_
  rintro e wg ⟨rfl, hbg⟩
  have HBG := Lib.hid hbg
  clear hbg bx d1 hm
  have ha_integer : ∀ W : World, (Instr.typeAssert (.iface 87 (.agg #[])) 79 84 true).run Tryz.prog W = .ok (.tuple #[.agg #[], .bool false]) W := fun _ => by kernel_rfl
  have ha_const : ∀ W : World, (Instr.typeAssert (.iface 87 (.agg #[])) 79 85 true).run Tryz.prog W = .ok (.tuple #[.agg #[], .bool false]) W := fun _ => by kernel_rfl
  have ha_bytes : ∀ W : World, (Instr.typeAssert (.iface 87 (.agg #[])) 79 86 true).run Tryz.prog W = .ok (.tuple #[.agg #[], .bool false]) W := fun _ => by kernel_rfl
  have ha_choice : ∀ W : World, (Instr.typeAssert (.iface 87 (.agg #[])) 79 87 true).run Tryz.prog W = .ok (.tuple #[.agg #[], .bool true]) W := fun _ => by kernel_rfl
  have hu1 : (⟨#[60]⟩ : ByteArray).size ≤ 4398046511104 := by decide
  have hu2 : (⟨#[62]⟩ : ByteArray).size ≤ 4398046511104 := by decide
  go_upto_region 11 with fail
  replace HBG : Hid (Below w0.heap.size w0 wg.drew) := below_drewN HBG.out 1
  go_region_held3 (fun W => W.cell? ⟨w.heap.size, 0, none⟩ = some (.slice (some ⟨b0, off, none⟩) rs.length cap) ∧ W.cell? ⟨b, o, none⟩ = some (.int .i64 v.number) ∧ W.cell? ⟨b, o + 1, none⟩ = some (.slice ab v.bytes.length cb) ∧ W.cell? ⟨b, o + 2, none⟩ = some (.slice ai v.items.length ci)) (exact HSW.out _ HBG.out) (first | (go_at_call 51; refine (HCALL.out _ HBG.out).mono ?_; rintro e wh ⟨rfl, hbh⟩; replace HBG := Lib.hid (HBG.out.trans (hbh.mono HBG.out.size)); clear hbh) | (go_at_call 50; refine (fnt_impl v.number _ I _ _ hu1 hIs hu2 hna hnc (HTAB.out.below HBG.out)).mono ?_; rintro e wi ⟨rfl, hbi⟩; replace HBG := Lib.hid (HBG.out.trans (hbi.mono HBG.out.size)); clear hbi))
  have HFIN := Lib.hid (HB.out.trans (HBG.out.mono HB.out.size))
  go_wp2
  go_ret
  exact ⟨ret_txt HR.out, HFIN.out⟩
set_option maxRecDepth 100000 in
set_option maxHeartbeats 8000000 in
theorem itext_8 (a : Option Addr) (rs : List RuleV) (cap n : Nat) (hall : allV (kindI rs) rs) (ih : IItemsC a rs cap n) (v : ValueV) (vs : List Value) (k b o : Nat) (w : World) (hk : k < rs.length) (hrd : RdR a rs w) (hv : IsVal (n + 1) v vs w) (hcl : ∀ i u, vs[i]? = some u → w.cell? ⟨b, o + i, none⟩ = some u) (hvv : validV rs (k : Int) v = true) (htl : (textV rs (k : Int) v).length ≤ 4398046511104) (htab : PowTab w) (hkd : rs[k].kind = 8) :
    Calls Tryz.prog 27 #[.agg #[.slice a rs.length cap], .int .i64 (k : Int), .pointer (some ⟨b, o, none⟩)] w fun e w' => e = .returned (.string (txt (textV rs (k : Int) v))) ∧ Below w.heap.size w w' := by
  obtain ⟨hown, hvl⟩ := validV_own hk hvv
  have hki0 := allV_kind hall hk
  have hle := textL_le hk hki0 hown
  have hnum := own_num hki0 hown
  have h8 : rs[k].kind = 8 → v.items.length ≤ 1 := fun e => by simp [ownB, e] at hown; exact hown.2.2
  obtain ⟨w0, hw0⟩ : ∃ w0, w0 = w.alloc (.cells #[.slice a rs.length cap] 35) := ⟨_, rfl⟩
  have hB : Below w.heap.size w w0 := by subst hw0; exact (Below.refl _ _).alloc (Nat.le_refl _) _
  have hD : CellsAt w.heap.size [.slice a rs.length cap] w0 := by subst hw0; exact CellsAt.new w _ _
  have HCALL : Hid (∀ W, Below w0.heap.size w0 W → Calls Tryz.prog 51 #[.agg #[.slice a rs.length cap], .int .i64 (k : Int), .pointer (some ⟨b, o, none⟩)] W fun e w' => e = .returned (.string (txt (textL rs rs[k] v.number 0 v.items))) ∧ Below W.heap.size W w') := fun W hW => by
    have h1 := ih v vs k b o W hk (hrd.below (hB.trans (hW.mono hB.size))) (hv.below (hB.trans (hW.mono hB.size))) (fun i u hi => cell_keep (hB.trans (hW.mono hB.size)) (hcl i u hi)) hvv htl (htab.below (hB.trans (hW.mono hB.size)))
    rw [ruleAt_at hk] at h1
    exact h1
  rw [textV_at hk] at htl hle ⊢
  obtain ⟨ab, cb, ai, ci, rfl, hb, hit⟩ := hv
  obtain ⟨b0, off, a4, c4, a5, c5, a6, c6, a7, c7, rfl, ⟨d0, d1, -⟩, -⟩ := (hrd.below hB).at k hk
  have x0 := cell_keep hB (hcl 0 _ rfl)
  have x1 := cell_keep hB (hcl 1 _ rfl)
  have x2 := cell_keep hB (hcl 2 _ rfl)
  simp only [Nat.add_zero] at x0
  obtain ⟨r, hr⟩ : ∃ r, r = rs[k] := ⟨_, rfl⟩
  rw [← hr] at d1 hkd htl hle h8 HCALL ⊢
  rw [hkd] at d1
  clear hr
  have HSW : Hid (∀ W, Below w0.heap.size w0 W → W.cell? ⟨w.heap.size, 0, none⟩ = some (.slice (some ⟨b0, off, none⟩) rs.length cap) ∧ W.cell? ⟨b, o, none⟩ = some (.int .i64 v.number) ∧ W.cell? ⟨b, o + 1, none⟩ = some (.slice ab v.bytes.length cb) ∧ W.cell? ⟨b, o + 2, none⟩ = some (.slice ai v.items.length ci)) := fun W hW => ⟨(hD.below hW 0 _ rfl).1, cell_keep hW x0, cell_keep hW x1, cell_keep hW x2⟩
  have HRB := Lib.hid (hb.1.below hB)
  have HTAB := Lib.hid (htab.below hB)
  have HB := Lib.hid hB
  have HW := Lib.hid hw0
  have hIs : (txt (textL rs r v.number 0 v.items)).size ≤ 4398046511104 := by rw [txt_size]; omega
  have H8 := Lib.hid h8
  obtain ⟨⟨hn0, hn1⟩, hnb⟩ := hnum
  have hna : (-9223372036854775808 : Int) ≤ v.number := by omega
  have hnc : v.number ≤ 9223372036854775807 := by omega
  have bx := (hD 0 _ rfl).1
  have k0 : (0 : Int) ≤ (k : Int) := by omega
  have k1 : (k : Int) < (rs.length : Int) := by omega
  have hr80 := fun hm => Lib.hid (wrap_80 (r := r) hkd v.number v.bytes v.items.length (textL rs r v.number 0 v.items) hm)
  have hr8 := fun hm => (wrap_8 (r := r) hkd v.number v.bytes v.items.length (textL rs r v.number 0 v.items) hm)
  obtain ⟨I, hI⟩ : ∃ I, I = txt (textL rs r v.number 0 v.items) := ⟨_, rfl⟩
  rw [← hI] at hIs HCALL
  rw [← hI] at hr8
  have HR8 := Lib.hid hr8
  clear hr8
  have h8l : r.kind = 8 → v.items.length ≤ 1 := H8.out
  have hm1 : v.items.length ≤ 1 := h8l hkd
  clear hI hown hvl hki0 hle hvv htl htab hw0 hB hD hb hit hrd hcl ih hall h8 x0 x1 x2 H8 h8l d0
  clear hkd
  go_enter Tryz.func27, Tryz.ntmps27
  go_upto_region 1 with fail
  rw [← HW.out]
  clear HW
  go_wp2_with fail
  refine (formof_8 _).mono ?_
  rintro e wf ⟨rfl, rfl⟩
  have hm := meth_option
  go_wp2_with fail
  refine (signs_option _).mono ?_
  rintro e wg ⟨rfl, hbg⟩
  have HBG := Lib.hid hbg
  clear hbg bx d1 hm
  have ha_integer : ∀ W : World, (Instr.typeAssert (.iface 88 (.agg #[])) 79 84 true).run Tryz.prog W = .ok (.tuple #[.agg #[], .bool false]) W := fun _ => by kernel_rfl
  have ha_const : ∀ W : World, (Instr.typeAssert (.iface 88 (.agg #[])) 79 85 true).run Tryz.prog W = .ok (.tuple #[.agg #[], .bool false]) W := fun _ => by kernel_rfl
  have ha_bytes : ∀ W : World, (Instr.typeAssert (.iface 88 (.agg #[])) 79 86 true).run Tryz.prog W = .ok (.tuple #[.agg #[], .bool false]) W := fun _ => by kernel_rfl
  have ha_choice : ∀ W : World, (Instr.typeAssert (.iface 88 (.agg #[])) 79 87 true).run Tryz.prog W = .ok (.tuple #[.agg #[], .bool false]) W := fun _ => by kernel_rfl
  have ha_option : ∀ W : World, (Instr.typeAssert (.iface 88 (.agg #[])) 79 88 true).run Tryz.prog W = .ok (.tuple #[.agg #[], .bool true]) W := fun _ => by kernel_rfl
  obtain ⟨bx, z0, z1, z2⟩ := HSW.out _ HBG.out
  by_cases hz : v.items.length = 0
  · have hr := hr80 hz
    rw [hz] at z2
    have HFIN := Lib.hid (HB.out.trans (HBG.out.mono HB.out.size))
    go_wp2
    go_ret
    exact ⟨ret_txt hr.out, HFIN.out⟩
  · have hr := HR8.out hz
    have hm1' : v.items.length = 1 := by omega
    have HR := Lib.hid ((append_none ((⟨#[63]⟩ : ByteArray) ++ I)).trans hr)
    have hz0 : (⟨#[]⟩ : ByteArray).size = 0 := rfl
    rw [hm1'] at z2
    clear hr hr80
    go_wp2_with fail
    refine (HCALL.out _ HBG.out).mono ?_
    rintro e wh ⟨rfl, hbh⟩
    have HFIN := Lib.hid (HB.out.trans ((HBG.out.trans (hbh.mono HBG.out.size)).mono HB.out.size))
    clear hbh
    have hs1 : ((⟨#[63]⟩ : ByteArray) ++ I).size = 1 + I.size := by rw [ByteArray.size_append]; rfl
    go_wp2
    go_ret
    exact ⟨ret_txt HR.out, HFIN.out⟩
set_option maxRecDepth 100000 in
set_option maxHeartbeats 8000000 in
theorem itext_9 (a : Option Addr) (rs : List RuleV) (cap n : Nat) (hall : allV (kindI rs) rs) (ih : IItemsC a rs cap n) (v : ValueV) (vs : List Value) (k b o : Nat) (w : World) (hk : k < rs.length) (hrd : RdR a rs w) (hv : IsVal (n + 1) v vs w) (hcl : ∀ i u, vs[i]? = some u → w.cell? ⟨b, o + i, none⟩ = some u) (hvv : validV rs (k : Int) v = true) (htl : (textV rs (k : Int) v).length ≤ 4398046511104) (htab : PowTab w) (hkd : rs[k].kind = 9) :
    Calls Tryz.prog 27 #[.agg #[.slice a rs.length cap], .int .i64 (k : Int), .pointer (some ⟨b, o, none⟩)] w fun e w' => e = .returned (.string (txt (textV rs (k : Int) v))) ∧ Below w.heap.size w w' := by
  obtain ⟨hown, hvl⟩ := validV_own hk hvv
  have hki0 := allV_kind hall hk
  have hle := textL_le hk hki0 hown
  have hnum := own_num hki0 hown
  have h8 : rs[k].kind = 8 → v.items.length ≤ 1 := fun e => by simp [ownB, e] at hown; exact hown.2.2
  obtain ⟨w0, hw0⟩ : ∃ w0, w0 = w.alloc (.cells #[.slice a rs.length cap] 35) := ⟨_, rfl⟩
  have hB : Below w.heap.size w w0 := by subst hw0; exact (Below.refl _ _).alloc (Nat.le_refl _) _
  have hD : CellsAt w.heap.size [.slice a rs.length cap] w0 := by subst hw0; exact CellsAt.new w _ _
  have HCALL : Hid (∀ W, Below w0.heap.size w0 W → Calls Tryz.prog 51 #[.agg #[.slice a rs.length cap], .int .i64 (k : Int), .pointer (some ⟨b, o, none⟩)] W fun e w' => e = .returned (.string (txt (textL rs rs[k] v.number 0 v.items))) ∧ Below W.heap.size W w') := fun W hW => by
    have h1 := ih v vs k b o W hk (hrd.below (hB.trans (hW.mono hB.size))) (hv.below (hB.trans (hW.mono hB.size))) (fun i u hi => cell_keep (hB.trans (hW.mono hB.size)) (hcl i u hi)) hvv htl (htab.below (hB.trans (hW.mono hB.size)))
    rw [ruleAt_at hk] at h1
    exact h1
  rw [textV_at hk] at htl hle ⊢
  obtain ⟨ab, cb, ai, ci, rfl, hb, hit⟩ := hv
  obtain ⟨b0, off, a4, c4, a5, c5, a6, c6, a7, c7, rfl, ⟨d0, d1, -⟩, -⟩ := (hrd.below hB).at k hk
  have x0 := cell_keep hB (hcl 0 _ rfl)
  have x1 := cell_keep hB (hcl 1 _ rfl)
  have x2 := cell_keep hB (hcl 2 _ rfl)
  simp only [Nat.add_zero] at x0
  obtain ⟨r, hr⟩ : ∃ r, r = rs[k] := ⟨_, rfl⟩
  rw [← hr] at d1 hkd htl hle h8 HCALL ⊢
  rw [hkd] at d1
  clear hr
  have HSW : Hid (∀ W, Below w0.heap.size w0 W → W.cell? ⟨w.heap.size, 0, none⟩ = some (.slice (some ⟨b0, off, none⟩) rs.length cap) ∧ W.cell? ⟨b, o, none⟩ = some (.int .i64 v.number) ∧ W.cell? ⟨b, o + 1, none⟩ = some (.slice ab v.bytes.length cb) ∧ W.cell? ⟨b, o + 2, none⟩ = some (.slice ai v.items.length ci)) := fun W hW => ⟨(hD.below hW 0 _ rfl).1, cell_keep hW x0, cell_keep hW x1, cell_keep hW x2⟩
  have HRB := Lib.hid (hb.1.below hB)
  have HTAB := Lib.hid (htab.below hB)
  have HB := Lib.hid hB
  have HW := Lib.hid hw0
  have hIs : (txt (textL rs r v.number 0 v.items)).size ≤ 4398046511104 := by rw [txt_size]; omega
  have H8 := Lib.hid h8
  obtain ⟨⟨hn0, hn1⟩, hnb⟩ := hnum
  have hna : (-9223372036854775808 : Int) ≤ v.number := by omega
  have hnc : v.number ≤ 9223372036854775807 := by omega
  have bx := (hD 0 _ rfl).1
  have k0 : (0 : Int) ≤ (k : Int) := by omega
  have k1 : (k : Int) < (rs.length : Int) := by omega
  have hr := wrap_9 (r := r) hkd v.number v.bytes v.items.length (textL rs r v.number 0 v.items)
  obtain ⟨I, hI⟩ : ∃ I, I = txt (textL rs r v.number 0 v.items) := ⟨_, rfl⟩
  rw [← hI] at hIs HCALL
  rw [← hI] at hr
  have HR := Lib.hid hr
  clear hr
  have h8l : r.kind = 8 → v.items.length ≤ 1 := H8.out
  clear hI hown hvl hki0 hle hvv htl htab hw0 hB hD hb hit hrd hcl ih hall h8 x0 x1 x2 H8 h8l d0
  clear hkd
  go_enter Tryz.func27, Tryz.ntmps27
  go_upto_region 1 with fail
  rw [← HW.out]
  clear HW
  go_wp2_with fail
  refine (formof_9 _).mono ?_
  rintro e wf ⟨rfl, rfl⟩
  have hm := meth_checked
  go_wp2_with fail
  refine (signs_checked _).mono ?_
  rintro e wg ⟨rfl, hbg⟩
  have HBG := Lib.hid hbg
  clear hbg bx d1 hm
  have ha_integer : ∀ W : World, (Instr.typeAssert (.iface 104 (.agg #[])) 79 84 true).run Tryz.prog W = .ok (.tuple #[.agg #[], .bool false]) W := fun _ => by kernel_rfl
  have ha_const : ∀ W : World, (Instr.typeAssert (.iface 104 (.agg #[])) 79 85 true).run Tryz.prog W = .ok (.tuple #[.agg #[], .bool false]) W := fun _ => by kernel_rfl
  have ha_bytes : ∀ W : World, (Instr.typeAssert (.iface 104 (.agg #[])) 79 86 true).run Tryz.prog W = .ok (.tuple #[.agg #[], .bool false]) W := fun _ => by kernel_rfl
  have ha_choice : ∀ W : World, (Instr.typeAssert (.iface 104 (.agg #[])) 79 87 true).run Tryz.prog W = .ok (.tuple #[.agg #[], .bool false]) W := fun _ => by kernel_rfl
  have ha_option : ∀ W : World, (Instr.typeAssert (.iface 104 (.agg #[])) 79 88 true).run Tryz.prog W = .ok (.tuple #[.agg #[], .bool false]) W := fun _ => by kernel_rfl
  obtain ⟨bx, z0, z1, z2⟩ := HSW.out _ HBG.out
  go_wp2_with fail
  refine (HCALL.out _ HBG.out).mono ?_
  rintro e wh ⟨rfl, hbh⟩
  have HFIN := Lib.hid (HB.out.trans ((HBG.out.trans (hbh.mono HBG.out.size)).mono HB.out.size))
  clear hbh
  have hs1 : ((⟨#[40]⟩ : ByteArray) ++ I).size = 1 + I.size := by rw [ByteArray.size_append]; rfl
  go_wp2
  go_ret
  exact ⟨ret_txt HR.out, HFIN.out⟩
set_option maxRecDepth 100000 in
set_option maxHeartbeats 8000000 in
theorem itext_10 (a : Option Addr) (rs : List RuleV) (cap n : Nat) (hall : allV (kindI rs) rs) (ih : IItemsC a rs cap n) (v : ValueV) (vs : List Value) (k b o : Nat) (w : World) (hk : k < rs.length) (hrd : RdR a rs w) (hv : IsVal (n + 1) v vs w) (hcl : ∀ i u, vs[i]? = some u → w.cell? ⟨b, o + i, none⟩ = some u) (hvv : validV rs (k : Int) v = true) (htl : (textV rs (k : Int) v).length ≤ 4398046511104) (htab : PowTab w) (hkd : rs[k].kind = 10) :
    Calls Tryz.prog 27 #[.agg #[.slice a rs.length cap], .int .i64 (k : Int), .pointer (some ⟨b, o, none⟩)] w fun e w' => e = .returned (.string (txt (textV rs (k : Int) v))) ∧ Below w.heap.size w w' := by
  obtain ⟨hown, hvl⟩ := validV_own hk hvv
  have hki0 := allV_kind hall hk
  have hle := textL_le hk hki0 hown
  have hnum := own_num hki0 hown
  have h8 : rs[k].kind = 8 → v.items.length ≤ 1 := fun e => by simp [ownB, e] at hown; exact hown.2.2
  obtain ⟨w0, hw0⟩ : ∃ w0, w0 = w.alloc (.cells #[.slice a rs.length cap] 35) := ⟨_, rfl⟩
  have hB : Below w.heap.size w w0 := by subst hw0; exact (Below.refl _ _).alloc (Nat.le_refl _) _
  have hD : CellsAt w.heap.size [.slice a rs.length cap] w0 := by subst hw0; exact CellsAt.new w _ _
  have HCALL : Hid (∀ W, Below w0.heap.size w0 W → Calls Tryz.prog 51 #[.agg #[.slice a rs.length cap], .int .i64 (k : Int), .pointer (some ⟨b, o, none⟩)] W fun e w' => e = .returned (.string (txt (textL rs rs[k] v.number 0 v.items))) ∧ Below W.heap.size W w') := fun W hW => by
    have h1 := ih v vs k b o W hk (hrd.below (hB.trans (hW.mono hB.size))) (hv.below (hB.trans (hW.mono hB.size))) (fun i u hi => cell_keep (hB.trans (hW.mono hB.size)) (hcl i u hi)) hvv htl (htab.below (hB.trans (hW.mono hB.size)))
    rw [ruleAt_at hk] at h1
    exact h1
  rw [textV_at hk] at htl hle ⊢
  obtain ⟨ab, cb, ai, ci, rfl, hb, hit⟩ := hv
  obtain ⟨b0, off, a4, c4, a5, c5, a6, c6, a7, c7, rfl, ⟨d0, d1, -⟩, -⟩ := (hrd.below hB).at k hk
  have x0 := cell_keep hB (hcl 0 _ rfl)
  have x1 := cell_keep hB (hcl 1 _ rfl)
  have x2 := cell_keep hB (hcl 2 _ rfl)
  simp only [Nat.add_zero] at x0
  obtain ⟨r, hr⟩ : ∃ r, r = rs[k] := ⟨_, rfl⟩
  rw [← hr] at d1 hkd htl hle h8 HCALL ⊢
  rw [hkd] at d1
  clear hr
  have HSW : Hid (∀ W, Below w0.heap.size w0 W → W.cell? ⟨w.heap.size, 0, none⟩ = some (.slice (some ⟨b0, off, none⟩) rs.length cap) ∧ W.cell? ⟨b, o, none⟩ = some (.int .i64 v.number) ∧ W.cell? ⟨b, o + 1, none⟩ = some (.slice ab v.bytes.length cb) ∧ W.cell? ⟨b, o + 2, none⟩ = some (.slice ai v.items.length ci)) := fun W hW => ⟨(hD.below hW 0 _ rfl).1, cell_keep hW x0, cell_keep hW x1, cell_keep hW x2⟩
  have HRB := Lib.hid (hb.1.below hB)
  have HTAB := Lib.hid (htab.below hB)
  have HB := Lib.hid hB
  have HW := Lib.hid hw0
  have hIs : (txt (textL rs r v.number 0 v.items)).size ≤ 4398046511104 := by rw [txt_size]; omega
  have H8 := Lib.hid h8
  obtain ⟨⟨hn0, hn1⟩, hnb⟩ := hnum
  have hna : (-9223372036854775808 : Int) ≤ v.number := by omega
  have hnc : v.number ≤ 9223372036854775807 := by omega
  have bx := (hD 0 _ rfl).1
  have k0 : (0 : Int) ≤ (k : Int) := by omega
  have k1 : (k : Int) < (rs.length : Int) := by omega
  have hr := wrap_b (r := r) (by omega) v.number v.bytes v.items.length (textL rs r v.number 0 v.items)
  obtain ⟨I, hI⟩ : ∃ I, I = txt (textL rs r v.number 0 v.items) := ⟨_, rfl⟩
  rw [← hI] at hIs HCALL
  have HR := Lib.hid hr
  clear hr
  have h8l : r.kind = 8 → v.items.length ≤ 1 := H8.out
  clear hI hown hvl hki0 hle hvv htl htab hw0 hB hD hb hit hrd hcl ih hall h8 x0 x1 x2 H8 h8l d0
  clear hkd
  go_enter Tryz.func27, Tryz.ntmps27
  go_upto_region 1 with fail
  rw [← HW.out]
  clear HW
  go_wp2_with fail
  refine (formof_10 _).mono ?_
  rintro e wf ⟨rfl, rfl⟩
  have hm := meth_bytes
  go_wp2_with fail
  refine (signs_bytes _).mono ?_
  rintro e wg ⟨rfl, hbg⟩
  have HBG := Lib.hid hbg
  clear hbg bx d1 hm
  have ha_integer : ∀ W : World, (Instr.typeAssert (.iface 86 (.agg #[])) 79 84 true).run Tryz.prog W = .ok (.tuple #[.agg #[], .bool false]) W := fun _ => by kernel_rfl
  have ha_const : ∀ W : World, (Instr.typeAssert (.iface 86 (.agg #[])) 79 85 true).run Tryz.prog W = .ok (.tuple #[.agg #[], .bool false]) W := fun _ => by kernel_rfl
  have ha_bytes : ∀ W : World, (Instr.typeAssert (.iface 86 (.agg #[])) 79 86 true).run Tryz.prog W = .ok (.tuple #[.agg #[], .bool true]) W := fun _ => by kernel_rfl
  obtain ⟨bx, z0, z1, z2⟩ := HSW.out _ HBG.out
  have hszx : (⟨(hexL v.bytes).toArray⟩ : ByteArray).size = 2 * v.bytes.length := by rw [← hexL_length]; simp [ByteArray.size]
  have hb40 : v.bytes.length ≤ 1099511627776 := by omega
  go_wp2_with fail
  refine (fmthex_impl ab v.bytes cb _ hb40 (HRB.out.below HBG.out)).mono ?_
  rintro e wh ⟨rfl, hbh⟩
  have HFIN := Lib.hid (HB.out.trans ((HBG.out.trans (hbh.mono HBG.out.size)).mono HB.out.size))
  clear hbh
  generalize (⟨(hexL v.bytes).toArray⟩ : ByteArray) = H at hszx HR ⊢
  go_wp2
  go_ret
  exact ⟨ret_txt HR.out, HFIN.out⟩
theorem itext_step (a : Option Addr) (rs : List RuleV) (cap n : Nat) (hall : allV (kindI rs) rs) (ih : IItemsC a rs cap n) : ITextC a rs cap (n + 1) := by
  intro v vs k b o w hk hrd hv hcl hvv htl htab
  have hkn := kindI_known (allV_kind hall hk)
  rcases (by omega : rs[k].kind = 1 ∨ rs[k].kind = 2 ∨ rs[k].kind = 3 ∨ rs[k].kind = 4 ∨ rs[k].kind = 5 ∨ rs[k].kind = 6 ∨ rs[k].kind = 7 ∨ rs[k].kind = 8 ∨ rs[k].kind = 9 ∨ rs[k].kind = 10) with e | e | e | e | e | e | e | e | e | e
  · exact itext_1 a rs cap n hall ih v vs k b o w hk hrd hv hcl hvv htl htab e
  · exact itext_2 a rs cap n hall ih v vs k b o w hk hrd hv hcl hvv htl htab e
  · exact itext_3 a rs cap n hall ih v vs k b o w hk hrd hv hcl hvv htl htab e
  · exact itext_4 a rs cap n hall ih v vs k b o w hk hrd hv hcl hvv htl htab e
  · exact itext_5 a rs cap n hall ih v vs k b o w hk hrd hv hcl hvv htl htab e
  · exact itext_6 a rs cap n hall ih v vs k b o w hk hrd hv hcl hvv htl htab e
  · exact itext_7 a rs cap n hall ih v vs k b o w hk hrd hv hcl hvv htl htab e
  · exact itext_8 a rs cap n hall ih v vs k b o w hk hrd hv hcl hvv htl htab e
  · exact itext_9 a rs cap n hall ih v vs k b o w hk hrd hv hcl hvv htl htab e
  · exact itext_10 a rs cap n hall ih v vs k b o w hk hrd hv hcl hvv htl htab e
theorem itext_spec (a : Option Addr) (rs : List RuleV) (cap : Nat) (hl : rs.length ≤ 1048576) (hall : allV (kindI rs) rs) : ∀ n, ITextC a rs cap n
  | 0 => fun _ _ _ _ _ _ _ _ h => h.elim
  | n + 1 => itext_step a rs cap n hall (iitems_step a rs cap n hall (iparts_step a rs cap n hl hall (itext_spec a rs cap hl hall n)))
end Go.Proofs.YtfmnjclnhppghabGreatDoor
namespace Go.Proofs.YtfmnjclnhppghabGreatDoor
open Go Go.RowKit
theorem label_len {rs : List RuleV} {r : RuleV} (hk : kindI rs r = true) (i : Nat) (c : UInt8) : (labelT r i c).length ≤ 13 := by
  unfold labelT
  by_cases h6 : r.kind = 6
  · rw [if_pos h6, List.length_append, lst_length]
    by_cases hi : i < r.names.length
    · have e : r.names.getD i ⟨#[]⟩ = r.names[i] := by simp [List.getD, List.getElem?_eq_getElem hi]
      have := seq_spelt hk h6 _ (List.getElem_mem hi)
      rw [e]; simp; omega
    · have e : r.names.getD i ⟨#[]⟩ = ⟨#[]⟩ := by simp [List.getD, List.getElem?_eq_none (by omega : r.names.length ≤ i)]
      have e0 : (⟨#[]⟩ : ByteArray).size = 0 := rfl
      rw [e]; simp; omega
  · rw [if_neg h6]; simp
mutual
/-- A text has at most 26 bytes for each byte and item, and 12. -/
theorem text_len {rs : List RuleV} (hall : allV (kindI rs) rs) : ∀ (v : ValueV) (k : Nat), k < rs.length → validV rs (k : Int) v = true → (textV rs (k : Int) v).length ≤ 12 + 26 * sizV v
  | .mk nn bb ll, k, hk, hv => by
    obtain ⟨ho, hl⟩ := validV_own hk hv
    have hki := allV_kind hall hk
    have hnum := own_num hki ho
    have hit := itoa_ten hnum.1.1 hnum.1.2
    have hkd : ∀ q, q < ll.length → ∃ m : Nat, itemR rs[k] nn (0 + q) = (m : Int) ∧ m < rs.length := fun q hq => by
      have h1 := allV_kids hall hk _ (item_kid hki ho (q := q) hq)
      rw [Nat.zero_add]
      exact ⟨(itemR rs[k] nn q).toNat, by show itemR rs[k] nn q = _; have := h1.1; simp only [ValueV.number] at this ⊢; omega, by have := h1.2; simp only [ValueV.number] at this ⊢; omega⟩
    have h2 := text_lenL hall hki ll 0 hkd hl
    have hx := hexL_length bb
    rw [textV_at hk, sizV_eq]
    simp only [ValueV.number, ValueV.bytes, ValueV.items] at *
    unfold wrapT
    split
    · omega
    · split
      · simp
        omega
      · split
        · simp; omega
        · split
          · simp; omega
          · split
            · simp; omega
            · split
              · split <;> (simp; omega)
              · split
                · simp; omega
                · simp; omega
theorem text_lenL {rs : List RuleV} (hall : allV (kindI rs) rs) {r : RuleV} {x : Int} (hki : kindI rs r = true) : ∀ (l : List ValueV) (i : Nat), (∀ q, q < l.length → ∃ m : Nat, itemR r x (i + q) = (m : Int) ∧ m < rs.length) → validL rs r x i l = true → (textL rs r x i l).length ≤ 26 * l.length + 26 * sizL l
  | [], i, _, _ => by rw [textL]; simp
  | v :: vs, i, hk, hv => by
    rw [validL, Bool.and_eq_true] at hv
    obtain ⟨m, hm, hmr⟩ := hk 0 (by simp)
    rw [Nat.add_zero] at hm
    have hv1 := hv.1
    rw [hm] at hv1
    have h1 := text_len hall v m hmr hv1
    have h2 := text_lenL hall hki vs (i + 1) (fun q hq => by
      obtain ⟨m, h3, h4⟩ := hk (q + 1) (by simpa using hq)
      exact ⟨m, by rw [show i + 1 + q = i + (q + 1) from by omega]; exact h3, h4⟩) hv.2
    have h3 := label_len hki i 58
    rw [textL_cons, List.length_append, sizL, List.length_cons]
    unfold itemT
    rw [hm, List.length_append, List.length_append]
    split
    · simp; omega
    · simp; omega
end
theorem fits_len {rs : List RuleV} {k : Int} {v : ValueV} (hs : sizV v ≤ 1048576) (h : fitsV rs k v = true) : (textV rs k v).length ≤ 4398046511104 := by
  unfold fitsV at h
  rw [Bool.and_eq_true] at h
  obtain ⟨⟨k0, k1⟩, -, hav⟩ := okAt_yes h.1
  obtain ⟨m, rfl⟩ : ∃ m : Nat, k = (m : Int) := ⟨k.toNat, by omega⟩
  have := text_len hav v m (by omega) h.2
  omega
end Go.Proofs.YtfmnjclnhppghabGreatDoor
