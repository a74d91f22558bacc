/- The contracts of the model's l10List, l10Text and FormatValue. The contracts of the model's l10Text at every height and of its FormatValue. -/
import Derived.Test.YtfmnjclnhppghabGreatDoorVText
import Derived.Test.YtfmnjclnhppghabGreatDoorValidI
import Derived.Test.YtfmnjclnhppghabGreatDoorGFI
import Derived.Test.YtfmnjclnhppghabGreatDoorHex
import Derived.BigQuiet
import Derived.Deep.RegionHeld3
import Derived.Deep.CutRange
import Derived.Test.YtfmnjclnhppghabGreatDoorFit
namespace Go.Proofs.YtfmnjclnhppghabGreatDoor
open Go Go.RowKit
theorem textL_part {rs : List RuleV} {r : RuleV} {x : Int} {l : List ValueV} {q : Nat} (h : q < l.length) : (textL rs r x 0 (l.take q)).length + (itemT rs r x q l[q]).length ≤ (textL rs r x 0 l).length := by
  have h1 : ∀ (l : List ValueV) (i q : Nat), (textL rs r x i (l.take q)).length ≤ (textL rs r x i l).length := by
    intro l
    induction l with
    | nil => intro i q; simp
    | cons v vs ih =>
      intro i q
      cases q with
      | zero => rw [List.take_zero, textL]; exact Nat.zero_le _
      | succ q =>
        rw [List.take_succ_cons, textL_cons, textL_cons, List.length_append, List.length_append]
        have := ih (i + 1) q
        omega
  have h2 := h1 l 0 (q + 1)
  rw [textL_next h, List.length_append] at h2
  exact h2
theorem itemT_len (rs : List RuleV) (r : RuleV) (x : Int) (i : Nat) (v : ValueV) : (textV rs (itemR r x i) v).length ≤ (itemT rs r x i v).length := by
  unfold itemT
  rw [List.length_append, List.length_append]
  omega
theorem inner_len {rs : List RuleV} {r : RuleV} {v : ValueV} (hk : kindI rs r = true) (h : ownB rs r v = true) (t : List UInt8) (ht : v.items.length = 0 → t = []) : t.length ≤ (wrapT r v.number v.bytes v.items.length t).length := by
  have hkn := kindI_known hk
  unfold wrapT
  rcases (by omega : r.kind = 1 ∨ r.kind = 2 ∨ r.kind = 3 ∨ r.kind = 4 ∨ r.kind = 5 ∨ r.kind = 6 ∨ r.kind = 7 ∨ r.kind = 8 ∨ r.kind = 9 ∨ r.kind = 10) with e | e | e | e | e | e | e | e | e | e
  · simp [ownB, e] at h; rw [ht (by rw [h.2.2]; rfl)]; simp
  · simp [ownB, e] at h; rw [ht (by rw [h.2.2]; rfl)]; simp
  · simp [ownB, e] at h; rw [ht (by rw [h.2.2]; rfl)]; simp
  · simp [ownB, e] at h; rw [ht (by rw [h.2.2]; rfl)]; simp
  · simp [e]; omega
  · simp [e]; omega
  · simp [e]; omega
  · simp [e]; split
    · rename_i h0; rw [ht (by simp [h0])]; simp
    · simp
  · simp [e]; omega
  · simp [ownB, e] at h; rw [ht (by rw [h.2.2]; rfl)]; simp
theorem validV_own {rs : List RuleV} {k : Nat} {v : ValueV} (hk : k < rs.length) (h : validV rs (k : Int) v = true) : ownB rs rs[k] v = true ∧ validL rs rs[k] v.number 0 v.items = true := by
  rw [validV_eq, ruleAt_at hk, Bool.and_eq_true] at h
  exact h
theorem textV_at {rs : List RuleV} {k : Nat} (hk : k < rs.length) (v : ValueV) : textV rs (k : Int) v = wrapT rs[k] v.number v.bytes v.items.length (textL rs rs[k] v.number 0 v.items) := by
  rw [textV_eq, ruleAt_at hk]
theorem textL_none (rs : List RuleV) (r : RuleV) (x : Int) {l : List ValueV} (h : l.length = 0) : textL rs r x 0 l = [] := by
  rw [List.eq_nil_of_length_eq_zero h, textL]
theorem textL_le {rs : List RuleV} {k : Nat} {v : ValueV} (hk : k < rs.length) (hki : kindI rs rs[k] = true) (h : ownB rs rs[k] v = true) : (textL rs rs[k] v.number 0 v.items).length ≤ (textV rs (k : Int) v).length := by
  rw [textV_at hk]
  exact inner_len hki h _ fun h0 => textL_none _ _ _ h0
/-- What the model's l10Text promises of values of a height. -/
def STextC (a : Option Addr) (rs : List RuleV) (cap n : Nat) : Prop :=
  ∀ (v : ValueV) (vs : List Value) (k : Nat) (w : World), k < rs.length → RdR a rs w → IsVal n v vs w → validV rs (k : Int) v = true → (textV rs (k : Int) v).length ≤ 4398046511104 →
    Calls Tryz.prog 21 #[.agg #[.slice a rs.length cap], .int .i64 (k : Int), .agg vs.toArray] w fun e w' => e = .returned (.string (txt (textV rs (k : Int) v))) ∧ Below w.heap.size w w'
/-- .. and its l10List. -/
def SListC (a : Option Addr) (rs : List RuleV) (cap n : Nat) : Prop :=
  ∀ (v : ValueV) (vs cs : List Value) (k : Nat) (r : RuleV) (w : World) (hk : k < rs.length), r = rs[k] → RdR a rs w → IsRule r cs w → IsVal (n + 1) v vs w → ownB rs r v = true → validL rs r v.number 0 v.items = true → (textL rs r v.number 0 v.items).length ≤ 4398046511104 →
    Calls Tryz.prog 38 #[.agg #[.slice a rs.length cap], .agg cs.toArray, .agg vs.toArray] w fun e w' => e = .returned (.string (txt (textL rs r v.number 0 v.items))) ∧ Below w.heap.size w w'
theorem txt_add (a b : List UInt8) : txt a ++ txt b = txt (a ++ b) := by rw [append_txt, lst_txt, lst_txt]
theorem ret_txt {a b : ByteArray} (h : a = b) : (Ending.returned (.string a) : Ending) = .returned (.string b) := by rw [h]
/-- The four ways in which a text gets one item more. -/
theorem next_ff {rs : List RuleV} {r : RuleV} {x : Int} {l : List ValueV} {q : Nat} (h : q < l.length) (h0 : ¬ 0 < q) (h6 : ¬ r.kind = 6) : txt (textL rs r x 0 (l.take q)) ++ txt (textV rs (itemR r x q) l[q]) = txt (textL rs r x 0 (l.take (q + 1))) := by
  rw [txt_add, textL_next h]; unfold itemT labelT; rw [if_neg h0, if_neg h6]; rfl
theorem next_tf {rs : List RuleV} {r : RuleV} {x : Int} {l : List ValueV} {q : Nat} (h : q < l.length) (h0 : 0 < q) (h6 : ¬ r.kind = 6) : txt (textL rs r x 0 (l.take q)) ++ ⟨#[44]⟩ ++ txt (textV rs (itemR r x q) l[q]) = txt (textL rs r x 0 (l.take (q + 1))) := by
  rw [show (⟨#[44]⟩ : ByteArray) = txt [44] from rfl, txt_add, txt_add, textL_next h]; unfold itemT labelT; rw [if_pos h0, if_neg h6, List.nil_append, List.append_assoc]
theorem next_ft {rs : List RuleV} {r : RuleV} {x : Int} {l : List ValueV} {q : Nat} (h : q < l.length) (h0 : ¬ 0 < q) (h6 : r.kind = 6) (hn : q < r.names.length) : txt (textL rs r x 0 (l.take q)) ++ r.names[q] ++ ⟨#[58]⟩ ++ txt (textV rs (itemR r x q) l[q]) = txt (textL rs r x 0 (l.take (q + 1))) := by
  have e : r.names.getD q ⟨#[]⟩ = r.names[q] := by simp [List.getD, List.getElem?_eq_getElem hn]
  rw [show (⟨#[58]⟩ : ByteArray) = txt [58] from rfl, ← txt_lst r.names[q], txt_add, txt_add, txt_add, textL_next h]; unfold itemT labelT; rw [if_neg h0, if_pos h6, e]; simp
theorem next_tt {rs : List RuleV} {r : RuleV} {x : Int} {l : List ValueV} {q : Nat} (h : q < l.length) (h0 : 0 < q) (h6 : r.kind = 6) (hn : q < r.names.length) : txt (textL rs r x 0 (l.take q)) ++ ⟨#[44]⟩ ++ r.names[q] ++ ⟨#[58]⟩ ++ txt (textV rs (itemR r x q) l[q]) = txt (textL rs r x 0 (l.take (q + 1))) := by
  have e : r.names.getD q ⟨#[]⟩ = r.names[q] := by simp [List.getD, List.getElem?_eq_getElem hn]
  rw [show (⟨#[58]⟩ : ByteArray) = txt [58] from rfl, show (⟨#[44]⟩ : ByteArray) = txt [44] from rfl, ← txt_lst r.names[q], txt_add, txt_add, txt_add, txt_add, textL_next h]; unfold itemT labelT; rw [if_pos h0, if_pos h6, e]; simp

set_option maxRecDepth 100000 in
set_option maxHeartbeats 8000000 in
theorem slist_step (a : Option Addr) (rs : List RuleV) (cap n : Nat) (_hl : rs.length ≤ 1048576) (hall : allV (kindI rs) rs) (ih : STextC a rs cap n) : SListC a rs cap n := by
  intro v vs cs k r w hk hrk hrd hir hv hown hvl htl
  obtain ⟨a4, c4, a5, c5, a6, c6, a7, c7, rfl, r4, r5, r6, r7⟩ := hir
  have hki := allV_kind hall hk
  rw [← hrk] at hki
  have hir : IsRule r [.string r.name, .int .i64 r.kind, .int .i64 r.size, .bool r.little, .slice a4 r.bytes.length c4, .slice a5 r.names.length c5, .slice a6 r.tags.length c6, .slice a7 r.kids.length c7] w := ⟨a4, c4, a5, c5, a6, c6, a7, c7, rfl, r4, r5, r6, r7⟩
  have hkr : ∀ x ∈ r.kids, ∃ m : Nat, x = (m : Int) ∧ m < rs.length := fun x hx => by rw [hrk] at hx; have h1 := allV_kids hall hk x hx; exact ⟨x.toNat, by omega, by omega⟩
  obtain ⟨ab, cb, ai, ci, rfl, hb, hit⟩ := hv
  obtain ⟨w0, hw0⟩ : ∃ w0, w0 = ((w.alloc (.cells #[.slice a rs.length cap] 35)).alloc (.cells #[.string r.name, .int .i64 r.kind, .int .i64 r.size, .bool r.little, .slice a4 r.bytes.length c4, .slice a5 r.names.length c5, .slice a6 r.tags.length c6, .slice a7 r.kids.length c7] 54)).alloc (.cells #[.int .i64 v.number, .slice ab v.bytes.length cb, .slice ai v.items.length ci] 39) := ⟨_, rfl⟩
  have hB : Below w.heap.size w w0 := by subst hw0; exact (((Below.refl _ _).alloc (Nat.le_refl _) _).alloc (by simp) _).alloc (by rw [World.size_alloc, World.size_alloc]; omega) _
  have hD : CellsAt w.heap.size [.slice a rs.length cap] w0 := by subst hw0; exact ((CellsAt.new w _ _).below ((Below.refl _ _).alloc (Nat.le_refl _) _)).below ((Below.refl _ _).alloc (Nat.le_refl _) _)
  have hC : CellsAt (w.heap.size + 1) [.string r.name, .int .i64 r.kind, .int .i64 r.size, .bool r.little, .slice a4 r.bytes.length c4, .slice a5 r.names.length c5, .slice a6 r.tags.length c6, .slice a7 r.kids.length c7] w0 := by subst hw0; have h1 := CellsAt.new (w.alloc (.cells #[.slice a rs.length cap] 35)) [.string r.name, .int .i64 r.kind, .int .i64 r.size, .bool r.little, .slice a4 r.bytes.length c4, .slice a5 r.names.length c5, .slice a6 r.tags.length c6, .slice a7 r.kids.length c7] 54; rw [World.size_alloc] at h1; exact h1.below ((Below.refl _ _).alloc (Nat.le_refl _) _)
  have hVC : CellsAt (w.heap.size + 2) [.int .i64 v.number, .slice ab v.bytes.length cb, .slice ai v.items.length ci] w0 := by subst hw0; have h1 := CellsAt.new ((w.alloc (.cells #[.slice a rs.length cap] 35)).alloc (.cells #[.string r.name, .int .i64 r.kind, .int .i64 r.size, .bool r.little, .slice a4 r.bytes.length c4, .slice a5 r.names.length c5, .slice a6 r.tags.length c6, .slice a7 r.kids.length c7] 54)) [.int .i64 v.number, .slice ab v.bytes.length cb, .slice ai v.items.length ci] 39; rw [World.size_alloc, World.size_alloc] at h1; exact h1
  have HIT : Hid (∀ j (h : j < v.items.length), ∃ b off cs', ai = some ⟨b, off, none⟩ ∧ IsVal n v.items[j] cs' w0 ∧ ∀ i u, cs'[i]? = some u → w0.cell? ⟨b, off + j * 3 + i, none⟩ = some u) := fun j hj => by obtain ⟨b, off, cs', e, h3, h4⟩ := hit j hj; exact ⟨b, off, cs', e, h3.below hB, fun i u hi => (hB.cell (cell_lt (h4 i u hi))).trans (h4 i u hi)⟩
  have hil := own_len hki hown
  have HN6 : Hid (r.kind = 6 → r.names.length = r.kids.length ∧ v.items.length = r.kids.length ∧ ∀ s ∈ r.names, s.size ≤ 12) := fun h6 => by
    have h1 := kindI_6 hki h6
    simp [ownB, h6] at hown
    exact ⟨h1.1, hown.2.2, seq_spelt hki h6⟩
  have HIK : Hid (∀ q, q < v.items.length → ∃ m : Nat, itemR r v.number q = (m : Int) ∧ m < rs.length) := fun q hq => by have h1 := item_kid hki hown hq; obtain ⟨m, h2, h3⟩ := hkr _ h1; exact ⟨m, h2, h3⟩
  have HVL := Lib.hid hvl
  have HTL := Lib.hid htl
  have HKI := Lib.hid hki
  have HIS := Lib.hid (hir.below hB)
  have HR5 := Lib.hid (r5.below hB)
  have HRD := Lib.hid (hrd.below hB)
  have HIH := Lib.hid ih
  have HD := Lib.hid hD
  have HC := Lib.hid hC
  have HVC := Lib.hid hVC
  have HB := Lib.hid hB
  have HW := Lib.hid hw0
  have HFIN : Hid (textL rs r v.number 0 (v.items.take v.items.length) = textL rs r v.number 0 v.items) := by show _ = _; rw [List.take_length]
  clear hB hD hC hVC hw0 hb hit hrd ih hall r4 r5 r6 r7 hir hvl htl hki hown hkr hrk
  go_enter Tryz.func38, Tryz.ntmps38
  go_upto_region 1 with fail
  rw [← HW.out]
  clear HW
  go_wp2
  go_loopw [7, 8] (fun s i W => ∃ (q : Nat) (T : ByteArray), q ≤ v.items.length ∧ i = .int .i64 q ∧ s = .string T ∧ Hid (T = txt (textL rs r v.number 0 (v.items.take q))) ∧ Hid (Below w0.heap.size w0 W)) (fun _ i _ => v.items.length - (intOf i).toNat)
  case atStart => exact ⟨0, ⟨#[]⟩, Nat.zero_le _, rfl, rfl, (show (⟨#[]⟩ : ByteArray) = _ by rw [List.take_zero, textL]; rfl), Below.refl _ _⟩
  case round =>
    obtain ⟨q, T, hql, rfl, rfl, HT, hbw⟩ := hrel
    have q0 : (0 : Int) ≤ (q : Int) := by omega
    have z2 := (HVC.out.below hbw.out 2 _ rfl).1
    have HBW := Lib.hid (HB.out.trans (hbw.out.mono HB.out.size))
    by_cases hlt : q < v.items.length
    · have q1 : (q : Int) < (v.items.length : Int) := by omega
      obtain ⟨m, hm, hmr⟩ := HIK.out q hlt
      have hvi := validL_at HVL.out q hlt
      rw [Nat.zero_add, hm] at hvi
      have hpart := textL_part (rs := rs) (r := r) (x := v.number) hlt
      have hill := itemT_len rs r v.number q v.items[q]
      rw [hm] at hill
      have htot := HTL.out
      have hTs : T.size ≤ 4398046511104 := by rw [HT.out, txt_size]; omega
      have hUs : (txt (textV rs (m : Int) v.items[q])).size ≤ 4398046511104 := by rw [txt_size]; omega
      have hUl : (textV rs (m : Int) v.items[q]).length ≤ 4398046511104 := by omega
      have hff := fun h0 h6 => next_ff (rs := rs) (r := r) (x := v.number) hlt h0 h6
      have htf := fun h0 h6 => next_tf (rs := rs) (r := r) (x := v.number) hlt h0 h6
      have hft := fun h0 h6 hn => next_ft (rs := rs) (r := r) (x := v.number) hlt h0 h6 hn
      have htt := fun h0 h6 hn => next_tt (rs := rs) (r := r) (x := v.number) hlt h0 h6 hn
      rw [← HT.out, hm] at hff htf hft htt
      obtain ⟨bi, oi, cs', hai, hiv, hcc⟩ := HIT.out q hlt
      subst hai
      obtain ⟨ab', cb', ai', ci', rfl⟩ := hiv.cells
      have HM := Lib.hid hm
      have HIV := Lib.hid hiv
      obtain ⟨it, hitt⟩ : ∃ it, it = v.items[q] := ⟨_, rfl⟩
      rw [← hitt] at HIV hcc hiv hvi hUs hUl hff htf hft htt
      have HVI := Lib.hid hvi
      have x0 := cell_keep hbw.out (hcc 0 _ rfl)
      have x1 := cell_keep hbw.out (hcc 1 _ rfl)
      have x2 := cell_keep hbw.out (hcc 2 _ rfl)
      simp only [Nat.add_zero] at x0
      obtain ⟨U, hU⟩ : ∃ U, U = txt (textV rs (m : Int) it) := ⟨_, rfl⟩
      rw [← hU] at hUs hff htf hft htt
      have HU := Lib.hid hU
      have HFF := Lib.hid hff
      have HTF := Lib.hid htf
      have HFT := Lib.hid hft
      have HTT := Lib.hid htt
      have hk1 := (HC.out.below hbw.out 1 _ rfl).1
      have hk5 := (HC.out.below hbw.out 5 _ rfl).1
      clear hm hiv hcc hitt hvi hpart hill htot hU hff htf hft htt
      have HSW : Hid (∀ W, Below wr.heap.size wr W → W.cell? ⟨w.heap.size, 0, none⟩ = some (.slice a rs.length cap) ∧ W.cell? ⟨w.heap.size + 1, 0, none⟩ = some (.string r.name) ∧ W.cell? ⟨w.heap.size + 1, 1, none⟩ = some (.int .i64 r.kind) ∧ W.cell? ⟨w.heap.size + 1, 2, none⟩ = some (.int .i64 r.size) ∧ W.cell? ⟨w.heap.size + 1, 3, none⟩ = some (.bool r.little) ∧ W.cell? ⟨w.heap.size + 1, 4, none⟩ = some (.slice a4 r.bytes.length c4) ∧ W.cell? ⟨w.heap.size + 1, 5, none⟩ = some (.slice a5 r.names.length c5) ∧ W.cell? ⟨w.heap.size + 1, 6, none⟩ = some (.slice a6 r.tags.length c6) ∧ W.cell? ⟨w.heap.size + 1, 7, none⟩ = some (.slice a7 r.kids.length c7) ∧ W.cell? ⟨w.heap.size + 2, 0, none⟩ = some (.int .i64 v.number) ∧ W.cell? ⟨w.heap.size + 2, 2, none⟩ = some (.slice (some ⟨bi, oi, none⟩) v.items.length ci) ∧ W.cell? ⟨bi, oi + q * 3, none⟩ = some (.int .i64 it.number) ∧ W.cell? ⟨bi, oi + q * 3 + 1, none⟩ = some (.slice ab' it.bytes.length cb') ∧ W.cell? ⟨bi, oi + q * 3 + 2, none⟩ = some (.slice ai' it.items.length ci')) := fun W hW => ⟨(HD.out.below (hbw.out.trans (hW.mono hbw.out.size)) 0 _ rfl).1, (HC.out.below (hbw.out.trans (hW.mono hbw.out.size)) 0 _ rfl).1, (HC.out.below (hbw.out.trans (hW.mono hbw.out.size)) 1 _ rfl).1, (HC.out.below (hbw.out.trans (hW.mono hbw.out.size)) 2 _ rfl).1, (HC.out.below (hbw.out.trans (hW.mono hbw.out.size)) 3 _ rfl).1, (HC.out.below (hbw.out.trans (hW.mono hbw.out.size)) 4 _ rfl).1, (HC.out.below (hbw.out.trans (hW.mono hbw.out.size)) 5 _ rfl).1, (HC.out.below (hbw.out.trans (hW.mono hbw.out.size)) 6 _ rfl).1, (HC.out.below (hbw.out.trans (hW.mono hbw.out.size)) 7 _ rfl).1, (HVC.out.below (hbw.out.trans (hW.mono hbw.out.size)) 0 _ rfl).1, cell_keep hW z2, cell_keep hW x0, cell_keep hW x1, cell_keep hW x2⟩
      clear x0 x1 x2
      by_cases h6 : r.kind = 6
      · obtain ⟨n1, n2, n3⟩ := HN6.out h6
        have hnm : q < r.names.length := by omega
        obtain ⟨bn, on, hbn, hcn⟩ := HR5.out q hnm
        have hcn2 := cell_keep hbw.out hcn
        have hns := n3 _ (List.getElem_mem hnm)
        have hTT := fun h0 => HTT.out h0 h6 hnm
        have hFT := fun h0 => HFT.out h0 h6 hnm
        obtain ⟨nm, hnmE⟩ : ∃ nm, nm = r.names[q] := ⟨_, rfl⟩
        rw [← hnmE] at hcn2 hns hTT hFT
        clear hnmE
        have hq5 : (q : Int) < (r.names.length : Int) := by omega
        rw [hbn] at hk5
        have hk6 : (r.kind == 6) = true := by simp [h6]
        have a1 : (T ++ (⟨#[44]⟩ : ByteArray)).size = T.size + 1 := ByteArray.size_append
        have a2 : (T ++ nm).size = T.size + nm.size := ByteArray.size_append
        have a3 : (T ++ nm ++ (⟨#[58]⟩ : ByteArray)).size = T.size + nm.size + 1 := by rw [ByteArray.size_append, a2]; rfl
        have a4' : (T ++ (⟨#[44]⟩ : ByteArray) ++ nm).size = T.size + 1 + nm.size := by rw [ByteArray.size_append, a1]
        have a5' : (T ++ (⟨#[44]⟩ : ByteArray) ++ nm ++ (⟨#[58]⟩ : ByteArray)).size = T.size + 1 + nm.size + 1 := by rw [ByteArray.size_append, a4']; rfl
        by_cases h0 : 0 < q
        · have g0 : (0 : Int) < (q : Int) := by omega
          obtain ⟨T2, hT2⟩ : ∃ T2, T2 = T ++ (⟨#[44]⟩ : ByteArray) ++ nm ++ (⟨#[58]⟩ : ByteArray) := ⟨_, rfl⟩
          have hnx := hTT h0
          rw [← hT2] at hnx
          have HNX := Lib.hid hnx
          have hT2s : T2.size ≤ T.size + nm.size + 2 := by rw [hT2]; omega
          clear hnx
          have hadd : ∀ W, (Op.stringOp .add (T2) U).run Tryz.prog W = .ok (.string (T2 ++ U)) W := fun W => run_string_add_sum W _ _ (by omega)
          clear hbn hcn n1 n2 n3 hTT hFT
          have HW0 : Hid (Below wr.heap.size wr wr.drew) := below_drewN (Below.refl _ wr) 1
          go_upto_region 9 with fail
          try rw [← hT2]
          clear h6 hk6
          try clear hT2 a1 a2 a3 a4' a5'
          try clear hk5 hk1 hcn2
          try clear hk5 hk1
          clear z2
          go_region_held3 (fun W => W.cell? ⟨w.heap.size, 0, none⟩ = some (.slice a rs.length cap) ∧ W.cell? ⟨w.heap.size + 1, 0, none⟩ = some (.string r.name) ∧ W.cell? ⟨w.heap.size + 1, 1, none⟩ = some (.int .i64 r.kind) ∧ W.cell? ⟨w.heap.size + 1, 2, none⟩ = some (.int .i64 r.size) ∧ W.cell? ⟨w.heap.size + 1, 3, none⟩ = some (.bool r.little) ∧ W.cell? ⟨w.heap.size + 1, 4, none⟩ = some (.slice a4 r.bytes.length c4) ∧ W.cell? ⟨w.heap.size + 1, 5, none⟩ = some (.slice a5 r.names.length c5) ∧ W.cell? ⟨w.heap.size + 1, 6, none⟩ = some (.slice a6 r.tags.length c6) ∧ W.cell? ⟨w.heap.size + 1, 7, none⟩ = some (.slice a7 r.kids.length c7) ∧ W.cell? ⟨w.heap.size + 2, 0, none⟩ = some (.int .i64 v.number) ∧ W.cell? ⟨w.heap.size + 2, 2, none⟩ = some (.slice (some ⟨bi, oi, none⟩) v.items.length ci) ∧ W.cell? ⟨bi, oi + q * 3, none⟩ = some (.int .i64 it.number) ∧ W.cell? ⟨bi, oi + q * 3 + 1, none⟩ = some (.slice ab' it.bytes.length cb') ∧ W.cell? ⟨bi, oi + q * 3 + 2, none⟩ = some (.slice ai' it.items.length ci')) (exact HSW.out _ HW0.out) (first | (go_at_call 59; refine (item_spec rs r _ v.number q _ (by omega) HKI.out (HIS.out.below (hbw.out.trans (HW0.out.mono hbw.out.size)))).mono ?_; rintro e w5 ⟨rfl, hb5⟩; rw [HM.out]; replace HW0 := Lib.hid (HW0.out.trans (hb5.mono HW0.out.size)); clear hb5) | (go_at_call 21; refine (HIH.out it _ m _ hmr (HRD.out.below (hbw.out.trans (HW0.out.mono hbw.out.size))) (HIV.out.below (hbw.out.trans (HW0.out.mono hbw.out.size))) HVI.out hUl).mono ?_; rintro e w6 ⟨rfl, hb6⟩; rw [← HU.out]; replace HW0 := Lib.hid (HW0.out.trans (hb6.mono HW0.out.size)); clear hb6))
          have HBN := Lib.hid (hbw.out.trans (HW0.out.mono hbw.out.size))
          go_wp2
          go_roundw
          case rel => exact ⟨q + 1, _, by omega, by go_num, rfl, HNX, HBN⟩
          case measure => simp [intOf]; omega
        · have g0 : ¬ (0 : Int) < (q : Int) := by omega
          obtain ⟨T2, hT2⟩ : ∃ T2, T2 = T ++ nm ++ (⟨#[58]⟩ : ByteArray) := ⟨_, rfl⟩
          have hnx := hFT h0
          rw [← hT2] at hnx
          have HNX := Lib.hid hnx
          have hT2s : T2.size ≤ T.size + nm.size + 2 := by rw [hT2]; omega
          clear hnx
          have hadd : ∀ W, (Op.stringOp .add (T2) U).run Tryz.prog W = .ok (.string (T2 ++ U)) W := fun W => run_string_add_sum W _ _ (by omega)
          clear hbn hcn n1 n2 n3 hTT hFT
          have HW0 : Hid (Below wr.heap.size wr wr.drew) := below_drewN (Below.refl _ wr) 1
          go_upto_region 9 with fail
          try rw [← hT2]
          clear h6 hk6
          try clear hT2 a1 a2 a3 a4' a5'
          try clear hk5 hk1 hcn2
          try clear hk5 hk1
          clear z2
          go_region_held3 (fun W => W.cell? ⟨w.heap.size, 0, none⟩ = some (.slice a rs.length cap) ∧ W.cell? ⟨w.heap.size + 1, 0, none⟩ = some (.string r.name) ∧ W.cell? ⟨w.heap.size + 1, 1, none⟩ = some (.int .i64 r.kind) ∧ W.cell? ⟨w.heap.size + 1, 2, none⟩ = some (.int .i64 r.size) ∧ W.cell? ⟨w.heap.size + 1, 3, none⟩ = some (.bool r.little) ∧ W.cell? ⟨w.heap.size + 1, 4, none⟩ = some (.slice a4 r.bytes.length c4) ∧ W.cell? ⟨w.heap.size + 1, 5, none⟩ = some (.slice a5 r.names.length c5) ∧ W.cell? ⟨w.heap.size + 1, 6, none⟩ = some (.slice a6 r.tags.length c6) ∧ W.cell? ⟨w.heap.size + 1, 7, none⟩ = some (.slice a7 r.kids.length c7) ∧ W.cell? ⟨w.heap.size + 2, 0, none⟩ = some (.int .i64 v.number) ∧ W.cell? ⟨w.heap.size + 2, 2, none⟩ = some (.slice (some ⟨bi, oi, none⟩) v.items.length ci) ∧ W.cell? ⟨bi, oi + q * 3, none⟩ = some (.int .i64 it.number) ∧ W.cell? ⟨bi, oi + q * 3 + 1, none⟩ = some (.slice ab' it.bytes.length cb') ∧ W.cell? ⟨bi, oi + q * 3 + 2, none⟩ = some (.slice ai' it.items.length ci')) (exact HSW.out _ HW0.out) (first | (go_at_call 59; refine (item_spec rs r _ v.number q _ (by omega) HKI.out (HIS.out.below (hbw.out.trans (HW0.out.mono hbw.out.size)))).mono ?_; rintro e w5 ⟨rfl, hb5⟩; rw [HM.out]; replace HW0 := Lib.hid (HW0.out.trans (hb5.mono HW0.out.size)); clear hb5) | (go_at_call 21; refine (HIH.out it _ m _ hmr (HRD.out.below (hbw.out.trans (HW0.out.mono hbw.out.size))) (HIV.out.below (hbw.out.trans (HW0.out.mono hbw.out.size))) HVI.out hUl).mono ?_; rintro e w6 ⟨rfl, hb6⟩; rw [← HU.out]; replace HW0 := Lib.hid (HW0.out.trans (hb6.mono HW0.out.size)); clear hb6))
          have HBN := Lib.hid (hbw.out.trans (HW0.out.mono hbw.out.size))
          go_wp2
          go_roundw
          case rel => exact ⟨q + 1, _, by omega, by go_num, rfl, HNX, HBN⟩
          case measure => simp [intOf]; omega
      · have hk6 : (r.kind == 6) = false := by simp [h6]
        have a1 : (T ++ (⟨#[44]⟩ : ByteArray)).size = T.size + 1 := ByteArray.size_append
        by_cases h0 : 0 < q
        · have g0 : (0 : Int) < (q : Int) := by omega
          have HNX := Lib.hid (HTF.out h0 h6)
          have hadd : ∀ W, (Op.stringOp .add (T ++ (⟨#[44]⟩ : ByteArray)) U).run Tryz.prog W = .ok (.string (T ++ (⟨#[44]⟩ : ByteArray) ++ U)) W := fun W => run_string_add_sum W _ _ (by omega)
          have HW0 : Hid (Below wr.heap.size wr wr.drew) := below_drewN (Below.refl _ wr) 1
          go_upto_region 9 with fail
          try rw [← hT2]
          clear h6 hk6
          try clear hT2 a1 a2 a3 a4' a5'
          try clear hk5 hk1 hcn2
          try clear hk5 hk1
          clear z2
          go_region_held3 (fun W => W.cell? ⟨w.heap.size, 0, none⟩ = some (.slice a rs.length cap) ∧ W.cell? ⟨w.heap.size + 1, 0, none⟩ = some (.string r.name) ∧ W.cell? ⟨w.heap.size + 1, 1, none⟩ = some (.int .i64 r.kind) ∧ W.cell? ⟨w.heap.size + 1, 2, none⟩ = some (.int .i64 r.size) ∧ W.cell? ⟨w.heap.size + 1, 3, none⟩ = some (.bool r.little) ∧ W.cell? ⟨w.heap.size + 1, 4, none⟩ = some (.slice a4 r.bytes.length c4) ∧ W.cell? ⟨w.heap.size + 1, 5, none⟩ = some (.slice a5 r.names.length c5) ∧ W.cell? ⟨w.heap.size + 1, 6, none⟩ = some (.slice a6 r.tags.length c6) ∧ W.cell? ⟨w.heap.size + 1, 7, none⟩ = some (.slice a7 r.kids.length c7) ∧ W.cell? ⟨w.heap.size + 2, 0, none⟩ = some (.int .i64 v.number) ∧ W.cell? ⟨w.heap.size + 2, 2, none⟩ = some (.slice (some ⟨bi, oi, none⟩) v.items.length ci) ∧ W.cell? ⟨bi, oi + q * 3, none⟩ = some (.int .i64 it.number) ∧ W.cell? ⟨bi, oi + q * 3 + 1, none⟩ = some (.slice ab' it.bytes.length cb') ∧ W.cell? ⟨bi, oi + q * 3 + 2, none⟩ = some (.slice ai' it.items.length ci')) (exact HSW.out _ HW0.out) (first | (go_at_call 59; refine (item_spec rs r _ v.number q _ (by omega) HKI.out (HIS.out.below (hbw.out.trans (HW0.out.mono hbw.out.size)))).mono ?_; rintro e w5 ⟨rfl, hb5⟩; rw [HM.out]; replace HW0 := Lib.hid (HW0.out.trans (hb5.mono HW0.out.size)); clear hb5) | (go_at_call 21; refine (HIH.out it _ m _ hmr (HRD.out.below (hbw.out.trans (HW0.out.mono hbw.out.size))) (HIV.out.below (hbw.out.trans (HW0.out.mono hbw.out.size))) HVI.out hUl).mono ?_; rintro e w6 ⟨rfl, hb6⟩; rw [← HU.out]; replace HW0 := Lib.hid (HW0.out.trans (hb6.mono HW0.out.size)); clear hb6))
          have HBN := Lib.hid (hbw.out.trans (HW0.out.mono hbw.out.size))
          go_wp2
          go_roundw
          case rel => exact ⟨q + 1, _, by omega, by go_num, rfl, HNX, HBN⟩
          case measure => simp [intOf]; omega
        · have g0 : ¬ (0 : Int) < (q : Int) := by omega
          have HNX := Lib.hid (HFF.out h0 h6)
          have hadd : ∀ W, (Op.stringOp .add (T) U).run Tryz.prog W = .ok (.string (T ++ U)) W := fun W => run_string_add_sum W _ _ (by omega)
          have HW0 : Hid (Below wr.heap.size wr wr.drew) := below_drewN (Below.refl _ wr) 1
          go_upto_region 9 with fail
          try rw [← hT2]
          clear h6 hk6
          try clear hT2 a1 a2 a3 a4' a5'
          try clear hk5 hk1 hcn2
          try clear hk5 hk1
          clear z2
          go_region_held3 (fun W => W.cell? ⟨w.heap.size, 0, none⟩ = some (.slice a rs.length cap) ∧ W.cell? ⟨w.heap.size + 1, 0, none⟩ = some (.string r.name) ∧ W.cell? ⟨w.heap.size + 1, 1, none⟩ = some (.int .i64 r.kind) ∧ W.cell? ⟨w.heap.size + 1, 2, none⟩ = some (.int .i64 r.size) ∧ W.cell? ⟨w.heap.size + 1, 3, none⟩ = some (.bool r.little) ∧ W.cell? ⟨w.heap.size + 1, 4, none⟩ = some (.slice a4 r.bytes.length c4) ∧ W.cell? ⟨w.heap.size + 1, 5, none⟩ = some (.slice a5 r.names.length c5) ∧ W.cell? ⟨w.heap.size + 1, 6, none⟩ = some (.slice a6 r.tags.length c6) ∧ W.cell? ⟨w.heap.size + 1, 7, none⟩ = some (.slice a7 r.kids.length c7) ∧ W.cell? ⟨w.heap.size + 2, 0, none⟩ = some (.int .i64 v.number) ∧ W.cell? ⟨w.heap.size + 2, 2, none⟩ = some (.slice (some ⟨bi, oi, none⟩) v.items.length ci) ∧ W.cell? ⟨bi, oi + q * 3, none⟩ = some (.int .i64 it.number) ∧ W.cell? ⟨bi, oi + q * 3 + 1, none⟩ = some (.slice ab' it.bytes.length cb') ∧ W.cell? ⟨bi, oi + q * 3 + 2, none⟩ = some (.slice ai' it.items.length ci')) (exact HSW.out _ HW0.out) (first | (go_at_call 59; refine (item_spec rs r _ v.number q _ (by omega) HKI.out (HIS.out.below (hbw.out.trans (HW0.out.mono hbw.out.size)))).mono ?_; rintro e w5 ⟨rfl, hb5⟩; rw [HM.out]; replace HW0 := Lib.hid (HW0.out.trans (hb5.mono HW0.out.size)); clear hb5) | (go_at_call 21; refine (HIH.out it _ m _ hmr (HRD.out.below (hbw.out.trans (HW0.out.mono hbw.out.size))) (HIV.out.below (hbw.out.trans (HW0.out.mono hbw.out.size))) HVI.out hUl).mono ?_; rintro e w6 ⟨rfl, hb6⟩; rw [← HU.out]; replace HW0 := Lib.hid (HW0.out.trans (hb6.mono HW0.out.size)); clear hb6))
          have HBN := Lib.hid (hbw.out.trans (HW0.out.mono hbw.out.size))
          go_wp2
          go_roundw
          case rel => exact ⟨q + 1, _, by omega, by go_num, rfl, HNX, HBN⟩
          case measure => simp [intOf]; omega
    · have q1 : ¬ (q : Int) < (v.items.length : Int) := by omega
      obtain rfl : q = v.items.length := by omega
      have hr : Hid (T = txt (textL rs r v.number 0 v.items)) := by show _ = _; rw [HT.out, HFIN.out]
      go_wp2
      go_ret
      exact ⟨ret_txt hr.out, HBW.out⟩
end Go.Proofs.YtfmnjclnhppghabGreatDoor
namespace Go.Proofs.YtfmnjclnhppghabGreatDoor
open Go Go.RowKit
theorem own_num {rs : List RuleV} {r : RuleV} {v : ValueV} (hk : kindI rs r = true) (h : ownB rs r v = true) : (0 ≤ v.number ∧ v.number ≤ 4294967295) ∧ v.bytes.length ≤ 400 := by
  have h1 : fitB (bndV rs r) v = true := by
    cases hf : fitB (bndV rs r) v with
    | true => rfl
    | false => have := fit_no hk hf; rw [h] at this; cases this
  have h2 := (limitAt_b rs (r.kids.getD 0 0)).2
  have h3 := pow256_bounds r.size
  have hkn := kindI_known hk
  rcases (by omega : r.kind = 1 ∨ r.kind = 2 ∨ r.kind = 3 ∨ r.kind = 4 ∨ r.kind = 5 ∨ r.kind = 6 ∨ r.kind = 7 ∨ r.kind = 8 ∨ r.kind = 9 ∨ r.kind = 10) with e | e | e | e | e | e | e | e | e | e
  case inr.inr.inl =>
    have h4 := (kindI_3 hk e).2
    simp only [fitB, bndV, e, Int.reduceEq, reduceIte, Bool.and_eq_true, decide_eq_true_eq] at h1
    omega
  all_goals
    simp only [fitB, bndV, e, Int.reduceEq, reduceIte, Bool.and_eq_true, decide_eq_true_eq] at h1
    omega
theorem wrap_1 {r : RuleV} (h : r.kind = 1) (x : Int) (b : List UInt8) (m : Nat) (t : List UInt8) : (⟨(Lib.itoa x).toArray⟩ : ByteArray) = txt (wrapT r x b m t) := by unfold wrapT; rw [if_pos h]; rfl
theorem wrap_2 {r : RuleV} (h : r.kind = 2) (x : Int) (b : List UInt8) (m : Nat) (t : List UInt8) : (⟨#[33]⟩ : ByteArray) = txt (wrapT r x b m t) := by unfold wrapT; simp [h]; rfl
theorem wrap_5 {r : RuleV} (h : r.kind = 5) (x : Int) (b : List UInt8) (m : Nat) (t : List UInt8) : (⟨#[91]⟩ : ByteArray) ++ txt t ++ ⟨#[93]⟩ = txt (wrapT r x b m t) := by
  rw [show (⟨#[91]⟩ : ByteArray) = txt [91] from rfl, show (⟨#[93]⟩ : ByteArray) = txt [93] from rfl, txt_add, txt_add]; unfold wrapT; simp [h]
theorem wrap_6 {r : RuleV} (h : r.kind = 6) (x : Int) (b : List UInt8) (m : Nat) (t : List UInt8) : (⟨#[123]⟩ : ByteArray) ++ txt t ++ ⟨#[125]⟩ = txt (wrapT r x b m t) := by
  rw [show (⟨#[123]⟩ : ByteArray) = txt [123] from rfl, show (⟨#[125]⟩ : ByteArray) = txt [125] from rfl, txt_add, txt_add]; unfold wrapT; simp [h]
theorem wrap_7 {r : RuleV} (h : r.kind = 7) (x : Int) (b : List UInt8) (m : Nat) (t : List UInt8) : fntS x ⟨#[60]⟩ (txt t) ⟨#[62]⟩ = txt (wrapT r x b m t) := by
  unfold fntS
  rw [show (⟨#[60]⟩ : ByteArray) = txt [60] from rfl, show (⟨#[62]⟩ : ByteArray) = txt [62] from rfl, show (⟨(Lib.itoa x).toArray⟩ : ByteArray) = txt (Lib.itoa x) from rfl, txt_add, txt_add, txt_add]; unfold wrapT; simp [h]
theorem wrap_8 {r : RuleV} (h : r.kind = 8) (x : Int) (b : List UInt8) (m : Nat) (t : List UInt8) (hm : m ≠ 0) : (⟨#[63]⟩ : ByteArray) ++ txt t = txt (wrapT r x b m t) := by
  rw [show (⟨#[63]⟩ : ByteArray) = txt [63] from rfl, txt_add]; unfold wrapT; simp [h, hm]
theorem wrap_80 {r : RuleV} (h : r.kind = 8) (x : Int) (b : List UInt8) (m : Nat) (t : List UInt8) (hm : m = 0) : (⟨#[45]⟩ : ByteArray) = txt (wrapT r x b m t) := by unfold wrapT; simp [h, hm]; rfl
theorem wrap_9 {r : RuleV} (h : r.kind = 9) (x : Int) (b : List UInt8) (m : Nat) (t : List UInt8) : (⟨#[40]⟩ : ByteArray) ++ txt t ++ ⟨#[41]⟩ = txt (wrapT r x b m t) := by
  rw [show (⟨#[40]⟩ : ByteArray) = txt [40] from rfl, show (⟨#[41]⟩ : ByteArray) = txt [41] from rfl, txt_add, txt_add]; unfold wrapT; simp [h]
theorem wrap_b {r : RuleV} (h : r.kind = 3 ∨ r.kind = 4 ∨ r.kind = 10) (x : Int) (b : List UInt8) (m : Nat) (t : List UInt8) : (⟨#[120]⟩ : ByteArray) ++ ⟨(hexL b).toArray⟩ = txt (wrapT r x b m t) := by
  rw [show (⟨#[120]⟩ : ByteArray) = txt [120] from rfl, show (⟨(hexL b).toArray⟩ : ByteArray) = txt (hexL b) from rfl, txt_add]
  rcases h with h | h | h <;> (unfold wrapT; simp [h])

set_option maxRecDepth 100000 in
set_option maxHeartbeats 8000000 in
theorem stext_step (a : Option Addr) (rs : List RuleV) (cap n : Nat) (_hl : rs.length ≤ 1048576) (hall : allV (kindI rs) rs) (ih : SListC a rs cap n) : STextC a rs cap (n + 1) := by
  intro v vs k w hk hrd hv hvv htl
  obtain ⟨hown, hvl⟩ := validV_own hk hvv
  have hki0 := allV_kind hall hk
  have hle := textL_le hk hki0 hown
  rw [textV_at hk] at htl hle ⊢
  have HKI := Lib.hid hki0
  have hnum := own_num hki0 hown
  have h8 : rs[k].kind = 8 → v.items.length ≤ 1 := fun e => by simp [ownB, e] at hown; exact hown.2.2
  have HRK : Hid (rs[k] = rs[k]) := rfl
  obtain ⟨ab, cb, ai, ci, rfl, hb, hit⟩ := hv
  have hv : IsVal (n + 1) v [.int .i64 v.number, .slice ab v.bytes.length cb, .slice ai v.items.length ci] w := ⟨ab, cb, ai, ci, rfl, hb, hit⟩
  obtain ⟨w0, hw0⟩ : ∃ w0, w0 = (w.alloc (.cells #[.slice a rs.length cap] 35)).alloc (.cells #[.int .i64 v.number, .slice ab v.bytes.length cb, .slice ai v.items.length ci] 39) := ⟨_, rfl⟩
  have hB : Below w.heap.size w w0 := by subst hw0; exact ((Below.refl _ _).alloc (Nat.le_refl _) _).alloc (by simp) _
  have hD : CellsAt w.heap.size [.slice a rs.length cap] w0 := by subst hw0; exact (CellsAt.new w _ _).below ((Below.refl _ _).alloc (Nat.le_refl _) _)
  have hVC : CellsAt (w.heap.size + 1) [.int .i64 v.number, .slice ab v.bytes.length cb, .slice ai v.items.length ci] w0 := by subst hw0; have h1 := CellsAt.new (w.alloc (.cells #[.slice a rs.length cap] 35)) [.int .i64 v.number, .slice ab v.bytes.length cb, .slice ai v.items.length ci] 39; rw [World.size_alloc] at h1; exact h1
  obtain ⟨b0, off, a4, c4, a5, c5, a6, c6, a7, c7, rfl, ⟨d0, d1, d2, d3, d4, d5, d6, d7⟩, r4, r5, r6, r7⟩ := (hrd.below hB).at k hk
  obtain ⟨r, hr⟩ : ∃ r, r = rs[k] := ⟨_, rfl⟩
  rw [← hr] at d0 d1 d2 d3 d4 d5 d6 d7 r4 r5 r6 r7 HKI hown hvl htl hle h8 ⊢
  have HRE := Lib.hid hr
  clear hr HRK
  obtain ⟨w2, hw2⟩ : ∃ w2, w2 = w0.alloc (.cells #[.string r.name, .int .i64 r.kind, .int .i64 r.size, .bool r.little, .slice a4 r.bytes.length c4, .slice a5 r.names.length c5, .slice a6 r.tags.length c6, .slice a7 r.kids.length c7] 54) := ⟨_, rfl⟩
  have hb2 : Below w0.heap.size w0 w2 := by subst hw2; exact (Below.refl _ _).alloc (Nat.le_refl _) _
  have HC : Hid (CellsAt w0.heap.size [.string r.name, .int .i64 r.kind, .int .i64 r.size, .bool r.little, .slice a4 r.bytes.length c4, .slice a5 r.names.length c5, .slice a6 r.tags.length c6, .slice a7 r.kids.length c7] w2) := by subst hw2; exact CellsAt.new w0 _ _
  have HD := Lib.hid (hD.below hb2)
  have HVC := Lib.hid (hVC.below hb2)
  have HIV := Lib.hid ((hv.below hB).below hb2)
  have HRB := Lib.hid ((hb.1.below hB).below hb2)
  have HIS : Hid (IsRule r [.string r.name, .int .i64 r.kind, .int .i64 r.size, .bool r.little, .slice a4 r.bytes.length c4, .slice a5 r.names.length c5, .slice a6 r.tags.length c6, .slice a7 r.kids.length c7] w2) := ⟨a4, c4, a5, c5, a6, c6, a7, c7, rfl, r4.below hb2, r5.below hb2, r6.below hb2, r7.below hb2⟩
  have HRD := Lib.hid ((hrd.below hB).below hb2)
  have HB := Lib.hid (hB.trans (hb2.mono hB.size))
  have HIH := Lib.hid ih
  have hW := Lib.hid hw0
  have hW2 := Lib.hid hw2
  have HOWN := Lib.hid hown
  have HVL := Lib.hid hvl
  have HHK := Lib.hid hk
  have HTL : Hid ((textL rs r v.number 0 v.items).length ≤ 4398046511104) := by show _ ≤ _; omega
  have H8 := Lib.hid h8
  obtain ⟨⟨hn0, hn1⟩, hnb⟩ := hnum
  have hna : (-9223372036854775808 : Int) ≤ v.number := by omega
  have hnc : v.number ≤ 9223372036854775807 := by omega
  have bx := (hD 0 _ rfl).1
  have k0 : (0 : Int) ≤ (k : Int) := by omega
  have k1 : (k : Int) < (rs.length : Int) := by omega
  clear hB hD hVC hb2 hw0 hw2 hb hit hrd hv ih hall r4 r5 r6 r7 hki0 hown hvl htl hle hvv h8
  go_enter Tryz.func21, Tryz.ntmps21
  go_upto_region 1 with fail
  rw [← hW.out]
  clear hW
  go_upto_region 2 with fail
  rw [← hW2.out]
  clear hW2 bx d0 d1 d2 d3 d4 d5 d6 d7
  have bx := (HD.out 0 _ rfl).1
  have z0 := (HVC.out 0 _ rfl).1
  have z1 := (HVC.out 1 _ rfl).1
  have z2 := (HVC.out 2 _ rfl).1
  have y0 := (HC.out 0 _ rfl).1
  have y1 := (HC.out 1 _ rfl).1
  have y2 := (HC.out 2 _ rfl).1
  have y3 := (HC.out 3 _ rfl).1
  have y4 := (HC.out 4 _ rfl).1
  have y5 := (HC.out 5 _ rfl).1
  have y6 := (HC.out 6 _ rfl).1
  have y7 := (HC.out 7 _ rfl).1
  go_wp2_with fail
  refine (HIH.out v _ _ k r _ HHK.out HRE.out HRD.out HIS.out HIV.out HOWN.out HVL.out HTL.out).mono ?_
  rintro e w3 ⟨rfl, hb3⟩
  replace HD := Lib.hid (HD.out.below hb3)
  replace HVC := Lib.hid (HVC.out.below hb3)
  replace HC := Lib.hid (HC.out.below hb3)
  replace HRB := Lib.hid (HRB.out.below hb3)
  replace HB := Lib.hid (HB.out.trans (hb3.mono HB.out.size))
  clear hb3 bx z0 z1 z2 y0 y1 y2 y3 y4 y5 y6 y7 HIV HIS HRD HIH
  obtain ⟨I, hI⟩ : ∃ I, I = txt (textL rs r v.number 0 v.items) := ⟨_, rfl⟩
  rw [← hI]
  have hIs : I.size ≤ 4398046511104 := by rw [hI, txt_size]; exact HTL.out
  have W1 := fun h => Lib.hid (wrap_1 (r := r) h v.number v.bytes v.items.length (textL rs r v.number 0 v.items))
  have W2 := fun h => Lib.hid (wrap_2 (r := r) h v.number v.bytes v.items.length (textL rs r v.number 0 v.items))
  have w5 := fun h => (wrap_5 (r := r) h v.number v.bytes v.items.length (textL rs r v.number 0 v.items))
  have w6 := fun h => (wrap_6 (r := r) h v.number v.bytes v.items.length (textL rs r v.number 0 v.items))
  have w7 := fun h => (wrap_7 (r := r) h v.number v.bytes v.items.length (textL rs r v.number 0 v.items))
  have w8 := fun h hm => (wrap_8 (r := r) h v.number v.bytes v.items.length (textL rs r v.number 0 v.items) hm)
  have W80 := fun h hm => Lib.hid (wrap_80 (r := r) h v.number v.bytes v.items.length (textL rs r v.number 0 v.items) hm)
  have w9 := fun h => (wrap_9 (r := r) h v.number v.bytes v.items.length (textL rs r v.number 0 v.items))
  have WB := fun h => Lib.hid (wrap_b (r := r) h v.number v.bytes v.items.length (textL rs r v.number 0 v.items))
  rw [← hI] at w5 w6 w7 w8 w9
  have W5 := Lib.hid w5
  have W6 := Lib.hid w6
  have W7 := Lib.hid w7
  have W8 := Lib.hid w8
  have W9 := Lib.hid w9
  clear hI w5 w6 w7 w8 w9
  have y1 := (HC.out 1 _ rfl).1
  have z0 := (HVC.out 0 _ rfl).1
  have z1 := (HVC.out 1 _ rfl).1
  have z2 := (HVC.out 2 _ rfl).1
  have hhex := hexL_length v.bytes
  have hsz5 : ((⟨#[91]⟩ : ByteArray) ++ I).size = 1 + I.size := by rw [ByteArray.size_append]; rfl
  have hsz6 : ((⟨#[123]⟩ : ByteArray) ++ I).size = 1 + I.size := by rw [ByteArray.size_append]; rfl
  have hsz9 : ((⟨#[40]⟩ : ByteArray) ++ I).size = 1 + I.size := by rw [ByteArray.size_append]; rfl
  have hszx : (⟨(hexL v.bytes).toArray⟩ : ByteArray).size = 2 * v.bytes.length := by rw [← hhex]; simp [ByteArray.size]
  have hb40 : v.bytes.length ≤ 1099511627776 := by omega
  have hu1 : (⟨#[60]⟩ : ByteArray).size ≤ 4398046511104 := by decide
  have hu2 : (⟨#[62]⟩ : ByteArray).size ≤ 4398046511104 := by decide
  have hkn := kindI_known HKI.out
  rcases (by omega : r.kind = 1 ∨ r.kind = 2 ∨ r.kind = 3 ∨ r.kind = 4 ∨ r.kind = 5 ∨ r.kind = 6 ∨ r.kind = 7 ∨ r.kind = 8 ∨ r.kind = 9 ∨ r.kind = 10) with hkd | hkd | hkd | hkd | hkd | hkd | hkd | hkd | hkd | hkd
  · rw [hkd] at y1
    have hr := W1 hkd
    clear hkd hkn W1 W2 W80 WB
    go_wp2_with fail
    refine (fmt_spec v.number _ hna hnc).mono ?_
    rintro e w4 ⟨rfl, hb4⟩
    have HF := Lib.hid (HB.out.trans (hb4.mono HB.out.size))
    clear hb4
    go_wp2
    go_ret
    exact ⟨ret_txt hr.out, HF.out⟩
  · rw [hkd] at y1
    have hr := W2 hkd
    clear hkd hkn W1 W2 W80 WB
    go_wp2
    go_ret
    exact ⟨ret_txt hr.out, HB.out⟩
  · rw [hkd] at y1
    have hr := WB (by omega)
    clear hkd hkn W1 W2 W80 WB
    go_wp2_with fail
    refine (fmthex_spec ab v.bytes cb _ hb40 HRB.out).mono ?_
    rintro e w4 ⟨rfl, n4, rfl⟩
    have HF := Lib.hid (below_drewN HB.out n4)
    generalize (⟨(hexL v.bytes).toArray⟩ : ByteArray) = H at hszx hr ⊢
    go_wp2
    go_ret
    exact ⟨ret_txt hr.out, HF.out⟩
  · rw [hkd] at y1
    have hr := WB (by omega)
    clear hkd hkn W1 W2 W80 WB
    go_wp2_with fail
    refine (fmthex_spec ab v.bytes cb _ hb40 HRB.out).mono ?_
    rintro e w4 ⟨rfl, n4, rfl⟩
    have HF := Lib.hid (below_drewN HB.out n4)
    generalize (⟨(hexL v.bytes).toArray⟩ : ByteArray) = H at hszx hr ⊢
    go_wp2
    go_ret
    exact ⟨ret_txt hr.out, HF.out⟩
  · rw [hkd] at y1
    have hr := Lib.hid (W5.out hkd)
    clear hkd hkn W1 W2 W80 WB
    go_wp2
    go_ret
    exact ⟨ret_txt hr.out, HB.out⟩
  · rw [hkd] at y1
    have hr := Lib.hid (W6.out hkd)
    clear hkd hkn W1 W2 W80 WB
    go_wp2
    go_ret
    exact ⟨ret_txt hr.out, HB.out⟩
  · rw [hkd] at y1
    have hr := Lib.hid (W7.out hkd)
    clear hkd hkn W1 W2 W80 WB
    go_wp2_with fail
    refine (fnt_spec v.number _ I _ _ hu1 hIs hu2 hna hnc).mono ?_
    rintro e w4 ⟨rfl, hb4⟩
    have HF := Lib.hid (HB.out.trans (hb4.mono HB.out.size))
    clear hb4
    go_wp2
    go_ret
    exact ⟨ret_txt hr.out, HF.out⟩
  · rw [hkd] at y1
    by_cases hm : v.items.length = 0
    · have hr := W80 hkd hm
      rw [hm] at z2
      clear hkd hkn W1 W2 W80 WB
      go_wp2
      go_ret
      exact ⟨ret_txt hr.out, HB.out⟩
    · have hr := Lib.hid (W8.out hkd hm)
      have hm1 : v.items.length = 1 := by have := H8.out hkd; omega
      rw [hm1] at z2
      clear hkd hkn W1 W2 W80 WB
      go_wp2
      go_ret
      exact ⟨ret_txt hr.out, HB.out⟩
  · rw [hkd] at y1
    have hr := Lib.hid (W9.out hkd)
    clear hkd hkn W1 W2 W80 WB
    go_wp2
    go_ret
    exact ⟨ret_txt hr.out, HB.out⟩
  · rw [hkd] at y1
    have hr := WB (by omega)
    clear hkd hkn W1 W2 W80 WB
    go_wp2_with fail
    refine (fmthex_spec ab v.bytes cb _ hb40 HRB.out).mono ?_
    rintro e w4 ⟨rfl, n4, rfl⟩
    have HF := Lib.hid (below_drewN HB.out n4)
    generalize (⟨(hexL v.bytes).toArray⟩ : ByteArray) = H at hszx hr ⊢
    go_wp2
    go_ret
    exact ⟨ret_txt hr.out, HF.out⟩
theorem stext_spec (a : Option Addr) (rs : List RuleV) (cap : Nat) (hl : rs.length ≤ 1048576) (hall : allV (kindI rs) rs) : ∀ n, STextC a rs cap n
  | 0 => fun _ _ _ _ _ _ h => h.elim
  | n + 1 => stext_step a rs cap n hl hall (slist_step a rs cap n hl hall (stext_spec a rs cap hl hall n))
/-- The text of a value, empty where it is none of the rule. -/
noncomputable def fmtV (rs : List RuleV) (k : Int) (v : ValueV) : List UInt8 := if fitsV rs k v = true then textV rs k v else []

end Go.Proofs.YtfmnjclnhppghabGreatDoor
