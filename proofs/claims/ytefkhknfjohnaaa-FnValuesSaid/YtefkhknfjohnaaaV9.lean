/- Drawn rules, as the program's functions of chapter 7 read them. Of valid values: their numbers, their items' rules, a value with an item too many, default values. No program is walked here. The contract of the program's ItemRule, where the rule is described and the item is there. A row of values is appended to while the variable that holds it lies in a block N of its own, which is written behind that. No function of the program is walked here. The contract of the program's DefaultValue. -/
import Derived.Test.YtefkhknfjohnaaaArr
import Derived.Test.YtefkhknfjohnaaaGPu
import Derived.Test.YtefkhknfjohnaaaDefP
import Derived.Test.YtefkhknfjohnaaaGK
import Derived.Test.YtefkhknfjohnaaaCnt
import Derived.Test.YtefkhknfjohnaaaSetDP
import Derived.Test.YtefkhknfjohnaaaPW
import Derived.Test.YtefkhknfjohnaaaGX
import Derived.Test.YtefkhknfjohnaaaGV
import Derived.Test.YtefkhknfjohnaaaGDI
import Derived.Deep.RegionHeld3
import Derived.Test.YtefkhknfjohnaaaISetD
namespace Go.Proofs.Ytefkhknfjohnaaa
open Go Go.RowKit
theorem RowR.rdk {base : Nat} {ad : Option Addr} {rs : List RuleV} {capd : Nat} {w : World} (h : RowR base (.slice ad rs.length capd) rs w) : RdK ad rs w := by
  obtain ⟨css, hl, ho, hr⟩ := h
  have h8 : ∀ cs ∈ css, cs.length = 8 := fun cs hc => by
    obtain ⟨j, hj, rfl⟩ := List.getElem_of_mem hc
    exact (hr j (by omega) hj).1.length
  have h0 := ho
  rcases ho.2 with ⟨e, hn⟩ | ⟨g, cap, cur, e, hb, hg, hnc, hcm, hcs, ht⟩
  · have : rs = [] := List.eq_nil_of_length_eq_zero hn
    subst this
    exact fun j hj => by simp at hj
  · injection e with e1 e2 e3
    subst e1
    refine fun j hj => ?_
    have hj' : j < css.length := by omega
    refine ⟨g, 0, css[j], rfl, (hr j hj hj').1, (hr j hj hj').2.1.1, (hr j hj hj').2.1.2, fun i u hu => ?_⟩
    have hi : i < 8 := by
      have := h8 _ (List.getElem_mem hj')
      rcases Nat.lt_or_ge i 8 with h | h
      · exact h
      · rw [List.getElem?_eq_none (by omega)] at hu; cases hu
    rw [Nat.zero_add, h0.cellAt (j * 8 + i) (by
      have : (j + 1) * 8 ≤ rs.length * 8 := Nat.mul_le_mul_right 8 (by omega)
      omega), flat_at h8 j i hj' hi]
    exact hu
end Go.Proofs.Ytefkhknfjohnaaa
namespace Go.Proofs.Ytefkhknfjohnaaa
open Go Go.RowKit
theorem tag_in9 {x : Int} : ∀ {ts ks : List Int}, 0 ≤ tagKid ts ks x → x ∈ ts
  | [], ks, h => by cases ks <;> (simp [tagKid] at h)
  | t :: ts, [], h => by simp [tagKid] at h
  | t :: ts, k :: ks, h => by
    unfold tagKid at h
    by_cases e : t = x
    · simp [e]
    · rw [if_neg e] at h
      exact List.mem_cons_of_mem _ (tag_in9 h)
theorem choice_num9 {rs : List RuleV} (hall : allV (kindI rs) rs) {k : Nat} (hk : k < rs.length) (e : rs[k].kind = 7) {v : ValueV} (h : ownB rs rs[k] v = true) : 0 ≤ v.number ∧ v.number ≤ limitAt rs (rs[k].kids.getD 0 0) := by
  have hki := allV_kind hall hk
  simp only [ownB, e, Int.reduceEq, reduceIte, Bool.and_eq_true, decide_eq_true_eq] at h
  obtain ⟨-, -, h4⟩ := h
  unfold itemR at h4
  rw [if_neg (by omega), if_neg (by omega), if_pos e] at h4
  have hm := tag_in9 h4
  simp [kindI, meetsB, e] at hki
  have h1 := hki.1
  unfold tagsB at h1
  rw [Bool.and_eq_true] at h1
  have h12 : rs[k].kids.headD 0 = rs[k].kids.getD 0 0 := by cases rs[k].kids <;> rfl
  rw [h12] at h1
  exact tagsOk_in h1.2 _ hm
theorem val_num {rs : List RuleV} (hall : allV (kindI rs) rs) {k : Nat} (hk : k < rs.length) {v : ValueV} (hv : validV rs (k : Int) v = true) : 0 ≤ v.number := by
  obtain ⟨hown, hit⟩ := items_of hall hk hv
  have hki := allV_kind hall hk
  have hkn := kindI_known hki
  rcases (by omega : rs[k].kind = 1 ∨ rs[k].kind = 2 ∨ rs[k].kind = 3 ∨ rs[k].kind = 4 ∨ rs[k].kind = 5 ∨ rs[k].kind = 6 ∨ rs[k].kind = 7 ∨ rs[k].kind = 8 ∨ rs[k].kind = 9 ∨ rs[k].kind = 10) with e | e | e | e | e | e | e | e | e | e
  case inr.inr.inr.inr.inr.inr.inl => exact (choice_num9 hall hk e hown).1
  all_goals (simp only [ownB, e, Int.reduceEq, reduceIte, Bool.and_eq_true, decide_eq_true_eq] at hown; omega)
/-- The value with one item more, whose number is -1. -/
def badV (v : ValueV) : ValueV := .mk v.number v.bytes (v.items ++ [.mk (-1) [] []])
theorem bad_no {rs : List RuleV} (hall : allV (kindI rs) rs) {k : Nat} (hk : k < rs.length) (v : ValueV) : fitsV rs (k : Int) (badV v) = false := by
  have h0 : validV rs (k : Int) (badV v) = false := by
    rw [Bool.eq_false_iff]
    intro h
    obtain ⟨-, hit⟩ := items_of hall hk h
    obtain ⟨m, -, hmk, hvi⟩ := hit v.items.length (by simp [badV, ValueV.items])
    have h1 := val_num hall (by omega) hvi
    simp [badV, ValueV.items, ValueV.number] at h1
  unfold fitsV
  rw [h0, Bool.and_false]
theorem bad_ne (v : ValueV) : badV v ≠ v := fun e => by
  have := congrArg (fun u : ValueV => u.items.length) e
  simp [badV, ValueV.items] at this
theorem bad_siz (v : ValueV) : sizV (badV v) = sizV v + 1 := by
  have happ : ∀ l : List ValueV, sizL (l ++ [.mk (-1) [] []]) = sizL l := fun l => by
    induction l with
    | nil => simp [sizL, sizV]
    | cons a l ih => rw [List.cons_append, sizL, sizL, ih]
  rw [sizV_eq, sizV_eq]
  simp only [badV, ValueV.bytes, ValueV.items, List.length_append, List.length_singleton, happ]
  omega
theorem own_fit9 {rs : List RuleV} {r : RuleV} {v : ValueV} (hk : kindI rs r = true) (h : ownB rs r v = true) : fitB (bndV rs r) v = true := by
  cases hf : fitB (bndV rs r) v with
  | true => rfl
  | false => have := fit_no hk hf; rw [h] at this; cases this
theorem item_ok {rs : List RuleV} (hall : allV (kindI rs) rs) {k : Nat} (hk : k < rs.length) {v : ValueV} (hv : validV rs (k : Int) v = true) {q : Nat} (hq : q < v.items.length) :
    ∃ m : Nat, kidI rs[k] v.number q = (m : Int) ∧ m < k ∧ validV rs (m : Int) v.items[q] = true := by
  obtain ⟨hown, hit⟩ := items_of hall hk hv
  obtain ⟨m, hm, hmk, hvi⟩ := hit q hq
  have hki := allV_kind hall hk
  have h1 := (fit_kid hki (fun x hx => by have := allV_kids hall hk x hx; omega) (own_fit9 hki hown) hq).1
  exact ⟨m, h1.trans hm, hmk, hvi⟩
theorem def_fits {rs : List RuleV} (hall : allV (kindI rs) rs) {k : Nat} (hk : k < rs.length) (hok : okAt rs (k : Int) = true) : fitsV rs (k : Int) (defD rs (k : Int)) = true := by
  unfold fitsV defD
  rw [if_pos hok, hok, Bool.true_and, Int.toNat_natCast]
  exact defV_valid hall (k + 1) k hk (by omega)
end Go.Proofs.Ytefkhknfjohnaaa
namespace Go.Proofs.Ytefkhknfjohnaaa
open Go Go.RowKit
set_option maxRecDepth 100000 in
set_option maxHeartbeats 4000000 in
theorem itemrule_impl (a : Option Addr) (rs : List RuleV) (cap n : Nat) (k i : Nat) (v : ValueV) (vs : List Value) (w : World) (hl : rs.length ≤ 1048576) (hs : ∀ r ∈ rs, Short r) (hp : ∀ r ∈ rs, Spelt r) (h : RdC a rs w) (hv : IsVal n v vs w) (hok : okAt rs (k : Int) = true) (hk : k < rs.length) (hki : kindI rs rs[k] = true) (hi : i < v.items.length) (hi2 : v.items.length ≤ 1048576) :
    Calls Try.prog 28 #[.agg #[.slice a rs.length cap], .int .i64 (k : Int), .agg vs.toArray, .int .i64 (i : Int)] w fun e w' => e = .returned (.int .i64 (kidI rs[k] v.number i)) ∧ Below w.heap.size w w' := by
  obtain ⟨ab, cb, ai, ci, rfl⟩ := hv.three
  obtain ⟨w0, hw0⟩ : ∃ w0, w0 = (w.alloc (.cells #[.slice a rs.length cap] 38)).alloc (.cells #[.int .i64 v.number, .slice ab v.bytes.length cb, .slice ai v.items.length ci] 47) := ⟨_, rfl⟩
  have hB : Below w.heap.size w w0 := by subst hw0; exact ((Below.refl _ _).alloc (Nat.le_refl _) _).alloc (by simp) _
  have hD : CellsAt w.heap.size [.slice a rs.length cap] w0 := by subst hw0; exact (CellsAt.new w _ _).below ((Below.refl _ _).alloc (Nat.le_refl _) _)
  have hVC : CellsAt (w.heap.size + 1) [.int .i64 v.number, .slice ab v.bytes.length cb, .slice ai v.items.length ci] w0 := by subst hw0; have h1 := CellsAt.new (w.alloc (.cells #[.slice a rs.length cap] 38)) [.int .i64 v.number, .slice ab v.bytes.length cb, .slice ai v.items.length ci] 47; rw [World.size_alloc] at h1; exact h1
  have HD := Lib.hid hD
  have HVC := Lib.hid hVC
  have HB := Lib.hid hB
  have HW := Lib.hid hw0
  have HRD := Lib.hid h
  have HID : Hid (∀ W, RdC a rs W → Calls Try.prog 48 #[.agg #[.slice a rs.length cap], .int .i64 (k : Int)] W fun e w' => e = .returned (.bool true) ∧ Below W.heap.size W w') := fun W h1 => by rw [← hok]; exact isdescr_impl a rs cap k W hl hs hp h1
  have HIN : Hid (∀ W, Calls Try.prog 34 #[.int .i64 (i : Int), .int .i64 0, .int .i64 ((v.items.length : Int) - 1)] W fun e w' => e = .returned (.bool true) ∧ W = w') := fun W => inI_any _ _ _ true W (decide_eq_true (by omega))
  have k0 : (0 : Int) ≤ (k : Int) := by omega
  have k1 : (k : Int) < (rs.length : Int) := by omega
  have hi3 : i ≤ 1048576 := by omega
  generalize hr : rs[k] = r at hki ⊢
  have HKI := Lib.hid hki
  clear h hv hB hD hVC hs hp hw0 hok hki hi
  have HRE := Lib.hid hr
  obtain ⟨kd, hkd⟩ : ∃ kd, kd = kidI r v.number i := ⟨_, rfl⟩
  rw [← hkd]
  have HKO : Hid (∀ cs W, IsRule r cs W → Calls Try.prog 50 #[.agg cs.toArray, .int .i64 v.number, .int .i64 (i : Int)] W fun e w' => e = .returned (.int .i64 kd) ∧ Below W.heap.size W w') := fun cs W h1 => by rw [hkd]; exact kidof_impl rs r cs v.number i W hi3 HKI.out h1
  clear hr hkd
  have x0 := (HD.out 0 _ rfl).1
  have v0 := (HVC.out 0 _ rfl).1
  have v2 := (HVC.out 2 _ rfl).1
  go_enter Try.func28, Try.ntmps28
  go_upto_region 1 with fail
  rw [← HW.out]
  clear HW
  go_wp2_with fail
  refine (HID.out _ (HRD.out.below HB.out)).mono ?_
  rintro e w1 ⟨rfl, hb⟩
  replace HD := Lib.hid (HD.out.below hb)
  replace HVC := Lib.hid (HVC.out.below hb)
  replace HB := Lib.hid (HB.out.trans (hb.mono HB.out.size))
  clear hb x0 v0 v2
  have v2 := (HVC.out 2 _ rfl).1
  go_wp2_with fail
  refine (HIN.out _).mono ?_
  rintro e w2 ⟨rfl, rfl⟩
  go_upto_region 3 with fail
  clear v2
  have hbd : Below w1.heap.size w1 w1.drew := below_drewN (Below.refl _ _) 1
  replace HD := Lib.hid (HD.out.below hbd)
  replace HVC := Lib.hid (HVC.out.below hbd)
  replace HB := Lib.hid (HB.out.trans (hbd.mono HB.out.size))
  obtain ⟨b0, off, a4, c4, a5, c5, a6, c6, a7, c7, rfl, ⟨d0, d1, d2, d3, d4, d5, d6, d7⟩, ⟨r4, r5, r6, r7⟩, -⟩ := (HRD.out.below HB.out).at k hk
  rw [HRE.out] at d0 d1 d2 d3 d4 d5 d6 d7 r4 r5 r6 r7
  have HIS : Hid (IsRule r [.string r.name, .int .i64 r.kind, .int .i64 r.size, .bool r.little, .slice a4 r.bytes.length c4, .slice a5 r.names.length c5, .slice a6 r.tags.length c6, .slice a7 r.kids.length c7] w1.drew) := ⟨a4, c4, a5, c5, a6, c6, a7, c7, rfl, r4, r5, r6, r7⟩
  clear hbd r4 r5 r6 r7
  have HSW : Hid (∀ W, Below w1.drew.heap.size w1.drew W → W.cell? ⟨w.heap.size, 0, none⟩ = some (.slice (some ⟨b0, off, none⟩) rs.length cap) ∧ W.cell? ⟨w.heap.size + 1, 0, none⟩ = some (.int .i64 v.number) ∧ W.cell? ⟨b0, off + k * 8, none⟩ = some (.string r.name) ∧ W.cell? ⟨b0, off + k * 8 + 1, none⟩ = some (.int .i64 r.kind) ∧ W.cell? ⟨b0, off + k * 8 + 2, none⟩ = some (.int .i64 r.size) ∧ W.cell? ⟨b0, off + k * 8 + 3, none⟩ = some (.bool r.little) ∧ W.cell? ⟨b0, off + k * 8 + 4, none⟩ = some (.slice a4 r.bytes.length c4) ∧ W.cell? ⟨b0, off + k * 8 + 5, none⟩ = some (.slice a5 r.names.length c5) ∧ W.cell? ⟨b0, off + k * 8 + 6, none⟩ = some (.slice a6 r.tags.length c6) ∧ W.cell? ⟨b0, off + k * 8 + 7, none⟩ = some (.slice a7 r.kids.length c7)) := fun W hW => ⟨(HD.out.below hW 0 _ rfl).1, (HVC.out.below hW 0 _ rfl).1, cell_keep hW d0, cell_keep hW d1, cell_keep hW d2, cell_keep hW d3, cell_keep hW d4, cell_keep hW d5, cell_keep hW d6, cell_keep hW d7⟩
  have HB0 : Hid (Below w1.drew.heap.size w1.drew w1.drew) := Below.refl _ _
  go_region_held3 (fun W => W.cell? ⟨w.heap.size, 0, none⟩ = some (.slice (some ⟨b0, off, none⟩) rs.length cap) ∧ W.cell? ⟨w.heap.size + 1, 0, none⟩ = some (.int .i64 v.number) ∧ W.cell? ⟨b0, off + k * 8, none⟩ = some (.string r.name) ∧ W.cell? ⟨b0, off + k * 8 + 1, none⟩ = some (.int .i64 r.kind) ∧ W.cell? ⟨b0, off + k * 8 + 2, none⟩ = some (.int .i64 r.size) ∧ W.cell? ⟨b0, off + k * 8 + 3, none⟩ = some (.bool r.little) ∧ W.cell? ⟨b0, off + k * 8 + 4, none⟩ = some (.slice a4 r.bytes.length c4) ∧ W.cell? ⟨b0, off + k * 8 + 5, none⟩ = some (.slice a5 r.names.length c5) ∧ W.cell? ⟨b0, off + k * 8 + 6, none⟩ = some (.slice a6 r.tags.length c6) ∧ W.cell? ⟨b0, off + k * 8 + 7, none⟩ = some (.slice a7 r.kids.length c7)) (exact HSW.out _ HB0.out) (first | (go_at_call 50; refine (HKO.out _ _ HIS.out).mono ?_; rintro e w3 ⟨rfl, hb⟩; replace HB := Lib.hid (HB.out.trans (hb.mono HB.out.size)); replace HB0 := Lib.hid (HB0.out.trans (hb.mono HB0.out.size)); clear hb))
  all_goals (go_wp2; go_ret; exact ⟨rfl, HB.out⟩)
end Go.Proofs.Ytefkhknfjohnaaa
namespace Go.Proofs.Ytefkhknfjohnaaa
open Go Go.RowKit
def RowVN (N n base : Nat) (v : Value) (vs : List ValueV) (w : World) : Prop :=
  ∃ css : List (List Value), css.length = vs.length ∧ w.ownsRow base 47 3 v vs.length css.flatten ∧ v.ownBlock ≠ some N ∧
    ∀ j (h : j < vs.length) (h' : j < css.length), OwnV (fun b => b ≠ N ∧ some b ≠ v.ownBlock) n vs[j] css[j] w
theorem RowV.toN {n base : Nat} {v : Value} {vs : List ValueV} {w : World} (h : RowV n base v vs w) : RowVN w.heap.size n base v vs w := by
  obtain ⟨css, hl, ho, hr⟩ := h
  refine ⟨css, hl, ho, fun e => ?_, fun j h1 h2 => (hr j h1 h2).mono fun b hb h => ⟨by omega, h.2⟩⟩
  have := (World.ownsRow.lt (w := w) ho _ e).2
  omega
theorem RowVN.below {N n base : Nat} {v : Value} {vs : List ValueV} {w w' : World} (h : RowVN N n base v vs w) (hb : Below w.heap.size w w') : RowVN N n base v vs w' := by
  obtain ⟨css, hl, ho, hn, hr⟩ := h
  have hg : w.grownBy w' none := ⟨hb.os, hb.tape, hb.output, hb.size, fun k hk _ => hb.block k hk⟩
  exact ⟨css, hl, World.ownsRow.kept (w := w) ho hg (by cases hv : v.ownBlock with
    | none => exact .inl rfl
    | some g => exact .inr (by simp)), hn, fun j h1 h2 => (hr j h1 h2).grown hg fun b _ h => ⟨h, by simp⟩⟩
theorem RowVN.slice {N n base : Nat} {v : Value} {vs : List ValueV} {w : World} (h : RowVN N n base v vs w) : ∃ a cap, v = .slice a vs.length cap := by
  obtain ⟨css, hl, ho, -, hr⟩ := h
  rcases ho.2 with ⟨rfl, hn⟩ | ⟨g, cap, cur, rfl, _⟩
  · exact ⟨none, 0, by rw [hn]⟩
  · exact ⟨_, cap, rfl⟩
theorem run_pushN (ty : TypeId) (N n base : Nat) (v : Value) (vs : List ValueV) (x : ValueV) (cs : List Value) (w : World) (hN : N < w.heap.size) (hrow : RowVN N n base v vs w) (hx : OwnV (fun b => b ≠ N ∧ some b ≠ v.ownBlock) n x cs w) (hl : vs.length ≤ 16777216) (hbase : base ≤ w.heap.size) :
    ∃ v' w', (Builtin.append_ #[45, 45] ty #[v, .slice (some ⟨w.heap.size, 0, none⟩) 1 1]).run Try.prog (w.alloc (.cells cs.toArray 47)) = .ok v' w' ∧ RowVN N n base v' (vs ++ [x]) w' ∧ w.grownBy w' v.ownBlock := by
  obtain ⟨css, hcl, ho, hvN, hrs⟩ := hrow
  obtain ⟨i, hi, h⟩ := Option.map_eq_some_iff.1 infoVal
  simp only [Prod.mk.injEq] at h
  obtain ⟨hz, hsz, hby⟩ := h
  have h3 := hx.length
  obtain ⟨v', w', hrun, ho', hg, hw⟩ := run_append_where (P := Try.prog) (w.alloc (.cells cs.toArray 47)) base 45 ty 47 i _ 3 56 Try.underlying45 hi hz hsz hby rfl (by omega) v vs.length css.flatten (World.ownsRow.alloc ho _) ⟨w.heap.size, 0, none⟩ 1 1 cs (by omega)
    (fun j u hj => by
      rw [Addr.add_lit, Nat.zero_add]
      refine (World.cell?_alloc_mark w cs.toArray _ (0, 0) j).trans ?_
      simpa using hj)
    hx.one (by omega) (by unfold maxLen; omega) (by omega) (by simp; omega)
  have hgw : w.grownBy w' v.ownBlock := Lib.grownBy_trans (World.grownBy_alloc w _ _) hg
  have hown' : v'.ownBlock = v.ownBlock ∨ ∃ g, v'.ownBlock = some g ∧ w.heap.size ≤ g := by
    rcases hw with h | h
    · exact .inl h
    · exact .inr ⟨_, h, by simp⟩
  have hblk : ∀ b, b < w.heap.size → some b ≠ v.ownBlock → some b ≠ v'.ownBlock := fun b hb hn => by
    rcases hown' with h | ⟨g, h, hg⟩
    · rw [h]; exact hn
    · rw [h]; intro e; injection e with e; omega
  refine ⟨v', w', hrun, ⟨css ++ [cs], by simp [hcl], by simpa using ho', ?_, fun j h1 h2 => ?_⟩, hgw⟩
  · exact fun e => hblk N hN (fun e2 => hvN e2.symm) e.symm
  by_cases hj : j < vs.length
  · have hj2 : j < css.length := by omega
    rw [List.getElem_append_left hj, List.getElem_append_left hj2]
    exact (hrs j hj hj2).grown hgw fun b hb h => ⟨⟨h.1, hblk b hb h.2⟩, h.2⟩
  · have e1 : j = vs.length := by simp at h1; omega
    have a1 : (vs ++ [x])[j] = x := by subst e1; simp
    have a2 : (css ++ [cs])[j] = cs := by
      have e2 : j = css.length := by omega
      subst e2; simp
    rw [a1, a2]
    exact hx.grown hgw fun b hb h => ⟨⟨h.1, hblk b hb h.2⟩, h.2⟩
theorem wp_pushN {ops : Array Oper} {rest : List Oper} {o : Oper} {A : Act} {Q : Exit → Act → World → Prop} (hgd : o.guard = none) (s x : Operand)
    (ho : o.op = .call { callee := .builtin .append, args := #[s, x], argTypes := #[45, 45] })
    (N n base : Nat) (v : Value) (vs : List ValueV) (y : ValueV) (cs : List Value) (w : World) (hsv : A.eval s = v) (hxv : A.eval x = .slice (some ⟨w.heap.size, 0, none⟩) 1 1) (hN : N < w.heap.size)
    (hrow : RowVN N n base v vs w) (hy : OwnV (fun b => b ≠ N ∧ some b ≠ v.ownBlock) n y cs w) (hl : vs.length ≤ 16777216) (hbase : base ≤ w.heap.size)
    (h : ∀ v' w', RowVN N n base v' (vs ++ [y]) w' → w.grownBy w' v.ownBlock → wpList Try.prog ops Q rest (A.put o.dst v') w') :
    wpList Try.prog ops Q (o :: rest) A (w.alloc (.cells cs.toArray 47)) := by
  refine wpList_plain hgd fun K hK => ?_
  obtain ⟨v', w', hrun, h2, h3⟩ := run_pushN o.type N n base v vs y cs w hN hrow hy hl hbase
  unfold Oper.wp
  simp [execOp, ho, resolve, invoke, builtin, hsv, hxv, hrun, Result.andThen]
  exact hK _ _ (h v' w' h2 h3)
/-- The items as they are read once the variable has been written. -/
theorem RowVN.is {N n base : Nat} {v : Value} {vs : List ValueV} {w : World} (h : RowVN N n base v vs w) (i : Nat) (u : Value) : ∃ a cap, v = .slice a vs.length cap ∧ ItemsAt n a vs (w.setCell ⟨N, i, none⟩ u) := by
  obtain ⟨css, hl, ho, hvN, hr⟩ := h
  have hg : w.grownBy (w.setCell ⟨N, i, none⟩ u) (some N) := grown_set (grown_refl w N) i u
  have h3 : ∀ cs ∈ css, cs.length = 3 := fun cs hc => by
    obtain ⟨j, hj, rfl⟩ := List.getElem_of_mem hc
    exact (hr j (by omega) hj).length
  have h0 : (w.setCell ⟨N, i, none⟩ u).ownsRow base 47 3 v vs.length css.flatten := World.ownsRow.kept (w := w) ho hg (by
    cases hv : v.ownBlock with
    | none => exact .inl rfl
    | some g => exact .inr (fun e => hvN (by rw [hv]; exact e)))
  rcases ho.2 with ⟨rfl, hn⟩ | ⟨g, cap, cur, rfl, hb, hgg, hnc, hcm, hcs, ht⟩
  · have : vs = [] := List.eq_nil_of_length_eq_zero hn
    subst this
    exact ⟨none, 0, rfl, fun j hj => by simp at hj⟩
  · refine ⟨_, cap, rfl, fun j hj => ?_⟩
    have hj' : j < css.length := by omega
    have hz := ((hr j hj hj').grown (g := fun _ => True) hg fun b _ h => ⟨trivial, fun e => h.1 (by injection e)⟩).is
    refine ⟨g, 0, css[j], rfl, hz, fun i u hu => ?_⟩
    have hi : i < 3 := by
      have := h3 _ (List.getElem_mem hj')
      rcases Nat.lt_or_ge i 3 with h | h
      · exact h
      · rw [List.getElem?_eq_none (by omega)] at hu; cases hu
    rw [Nat.zero_add, h0.cellAt (j * 3 + i) (by
      have : (j + 1) * 3 ≤ vs.length * 3 := Nat.mul_le_mul_right 3 (by omega)
      omega), flat3_at h3 j i hj' hi]
    exact hu
end Go.Proofs.Ytefkhknfjohnaaa
namespace Go.Proofs.Ytefkhknfjohnaaa
open Go Go.RowKit
set_option maxRecDepth 100000 in
set_option maxHeartbeats 4000000 in
theorem defv_impl (a : Option Addr) (rs : List RuleV) (cap : Nat) (k : Int) (w : World) (hl : rs.length ≤ 1048576) (hs : ∀ r ∈ rs, Short r) (hp : ∀ r ∈ rs, Spelt r) (h : RdK a rs w) :
    Calls Try.prog 26 #[.agg #[.slice a rs.length cap], .int .i64 k] w fun e w' => ∃ bl cs, e = .returned (.agg cs.toArray) ∧ OwnT (k.toNat + 1) bl (defD rs k) cs w' ∧ (∀ b ∈ bl, w.heap.size ≤ b) ∧ Below w.heap.size w w' := by
  obtain ⟨w0, hw0⟩ : ∃ w0, w0 = (w.alloc (.cells #[.slice a rs.length cap] 38)).alloc (.cells #[.int .i64 0, .slice none 0 0, .slice none 0 0] 47) := ⟨_, rfl⟩
  have hB : Below w.heap.size w w0 := by subst hw0; exact ((Below.refl _ _).alloc (Nat.le_refl _) _).alloc (by simp) _
  have hD : CellsAt w.heap.size [.slice a rs.length cap] w0 := by subst hw0; exact (CellsAt.new w _ _).below ((Below.refl _ _).alloc (Nat.le_refl _) _)
  have hR : CellsAt (w.heap.size + 1) zeroVal w0 := by subst hw0; have h1 := CellsAt.new (w.alloc (.cells #[.slice a rs.length cap] 38)) zeroVal 47; rw [World.size_alloc] at h1; exact h1
  have hs0 : w0.heap.size = w.heap.size + 2 := by subst hw0; simp
  obtain ⟨w1, hw1⟩ : ∃ w1, w1 = w0.alloc (.cells #[.int .i64 0, .slice none 0 0, .slice none 0 0] 47) := ⟨_, rfl⟩
  obtain ⟨Z, hZ⟩ : ∃ Z, Z = w0.heap.size := ⟨_, rfl⟩
  have hb1 : Below w0.heap.size w0 w1 := by subst hw1; exact (Below.refl _ _).alloc (Nat.le_refl _) _
  have hV : CellsAt Z zeroVal w1 := by subst hw1; rw [hZ]; exact CellsAt.new w0 _ _
  have HB := Lib.hid (hB.trans (hb1.mono hB.size))
  have HD := Lib.hid (hD.below hb1)
  have HR := Lib.hid (hR.below hb1)
  have HV := Lib.hid hV
  have HK := Lib.hid h
  have HS := Lib.hid hs
  have HP := Lib.hid hp
  have HW0 := Lib.hid hw0
  have HW1 := Lib.hid hw1
  have HZE := Lib.hid hZ
  have HZW : Hid (Z = w.heap.size + 2) := by show _ = _; omega
  obtain ⟨ok, hok⟩ : ∃ b, b = okAt rs k := ⟨_, rfl⟩
  have HO := Lib.hid hok
  clear h hB hD hR hs0 hb1 hV hs hp hw0 hw1 hZ hok
  go_enter Try.func26, Try.ntmps26
  go_upto_region 1 with fail
  rw [← HW0.out]
  clear HW0
  go_upto_region 2 with fail
  rw [← HW1.out, ← HZE.out]
  clear HW1 HZE
  have bx := (HD.out 0 _ rfl).1
  go_wp2_with fail
  refine (isdescr_impl a rs cap k _ hl HS.out HP.out (HK.out.rdc.below HB.out)).mono ?_
  rintro e w2 ⟨rfl, hb2⟩
  rw [← HO.out]
  replace HB := Lib.hid (HB.out.trans (hb2.mono HB.out.size))
  replace HD := Lib.hid (HD.out.below hb2)
  replace HR := Lib.hid (HR.out.below hb2)
  replace HV := Lib.hid (HV.out.below hb2)
  clear hb2 bx
  cases ok with
  | false =>
    have HDV : Hid (defD rs k = .mk 0 [] []) := by show _ = _; unfold defD; rw [← HO.out]; rfl
    obtain ⟨z0, t0⟩ := HR.out 0 _ rfl
    obtain ⟨z1, t1⟩ := HR.out 1 _ rfl
    obtain ⟨z2, t2⟩ := HR.out 2 _ rfl
    have y0 := (HV.out 0 _ rfl).1
    have y1 := (HV.out 1 _ rfl).1
    have y2 := (HV.out 2 _ rfl).1
    go_wp2
    (try simp only [Exit.inBlock, Exit.then])
    refine bodyPost_ret (v := .agg #[.int .i64 0, .slice none 0 0, .slice none 0 0]) ?_ rfl ?_
    · simp [results, Try.results26, go_sem, z0, z1, z2]
    · refine ⟨[], [.int .i64 0, .slice none 0 0, .slice none 0 0], rfl, ?_, (fun b hb => by cases hb), ((HB.out.setCell (p := ⟨w.heap.size + 1, _, none⟩) (by simp) _).setCell (p := ⟨w.heap.size + 1, _, none⟩) (by simp) _).setCell (p := ⟨w.heap.size + 1, _, none⟩) (by simp) _⟩
      rw [HDV.out]
      exact leaf_tree ⟨Nat.le_refl _, fun _ => rfl⟩ (BytT.none0 _ _) List.nodup_nil
  | true =>
    obtain ⟨⟨k0, k1⟩, -, hall⟩ := okAt_yes HO.out.symm
    obtain ⟨m, rfl⟩ : ∃ m : Nat, k = (m : Int) := ⟨k.toNat, by omega⟩
    have HDV : Hid (defD rs (m : Int) = defV rs (m + 1) (m : Int)) := by show _ = _; unfold defD; rw [← HO.out, if_pos rfl, Int.toNat_natCast]
    have hcl := setd_of w a rs cap hl hall HK.out (m + 1) m Z 0 w2 (by omega) (by omega) HB.out (by have := HZW.out; omega) (fun i u hu => by rw [Nat.zero_add]; exact HV.out i u hu)
    have HCL := Lib.hid hcl
    clear hcl hall
    have bx := (HD.out 0 _ rfl).1
    go_wp2_with fail
    refine HCL.out.mono ?_
    rintro e w3 ⟨rfl, bl, cs, hp3, ho3, hbl3, ht3⟩
    obtain ⟨ab, cb, ai, ci, rfl⟩ := ho3.cells
    have HB3 : Hid (Below w.heap.size w w3) := Turn.below HB.out ht3 HB.out.size fun j i h => by have := h.1; have := HZW.out; omega
    have HR3 := Lib.hid (HR.out.turn ht3 fun i _ h => by have := h.1; have := HZW.out; omega)
    obtain ⟨z0, t0⟩ := HR3.out 0 _ rfl
    obtain ⟨z1, t1⟩ := HR3.out 1 _ rfl
    obtain ⟨z2, t2⟩ := HR3.out 2 _ rfl
    have y0 := (hp3 0 _ rfl).1
    have y1 := (hp3 1 _ rfl).1
    have y2 := (hp3 2 _ rfl).1
    simp only [Nat.zero_add] at y0 y1 y2
    have HO3 := Lib.hid ho3
    have HBL : Hid (∀ b ∈ bl, w.heap.size + 2 < b) := fun b hb => by have h1 := hbl3 b hb; have h2 := HV.out 0 _ rfl; have h3 : Z < w2.heap.size := cell_lt h2.1; have := HZW.out; omega
    clear hp3 ho3 hbl3 ht3 bx
    go_wp2
    (try simp only [Exit.inBlock, Exit.then])
    refine bodyPost_ret (v := .agg #[.int .i64 (defV rs (m + 1) (m : Int)).number, .slice ab (defV rs (m + 1) (m : Int)).bytes.length cb, .slice ai (defV rs (m + 1) (m : Int)).items.length ci]) ?_ rfl ?_
    · simp [results, Try.results26, go_sem, z0, z1, z2]
    · refine ⟨bl, _, rfl, ?_, (fun b hb => by have := HBL.out b hb; omega), ((HB3.out.setCell (p := ⟨w.heap.size + 1, _, none⟩) (by simp) _).setCell (p := ⟨w.heap.size + 1, _, none⟩) (by simp) _).setCell (p := ⟨w.heap.size + 1, _, none⟩) (by simp) _⟩
      rw [HDV.out, Int.toNat_natCast]
      exact ((HO3.out.keep (Only.set (bl := [w.heap.size + 1]) (by simp)) fun b hb h => by have h1 := HBL.out b hb; have h2 : b = w.heap.size + 1 := (by simpa using h); omega).keep (Only.set (bl := [w.heap.size + 1]) (by simp)) fun b hb h => by have h1 := HBL.out b hb; have h2 : b = w.heap.size + 1 := (by simpa using h); omega).keep (Only.set (bl := [w.heap.size + 1]) (by simp)) fun b hb h => by have h1 := HBL.out b hb; have h2 : b = w.heap.size + 1 := (by simpa using h); omega
end Go.Proofs.Ytefkhknfjohnaaa
