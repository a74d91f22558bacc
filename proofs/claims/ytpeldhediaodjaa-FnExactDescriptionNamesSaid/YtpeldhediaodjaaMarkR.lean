/- Contracts of the laws' marks of rules. -/
import Derived.Test.YtpeldhediaodjaaApart
import Derived.Test.YtpeldhediaodjaaStrMarks
import Derived.Deep.CutRange
namespace Go.Proofs.Ytpeldhediaodjaa
open Go Go.RowKit
/-- How many marks a rule takes. -/
def widthR (r : RuleV) : Nat := 4 + r.bytes.length + r.names.length + r.tags.length + r.kids.length
def sumW (rs : List RuleV) (k : Nat) : Nat := ((rs.take k).map widthR).sum
theorem sumW_next (rs : List RuleV) (k : Nat) (h : k < rs.length) : sumW rs (k + 1) = sumW rs k + widthR rs[k] := by
  unfold sumW
  rw [List.take_succ_eq_append_getElem h, List.map_append, List.sum_append]
  simp only [List.map_cons, List.map_nil, List.sum_cons, List.sum_nil, Nat.add_zero]
theorem sumW_le (rs : List RuleV) (k : Nat) : sumW rs k ≤ sumW rs rs.length := by
  unfold sumW
  have e : (rs.map widthR).sum = ((rs.take k).map widthR).sum + ((rs.drop k).map widthR).sum := by
    rw [← List.sum_append, ← List.map_append, List.take_append_drop]
  rw [List.take_length, e]
  exact Nat.le_add_right _ _
/-- The rule with the marks from k on. -/
def markR (k : Nat) (r : RuleV) : RuleV :=
  ⟨markT k, ((k + 1 : Nat) : Int), ((k + 2 : Nat) : Int), decide ((k + 3) % 3 = 0), marks (k + 4) r.bytes.length, marksS (k + 4 + r.bytes.length) r.names.length, marksI (k + 4 + r.bytes.length + r.names.length) r.tags.length, marksI (k + 4 + r.bytes.length + r.names.length + r.tags.length) r.kids.length⟩
/-- The first i rules are marked. -/
def Mixed (k : Nat) (rs : List RuleV) (i : Nat) (L : List RuleV) : Prop := L.length = rs.length ∧ ∀ j (h : j < rs.length) (h' : j < L.length), L[j] = if j < i then markR (k + sumW rs j) rs[j] else rs[j]
theorem Mixed.start (k : Nat) (rs : List RuleV) : Mixed k rs 0 rs := ⟨rfl, fun j _ _ => by rw [if_neg (by omega)]⟩
theorem Mixed.next {k i : Nat} {rs L : List RuleV} (h : Mixed k rs i L) (hi : i < rs.length) : Mixed k rs (i + 1) (L.set i (markR (k + sumW rs i) rs[i])) := by
  obtain ⟨h1, h2⟩ := h
  refine ⟨by simp [h1], fun j hj hj' => ?_⟩
  by_cases e : i = j
  · subst e
    rw [List.getElem_set_self, if_pos (by omega)]
  · rw [List.getElem_set_ne e, h2 j hj (by omega)]
    by_cases hlt : j < i
    · rw [if_pos hlt, if_pos (by omega)]
    · rw [if_neg hlt, if_neg (by omega)]
theorem Mixed.at {k i : Nat} {rs L : List RuleV} (h : Mixed k rs i L) (hi : i < rs.length) (hi' : i < L.length) : L[i] = rs[i] := by rw [h.2 i hi hi', if_neg (by omega)]
theorem OwnS.cells {lo hi b off : Nat} {css : List (List Value)} {L : List RuleV} {w : World} (h : OwnS lo hi b off css L w) (i : Nat) (il : i < L.length) (ic : i < css.length) : ∀ f v, css[i][f]? = some v → w.cell? ⟨b, off + i * 8 + f, none⟩ = some v ∧ w.frozen? ⟨b, off + i * 8 + f, none⟩ = false := fun f v hv => by
  have _ := il
  exact h.2.2.2.1 i ic f v hv
/-- The first four cells of a rule are written. -/
theorem OwnS.put4 {lo hi b off : Nat} {css : List (List Value)} {L : List RuleV} {w : World} (h : OwnS lo hi b off css L w) (i : Nat) (il : i < L.length) (ic : i < css.length) {a4 a5 a6 a7 : Option Addr} {c4 c5 c6 c7 : Nat} (e : css[i] = [.string L[i].name, .int .i64 L[i].kind, .int .i64 L[i].size, .bool L[i].little, .slice a4 L[i].bytes.length c4, .slice a5 L[i].names.length c5, .slice a6 L[i].tags.length c6, .slice a7 L[i].kids.length c7])
    (nm : ByteArray) (kd sz : Int) (lt : Bool) :
    OwnS lo hi b off (css.set i [.string nm, .int .i64 kd, .int .i64 sz, .bool lt, .slice a4 L[i].bytes.length c4, .slice a5 L[i].names.length c5, .slice a6 L[i].tags.length c6, .slice a7 L[i].kids.length c7]) (L.set i ⟨nm, kd, sz, lt, L[i].bytes, L[i].names, L[i].tags, L[i].kids⟩)
      ((((w.setCell ⟨b, off + i * 8, none⟩ (.string nm)).setCell ⟨b, off + i * 8 + 1, none⟩ (.int .i64 kd)).setCell ⟨b, off + i * 8 + 2, none⟩ (.int .i64 sz)).setCell ⟨b, off + i * 8 + 3, none⟩ (.bool lt)) := by
  have p0 := h.put i il ic 0 (by omega) (.string nm) ⟨nm, L[i].kind, L[i].size, L[i].little, L[i].bytes, L[i].names, L[i].tags, L[i].kids⟩ (fun _ _ _ _ _ _ _ _ e => ⟨by rw [e]; rfl, rfl, rfl, rfl, rfl⟩)
  rw [e] at p0
  have p1 := p0.put i (by simpa using il) (by simpa using ic) 1 (by omega) (.int .i64 kd) ⟨nm, kd, L[i].size, L[i].little, L[i].bytes, L[i].names, L[i].tags, L[i].kids⟩ (fun _ _ _ _ _ _ _ _ e => by
    refine ⟨?_, by simp only [List.getElem_set_self], by simp only [List.getElem_set_self], by simp only [List.getElem_set_self], by simp only [List.getElem_set_self]⟩
    rw [e]
    simp only [List.getElem_set_self, List.set])
  have p2 := p1.put i (by simpa using il) (by simpa using ic) 2 (by omega) (.int .i64 sz) ⟨nm, kd, sz, L[i].little, L[i].bytes, L[i].names, L[i].tags, L[i].kids⟩ (fun _ _ _ _ _ _ _ _ e => by
    refine ⟨?_, by simp only [List.getElem_set_self], by simp only [List.getElem_set_self], by simp only [List.getElem_set_self], by simp only [List.getElem_set_self]⟩
    rw [e]
    simp only [List.getElem_set_self, List.set])
  have p3 := p2.put i (by simpa using il) (by simpa using ic) 3 (by omega) (.bool lt) ⟨nm, kd, sz, lt, L[i].bytes, L[i].names, L[i].tags, L[i].kids⟩ (fun _ _ _ _ _ _ _ _ e => by
    refine ⟨?_, by simp only [List.getElem_set_self], by simp only [List.getElem_set_self], by simp only [List.getElem_set_self], by simp only [List.getElem_set_self]⟩
    rw [e]
    simp only [List.getElem_set_self, List.set])
  simp only [List.getElem_set_self, List.set_set, List.set, Nat.add_zero] at p3
  exact p3
theorem put_other {w : World} {b o o' : Nat} {v u : Value} (h : w.cell? ⟨b, o, none⟩ = some u) (hne : o' ≠ o) : (w.setCell ⟨b, o', none⟩ v).cell? ⟨b, o, none⟩ = some u := (World.cell?_setCell_other _ _ _ _ (fun he => by have := congrArg Addr.off he; simp at this; omega)).trans h
theorem put_frozen {w : World} {p : Addr} {q : Addr} {v : Value} (h : w.frozen? q = false) : (w.setCell p v).frozen? q = false := by simpa using h
theorem Apart.set {lo hi b : Nat} {w w' : World} (h : Apart lo hi w w') (i : Nat) (v : Value) (h1 : lo ≤ b) (h2 : b < hi) : Apart lo hi w (w'.setCell ⟨b, i, none⟩ v) := h.trans (Apart.ofGrown (grown_set (grown_refl w' b) i v) h1 h2)
/-- The rows of one rule. -/
theorem OwnS.rows {lo hi b off : Nat} {css : List (List Value)} {L : List RuleV} {w : World} (h : OwnS lo hi b off css L w) (i : Nat) (il : i < L.length) (ic : i < css.length) {a4 a5 a6 a7 : Option Addr} {c4 c5 c6 c7 : Nat} (e : css[i] = [.string L[i].name, .int .i64 L[i].kind, .int .i64 L[i].size, .bool L[i].little, .slice a4 L[i].bytes.length c4, .slice a5 L[i].names.length c5, .slice a6 L[i].tags.length c6, .slice a7 L[i].kids.length c7]) :
    Row lo a4 L[i].bytes c4 w ∧ RowF Value.string lo a5 L[i].names c5 w ∧ RowF (Value.int .i64) lo a6 L[i].tags c6 w ∧ RowF (Value.int .i64) lo a7 L[i].kids c7 w := by
  obtain ⟨b4, d4, b5, d5, b6, d6, b7, d7, e', q4, q5, q6, q7, _⟩ := h.2.1 i il ic
  rw [e] at e'
  simp only [List.cons.injEq, Value.slice.injEq, true_and, and_true] at e'
  obtain ⟨⟨rfl, rfl⟩, ⟨rfl, rfl⟩, ⟨rfl, rfl⟩, rfl, rfl⟩ := e'
  exact ⟨q4, q5, q6, q7⟩
/-- A description is marked. -/
def MarkedR (lo hi b off : Nat) (rs : List RuleV) (k : Nat) (w : World) (e : Ending) (w' : World) : Prop :=
  e = .returned (.int .i64 ((k + sumW rs rs.length : Nat) : Int)) ∧ ∃ L css, Mixed k rs rs.length L ∧ OwnS lo hi b off css L w' ∧ Apart lo hi w w'
set_option maxRecDepth 100000 in
set_option maxHeartbeats 4000000 in
theorem markr_some (lo hi b off : Nat) (rs : List RuleV) (css0 : List (List Value)) (cap k : Nat) (w : World) (hl : rs.length ≤ 1048576) (hs : ∀ r ∈ rs, Short r) (hk0 : 0 < k) (hk : k + sumW rs rs.length ≤ 1073741824) (h : OwnS lo hi b off css0 rs w) :
    Calls Try.prog 44 #[.slice (some ⟨b, off, none⟩) rs.length cap, .int .i64 (k : Int)] w (MarkedR lo hi b off rs k w) := by
  have H := Lib.hid h
  have HS := Lib.hid hs
  clear h hs
  go_enter Try.func44, Try.ntmps44
  go_wp2
  go_loopw [1, 5] (fun q i W => ∃ (j m : Nat) (L : List RuleV) (css : List (List Value)), j ≤ rs.length ∧ i = .int .i64 j ∧ q = .int .i64 (m : Int) ∧ Hid (m = k + sumW rs j) ∧ m ≤ 1073741824 ∧ 0 < m ∧ Hid (Mixed k rs j L) ∧ Hid (OwnS lo hi b off css L W) ∧ Hid (Apart lo hi w W)) (fun _ i _ => rs.length - (intOf i).toNat)
  case atStart => exact ⟨0, k, rs, css0, Nat.zero_le _, rfl, rfl, by unfold Hid sumW; simp, by omega, hk0, Mixed.start k rs, H, Apart.refl _ _ _⟩
  case round =>
    obtain ⟨j, m, L, css, hj, rfl, rfl, hm, hm1, hm0, hmix, ho, hap⟩ := hrel
    have j0 : (0 : Int) ≤ (j : Int) := by omega
    by_cases hlt : j < rs.length
    · have j1 : (j : Int) < (rs.length : Int) := by omega
      have il : j < L.length := by have := hmix.out.1; omega
      have ic : j < css.length := by have := ho.out.1; omega
      have hat := hmix.out.at hlt il
      have hnx := Lib.hid (sumW_next rs j hlt)
      have hle := Lib.hid (sumW_le rs (j + 1))
      have hsh := Lib.hid (HS.out _ (List.getElem_mem hlt))
      have hmn := Lib.hid (hmix.out.next hlt)
      rw [← hm.out] at hmn
      obtain ⟨a4, c4, a5, c5, a6, c6, a7, c7, hcs, -⟩ := ho.out.2.1 j il ic
      have HCS := Lib.hid hcs
      have HAT := Lib.hid hat
      clear hat hcs hmix
      go_wp2_with fail
      refine (mark_text m _ hm0 (by omega)).mono ?_
      rintro e w1 ⟨rfl, hb1⟩
      have ho1 := Lib.hid (ho.out.below hb1)
      have hap1 := Lib.hid (hap.out.trans (Apart.ofBelow hb1))
      clear hb1 ho hap
      obtain ⟨d0, f0⟩ := ho1.out.cells j il ic 0 _ (by rw [HCS.out]; rfl)
      rw [Nat.add_zero] at d0 f0
      obtain ⟨hlo, hhi⟩ := ho1.out.2.2.1
      obtain ⟨d1, f1⟩ := ho1.out.cells j il ic 1 _ (by rw [HCS.out]; rfl)
      obtain ⟨d2, f2⟩ := ho1.out.cells j il ic 2 _ (by rw [HCS.out]; rfl)
      obtain ⟨d3, f3⟩ := ho1.out.cells j il ic 3 _ (by rw [HCS.out]; rfl)
      have D1 := Lib.hid d1
      have D2 := Lib.hid d2
      have D3 := Lib.hid d3
      have F1 := Lib.hid f1
      have F2 := Lib.hid f2
      have F3 := Lib.hid f3
      clear d1 d2 d3 f1 f2 f3
      go_upto_region 6 with fail
      clear d0 f0
      obtain ⟨v0, hv0⟩ : ∃ v, v = w1.setCell ⟨b, off + j * 8, none⟩ (.string (markT m)) := ⟨_, rfl⟩
      rw [← hv0]
      have d1 := put_other (o' := off + j * 8) (v := .string (markT m)) D1.out (by omega)
      rw [← hv0] at d1
      have f1 : v0.frozen? ⟨b, off + j * 8 + 1, none⟩ = false := by rw [hv0]; exact put_frozen F1.out
      have HV0 := Lib.hid hv0
      clear hv0
      go_upto_region 8 with fail
      clear d1 f1
      obtain ⟨v1, hv1⟩ : ∃ v, v = v0.setCell ⟨b, off + j * 8 + 1, none⟩ (.int .i64 ((m : Int) + 1)) := ⟨_, rfl⟩
      rw [← hv1]
      have d2 := put_other (o' := off + j * 8 + 1) (v := .int .i64 ((m : Int) + 1)) (put_other (o' := off + j * 8) (v := .string (markT m)) D2.out (by omega)) (by omega)
      rw [← HV0.out, ← hv1] at d2
      have f2 : v1.frozen? ⟨b, off + j * 8 + 2, none⟩ = false := by rw [hv1, HV0.out]; exact put_frozen (put_frozen F2.out)
      have HV1 := Lib.hid hv1
      clear hv1
      go_upto_region 10 with fail
      clear d2 f2
      obtain ⟨v2, hv2⟩ : ∃ v, v = v1.setCell ⟨b, off + j * 8 + 2, none⟩ (.int .i64 ((m : Int) + 1 + 1)) := ⟨_, rfl⟩
      rw [← hv2]
      have d3 := put_other (o' := off + j * 8 + 2) (v := .int .i64 ((m : Int) + 1 + 1)) (put_other (o' := off + j * 8 + 1) (v := .int .i64 ((m : Int) + 1)) (put_other (o' := off + j * 8) (v := .string (markT m)) D3.out (by omega)) (by omega)) (by omega)
      rw [← HV0.out, ← HV1.out, ← hv2] at d3
      have f3 : v2.frozen? ⟨b, off + j * 8 + 3, none⟩ = false := by rw [hv2, HV1.out, HV0.out]; exact put_frozen (put_frozen (put_frozen F3.out))
      have HV2 := Lib.hid hv2
      clear hv2
      go_upto_region 12 with fail
      clear d3 f3
      obtain ⟨v3, hv3⟩ : ∃ v, v = v2.setCell ⟨b, off + j * 8 + 3, none⟩ (.bool (((m : Int) + 1 + 1 + 1) % 3 == 0)) := ⟨_, rfl⟩
      rw [← hv3]
      obtain ⟨L3, hL3⟩ : ∃ L3, L3 = L.set j ⟨markT m, (m : Int) + 1, (m : Int) + 1 + 1, (((m : Int) + 1 + 1 + 1) % 3 == 0), L[j].bytes, L[j].names, L[j].tags, L[j].kids⟩ := ⟨_, rfl⟩
      obtain ⟨css3, hc3⟩ : ∃ css3, css3 = css.set j [.string (markT m), .int .i64 ((m : Int) + 1), .int .i64 ((m : Int) + 1 + 1), .bool (((m : Int) + 1 + 1 + 1) % 3 == 0), .slice a4 L[j].bytes.length c4, .slice a5 L[j].names.length c5, .slice a6 L[j].tags.length c6, .slice a7 L[j].kids.length c7] := ⟨_, rfl⟩
      have ho3 : Hid (OwnS lo hi b off css3 L3 v3) := by
        show OwnS _ _ _ _ _ _ _
        rw [hL3, hc3, hv3, HV2.out, HV1.out, HV0.out]
        exact ho1.out.put4 j il ic HCS.out _ _ _ _
      have hap3 : Hid (Apart lo hi w v3) := by
        show Apart _ _ _ _
        rw [hv3, HV2.out, HV1.out, HV0.out]
        exact (((hap1.out.set _ _ hlo hhi).set _ _ hlo hhi).set _ _ hlo hhi).set _ _ hlo hhi
      have il3 : j < L3.length := by rw [hL3]; simpa using il
      have ic3 : j < css3.length := by rw [hc3]; simpa using ic
      have HL3 : Hid (L3[j] = ⟨markT m, (m : Int) + 1, (m : Int) + 1 + 1, (((m : Int) + 1 + 1 + 1) % 3 == 0), L[j].bytes, L[j].names, L[j].tags, L[j].kids⟩) := by
        show _ = _
        subst hL3
        exact List.getElem_set_self _
      have E3 : Hid (css3[j] = [.string L3[j].name, .int .i64 L3[j].kind, .int .i64 L3[j].size, .bool L3[j].little, .slice a4 L3[j].bytes.length c4, .slice a5 L3[j].names.length c5, .slice a6 L3[j].tags.length c6, .slice a7 L3[j].kids.length c7]) := by
        show _ = _
        rw [HL3.out]
        subst hc3
        exact List.getElem_set_self _
      have HLL := Lib.hid hL3
      clear hL3 hc3 hv3 HV0 HV1 HV2 D1 D2 D3 F1 F2 F3 ho1 hap1
      have n4 : L3[j].bytes.length ≤ 1048576 := by rw [HL3.out, HAT.out]; exact hsh.out.1
      have n5 : L3[j].names.length ≤ 1048576 := by rw [HL3.out, HAT.out]; exact hsh.out.2.1
      have n6 : L3[j].tags.length ≤ 1048576 := by rw [HL3.out, HAT.out]; exact hsh.out.2.2.1
      have n7 : L3[j].kids.length ≤ 1048576 := by rw [HL3.out, HAT.out]; exact hsh.out.2.2.2
      have hwid : Hid (m + 4 + L3[j].bytes.length + L3[j].names.length + L3[j].tags.length + L3[j].kids.length = k + sumW rs (j + 1)) := by
        show _ = _
        rw [hnx.out, hm.out, HL3.out, HAT.out]
        unfold widthR
        dsimp only
        omega
      have hwle : m + 4 + L3[j].bytes.length + L3[j].names.length + L3[j].tags.length + L3[j].kids.length ≤ 1073741824 := by rw [hwid.out]; have := hle.out; omega
      obtain ⟨m4, hm4⟩ : ∃ m4 : Nat, m4 = m + 4 := ⟨_, rfl⟩
      have e4 : (m : Int) + 1 + 1 + 1 + 1 = (m4 : Int) := by omega
      rw [e4]
      have M4 := Lib.hid hm4
      have m4b : m4 ≤ 1073741824 := by omega
      have m4p : 0 < m4 := by omega
      have hw4 : m4 + L3[j].bytes.length + L3[j].names.length + L3[j].tags.length + L3[j].kids.length ≤ 1073741824 := by omega
      clear hm4 e4 hwle
      obtain ⟨d4, -⟩ := ho3.out.cells j il3 ic3 4 _ (by rw [E3.out]; rfl)
      have R4 := Lib.hid (ho3.out.rows j il3 ic3 E3.out)
      go_wp2_with fail
      refine (mark_any lo a4 L3[j].bytes c4 m4 _ (by omega) (by omega) R4.out.1).mono ?_
      rintro e w4 ⟨rfl, hrow, ht⟩
      obtain ⟨hoo, haa⟩ := ho3.out.turn4 j il3 ic3 E3.out (marks m4 L3[j].bytes.length) (marks_length _ _) ht hrow
      obtain ⟨L4, hL4⟩ : ∃ L', L' = L3.set j { L3[j] with bytes := marks m4 L3[j].bytes.length } := ⟨_, rfl⟩
      rw [← hL4] at hoo
      have il4 : j < L4.length := by rw [hL4]; simpa using il3
      have HL4 : Hid (L4[j] = { L3[j] with bytes := marks m4 L3[j].bytes.length }) := by
        show _ = _
        subst hL4
        exact List.getElem_set_self _
      have E4 : Hid (css3[j] = [.string L4[j].name, .int .i64 L4[j].kind, .int .i64 L4[j].size, .bool L4[j].little, .slice a4 L4[j].bytes.length c4, .slice a5 L4[j].names.length c5, .slice a6 L4[j].tags.length c6, .slice a7 L4[j].kids.length c7]) := by
        show _ = _
        rw [HL4.out, E3.out]
        simp only [marks_length]
      have hn45 : L4[j].names.length = L3[j].names.length := by rw [HL4.out]
      have hn46 : L4[j].tags.length = L3[j].tags.length := by rw [HL4.out]
      have hn47 : L4[j].kids.length = L3[j].kids.length := by rw [HL4.out]
      have ho4 := Lib.hid hoo
      have hap4 := Lib.hid (hap3.out.trans haa)
      have HLL4 := Lib.hid hL4
      clear hoo haa hrow ht hL4 ho3 hap3 d4 R4
      obtain ⟨m5, hmm⟩ : ∃ q : Nat, q = m4 + L3[j].bytes.length := ⟨_, rfl⟩
      rw [← hmm]
      have M5 := Lib.hid hmm
      have m5b : m5 ≤ 1073741824 := by omega
      have m5p : 0 < m5 := by omega
      have hw5 : m5 + L4[j].names.length + L4[j].tags.length + L4[j].kids.length ≤ 1073741824 := by omega
      replace n5 : L4[j].names.length ≤ 1048576 := by omega
      replace n6 : L4[j].tags.length ≤ 1048576 := by omega
      replace n7 : L4[j].kids.length ≤ 1048576 := by omega
      clear hn45
      clear hn46
      clear hn47
      clear hmm hw4 m4b m4p
      obtain ⟨d5, -⟩ := ho4.out.cells j il4 ic3 5 _ (by rw [E4.out]; rfl)
      have R5 := Lib.hid (ho4.out.rows j il4 ic3 E4.out)
      go_wp2_with fail
      refine (mark_strs lo a5 L4[j].names c5 m5 _ (by omega) (by omega) (by omega) R5.out.2.1).mono ?_
      rintro e w5 ⟨rfl, hrow, ht⟩
      obtain ⟨hoo, haa⟩ := ho4.out.turn5 j il4 ic3 E4.out (marksS m5 L4[j].names.length) (marksS_length _ _) ht hrow
      obtain ⟨L5, hL5⟩ : ∃ L', L' = L4.set j { L4[j] with names := marksS m5 L4[j].names.length } := ⟨_, rfl⟩
      rw [← hL5] at hoo
      have il5 : j < L5.length := by rw [hL5]; simpa using il4
      have HL5 : Hid (L5[j] = { L4[j] with names := marksS m5 L4[j].names.length }) := by
        show _ = _
        subst hL5
        exact List.getElem_set_self _
      have E5 : Hid (css3[j] = [.string L5[j].name, .int .i64 L5[j].kind, .int .i64 L5[j].size, .bool L5[j].little, .slice a4 L5[j].bytes.length c4, .slice a5 L5[j].names.length c5, .slice a6 L5[j].tags.length c6, .slice a7 L5[j].kids.length c7]) := by
        show _ = _
        rw [HL5.out, E4.out]
        simp only [marksS_length]
      have hn56 : L5[j].tags.length = L4[j].tags.length := by rw [HL5.out]
      have hn57 : L5[j].kids.length = L4[j].kids.length := by rw [HL5.out]
      have ho5 := Lib.hid hoo
      have hap5 := Lib.hid (hap4.out.trans haa)
      have HLL5 := Lib.hid hL5
      clear hoo haa hrow ht hL5 ho4 hap4 d5 R5
      obtain ⟨m6, hmm⟩ : ∃ q : Nat, q = m5 + L4[j].names.length := ⟨_, rfl⟩
      rw [← hmm]
      have M6 := Lib.hid hmm
      have m6b : m6 ≤ 1073741824 := by omega
      have m6p : 0 < m6 := by omega
      have hw6 : m6 + L5[j].tags.length + L5[j].kids.length ≤ 1073741824 := by omega
      replace n6 : L5[j].tags.length ≤ 1048576 := by omega
      replace n7 : L5[j].kids.length ≤ 1048576 := by omega
      clear hn56
      clear hn57
      clear hmm hw5 m5b m5p
      obtain ⟨d6, -⟩ := ho5.out.cells j il5 ic3 6 _ (by rw [E5.out]; rfl)
      have R6 := Lib.hid (ho5.out.rows j il5 ic3 E5.out)
      go_wp2_with fail
      refine (mark_ints lo a6 L5[j].tags c6 m6 _ (by omega) (by omega) R6.out.2.2.1).mono ?_
      rintro e w6 ⟨rfl, hrow, ht⟩
      obtain ⟨hoo, haa⟩ := ho5.out.turn6 j il5 ic3 E5.out (marksI m6 L5[j].tags.length) (marksI_length _ _) ht hrow
      obtain ⟨L6, hL6⟩ : ∃ L', L' = L5.set j { L5[j] with tags := marksI m6 L5[j].tags.length } := ⟨_, rfl⟩
      rw [← hL6] at hoo
      have il6 : j < L6.length := by rw [hL6]; simpa using il5
      have HL6 : Hid (L6[j] = { L5[j] with tags := marksI m6 L5[j].tags.length }) := by
        show _ = _
        subst hL6
        exact List.getElem_set_self _
      have E6 : Hid (css3[j] = [.string L6[j].name, .int .i64 L6[j].kind, .int .i64 L6[j].size, .bool L6[j].little, .slice a4 L6[j].bytes.length c4, .slice a5 L6[j].names.length c5, .slice a6 L6[j].tags.length c6, .slice a7 L6[j].kids.length c7]) := by
        show _ = _
        rw [HL6.out, E5.out]
        simp only [marksI_length]
      have hn67 : L6[j].kids.length = L5[j].kids.length := by rw [HL6.out]
      have ho6 := Lib.hid hoo
      have hap6 := Lib.hid (hap5.out.trans haa)
      have HLL6 := Lib.hid hL6
      clear hoo haa hrow ht hL6 ho5 hap5 d6 R6
      obtain ⟨m7, hmm⟩ : ∃ q : Nat, q = m6 + L5[j].tags.length := ⟨_, rfl⟩
      rw [← hmm]
      have M7 := Lib.hid hmm
      have m7b : m7 ≤ 1073741824 := by omega
      have m7p : 0 < m7 := by omega
      have hw7 : m7 + L6[j].kids.length ≤ 1073741824 := by omega
      replace n7 : L6[j].kids.length ≤ 1048576 := by omega
      clear hn67
      clear hmm hw6 m6b m6p
      obtain ⟨d7, -⟩ := ho6.out.cells j il6 ic3 7 _ (by rw [E6.out]; rfl)
      have R7 := Lib.hid (ho6.out.rows j il6 ic3 E6.out)
      go_wp2_with fail
      refine (mark_ints lo a7 L6[j].kids c7 m7 _ (by omega) (by omega) R7.out.2.2.2).mono ?_
      rintro e w7 ⟨rfl, hrow, ht⟩
      obtain ⟨hoo, haa⟩ := ho6.out.turn7 j il6 ic3 E6.out (marksI m7 L6[j].kids.length) (marksI_length _ _) ht hrow
      obtain ⟨L7, hL7⟩ : ∃ L', L' = L6.set j { L6[j] with kids := marksI m7 L6[j].kids.length } := ⟨_, rfl⟩
      rw [← hL7] at hoo
      have il7 : j < L7.length := by rw [hL7]; simpa using il6
      have HL7 : Hid (L7[j] = { L6[j] with kids := marksI m7 L6[j].kids.length }) := by
        show _ = _
        subst hL7
        exact List.getElem_set_self _
      have E7 : Hid (css3[j] = [.string L7[j].name, .int .i64 L7[j].kind, .int .i64 L7[j].size, .bool L7[j].little, .slice a4 L7[j].bytes.length c4, .slice a5 L7[j].names.length c5, .slice a6 L7[j].tags.length c6, .slice a7 L7[j].kids.length c7]) := by
        show _ = _
        rw [HL7.out, E6.out]
        simp only [marksI_length]
      have ho7 := Lib.hid hoo
      have hap7 := Lib.hid (hap6.out.trans haa)
      have HLL7 := Lib.hid hL7
      clear hoo haa hrow ht hL7 ho6 hap6 d7 R7
      obtain ⟨m8, hmm⟩ : ∃ q : Nat, q = m7 + L6[j].kids.length := ⟨_, rfl⟩
      rw [← hmm]
      have M8 := Lib.hid hmm
      have m8b : m8 ≤ 1073741824 := by omega
      have m8p : 0 < m8 := by omega
      clear hmm hw7 m7b m7p
      have hfin : Hid (L7 = L.set j (markR m rs[j])) := by
        show _ = _
        have q7 := HL7.out
        have q6 := HL6.out
        have q5 := HL5.out
        have q4 := HL4.out
        have q3 := HL3.out
        rw [HAT.out] at q3
        have r8 := M8.out
        have r7 := M7.out
        have r6 := M6.out
        have r5 := M5.out
        have r4 := M4.out
        have hr7 : L7[j] = markR m rs[j] := by
          rw [q7, q6, q5, q4, q3]
          unfold markR
          rw [q5, q4, q3] at r7
          rw [q4, q3] at r6
          rw [q3] at r5
          dsimp only at *
          subst r4 r5 r6 r7
          congr 1
          rw [Bool.eq_iff_iff]
          simp
          omega
        have hset : ∀ i (h1 : i < L7.length) (h2 : i < (L.set j (markR m rs[j])).length), L7[i] = (L.set j (markR m rs[j]))[i] := fun i h1 h2 => by
          by_cases e : j = i
          · subst e
            rw [List.getElem_set_self, hr7]
          · rw [List.getElem_set_ne e]
            simp only [HLL7.out, HLL6.out, HLL5.out, HLL4.out, HLL.out, List.getElem_set_ne e]
        refine List.ext_getElem ?_ hset
        have l7 := congrArg List.length HLL7.out
        have l6 := congrArg List.length HLL6.out
        have l5 := congrArg List.length HLL5.out
        have l4 := congrArg List.length HLL4.out
        have l3 := congrArg List.length HLL.out
        rw [List.length_set] at l7 l6 l5 l4 l3 ⊢
        omega
      have hm8 : Hid (m8 = k + sumW rs (j + 1)) := by
        show _ = _
        rw [← hwid.out]
        have q6 := HL6.out
        have q5 := HL5.out
        have q4 := HL4.out
        have r8 := M8.out
        have r7 := M7.out
        have r6 := M6.out
        have r5 := M5.out
        have r4 := M4.out
        rw [q6, q5, q4] at r8
        rw [q5, q4] at r7
        rw [q4] at r6
        dsimp only at *
        omega
      rw [hfin.out] at ho7
      go_wp2
      go_roundw
      case rel => exact ⟨j + 1, m8, _, css3, by omega, by go_num, rfl, hm8, m8b, m8p, hmn, ho7, hap7⟩
      case measure => simp [intOf]; omega
    · have j1 : ¬ (j : Int) < (rs.length : Int) := by omega
      obtain rfl : j = rs.length := by omega
      go_wp2
      go_ret
      exact ⟨ret_int (by rw [hm.out]), L, css, hmix.out, ho.out, hap.out⟩
end Go.Proofs.Ytpeldhediaodjaa
