/- Arguments as a row reads them: descriptions. -/
import Derived.Test.YtkegjgfggijinaaArg
import Derived.Test.YtkegjgfggijinaaRuleSz
import Derived.Test.YtkegjgfggijinaaRuleTo
import Derived.Deep.Slices
namespace Go.Proofs.Ytkegjgfggijinaa
open Go Go.ChangeShapes Go.WideShapes Go.ChangeAt Go.RowKit Go.Deep
set_option maxRecDepth 100000 in
theorem cellsOne : Try.prog.cellsOf 9 = 1 ∧ Try.prog.cellsOf 3 = 1 ∧ Try.prog.cellsOf 4 = 1 ∧ Try.prog.cellsOf 22 = 1 ∧ Try.prog.cellsOf 32 = 1 ∧ Try.prog.cellsOf 33 = 1 := ⟨by kernel_rfl, by kernel_rfl, by kernel_rfl, by kernel_rfl, by kernel_rfl, by kernel_rfl⟩
set_option maxRecDepth 100000 in
theorem cellsRule : Try.prog.cellsOf 79 = 8 := by kernel_rfl
set_option maxRecDepth 100000 in
theorem cellsDescr : Try.prog.cellsOf 41 = 1 := by kernel_rfl
set_option maxRecDepth 100000 in
theorem cellsRuleS : Try.prog.cellsOf 39 = 1 := by kernel_rfl
/-- The numbers in a rule are ints. -/
def Ranged (r : RuleV) : Prop := I64 r.kind ∧ I64 r.size ∧ (∀ x ∈ r.tags, I64 x) ∧ (∀ x ∈ r.kids, I64 x)
section
variable {H : Type} {enc : TypeId × Value → H} {W : World}
set_option maxRecDepth 100000 in
theorem bytes_open {n : Nat} {v : Value} {y : DataW H × List MemPlace} (h : DataW.trod enc Try.prog W 0 (fun _ => true) true n 22 [v] = some y) : ∃ a bs cap, v = .slice a bs.length cap ∧ Arg a bs cap W := by
  have h0 := h
  rcases open_ints Try.underlying22 Try.underlying5 cellsU8 h0 with ⟨hcs, _⟩ | ⟨ad, len, cap, zs, hcs, _⟩
  · simp at hcs
    subst hcs
    obtain ⟨bs, hb, ha⟩ := bytes_arg (a := none) (len := 0) (cap := 0) (p := y.2) (d := y.1) ⟨n, h⟩
    exact ⟨none, bs, 0, by rw [← hb], ha⟩
  · simp at hcs
    subst hcs
    obtain ⟨bs, hb, ha⟩ := bytes_arg (a := some ad) (len := len) (cap := cap) (p := y.2) (d := y.1) ⟨n, h⟩
    exact ⟨some ad, bs, cap, by rw [← hb], ha⟩
set_option maxRecDepth 100000 in
theorem strs_open {n : Nat} {v : Value} {y : DataW H × List MemPlace} (h : DataW.trod enc Try.prog W 0 (fun _ => true) true n 32 [v] = some y) : ∃ a ss cap, v = .slice a ss.length cap ∧ ArgS a ss cap W := by
  have h0 := h
  rcases open_strings Try.underlying32 Try.underlying9 cellsOne.1 h0 with ⟨hcs, _⟩ | ⟨ad, len, cap, zs, hcs, _⟩
  · simp at hcs
    subst hcs
    obtain ⟨bs, hb, ha⟩ := strings_arg Try.underlying32 Try.underlying9 cellsOne.1 (a := none) (len := 0) (cap := 0) (p := y.2) (d := y.1) ⟨n, h⟩
    exact ⟨none, bs, 0, by rw [← hb], ha⟩
  · simp at hcs
    subst hcs
    obtain ⟨bs, hb, ha⟩ := strings_arg Try.underlying32 Try.underlying9 cellsOne.1 (a := some ad) (len := len) (cap := cap) (p := y.2) (d := y.1) ⟨n, h⟩
    exact ⟨some ad, bs, cap, by rw [← hb], ha⟩
/-- A slice of ints that came in. -/
def ArgI (a : Option Addr) (zs : List Int) (cap : Nat) (w : World) : Prop := RdI a zs w ∧ zs.length ≤ cap ∧ (a = none → cap = 0) ∧ cap ≤ 9223372036854775807 ∧ ∀ x ∈ zs, I64 x
set_option maxRecDepth 100000 in
theorem ints_open {n : Nat} {v : Value} {y : DataW H × List MemPlace} (h : DataW.trod enc Try.prog W 0 (fun _ => true) true n 33 [v] = some y) : ∃ a zs cap, v = .slice a zs.length cap ∧ ArgI a zs cap W := by
  rcases open_ints Try.underlying33 Try.underlying3 cellsOne.2.1 h with ⟨hcs, _⟩ | ⟨ad, len, cap, zs, hcs, _, hl, hm, hz, hx, hcell, hwz⟩
  · simp at hcs
    subst hcs
    exact ⟨none, [], 0, rfl, fun j hj => by simp at hj, Nat.le_refl _, fun _ => rfl, by omega, fun x hx => by simp at hx⟩
  · simp at hcs
    subst hcs
    simp only [if_true] at hz
    have hlen : (zs.take len).length = len := by simp; omega
    refine ⟨some ad, zs.take len, cap, by rw [hlen], fun j hj => ?_, by omega, (fun e => by cases e), by unfold maxLen at hm; omega, fun x hx => i64_arg (hwz x (List.mem_of_mem_take hx))⟩
    have hj2 : j < len := by omega
    obtain ⟨b, off, rfl, hc⟩ := ints_at hcell (by omega)
    refine ⟨b, off, rfl, ?_⟩
    have hjz : j < zs.length := by omega
    rw [hc j hjz, List.getElem_take]
    simp [List.getD, List.getElem?_eq_getElem hjz]
set_option maxRecDepth 100000 in
theorem rule_open {n : Nat} {cs : List Value} {x : DataW H × List MemPlace} (h : DataW.trod enc Try.prog W 0 (fun _ => true) true n 79 cs = some x) : ∃ r : RuleV, IsRule r cs W ∧ Fits r ∧ Ranged r := by
  obtain ⟨e1, e2, e3, -⟩ := cellsOne
  obtain ⟨xs, m, _, _, hlen, hxl, hf⟩ := DataW.trod_struct Try.underlying79 h
  rw [cellsRule] at hlen
  match cs, hlen with
  | [v0, v1, v2, v3, v4, v5, v6, v7], _ =>
    match xs, hxl with
    | [y0, y1, y2, y3, y4, y5, y6, y7], _ =>
      have h0 := hf 0 _ rfl
      have h1 := hf 1 _ rfl
      have h2 := hf 2 _ rfl
      have h3 := hf 3 _ rfl
      have h4 := hf 4 _ rfl
      have h5 := hf 5 _ rfl
      have h6 := hf 6 _ rfl
      have h7 := hf 7 _ rfl
      simp only [List.getElem?_cons_zero, List.getElem?_cons_succ] at h0 h1 h2 h3 h4 h5 h6 h7
      obtain ⟨s, q0, -, z0⟩ := DataW.trod_string Try.underlying9 h0
      obtain ⟨i1, q1, -, z1⟩ := DataW.trod_int Try.underlying3 h1
      obtain ⟨i2, q2, -, z2⟩ := DataW.trod_int Try.underlying3 h2
      obtain ⟨b3, q3, -⟩ := DataW.trod_bool Try.underlying4 h3
      obtain ⟨a4, bs, c4, rfl, r4⟩ := bytes_open h4
      obtain ⟨a5, ss, c5, rfl, r5⟩ := strs_open h5
      obtain ⟨a6, ts, c6, rfl, r6⟩ := ints_open h6
      obtain ⟨a7, ks, c7, rfl, r7⟩ := ints_open h7
      simp [e1] at q0
      simp [e2] at q1
      simp [e2] at q2
      simp [e3] at q3
      subst q0 q1 q2 q3
      refine ⟨⟨s, i1, i2, b3, bs, ss, ts, ks⟩, ⟨a4, c4, a5, c5, a6, c6, a7, c7, rfl, r4.1, r5.1, r6.1, r7.1⟩, ⟨by unfold maxLen at z0; show s.size ≤ _; omega, ?_, ?_, r5.2.2.2.2, ?_, ?_⟩, i64_arg z1, i64_arg z2, r6.2.2.2.2, r7.2.2.2.2⟩
      · exact Nat.le_trans r4.2.1 r4.2.2.2
      · exact Nat.le_trans r5.2.1 r5.2.2.2.1
      · exact Nat.le_trans r6.2.1 r6.2.2.2.1
      · exact Nat.le_trans r7.2.1 r7.2.2.2.1
/-- A description that came in. -/
def ArgD (a : Option Addr) (rs : List RuleV) (cap : Nat) (w : World) : Prop := RdR a rs w ∧ (rs.length ≤ cap ∧ cap ≤ 9223372036854775807) ∧ (∀ r ∈ rs, Fits r) ∧ (∀ r ∈ rs, Ranged r)
set_option maxRecDepth 100000 in
theorem rules_open {n : Nat} {v : Value} {y : DataW H × List MemPlace} (h : DataW.trod enc Try.prog W 0 (fun _ => true) true n 39 [v] = some y) : ∃ a rs cap, v = .slice a rs.length cap ∧ ArgD a rs cap W := by
  rcases open_slice Try.underlying39 h with ⟨hcs, _⟩ | ⟨ad, len, cap, m, n', D, Pl, hcs, _, hl, hm, hmm, _, hi⟩
  · simp at hcs
    subst hcs
    exact ⟨none, [], 0, rfl, fun j hj => by simp at hj, ⟨Nat.le_refl _, by omega⟩, fun r hr => by simp at hr, fun r hr => by simp at hr⟩
  · simp at hcs
    subst hcs
    simp only [if_true] at hmm
    rw [cellsRule] at hi
    have hr : ∀ i : Fin len, ∃ r : RuleV, (∃ cs, IsRule r cs W ∧ ∀ j u, cs[j]? = some u → W.cell? (ad.add (i.val * 8 + j)) = some u) ∧ Fits r ∧ Ranged r := fun i => by
      obtain ⟨cs, hc, ht⟩ := hi i.val (by have := i.isLt; omega)
      obtain ⟨_, hcl, hat⟩ := World.cells?_some hc
      obtain ⟨r, h1, h2, h3⟩ := rule_open ht
      refine ⟨r, ⟨cs, h1, fun j u hu => ?_⟩, h2, h3⟩
      have hj : j < 8 := by
        rcases Nat.lt_or_ge j 8 with h | h
        · exact h
        · rw [List.getElem?_eq_none (by omega)] at hu; cases hu
      have := hat j hj
      rw [← Go.Deep.add_add, this, hu]
    have hch : ∃ R : Fin len → RuleV, ∀ i, (∃ cs, IsRule (R i) cs W ∧ ∀ j u, cs[j]? = some u → W.cell? (ad.add (i.val * 8 + j)) = some u) ∧ Fits (R i) ∧ Ranged (R i) := ⟨fun i => Classical.choose (hr i), fun i => Classical.choose_spec (hr i)⟩
    obtain ⟨R, hR⟩ := hch
    have hlen : (List.ofFn R).length = len := by simp
    refine ⟨some ad, List.ofFn R, cap, by rw [hlen], fun j hj => ?_, ⟨by rw [hlen]; exact hl, by unfold maxLen at hm; omega⟩, ?_, ?_⟩
    · have hjl : j < len := by omega
      obtain ⟨⟨cs, h1, h2⟩, _⟩ := hR ⟨j, hjl⟩
      obtain ⟨b, off, spot⟩ := ad
      have hspot : spot = none := by
        obtain ⟨⟨cs', g1, g2⟩, _⟩ := hR ⟨0, by omega⟩
        obtain ⟨_, _, _, _, _, _, _, _, e, _⟩ := g1
        have h0 := g2 0 _ (by rw [e]; rfl)
        simpa [Addr.add] using World.cell?_spot h0
      subst hspot
      refine ⟨b, off, cs, rfl, by simpa using h1, fun i v hv => ?_⟩
      have := h2 i v hv
      rw [Go.WideShapes.add_plain] at this
      rw [Nat.add_assoc]
      exact this
    · intro r hr
      obtain ⟨i, rfl⟩ := (List.mem_ofFn).1 hr
      exact (hR i).2.1
    · intro r hr
      obtain ⟨i, rfl⟩ := (List.mem_ofFn).1 hr
      exact (hR i).2.2
set_option maxRecDepth 100000 in
theorem descr_arg {v : Value} {d : DataW H} {p : List MemPlace} {r : Reach} {b0 : Nat} (hv : Value.okWide Try.prog W r b0 41 v) (h : DataW.Trod enc Try.prog W 0 (fun _ => true) true 41 v d p) : ∃ a rs cap, v = .agg #[.slice a rs.length cap] ∧ ArgD a rs cap W := by
  obtain ⟨cs, rfl, hsz⟩ := okWide_struct Try.underlying41 hv
  rw [cellsDescr] at hsz
  obtain ⟨l⟩ := cs
  match l, hsz with
  | [c0], _ =>
    obtain ⟨fuel, hf⟩ := h
    obtain ⟨xs, n, _, hx, _, hlen, hg⟩ := DataW.trod_struct Try.underlying41 hf
    match xs, hlen with
    | [y0], _ =>
      have h0 := hg 0 _ rfl
      simp [Value.cells, cellsRuleS] at h0
      obtain ⟨a, rs, cap, rfl, ha⟩ := rules_open (v := c0) h0
      exact ⟨a, rs, cap, rfl, ha⟩
end
set_option maxRecDepth 100000 in
theorem short_of {rs : List RuleV} (h : sizeR rs ≤ 1048576) : ∀ r ∈ rs, Short r := fun r hr => by
  obtain ⟨j, hj, rfl⟩ := List.getElem_of_mem hr
  have h1 := ruleSize_le rs j hj
  unfold ruleSize sizeS at h1
  exact ⟨by omega, by omega, by omega, by omega⟩
set_option maxRecDepth 100000 in
theorem sz_descr0 (a : Option Addr) (rs : List RuleV) (cap : Nat) (w : World) (hl : rs.length ≤ 9223372036854775807) (hf : ∀ r ∈ rs, Fits r) (h : RdR a rs w) :
    Calls Try.prog 16 #[.agg #[.slice a rs.length cap], .int .i64 1048576] w fun e w' => e = .returned (.int .i64 (leftN 1048576 (sizeR rs))) ∧ Below w.heap.size w w' := sz_descr a rs cap 1048576 w (Nat.le_refl _) hl hf h
end Go.Proofs.Ytkegjgfggijinaa
