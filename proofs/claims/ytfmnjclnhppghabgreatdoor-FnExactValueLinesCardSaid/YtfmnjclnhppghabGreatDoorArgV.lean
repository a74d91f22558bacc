/- Arguments as a row reads them: values. -/
import Derived.Test.YtfmnjclnhppghabGreatDoorGSz
import Derived.Test.YtfmnjclnhppghabGreatDoorValSz
namespace Go.Proofs.YtfmnjclnhppghabGreatDoor
open Go Go.ChangeShapes Go.WideShapes Go.ChangeAt Go.RowKit Go.Deep
set_option maxRecDepth 100000 in
theorem cellsVal : Tryz.prog.cellsOf 28 = 3 := by kernel_rfl
set_option maxRecDepth 100000 in
theorem cellsValS : Tryz.prog.cellsOf 26 = 1 := by kernel_rfl
mutual
/-- The numbers in a value are ints. -/
def intV : ValueV → Prop
  | .mk n _ l => I64 n ∧ intL l
def intL : List ValueV → Prop
  | [] => True
  | v :: vs => intV v ∧ intL vs
end
theorem intV_eq (v : ValueV) : intV v = (I64 v.number ∧ intL v.items) := by
  cases v with
  | mk n b l => rw [intV]; rfl
theorem intL_at : ∀ {vs : List ValueV}, intL vs → ∀ j (h : j < vs.length), intV vs[j]
  | [], _, j, h => by simp at h
  | v :: vs, hf, 0, _ => by rw [intL] at hf; exact hf.1
  | v :: vs, hf, j + 1, h => by rw [intL] at hf; exact intL_at hf.2 j (by simpa using h)
theorem intL_of : ∀ {vs : List ValueV}, (∀ v ∈ vs, intV v) → intL vs
  | [], _ => trivial
  | v :: vs, h => by rw [intL]; exact ⟨h v (by simp), intL_of fun u hu => h u (by simp [hu])⟩
theorem fitL_of : ∀ {vs : List ValueV}, (∀ v ∈ vs, fitV v) → fitL vs
  | [], _ => trivial
  | v :: vs, h => by rw [fitL]; exact ⟨h v (by simp), fitL_of fun u hu => h u (by simp [hu])⟩
/-- A value is also one of a greater height. -/
theorem IsVal.up : ∀ {n m : Nat} {v : ValueV} {cs : List Value} {w : World}, IsVal n v cs w → n ≤ m → IsVal m v cs w
  | 0, _, _, _, _, h, _ => h.elim
  | n + 1, m, v, cs, w, h, hm => by
    obtain ⟨m, rfl⟩ : ∃ m', m = m' + 1 := ⟨m - 1, by omega⟩
    obtain ⟨ab, cb, ai, ci, e, h1, h2⟩ := h
    exact ⟨ab, cb, ai, ci, e, h1, fun j hj => by obtain ⟨b, off, cs', e2, h3, h4⟩ := h2 j hj; exact ⟨b, off, cs', e2, h3.up (by omega), h4⟩⟩
section
variable {H : Type} {enc : TypeId × Value → H} {W : World}
/-- What is read as a value with so much fuel is one. -/
def OpenV (enc : TypeId × Value → H) (W : World) (n : Nat) : Prop := ∀ (cs : List Value) (x : DataW H × List MemPlace), DataW.trod enc Tryz.prog W 0 (fun _ => true) true n 28 cs = some x → ∃ v : ValueV, IsVal n v cs W ∧ fitV v ∧ intV v
set_option maxRecDepth 100000 in
theorem vals_open {n : Nat} (ih : OpenV enc W n) {v : Value} {y : DataW H × List MemPlace} (h : DataW.trod enc Tryz.prog W 0 (fun _ => true) true (n + 1) 26 [v] = some y) :
    ∃ a us cap, v = .slice a us.length cap ∧ us.length ≤ 9223372036854775807 ∧ ItemsAt n a us W ∧ fitL us ∧ intL us := by
  rcases DataW.trod_slice Tryz.underlying26 h with ⟨hcs, _⟩ | ⟨ad, len, cap, elems, rest, m, hfu, hcs, _, _, hl, hm, hlen, hi, _, _⟩
  · simp at hcs
    subst hcs
    exact ⟨none, [], 0, rfl, by simp, fun j hj => by simp at hj, trivial, trivial⟩
  · simp at hcs
    subst hcs
    obtain rfl : n = m := by omega
    rw [cellsVal] at hi
    have hr : ∀ i : Fin len, ∃ u : ValueV, (∃ cs, IsVal n u cs W ∧ ∀ j z, cs[j]? = some z → W.cell? (ad.add (i.val * 3 + j)) = some z) ∧ fitV u ∧ intV u := fun i => by
      have hk := hi i.val i.isLt
      rw [List.getElem?_eq_getElem (by have := i.isLt; omega)] at hk
      obtain ⟨cs, hc, ht⟩ := Option.bind_eq_some_iff.1 hk
      obtain ⟨_, hcl, hat⟩ := World.cells?_some hc
      obtain ⟨u, h1, h2, h3⟩ := ih cs _ ht
      refine ⟨u, ⟨cs, h1, fun j z hz => ?_⟩, h2, h3⟩
      have hj : j < 3 := by
        rcases Nat.lt_or_ge j 3 with h | h
        · exact h
        · rw [List.getElem?_eq_none (by omega)] at hz; cases hz
      have := hat j hj
      rw [← Go.Deep.add_add, this, hz]
    have hch : ∃ R : Fin len → ValueV, ∀ i, (∃ cs, IsVal n (R i) cs W ∧ ∀ j z, cs[j]? = some z → W.cell? (ad.add (i.val * 3 + j)) = some z) ∧ fitV (R i) ∧ intV (R i) := ⟨fun i => Classical.choose (hr i), fun i => Classical.choose_spec (hr i)⟩
    obtain ⟨R, hR⟩ := hch
    have hlen2 : (List.ofFn R).length = len := by simp
    refine ⟨some ad, List.ofFn R, cap, by rw [hlen2], by rw [hlen2]; unfold maxLen at hm; omega, fun j hj => ?_, fitL_of fun r hr => ?_, intL_of fun r hr => ?_⟩
    · have hjl : j < len := by omega
      obtain ⟨⟨cs, h1, h2⟩, _⟩ := hR ⟨j, hjl⟩
      obtain ⟨b, off, spot⟩ := ad
      have hspot : spot = none := by
        obtain ⟨⟨cs', g1, g2⟩, _⟩ := hR ⟨0, by omega⟩
        obtain ⟨ab, cb, ai, ci, e⟩ := g1.three
        have h0 := g2 0 _ (by rw [e]; rfl)
        simpa [Addr.add] using World.cell?_spot h0
      subst hspot
      refine ⟨b, off, cs, rfl, by simpa using h1, fun i v hv => ?_⟩
      have := h2 i v hv
      rw [Go.WideShapes.add_plain] at this
      rw [Nat.add_assoc]
      exact this
    · obtain ⟨i, rfl⟩ := (List.mem_ofFn).1 hr
      exact (hR i).2.1
    · obtain ⟨i, rfl⟩ := (List.mem_ofFn).1 hr
      exact (hR i).2.2
set_option maxRecDepth 100000 in
theorem openv_step {n : Nat} (ih : ∀ m, m < n → OpenV enc W m) : OpenV enc W n := by
  intro cs x h
  obtain ⟨xs, m, hfu, _, hlen, hxl, hf⟩ := DataW.trod_struct Tryz.underlying28 h
  rw [cellsVal] at hlen
  match cs, hlen with
  | [v0, v1, v2], _ =>
    match xs, hxl with
    | [y0, y1, y2], _ =>
      have h0 := hf 0 _ rfl
      have h1 := hf 1 _ rfl
      have h2 := hf 2 _ rfl
      simp only [List.getElem?_cons_zero, List.getElem?_cons_succ] at h0 h1 h2
      obtain ⟨-, e2, -, e4, -⟩ := cellsOne
      simp [e2] at h0
      simp [e4] at h1
      simp [cellsValS] at h2
      obtain ⟨i0, q0, -, z0⟩ := DataW.trod_int Tryz.underlying3 h0
      simp at q0
      subst q0
      obtain ⟨a1, bs, c1, rfl, r1⟩ := bytes_open h1
      cases m with
      | zero => simp [DataW.trod] at h2
      | succ k =>
        obtain ⟨a2, us, c2, rfl, r2, r3, r4, r5⟩ := vals_open (ih k (by omega)) h2
        subst hfu
        refine ⟨.mk i0 bs us, ⟨a1, c1, a2, c2, rfl, ⟨r1.1, r1.2.2.1⟩, fun j hj => ?_⟩, ?_, ?_⟩
        · obtain ⟨b, off, cs', e, h3, h4⟩ := r3 j hj
          exact ⟨b, off, cs', e, h3.up (by omega), h4⟩
        · rw [fitV_eq]
          exact ⟨Nat.le_trans r1.2.1 r1.2.2.2, r2, r4⟩
        · rw [intV_eq]
          exact ⟨i64_arg z0, r5⟩
theorem openv (n : Nat) : OpenV enc W n := Nat.strongRecOn n fun _ ih => openv_step ih
set_option maxRecDepth 100000 in
theorem value_arg {v : Value} {d : DataW H} {p : List MemPlace} {r : Reach} {b0 : Nat} (hv : Value.okWide Tryz.prog W r b0 28 v) (h : DataW.Trod enc Tryz.prog W 0 (fun _ => true) true 28 v d p) : ∃ g u cs, v = .agg (List.toArray cs) ∧ IsVal g u cs W ∧ fitV u ∧ intV u := by
  obtain ⟨cs, rfl, hsz⟩ := okWide_struct Tryz.underlying28 hv
  obtain ⟨fuel, hf⟩ := h
  obtain ⟨l⟩ := cs
  obtain ⟨u, h1, h2, h3⟩ := openv fuel _ _ hf
  exact ⟨fuel, u, l, rfl, by simpa [Value.cells] using h1, h2, h3⟩
end
end Go.Proofs.YtfmnjclnhppghabGreatDoor
