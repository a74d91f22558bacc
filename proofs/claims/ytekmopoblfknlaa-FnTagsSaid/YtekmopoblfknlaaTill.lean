/- A region that draws its order and ends in a store: a condition on the world that holds up to the store, not behind it. -/
import Derived.Deep.RegionHeld3
import Derived.StillTail
namespace Go.Proofs.Ytekmopoblfknlaa
open Go
section
variable {P : Program} {ops : Array Oper} {Q : Exit → Act → World → Prop} {md : Region.Mode} {S : World → Prop} {n : Nat}
/-- Whatever may come up comes up; S holds behind each but the n-th. -/
def Till (P : Program) (md : Region.Mode) (ops : Array Oper) (Q : Exit → Act → World → Prop) (S : World → Prop) (n : Nat) : Nat → Array Bool → Act → World → Prop
  | 0, l, A, w => Region.ready md ops l = [] ∧ Q .normal A w
  | f + 1, l, A, w => (Region.ready md ops l = [] → Q .normal A w) ∧ ∀ i ∈ Region.ready md ops l, wpOp P ops Q i (fun A' w' => (i ≠ n → S w') ∧ Till P md ops Q S n f (l.setIfInBounds i true) A' w') A w
theorem Till.any : ∀ (f : Nat) (l : Array Bool) (A : Act) (w : World), Till P md ops Q S n f l A w → wpAny P md ops Q f l A w
  | 0, _, _, _, h => h
  | f + 1, _, _, _, h => ⟨h.1, fun i hi => wpOp_mono (fun A' w' h' => Till.any f _ A' w' h'.2) (h.2 i hi)⟩
theorem waits_not {i : Nat} {l : Array Bool} (hn : Region.waitsFor md ops n i = true) (hr : i ∈ Region.ready md ops l) : n ∉ Region.ready md ops l := fun h => by
  obtain ⟨on, ho, e, he, hb, heq⟩ := Region.waitsFor_spec hn
  obtain ⟨_, o2, ho2, hall⟩ := mem_ready.1 h
  obtain rfl : on = o2 := Option.some.inj (ho.symm.trans ho2)
  have h1 := hall e he hb
  rw [heq] at h1
  have h2 := (mem_ready.1 hr).1
  rw [getD_both h2] at h1
  cases h1
/-- What yields where S holds may be taken first, if the n-th waits for it. -/
theorem Till.first {i : Nat} {oi : Oper} {v : Value} (hi : ops[i]? = some oi) (hsel : ∀ (j : Nat) (o : Oper) cs b, ops[j]? = some o → o.op ≠ .select cs b)
    (hQ : ∀ c A w, Q (.panic c) (A.put oi.dst v) w → Q (.panic c) A w) (hn : Region.waitsFor md ops n i = true) :
    ∀ (f : Nat) (l : Array Bool) (A : Act) (w : World), (∀ j oj, ops[j]? = some oj → j ≠ i → l.getD j true = false → (∀ e ∈ oj.after, Region.binds md e = true → e.on ≠ i) → oi.apart ops oj = true) →
      i ∈ Region.ready md ops l → YieldsIf P ops S oi v A → S w → Till P md ops Q S n f (l.setIfInBounds i true) (A.put oi.dst v) w → Till P md ops Q S n (f + 1) l A w := by
  have one : ∀ (f : Nat) (l : Array Bool) (A : Act) (w : World), YieldsIf P ops S oi v A → S w → Till P md ops Q S n f (l.setIfInBounds i true) (A.put oi.dst v) w →
      wpOp P ops Q i (fun A' w' => (i ≠ n → S w') ∧ Till P md ops Q S n f (l.setIfInBounds i true) A' w') A w := fun f l A w hy hS H => hy.wpOp hi hS ⟨fun _ => hS, H⟩
  intro f
  induction f with
  | zero =>
    intro l A w _ hr hy hS H
    refine ⟨fun e => absurd (e ▸ hr) (by simp), fun j hj => ?_⟩
    by_cases e : j = i
    · subst e; exact one 0 l A w hy hS H
    · have h0 := ready_mono hj e
      rw [H.1] at h0
      cases h0
  | succ f ih =>
    intro l A w hfree hr hy hS H
    refine ⟨fun e => absurd (e ▸ hr) (by simp), fun j hj => ?_⟩
    by_cases e : j = i
    · subst e; exact one _ l A w hy hS H
    have hjn : j ≠ n := fun h => waits_not hn hr (h ▸ hj)
    obtain ⟨hjun, oj, hoj, hall⟩ := mem_ready.1 hj
    have hno : ∀ e ∈ oj.after, Region.binds md e = true → e.on ≠ i := fun e he hb heq => by
      have h1 := hall e he hb
      rw [heq, getD_both (mem_ready.1 hr).1] at h1
      cases h1
    refine wpOp_mono (fun A' w' h3 => ⟨h3.2.1, ih (l.setIfInBounds j true) A' w' (fun k ok hk hki hun hw => hfree k ok hk hki ?_ hw) (ready_mono hr (Ne.symm e)) h3.1 (h3.2.1 hjn) ?_⟩)
      (wpOp_putIf hoj (hfree j oj hoj e hjun hno) (fun cs b => hsel i oi cs b hi) (fun cs b => hsel j oj cs b hoj) hQ hy (H.2 j (ready_mono hj e)))
    · by_cases hjk : j = k
      · subst hjk; exact hjun
      · rw [getD_set_ne true hjk] at hun; exact hun
    · rw [Array.setIfInBounds_comm _ _ e]
      exact h3.2.2
theorem Till.take {i : Nat} {oi : Oper} {v : Value} {f : Nat} {l : Array Bool} {A : Act} {w : World} (hi : ops[i]? = some oi) (hn : Region.waitsFor md ops n i = true)
    (hs : Region.noSelect ops = true) (hf : Region.free md ops l i = true) (hr : (Region.ready md ops l).contains i = true)
    (hQ : ∀ c A w, Q (.panic c) (A.put oi.dst v) w → Q (.panic c) A w) (hy : YieldsIf P ops S oi v A) (hS : S w) (h : Till P md ops Q S n f (l.setIfInBounds i true) (A.put oi.dst v) w) : Till P md ops Q S n (f + 1) l A w :=
  Till.first hi (Region.noSelect_spec hs) hQ hn f l A w (Region.free_spec hi hf) (by simpa using hr) hy hS h
/-- One alone may come up. -/
theorem Till.one {i : Nat} {o : Oper} {f : Nat} {l : Array Bool} {A : Act} {w : World} (hr : Region.ready md ops l = [i]) (ho : ops[i]? = some o)
    (h : ∀ K : Act → World → Prop, Shut (∀ A' w', S w' → Till P md ops Q S n f (l.setIfInBounds i true) A' w' → K A' w') → if Region.wanted o (yielded ops A.tmps) = true then Oper.wp P o A w K Q else K (A.put o.dst undef) w) : Till P md ops Q S n (f + 1) l A w := by
  refine ⟨fun e => absurd (hr.symm.trans e) (by simp), fun j hj => ?_⟩
  rw [hr, List.mem_singleton] at hj
  subst hj
  exact wpOp_step ho fun K hK => h K fun A' w' hS hT => hK A' w' ⟨fun _ => hS, hT⟩
/-- .. and yields its value. -/
theorem Till.pure {i : Nat} {o : Oper} {v : Value} {f : Nat} {l : Array Bool} {A : Act} {w : World} (hr : Region.ready md ops l = [i]) (ho : ops[i]? = some o) (hy : YieldsIf P ops S o v A) (hS : S w)
    (h : Till P md ops Q S n f (l.setIfInBounds i true) (A.put o.dst v) w) : Till P md ops Q S n (f + 1) l A w := by
  refine ⟨fun e => absurd (hr.symm.trans e) (by simp), fun j hj => ?_⟩
  rw [hr, List.mem_singleton] at hj
  subst hj
  exact hy.wpOp ho hS ⟨fun _ => hS, h⟩
/-- The n-th comes up last. -/
theorem Till.last {o : Oper} {f : Nat} {l : Array Bool} {A : Act} {w : World} (hr : Region.ready md ops l = [n]) (hd : Region.ready md ops (l.setIfInBounds n true) = []) (ho : ops[n]? = some o)
    (h : ∀ K : Act → World → Prop, Shut (∀ A' w', Q .normal A' w' → K A' w') → if Region.wanted o (yielded ops A.tmps) = true then Oper.wp P o A w K Q else K (A.put o.dst undef) w) : Till P md ops Q S n (f + 1) l A w := by
  refine ⟨fun e => absurd (hr.symm.trans e) (by simp), fun j hj => ?_⟩
  rw [hr, List.mem_singleton] at hj
  subst hj
  refine wpOp_step ho fun K hK => h K fun A' w' hQ => hK A' w' ⟨fun e => absurd rfl e, ?_⟩
  cases f with
  | zero => exact ⟨hd, hQ⟩
  | succ f => exact ⟨fun _ => hQ, by rw [hd]; simp⟩
theorem Till.start {id : Nat} {A : Act} {w : World} (hm : P.follows .mixedOrders = true) (hS : S w.drew) (h : S w.drew → Till P .any ops Q S n ops.size (Array.replicate ops.size false) A w.drew) : (Code.region id ops true).wp P Q A w :=
  wp_region_any hm (Till.any _ _ _ _ (h hS))
end
end Go.Proofs.Ytekmopoblfknlaa
