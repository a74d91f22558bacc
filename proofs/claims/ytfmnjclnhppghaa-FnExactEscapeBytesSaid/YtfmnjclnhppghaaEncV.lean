/- The encodings of values, as bytes: wrapE (what a rule adds to the encodings of its items), encV, encs; their lengths. No program is walked here. -/
import Derived.Test.YtfmnjclnhppghaaPrintP
import Derived.Test.YtfmnjclnhppghaaGEnd
namespace Go.Proofs.Ytfmnjclnhppghaa
open Go Go.RowKit
/-- Bytes with their escapes. -/
def escB (t : UInt8) : List UInt8 → List UInt8
  | [] => []
  | b :: bs => (if b = t ∨ b = 92 then [92, b] else [b]) ++ escB t bs
theorem escB_length (t : UInt8) : ∀ bs, (escB t bs).length = escLen t bs
  | [] => rfl
  | b :: bs => by
    rw [escB, escLen, List.length_append, escB_length t bs]
    split <;> rfl
theorem escB_next {t : UInt8} {bs : List UInt8} {j : Nat} (h : j < bs.length) : escB t (bs.drop j) = (if bs[j] = t ∨ bs[j] = 92 then [92, bs[j]] else [bs[j]]) ++ escB t (bs.drop (j + 1)) := by
  rw [List.drop_eq_getElem_cons h, escB]
/-- The encoding of a value of a rule, its own number and bytes, and the encodings of its n items. -/
def wrapE (rs : List RuleV) (r : RuleV) (x : Int) (b : List UInt8) (n : Nat) (inner : List UInt8) : List UInt8 :=
  if r.kind = 1 then encI r.little x r.size
  else if r.kind = 2 then r.bytes
  else if r.kind = 3 then b
  else if r.kind = 4 then encI (ruleAt rs (r.kids.getD 0 0)).little ((b.length : Nat) : Int) (ruleAt rs (r.kids.getD 0 0)).size ++ b
  else if r.kind = 5 then encI (ruleAt rs (r.kids.getD 0 0)).little ((n : Nat) : Int) (ruleAt rs (r.kids.getD 0 0)).size ++ inner
  else if r.kind = 7 then encI (ruleAt rs (r.kids.getD 0 0)).little x (ruleAt rs (r.kids.getD 0 0)).size ++ inner
  else if r.kind = 8 then [UInt8.ofNat n] ++ inner
  else if r.kind = 9 then inner ++ [UInt8.ofNat (sumB inner 0)]
  else if r.kind = 10 then inner ++ escB (r.bytes.getD 0 0) b ++ [r.bytes.getD 0 0]
  else inner
mutual
/-- The encoding of a value of a rule. -/
def encV (rs : List RuleV) (k : Int) : ValueV → List UInt8
  | .mk n b l => wrapE rs (ruleAt rs k) n b l.length (encs rs (ruleAt rs k) n 0 l)
/-- The encodings of items, from the one numbered i on. -/
def encs (rs : List RuleV) (r : RuleV) (x : Int) (i : Nat) : List ValueV → List UInt8
  | [] => []
  | v :: vs => encV rs (itemR r x i) v ++ encs rs r x (i + 1) vs
end
theorem encV_eq (rs : List RuleV) (k : Int) (v : ValueV) : encV rs k v = wrapE rs (ruleAt rs k) v.number v.bytes v.items.length (encs rs (ruleAt rs k) v.number 0 v.items) := by
  cases v with
  | mk n b l => rw [encV]; rfl
theorem encs_next {rs : List RuleV} {r : RuleV} {x : Int} {q : Nat} {l : List ValueV} (h : q < l.length) : encs rs r x q (l.drop q) = encV rs (itemR r x q) l[q] ++ encs rs r x (q + 1) (l.drop (q + 1)) := by
  rw [List.drop_eq_getElem_cons h, encs]
theorem wrap_1 {rs : List RuleV} {r : RuleV} {x : Int} {b : List UInt8} {n : Nat} {i : List UInt8} (h : r.kind = 1) : wrapE rs r x b n i = encI r.little x r.size := by simp [wrapE, h]
theorem wrap_2 {rs : List RuleV} {r : RuleV} {x : Int} {b : List UInt8} {n : Nat} {i : List UInt8} (h : r.kind = 2) : wrapE rs r x b n i = r.bytes := by simp [wrapE, h]
theorem wrap_3 {rs : List RuleV} {r : RuleV} {x : Int} {b : List UInt8} {n : Nat} {i : List UInt8} (h : r.kind = 3) : wrapE rs r x b n i = b := by simp [wrapE, h]
theorem wrap_4 {rs : List RuleV} {r : RuleV} {x : Int} {b : List UInt8} {n : Nat} {i : List UInt8} {m : Nat} (hm : m < rs.length) (hmk : r.kids.getD 0 0 = (m : Int)) (h : r.kind = 4) : wrapE rs r x b n i = encI rs[m].little ((b.length : Nat) : Int) rs[m].size ++ b := by
  unfold wrapE; rw [if_neg (by omega), if_neg (by omega), if_neg (by omega), if_pos h, hmk, ruleAt_at hm]
theorem wrap_5 {rs : List RuleV} {r : RuleV} {x : Int} {b : List UInt8} {n : Nat} {i : List UInt8} {m : Nat} (hm : m < rs.length) (hmk : r.kids.getD 0 0 = (m : Int)) (h : r.kind = 5) : wrapE rs r x b n i = encI rs[m].little ((n : Nat) : Int) rs[m].size ++ i := by
  unfold wrapE; rw [if_neg (by omega), if_neg (by omega), if_neg (by omega), if_neg (by omega), if_pos h, hmk, ruleAt_at hm]
theorem wrap_6 {rs : List RuleV} {r : RuleV} {x : Int} {b : List UInt8} {n : Nat} {i : List UInt8} (h : r.kind = 6) : wrapE rs r x b n i = i := by simp [wrapE, h]
theorem wrap_7 {rs : List RuleV} {r : RuleV} {x : Int} {b : List UInt8} {n : Nat} {i : List UInt8} {m : Nat} (hm : m < rs.length) (hmk : r.kids.getD 0 0 = (m : Int)) (h : r.kind = 7) : wrapE rs r x b n i = encI rs[m].little x rs[m].size ++ i := by
  unfold wrapE; rw [if_neg (by omega), if_neg (by omega), if_neg (by omega), if_neg (by omega), if_neg (by omega), if_pos h, hmk, ruleAt_at hm]
theorem wrap_8 {rs : List RuleV} {r : RuleV} {x : Int} {b : List UInt8} {n : Nat} {i : List UInt8} (h : r.kind = 8) : wrapE rs r x b n i = [UInt8.ofNat n] ++ i := by simp [wrapE, h]
theorem wrap_9 {rs : List RuleV} {r : RuleV} {x : Int} {b : List UInt8} {n : Nat} {i : List UInt8} (h : r.kind = 9) : wrapE rs r x b n i = i ++ [UInt8.ofNat (sumB i 0)] := by simp [wrapE, h]
theorem wrap_10 {rs : List RuleV} {r : RuleV} {x : Int} {b : List UInt8} {n : Nat} {i : List UInt8} (h : r.kind = 10) : wrapE rs r x b n i = i ++ escB (r.bytes.getD 0 0) b ++ [r.bytes.getD 0 0] := by simp [wrapE, h]
theorem wrap_length {rs : List RuleV} (hall : allV (kindI rs) rs) {k : Nat} (hk : k < rs.length) {v : ValueV} (hown : ownB rs rs[k] v = true) {I : List UInt8} (hI : I.length = plens rs rs[k] v.number 0 v.items) : (wrapE rs rs[k] v.number v.bytes v.items.length I).length = headLen rs rs[k] v.bytes + plens rs rs[k] v.number 0 v.items := by
  have hki := allV_kind hall hk
  have hkn := kindI_known hki
  rcases (by omega : rs[k].kind = 1 ∨ rs[k].kind = 2 ∨ rs[k].kind = 3 ∨ rs[k].kind = 4 ∨ rs[k].kind = 5 ∨ rs[k].kind = 6 ∨ rs[k].kind = 7 ∨ rs[k].kind = 8 ∨ rs[k].kind = 9 ∨ rs[k].kind = 10) with e | e | e | e | e | e | e | e | e | e
  · rw [wrap_1 e, print_1 hki e hown]
  · rw [wrap_2 e, print_2 e hown]
  · rw [wrap_3 e, print_3 e hown]
  · obtain ⟨h1, m, hm, hmk⟩ := kid_int hall hk (by omega)
    have hmr : m < rs.length := by omega
    rw [hm, ruleAt_at hmr] at h1
    rw [wrap_4 hmr hm e, List.length_append, print_4 hall hmr hm h1 e hown]
  · obtain ⟨h1, m, hm, hmk⟩ := kid_int hall hk (by omega)
    have hmr : m < rs.length := by omega
    rw [hm, ruleAt_at hmr] at h1
    rw [wrap_5 hmr hm e, List.length_append, hI, print_5 hall hmr hm h1 e hown]
  · rw [wrap_6 e, hI]; simp [headLen, e]
  · obtain ⟨h1, m, hm, hmk⟩ := kid_int hall hk (by omega)
    have hmr : m < rs.length := by omega
    rw [hm, ruleAt_at hmr] at h1
    rw [wrap_7 hmr hm e, List.length_append, hI, print_7 hall hki hmr hm h1 e hown]
  · rw [wrap_8 e, List.length_append, hI]; simp [headLen, e]
  · rw [wrap_9 e, List.length_append, hI]; simp [headLen, e]; omega
  · rw [wrap_10 e, List.length_append, List.length_append, escB_length, hI]; simp [headLen, e]; omega
theorem encs_length {rs : List RuleV} {r : RuleV} {x : Int} : ∀ (l : List ValueV) (i : Nat), (∀ q (h : q < l.length), (encV rs (itemR r x (i + q)) l[q]).length = plen rs (itemR r x (i + q)) l[q]) → (encs rs r x i l).length = plens rs r x i l
  | [], _, _ => by rw [encs, plens]; rfl
  | v :: l, i, h => by
    rw [encs, plens, List.length_append, encs_length l (i + 1) (fun q hq => by
      have := h (q + 1) (by simpa using hq)
      rw [show i + 1 + q = i + (q + 1) from by omega]
      simpa using this)]
    have h0 := h 0 (by simp)
    simp only [Nat.add_zero, List.getElem_cons_zero] at h0
    rw [h0]
theorem encV_length {rs : List RuleV} (hall : allV (kindI rs) rs) : ∀ (k : Nat) (_ : k < rs.length) (v : ValueV), validV rs (k : Int) v = true → (encV rs (k : Int) v).length = plen rs (k : Int) v := by
  intro k
  induction k using Nat.strongRecOn with
  | _ k ih =>
    intro hk v hv
    obtain ⟨hown, hit⟩ := items_of hall hk hv
    rw [encV_eq, plen_eq, ruleAt_at hk]
    refine wrap_length hall hk hown (encs_length _ 0 fun q hq => ?_)
    obtain ⟨m, hm, hmk, hvi⟩ := hit q hq
    rw [Nat.zero_add, hm]
    exact ih m hmk (by omega) _ hvi
end Go.Proofs.Ytfmnjclnhppghaa
