/- What was printed is read back; what was read is read of more bytes, too. No program is walked here. -/
import Derived.Test.YtefkhknfjohnaaaGP
import Derived.Test.YtefkhknfjohnaaaPE
import Derived.Test.YtefkhknfjohnaaaDefP
namespace Go.Proofs.Ytefkhknfjohnaaa
open Go Go.RowKit
theorem readB_beB9 (m : Nat) : ∀ (S k : Nat), readB (beB m S) k = k * 256 ^ S + m % 256 ^ S
  | 0, k => by simp [beB, readB, Nat.mod_one]
  | S + 1, k => by
    have e0 : m % 256 ^ (S + 1) = m % 256 ^ S + 256 ^ S * (m / 256 ^ S % 256) := by rw [Nat.pow_succ, Nat.mod_mul]
    have e1 : k * 256 ^ (S + 1) = k * 256 * 256 ^ S := by rw [Nat.pow_succ, Nat.mul_comm (256 ^ S) 256, Nat.mul_assoc]
    rw [beB, readB, readB_beB9 m S, UInt8.toNat_ofNat', e0, e1, Nat.add_mul, show (2 : Nat) ^ 8 = 256 from rfl, Nat.mul_comm (m / 256 ^ S % 256)]
    omega
theorem read_enc9 {little : Bool} {x s : Int} (h1 : 1 ≤ s) (h4 : s ≤ 4) (h0 : 0 ≤ x) (hx : x ≤ pow256 s - 1) : (readI (encI little x s) little : Int) = x := by
  have hl := enc_len (little := little) h1 h4 h0 hx
  have hp := pow_eq h1 h4
  obtain ⟨S, rfl⟩ : ∃ S : Nat, s = (S : Int) := ⟨s.toNat, by omega⟩
  obtain ⟨m, rfl⟩ : ∃ m : Nat, x = (m : Int) := ⟨x.toNat, by omega⟩
  rw [Int.toNat_natCast] at hl hp
  have hm : m < 256 ^ S := by
    have h2 : ((m : Nat) : Int) < (256 : Int) ^ S := by omega
    have h3 : ((256 ^ S : Nat) : Int) = (256 : Int) ^ S := Int.natCast_pow 256 S
    omega
  have e : beOf (m : Int) (S : Int) = beB m S := by
    unfold beOf
    rw [Int.toNat_natCast, Int.toNat_natCast, if_pos ⟨h1, h4, h0, by omega⟩]
  have hr : readB (beB m S) 0 = m := by rw [readB_beB9, Nat.zero_mul, Nat.zero_add, Nat.mod_eq_of_lt hm]
  unfold readI
  rw [if_neg (by omega)]
  unfold encI orderB
  rw [e]
  cases little <;> simp [hr]
theorem drop_len {L A R : List UInt8} {p : Nat} (h : L.drop p = A ++ R) (hp : p ≤ L.length) : p + A.length ≤ L.length := by
  have := congrArg List.length h
  rw [List.length_drop, List.length_append] at this
  omega
theorem drop_next {L A R : List UInt8} {p : Nat} (h : L.drop p = A ++ R) : L.drop (p + A.length) = R := by
  rw [← List.drop_drop, h]
  simp
theorem drop_take {L A R : List UInt8} {p : Nat} (h : L.drop p = A ++ R) : (L.drop p).take A.length = A := by
  rw [h]; simp
theorem gotInt_enc {r : RuleV} {L R : List UInt8} {p : Nat} {x : Int} (h1 : 1 ≤ r.size) (h4 : r.size ≤ 4) (h0 : 0 ≤ x) (hx : x ≤ pow256 r.size - 1) (hp : p ≤ L.length) (h : L.drop p = encI r.little x r.size ++ R) :
    gotInt r L p = .ok x (p + (encI r.little x r.size).length) := by
  have hl : (encI r.little x r.size).length = r.size.toNat := encI_length h1 h4 h0 (by rw [pow_eq h1 h4]; omega)
  have h2 := drop_len h hp
  have h3 := drop_take h
  unfold gotInt
  rw [if_neg (by omega), ← hl, h3, read_enc9 h1 h4 h0 hx]
theorem gotConst_enc (p : Nat) : ∀ (cs R : List UInt8) (i : Nat), gotConst p cs (cs ++ R) i = .ok (.mk 0 [] []) (p + i + cs.length)
  | [], R, i => by rw [gotConst]; rfl
  | c :: cs, R, i => by
    rw [List.cons_append, gotConst, if_pos rfl, gotConst_enc p cs R (i + 1)]
    congr 1
    rw [List.length_cons]; omega
theorem gotBytes_enc {L R b : List UInt8} {p : Nat} (hp : p ≤ L.length) (h : L.drop p = b ++ R) : gotBytes L p b.length = .ok (.mk 0 b []) (p + b.length) := by
  have h2 := drop_len h hp
  unfold gotBytes
  rw [if_neg (by omega), drop_take h]
theorem termR_enc {t : UInt8} (ht : t ≠ 92) : ∀ (b R : List UInt8), termR t (escB t b ++ [t] ++ R) false = some (b, (escB t b).length + 1)
  | [], R => by simp [escB, termR]
  | c :: b, R => by
    have ih := termR_enc ht b R
    rw [escB]
    by_cases hc : c = t ∨ c = 92
    · rw [if_pos hc]
      simp only [List.cons_append, List.nil_append]
      rw [termR, if_neg (fun h => ht h.2.symm), if_pos ⟨rfl, rfl⟩, termR, if_neg (by simp), if_neg (by simp), ih]
      simp
    · rw [if_neg hc]
      simp only [List.cons_append, List.nil_append]
      rw [termR, if_neg (fun h => hc (.inl h.2)), if_neg (fun h => hc (.inr h.2)), ih]
      simp
theorem gotItems_enc {rs : List RuleV} {r : RuleV} {x : Int} {L : List UInt8} {rd : Int → Nat → Got ValueV} : ∀ (l acc : List ValueV) (p : Nat) (R : List UInt8),
    (∀ q (h : q < l.length) (p : Nat) (R : List UInt8), p ≤ L.length → L.drop p = encV rs (itemR r x ((acc.length + q : Nat) : Int).toNat) l[q] ++ R → rd (itemR r x (acc.length + q)) p = .ok l[q] (p + (encV rs (itemR r x (acc.length + q)) l[q]).length)) →
    p ≤ L.length → L.drop p = encs rs r x acc.length l ++ R → gotItems rd r x l.length acc p = .ok (acc ++ l) (p + (encs rs r x acc.length l).length)
  | [], acc, p, R, _, _, _ => by simp [gotItems, encs]
  | v :: l, acc, p, R, hrd, hp, h => by
    rw [encs, List.append_assoc] at h
    have h0 := hrd 0 (by simp) p _ hp (by simpa using h)
    simp only [Nat.add_zero, List.getElem_cons_zero] at h0
    rw [List.length_cons, gotItems, h0]
    simp only
    have h2 := drop_next h
    have h3 := drop_len h hp
    have hl : (acc ++ [v]).length = acc.length + 1 := by simp
    rw [gotItems_enc (rs := rs) (L := L) l (acc ++ [v]) _ R (fun q hq p R hp h => ?_) h3 (by rw [h2, hl])]
    · rw [hl, encs, List.length_append, List.append_assoc, List.singleton_append, Nat.add_assoc]
    · have h4 := hrd (q + 1) (by simpa using hq) p R hp
      rw [hl] at h ⊢
      rw [show acc.length + 1 + q = acc.length + (q + 1) from by omega] at h ⊢
      simp only [List.getElem_cons_succ] at h4
      exact h4 h
theorem kindI_term {rs : List RuleV} {r : RuleV} (h : kindI rs r = true) (hk : r.kind = 10) : r.bytes.getD 0 0 ≠ 92 := by
  simp [kindI, meetsB, hk, termB] at h
  cases hb : r.bytes with
  | nil => simp
  | cons b bs =>
    have := h.1.2
    rw [hb] at this
    simpa using this
theorem tag_in {x : Int} : ∀ {ts ks : List Int}, 0 ≤ tagKid ts ks x → x ∈ ts
  | [], ks, h => by cases ks <;> (simp [tagKid] at h)
  | t :: ts, [], h => by simp [tagKid] at h
  | t :: ts, k :: ks, h => by
    unfold tagKid at h
    by_cases e : t = x
    · simp [e]
    · rw [if_neg e] at h
      exact List.mem_cons_of_mem _ (tag_in h)
theorem choice_num {rs : List RuleV} (hall : allV (kindI rs) rs) {k : Nat} (hk : k < rs.length) (e : rs[k].kind = 7) {v : ValueV} (h : ownB rs rs[k] v = true) : 0 ≤ v.number ∧ v.number ≤ limitAt rs (rs[k].kids.getD 0 0) := by
  have hki := allV_kind hall hk
  simp only [ownB, e, Int.reduceEq, reduceIte, Bool.and_eq_true, decide_eq_true_eq] at h
  obtain ⟨-, -, h4⟩ := h
  unfold itemR at h4
  rw [if_neg (by omega), if_neg (by omega), if_pos e] at h4
  have hm := tag_in h4
  simp [kindI, meetsB, e] at hki
  have h1 := hki.1
  unfold tagsB at h1
  rw [Bool.and_eq_true] at h1
  have h12 : rs[k].kids.headD 0 = rs[k].kids.getD 0 0 := by cases rs[k].kids <;> rfl
  rw [h12] at h1
  exact tagsOk_in h1.2 _ hm
theorem own_val {v : ValueV} {n : Int} {b : List UInt8} {l : List ValueV} (h1 : v.number = n) (h2 : v.bytes = b) (h3 : v.items = l) : v = .mk n b l := by
  cases v with
  | mk n' b' l' =>
    subst h1 h2 h3
    rfl
theorem nil_of {α : Type} {l : List α} (h : l.length = 0) : l = [] := List.eq_nil_of_length_eq_zero h
theorem parse_enc {rs : List RuleV} (hall : allV (kindI rs) rs) : ∀ (n k : Nat) (_ : k < rs.length) (_ : k < n) (v : ValueV) (_ : validV rs (k : Int) v = true) (L R : List UInt8) (p : Nat) (_ : p ≤ L.length) (_ : L.drop p = encV rs (k : Int) v ++ R),
    parseB rs L n (k : Int) p = .ok v (p + (encV rs (k : Int) v).length)
  | 0, _, _, h, _, _, _, _, _, _, _ => by omega
  | n + 1, k, hk, hn, v, hv, L, R, p, hp, h => by
    obtain ⟨hown, hit⟩ := items_of hall hk hv
    have hki := allV_kind hall hk
    have hkn := kindI_known hki
    rw [encV_eq, ruleAt_at hk] at h ⊢
    have hits : ∀ (p : Nat) (R : List UInt8), p ≤ L.length → L.drop p = encs rs rs[k] v.number 0 v.items ++ R → gotItems (parseB rs L n) rs[k] v.number v.items.length [] p = .ok v.items (p + (encs rs rs[k] v.number 0 v.items).length) := fun p R hp h => by
      have h9 := gotItems_enc (rs := rs) (r := rs[k]) (x := v.number) (L := L) (rd := parseB rs L n) v.items [] p R (fun q hq p R hp h => by
        obtain ⟨m, hm, hmk, hvi⟩ := hit q hq
        simp only [List.length_nil, Nat.zero_add, Int.toNat_natCast] at h ⊢
        rw [hm] at h ⊢
        exact parse_enc hall n m (by omega) (by omega) _ hvi L R p hp h) hp h
      simpa using h9
    rw [parseB, ruleAt_at hk]
    rcases (by omega : rs[k].kind = 1 ∨ rs[k].kind = 2 ∨ rs[k].kind = 3 ∨ rs[k].kind = 4 ∨ rs[k].kind = 5 ∨ rs[k].kind = 6 ∨ rs[k].kind = 7 ∨ rs[k].kind = 8 ∨ rs[k].kind = 9 ∨ rs[k].kind = 10) with e | e | e | e | e | e | e | e | e | e
    · have h1 := kindI_size hki e
      simp only [ownB, e, Int.reduceEq, reduceIte, Bool.and_eq_true, decide_eq_true_eq] at hown
      obtain ⟨h2, h3, h4⟩ := hown
      rw [if_pos e]
      rw [wrap_1 e] at h ⊢
      rw [gotInt_enc h1.1 h1.2 h2.1 h2.2 hp h]
      rw [own_val (v := v) rfl (nil_of h3) (nil_of h4)]
      rfl
    · simp only [ownB, e, Int.reduceEq, reduceIte, Bool.and_eq_true, decide_eq_true_eq] at hown
      obtain ⟨h2, h3, h4⟩ := hown
      rw [if_neg (by omega), if_pos e]
      rw [wrap_2 e] at h ⊢
      rw [h, gotConst_enc, own_val (v := v) h2 (nil_of h3) (nil_of h4)]
      rfl
    · simp only [ownB, e, Int.reduceEq, reduceIte, Bool.and_eq_true, decide_eq_true_eq] at hown
      obtain ⟨h2, h3, h4⟩ := hown
      rw [if_neg (by omega), if_neg (by omega), if_pos e]
      rw [wrap_3 e] at h ⊢
      rw [show rs[k].size.toNat = v.bytes.length from by omega, gotBytes_enc hp h, ← own_val (v := v) h2 rfl (nil_of h4)]
    · obtain ⟨hm1, m, hm, hmk⟩ := kid_int hall hk (by omega)
      have hmr : m < rs.length := by omega
      have hlim := kid_limit hall hk (by omega)
      rw [hm] at hm1 hlim
      rw [ruleAt_at hmr] at hm1
      have h1 := kindI_size (allV_kind hall hmr) hm1
      rw [limitAt_in hmr, if_pos ⟨hm1, h1⟩] at hlim
      simp only [ownB, e, Int.reduceEq, reduceIte, Bool.and_eq_true, decide_eq_true_eq] at hown
      obtain ⟨h2, h3, h4⟩ := hown
      rw [hm, limitAt_in hmr, if_pos ⟨hm1, h1⟩] at h3
      rw [if_neg (by omega), if_neg (by omega), if_neg (by omega), if_neg (by omega), if_neg (by omega), if_neg (by omega), if_neg (by omega), hm, ruleAt_at hmr]
      rw [wrap_4 hmr hm e] at h ⊢
      rw [List.append_assoc] at h
      rw [gotInt_enc h1.1 h1.2 (by omega) (by omega) hp h]
      simp only
      rw [if_neg (by omega), if_pos e, Int.toNat_natCast, gotBytes_enc (drop_len h hp) (drop_next h), List.length_append, ← Nat.add_assoc, ← own_val (v := v) h2 rfl (nil_of h4)]
    · obtain ⟨hm1, m, hm, hmk⟩ := kid_int hall hk (by omega)
      have hmr : m < rs.length := by omega
      rw [hm, ruleAt_at hmr] at hm1
      have h1 := kindI_size (allV_kind hall hmr) hm1
      simp only [ownB, e, Int.reduceEq, reduceIte, Bool.and_eq_true, decide_eq_true_eq] at hown
      obtain ⟨h2, h3, h4⟩ := hown
      rw [hm, limitAt_in hmr, if_pos ⟨hm1, h1⟩] at h4
      rw [if_neg (by omega), if_neg (by omega), if_neg (by omega), if_neg (by omega), if_neg (by omega), if_neg (by omega), if_neg (by omega), hm, ruleAt_at hmr]
      rw [wrap_5 hmr hm e] at h ⊢
      rw [List.append_assoc] at h
      rw [gotInt_enc h1.1 h1.2 (by omega) (by omega) hp h]
      simp only
      have h8 := hits _ R (drop_len h hp) (drop_next h)
      rw [h2] at h8
      rw [if_neg (by omega), if_neg (by omega), if_neg (by omega), Int.toNat_natCast, h2, h8, List.length_append, ← Nat.add_assoc]
      conv => rhs; rw [own_val (v := v) h2 (nil_of h3) rfl]
      rfl
    · simp only [ownB, e, Int.reduceEq, reduceIte, Bool.and_eq_true, decide_eq_true_eq] at hown
      obtain ⟨h2, h3, h4⟩ := hown
      rw [if_neg (by omega), if_neg (by omega), if_neg (by omega), if_neg (by omega), if_pos e]
      rw [wrap_6 e] at h ⊢
      have h8 := hits _ R hp h
      rw [h2] at h8 ⊢
      rw [← h4, h8]
      conv => rhs; rw [own_val (v := v) h2 (nil_of h3) rfl]
      rfl
    · obtain ⟨hm1, m, hm, hmk⟩ := kid_int hall hk (by omega)
      have hmr : m < rs.length := by omega
      rw [hm, ruleAt_at hmr] at hm1
      have h1 := kindI_size (allV_kind hall hmr) hm1
      have hnum := choice_num hall hk e hown
      rw [hm, limitAt_in hmr, if_pos ⟨hm1, h1⟩] at hnum
      simp only [ownB, e, Int.reduceEq, reduceIte, Bool.and_eq_true, decide_eq_true_eq] at hown
      obtain ⟨h2, h3, h4⟩ := hown
      rw [if_neg (by omega), if_neg (by omega), if_neg (by omega), if_neg (by omega), if_neg (by omega), if_neg (by omega), if_neg (by omega), hm, ruleAt_at hmr]
      rw [wrap_7 hmr hm e] at h ⊢
      rw [List.append_assoc] at h
      rw [gotInt_enc h1.1 h1.2 (by omega) (by omega) hp h]
      simp only
      have h8 := hits _ R (drop_len h hp) (drop_next h)
      rw [h3] at h8
      rw [if_pos e, if_neg (by omega), h8, List.length_append, ← Nat.add_assoc]
      conv => rhs; rw [own_val (v := v) rfl (nil_of h2) rfl]
      rfl
    · simp only [ownB, e, Int.reduceEq, reduceIte, Bool.and_eq_true, decide_eq_true_eq] at hown
      obtain ⟨h2, h3, h4⟩ := hown
      rw [if_neg (by omega), if_neg (by omega), if_neg (by omega), if_neg (by omega), if_neg (by omega), if_pos e]
      rw [wrap_8 e] at h ⊢
      rw [List.append_assoc] at h
      have hp1 := drop_len h hp
      have hc : L[p]? = some (UInt8.ofNat v.items.length) := by
        have := congrArg (fun l => l[0]?) h
        simpa using this
      have hcn : (UInt8.ofNat v.items.length).toNat = v.items.length := by rw [UInt8.toNat_ofNat']; omega
      rw [hc]
      simp only
      have h8 := hits _ R hp1 (drop_next h)
      rw [h2] at h8 ⊢
      simp only [List.length_cons, List.length_nil, Nat.zero_add] at h8
      rw [hcn, if_neg (by omega), h8, List.length_append, ← Nat.add_assoc]
      conv => rhs; rw [own_val (v := v) h2 (nil_of h3) rfl]
      rfl
    · simp only [ownB, e, Int.reduceEq, reduceIte, Bool.and_eq_true, decide_eq_true_eq] at hown
      obtain ⟨h2, h3, h4⟩ := hown
      rw [if_neg (by omega), if_neg (by omega), if_neg (by omega), if_neg (by omega), if_neg (by omega), if_neg (by omega), if_pos e]
      rw [wrap_9 e] at h ⊢
      rw [List.append_assoc] at h
      have h8 := hits _ _ hp h
      have h9 := drop_next h
      have hq := drop_len h hp
      have ht := drop_take h
      rw [h2] at h8 h9 hq ht ⊢
      rw [h4] at h8
      rw [h8]
      have hc : L[p + (encs rs rs[k] 0 0 v.items).length]? = some (UInt8.ofNat (sumB (encs rs rs[k] 0 0 v.items) 0)) := by
        have := congrArg (fun l => l[0]?) h9
        simpa using this
      unfold gotSum
      simp only
      rw [hc]
      simp only
      rw [Nat.add_sub_cancel_left, ht, if_pos (by rw [UInt8.toNat_ofNat']; exact Nat.mod_eq_of_lt (sumB_lt _ _ (by omega)))]
      rw [List.length_append]
      conv => rhs; rw [own_val (v := v) h2 (nil_of h3) rfl]
      rfl
    · simp only [ownB, e, Int.reduceEq, reduceIte, Bool.and_eq_true, decide_eq_true_eq] at hown
      obtain ⟨h2, h3, h4⟩ := hown
      have ht := kindI_term hki e
      rw [if_neg (by omega), if_neg (by omega), if_neg (by omega), if_pos e]
      rw [wrap_10 e, nil_of h4] at h ⊢
      rw [encs, List.nil_append] at h ⊢
      unfold gotTerm
      rw [h, termR_enc ht]
      simp only
      rw [List.length_append]
      conv => rhs; rw [own_val (v := v) h2 rfl (nil_of h4)]
      rfl
end Go.Proofs.Ytefkhknfjohnaaa
