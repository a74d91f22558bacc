/- What was printed is read back; what was read is read of more bytes, too. No program is walked here. -/
import Derived.Test.YtdccjobgfjoflaaGreatDoorPGP
import Derived.Test.YtdccjobgfjoflaaGreatDoorPM1
import Derived.Test.YtdccjobgfjoflaaGreatDoorPGY
namespace Go.Proofs.YtdccjobgfjoflaaGreatDoor
open Go Go.RowKit
theorem readB_beB9 (m : Nat) : ∀ (S k : Nat), readB (beB m S) k = k * 256 ^ S + m % 256 ^ S
 | 0, k => by simp [beB, readB, Nat.mod_one]
 | S + 1, k => by
  have e0 : m % 256 ^ (S + 1) = m % 256 ^ S + 256 ^ S * (m / 256 ^ S % 256) := by rw [Nat.pow_succ, Nat.mod_mul]
  have e1 : k * 256 ^ (S + 1) = k * 256 * 256 ^ S := by rw [Nat.pow_succ, Nat.mul_comm (256 ^ S) 256, Nat.mul_assoc]
  rw [beB, readB, readB_beB9 m S, UInt8.toNat_ofNat', e0, e1, Nat.add_mul, show (2 : Nat) ^ 8 = 256 from rfl, Nat.mul_comm (m / 256 ^ S % 256)]
  omega
theorem read_enc9 {little : Bool} {x s : Int} (h1 : 1 ≤ s) (h4 : s ≤ 4) (h0 : 0 ≤ x) (hx : x ≤ pow256 s - 1) : (readI (encI little x s) little : Int) = x := by
 have hl := enc_len (little := little) h1 h4 h0 hx
 have hp := pow_eq h1 h4
 obtain ⟨S, rfl⟩ : ∃ S : Nat, s = (S : Int) := ⟨s.toNat, by omega⟩
 obtain ⟨m, rfl⟩ : ∃ m : Nat, x = (m : Int) := ⟨x.toNat, by omega⟩
 rw [Int.toNat_natCast] at hl hp
 have hm : m < 256 ^ S := by
  have h2 : ((m : Nat) : Int) < (256 : Int) ^ S := by omega
  have h3 : ((256 ^ S : Nat) : Int) = (256 : Int) ^ S := Int.natCast_pow 256 S
  omega
 have e : beOf (m : Int) (S : Int) = beB m S := by
  unfold beOf
  rw [Int.toNat_natCast, Int.toNat_natCast, if_pos ⟨h1, h4, h0, by omega⟩]
 have hr : readB (beB m S) 0 = m := by rw [readB_beB9, Nat.zero_mul, Nat.zero_add, Nat.mod_eq_of_lt hm]
 unfold readI
 rw [if_neg (by omega)]
 unfold encI orderB
 rw [e]
 cases little <;> simp [hr]
theorem drop_len {L A R : List UInt8} {p : Nat} (h : L.drop p = A ++ R) (hp : p ≤ L.length) : p + A.length ≤ L.length := by
 have := congrArg List.length h
 rw [List.length_drop, List.length_append] at this
 omega
theorem drop_next {L A R : List UInt8} {p : Nat} (h : L.drop p = A ++ R) : L.drop (p + A.length) = R := by
 rw [← List.drop_drop, h]
 simp
theorem drop_take {L A R : List UInt8} {p : Nat} (h : L.drop p = A ++ R) : (L.drop p).take A.length = A := by
 rw [h]; simp
theorem gotInt_enc {r : RuleV} {L R : List UInt8} {p : Nat} {x : Int} (h1 : 1 ≤ r.size) (h4 : r.size ≤ 4) (h0 : 0 ≤ x) (hx : x ≤ pow256 r.size - 1) (hp : p ≤ L.length) (h : L.drop p = encI r.little x r.size ++ R) :
  gotInt r L p = .ok x (p + (encI r.little x r.size).length) := by
 have hl : (encI r.little x r.size).length = r.size.toNat := encI_length h1 h4 h0 (by rw [pow_eq h1 h4]; omega)
 have h2 := drop_len h hp
 have h3 := drop_take h
 unfold gotInt
 rw [if_neg (by omega), ← hl, h3, read_enc9 h1 h4 h0 hx]
theorem gotConst_enc (p : Nat) : ∀ (cs R : List UInt8) (i : Nat), gotConst p cs (cs ++ R) i = .ok (.mk 0 [] []) (p + i + cs.length)
 | [], R, i => by rw [gotConst]; rfl
 | c :: cs, R, i => by
  rw [List.cons_append, gotConst, if_pos rfl, gotConst_enc p cs R (i + 1)]
  congr 1
  rw [List.length_cons]; omega
theorem gotBytes_enc {L R b : List UInt8} {p : Nat} (hp : p ≤ L.length) (h : L.drop p = b ++ R) : gotBytes L p b.length = .ok (.mk 0 b []) (p + b.length) := by
 have h2 := drop_len h hp
 unfold gotBytes
 rw [if_neg (by omega), drop_take h]
theorem termR_enc {t : UInt8} (ht : t ≠ 92) : ∀ (b R : List UInt8), termR t (escB t b ++ [t] ++ R) false = some (b, (escB t b).length + 1)
 | [], R => by simp [escB, termR]
 | c :: b, R => by
  have ih := termR_enc ht b R
  rw [escB]
  by_cases hc : c = t ∨ c = 92
  ·rw [if_pos hc]
   simp only [List.cons_append, List.nil_append]
   rw [termR, if_neg (fun h => ht h.2.symm), if_pos ⟨rfl, rfl⟩, termR, if_neg (by simp), if_neg (by simp), ih]
   simp
  ·rw [if_neg hc]
   simp only [List.cons_append, List.nil_append]
   rw [termR, if_neg (fun h => hc (.inl h.2)), if_neg (fun h => hc (.inr h.2)), ih]
   simp
theorem gotItems_enc {rs : List RuleV} {r : RuleV} {x : Int} {L : List UInt8} {rd : Int → Nat → Got ValueV} : ∀ (l acc : List ValueV) (p : Nat) (R : List UInt8),
  (∀ q (h : q < l.length) (p : Nat) (R : List UInt8), p ≤ L.length → L.drop p = encV rs (itemR r x ((acc.length + q : Nat) : Int).toNat) l[q] ++ R → rd (itemR r x (acc.length + q)) p = .ok l[q] (p + (encV rs (itemR r x (acc.length + q)) l[q]).length)) →
  p ≤ L.length → L.drop p = encs rs r x acc.length l ++ R → gotItems rd r x l.length acc p = .ok (acc ++ l) (p + (encs rs r x acc.length l).length)
 | [], acc, p, R, _, _, _ => by simp [gotItems, encs]
 | v :: l, acc, p, R, hrd, hp, h => by
  rw [encs, List.append_assoc] at h
  have h0 := hrd 0 (by simp) p _ hp (by simpa using h)
  simp only [Nat.add_zero, List.getElem_cons_zero] at h0
  rw [List.length_cons, gotItems, h0]
  simp only
  have h2 := drop_next h
  have h3 := drop_len h hp
  have hl : (acc ++ [v]).length = acc.length + 1 := by simp
  rw [gotItems_enc (rs := rs) (L := L) l (acc ++ [v]) _ R (fun q hq p R hp h => ?_) h3 (by rw [h2, hl])]
  ·rw [hl, encs, List.length_append, List.append_assoc, List.singleton_append, Nat.add_assoc]
  ·have h4 := hrd (q + 1) (by simpa using hq) p R hp
   rw [hl] at h ⊢
   rw [show acc.length + 1 + q = acc.length + (q + 1) from by omega] at h ⊢
   simp only [List.getElem_cons_succ] at h4
   exact h4 h
theorem kindI_term {rs : List RuleV} {r : RuleV} (h : kindI rs r = true) (hk : r.kind = 10) : r.bytes.getD 0 0 ≠ 92 := by
 simp [kindI, meetsB, hk, termB] at h
 cases hb : r.bytes with
 | nil => simp
 | cons b bs =>
  have := h.1.2
  rw [hb] at this
  simpa using this
theorem tag_in {x : Int} : ∀ {ts ks : List Int}, 0 ≤ tagKid ts ks x → x ∈ ts
 | [], ks, h => by cases ks <;> (simp [tagKid] at h)
 | t :: ts, [], h => by simp [tagKid] at h
 | t :: ts, k :: ks, h => by
  unfold tagKid at h
  by_cases e : t = x
  ·simp [e]
  ·rw [if_neg e] at h
   exact List.mem_cons_of_mem _ (tag_in h)
theorem choice_num {rs : List RuleV} (hall : allV (kindI rs) rs) {k : Nat} (hk : k < rs.length) (e : rs[k].kind = 7) {v : ValueV} (h : ownB rs rs[k] v = true) : 0 ≤ v.number ∧ v.number ≤ limitAt rs (rs[k].kids.getD 0 0) := by
 have hki := allV_kind hall hk
 simp only [ownB, e, Int.reduceEq, reduceIte, Bool.and_eq_true, decide_eq_true_eq] at h
 obtain ⟨-, -, h4⟩ := h
 unfold itemR at h4
 rw [if_neg (by omega), if_neg (by omega), if_pos e] at h4
 have hm := tag_in h4
 simp [kindI, meetsB, e] at hki
 have h1 := hki.1
 unfold tagsB at h1
 rw [Bool.and_eq_true] at h1
 have h12 : rs[k].kids.headD 0 = rs[k].kids.getD 0 0 := by cases rs[k].kids <;> rfl
 rw [h12] at h1
 exact tagsOk_in h1.2 _ hm
theorem own_val {v : ValueV} {n : Int} {b : List UInt8} {l : List ValueV} (h1 : v.number = n) (h2 : v.bytes = b) (h3 : v.items = l) : v = .mk n b l := by
 cases v with
 | mk n' b' l' =>
  subst h1 h2 h3
  rfl
theorem nil_of {α : Type} {l : List α} (h : l.length = 0) : l = [] := List.eq_nil_of_length_eq_zero h
theorem parse_enc {rs : List RuleV} (hall : allV (kindI rs) rs) : ∀ (n k : Nat) (_ : k < rs.length) (_ : k < n) (v : ValueV) (_ : validV rs (k : Int) v = true) (L R : List UInt8) (p : Nat) (_ : p ≤ L.length) (_ : L.drop p = encV rs (k : Int) v ++ R),
  parseB rs L n (k : Int) p = .ok v (p + (encV rs (k : Int) v).length)
 | 0, _, _, h, _, _, _, _, _, _, _ => by omega
 | n + 1, k, hk, hn, v, hv, L, R, p, hp, h => by
  obtain ⟨hown, hit⟩ := items_of hall hk hv
  have hki := allV_kind hall hk
  have hkn := kindI_known hki
  rw [encV_eq, ruleAt_at hk] at h ⊢
  have hits : ∀ (p : Nat) (R : List UInt8), p ≤ L.length → L.drop p = encs rs rs[k] v.number 0 v.items ++ R → gotItems (parseB rs L n) rs[k] v.number v.items.length [] p = .ok v.items (p + (encs rs rs[k] v.number 0 v.items).length) := fun p R hp h => by
   have h9 := gotItems_enc (rs := rs) (r := rs[k]) (x := v.number) (L := L) (rd := parseB rs L n) v.items [] p R (fun q hq p R hp h => by
    obtain ⟨m, hm, hmk, hvi⟩ := hit q hq
    simp only [List.length_nil, Nat.zero_add, Int.toNat_natCast] at h ⊢
    rw [hm] at h ⊢
    exact parse_enc hall n m (by omega) (by omega) _ hvi L R p hp h) hp h
   simpa using h9
  rw [parseB, ruleAt_at hk]
  rcases (by omega : rs[k].kind = 1 ∨ rs[k].kind = 2 ∨ rs[k].kind = 3 ∨ rs[k].kind = 4 ∨ rs[k].kind = 5 ∨ rs[k].kind = 6 ∨ rs[k].kind = 7 ∨ rs[k].kind = 8 ∨ rs[k].kind = 9 ∨ rs[k].kind = 10) with e | e | e | e | e | e | e | e | e | e
  ·have h1 := kindI_size hki e
   simp only [ownB, e, Int.reduceEq, reduceIte, Bool.and_eq_true, decide_eq_true_eq] at hown
   obtain ⟨h2, h3, h4⟩ := hown
   rw [if_pos e]
   rw [wrap_1 e] at h ⊢
   rw [gotInt_enc h1.1 h1.2 h2.1 h2.2 hp h]
   rw [own_val (v := v) rfl (nil_of h3) (nil_of h4)]
   rfl
  ·simp only [ownB, e, Int.reduceEq, reduceIte, Bool.and_eq_true, decide_eq_true_eq] at hown
   obtain ⟨h2, h3, h4⟩ := hown
   rw [if_neg (by omega), if_pos e]
   rw [wrap_2 e] at h ⊢
   rw [h, gotConst_enc, own_val (v := v) h2 (nil_of h3) (nil_of h4)]
   rfl
  ·simp only [ownB, e, Int.reduceEq, reduceIte, Bool.and_eq_true, decide_eq_true_eq] at hown
   obtain ⟨h2, h3, h4⟩ := hown
   rw [if_neg (by omega), if_neg (by omega), if_pos e]
   rw [wrap_3 e] at h ⊢
   rw [show rs[k].size.toNat = v.bytes.length from by omega, gotBytes_enc hp h, ← own_val (v := v) h2 rfl (nil_of h4)]
  ·obtain ⟨hm1, m, hm, hmk⟩ := kid_int hall hk (by omega)
   have hmr : m < rs.length := by omega
   have hlim := kid_limit hall hk (by omega)
   rw [hm] at hm1 hlim
   rw [ruleAt_at hmr] at hm1
   have h1 := kindI_size (allV_kind hall hmr) hm1
   rw [limitAt_in hmr, if_pos ⟨hm1, h1⟩] at hlim
   simp only [ownB, e, Int.reduceEq, reduceIte, Bool.and_eq_true, decide_eq_true_eq] at hown
   obtain ⟨h2, h3, h4⟩ := hown
   rw [hm, limitAt_in hmr, if_pos ⟨hm1, h1⟩] at h3
   rw [if_neg (by omega), if_neg (by omega), if_neg (by omega), if_neg (by omega), if_neg (by omega), if_neg (by omega), if_neg (by omega), hm, ruleAt_at hmr]
   rw [wrap_4 hmr hm e] at h ⊢
   rw [List.append_assoc] at h
   rw [gotInt_enc h1.1 h1.2 (by omega) (by omega) hp h]
   simp only
   rw [if_neg (by omega), if_pos e, Int.toNat_natCast, gotBytes_enc (drop_len h hp) (drop_next h), List.length_append, ← Nat.add_assoc, ← own_val (v := v) h2 rfl (nil_of h4)]
  ·obtain ⟨hm1, m, hm, hmk⟩ := kid_int hall hk (by omega)
   have hmr : m < rs.length := by omega
   rw [hm, ruleAt_at hmr] at hm1
   have h1 := kindI_size (allV_kind hall hmr) hm1
   simp only [ownB, e, Int.reduceEq, reduceIte, Bool.and_eq_true, decide_eq_true_eq] at hown
   obtain ⟨h2, h3, h4⟩ := hown
   rw [hm, limitAt_in hmr, if_pos ⟨hm1, h1⟩] at h4
   rw [if_neg (by omega), if_neg (by omega), if_neg (by omega), if_neg (by omega), if_neg (by omega), if_neg (by omega), if_neg (by omega), hm, ruleAt_at hmr]
   rw [wrap_5 hmr hm e] at h ⊢
   rw [List.append_assoc] at h
   rw [gotInt_enc h1.1 h1.2 (by omega) (by omega) hp h]
   simp only
   have h8 := hits _ R (drop_len h hp) (drop_next h)
   rw [h2] at h8
   rw [if_neg (by omega), if_neg (by omega), if_neg (by omega), Int.toNat_natCast, h2, h8, List.length_append, ← Nat.add_assoc]
   conv => rhs; rw [own_val (v := v) h2 (nil_of h3) rfl]
   rfl
  ·simp only [ownB, e, Int.reduceEq, reduceIte, Bool.and_eq_true, decide_eq_true_eq] at hown
   obtain ⟨h2, h3, h4⟩ := hown
   rw [if_neg (by omega), if_neg (by omega), if_neg (by omega), if_neg (by omega), if_pos e]
   rw [wrap_6 e] at h ⊢
   have h8 := hits _ R hp h
   rw [h2] at h8 ⊢
   rw [← h4, h8]
   conv => rhs; rw [own_val (v := v) h2 (nil_of h3) rfl]
   rfl
  ·obtain ⟨hm1, m, hm, hmk⟩ := kid_int hall hk (by omega)
   have hmr : m < rs.length := by omega
   rw [hm, ruleAt_at hmr] at hm1
   have h1 := kindI_size (allV_kind hall hmr) hm1
   have hnum := choice_num hall hk e hown
   rw [hm, limitAt_in hmr, if_pos ⟨hm1, h1⟩] at hnum
   simp only [ownB, e, Int.reduceEq, reduceIte, Bool.and_eq_true, decide_eq_true_eq] at hown
   obtain ⟨h2, h3, h4⟩ := hown
   rw [if_neg (by omega), if_neg (by omega), if_neg (by omega), if_neg (by omega), if_neg (by omega), if_neg (by omega), if_neg (by omega), hm, ruleAt_at hmr]
   rw [wrap_7 hmr hm e] at h ⊢
   rw [List.append_assoc] at h
   rw [gotInt_enc h1.1 h1.2 (by omega) (by omega) hp h]
   simp only
   have h8 := hits _ R (drop_len h hp) (drop_next h)
   rw [h3] at h8
   rw [if_pos e, if_neg (by omega), h8, List.length_append, ← Nat.add_assoc]
   conv => rhs; rw [own_val (v := v) rfl (nil_of h2) rfl]
   rfl
  ·simp only [ownB, e, Int.reduceEq, reduceIte, Bool.and_eq_true, decide_eq_true_eq] at hown
   obtain ⟨h2, h3, h4⟩ := hown
   rw [if_neg (by omega), if_neg (by omega), if_neg (by omega), if_neg (by omega), if_neg (by omega), if_pos e]
   rw [wrap_8 e] at h ⊢
   rw [List.append_assoc] at h
   have hp1 := drop_len h hp
   have hc : L[p]? = some (UInt8.ofNat v.items.length) := by
    have := congrArg (fun l => l[0]?) h
    simpa using this
   have hcn : (UInt8.ofNat v.items.length).toNat = v.items.length := by rw [UInt8.toNat_ofNat']; omega
   rw [hc]
   simp only
   have h8 := hits _ R hp1 (drop_next h)
   rw [h2] at h8 ⊢
   simp only [List.length_cons, List.length_nil, Nat.zero_add] at h8
   rw [hcn, if_neg (by omega), h8, List.length_append, ← Nat.add_assoc]
   conv => rhs; rw [own_val (v := v) h2 (nil_of h3) rfl]
   rfl
  ·simp only [ownB, e, Int.reduceEq, reduceIte, Bool.and_eq_true, decide_eq_true_eq] at hown
   obtain ⟨h2, h3, h4⟩ := hown
   rw [if_neg (by omega), if_neg (by omega), if_neg (by omega), if_neg (by omega), if_neg (by omega), if_neg (by omega), if_pos e]
   rw [wrap_9 e] at h ⊢
   rw [List.append_assoc] at h
   have h8 := hits _ _ hp h
   have h9 := drop_next h
   have hq := drop_len h hp
   have ht := drop_take h
   rw [h2] at h8 h9 hq ht ⊢
   rw [h4] at h8
   rw [h8]
   have hc : L[p + (encs rs rs[k] 0 0 v.items).length]? = some (UInt8.ofNat (sumB (encs rs rs[k] 0 0 v.items) 0)) := by
    have := congrArg (fun l => l[0]?) h9
    simpa using this
   unfold gotSum
   simp only
   rw [hc]
   simp only
   rw [Nat.add_sub_cancel_left, ht, if_pos (by rw [UInt8.toNat_ofNat']; exact Nat.mod_eq_of_lt (sumB_lt _ _ (by omega)))]
   rw [List.length_append]
   conv => rhs; rw [own_val (v := v) h2 (nil_of h3) rfl]
   rfl
  ·simp only [ownB, e, Int.reduceEq, reduceIte, Bool.and_eq_true, decide_eq_true_eq] at hown
   obtain ⟨h2, h3, h4⟩ := hown
   have ht := kindI_term hki e
   rw [if_neg (by omega), if_neg (by omega), if_neg (by omega), if_pos e]
   rw [wrap_10 e, nil_of h4] at h ⊢
   rw [encs, List.nil_append] at h ⊢
   unfold gotTerm
   rw [h, termR_enc ht]
   simp only
   rw [List.length_append]
   conv => rhs; rw [own_val (v := v) h2 rfl (nil_of h4)]
   rfl
end Go.Proofs.YtdccjobgfjoflaaGreatDoor

/- What was read is read of more bytes, too. No program is walked here. -/
namespace Go.Proofs.YtdccjobgfjoflaaGreatDoor
open Go Go.RowKit
theorem more_take {L R : List UInt8} {p n : Nat} (h : p + n ≤ L.length) : ((L ++ R).drop p).take n = (L.drop p).take n := by
 rw [List.drop_append_of_le_length (by omega), List.take_append_of_le_length (by rw [List.length_drop]; omega)]
theorem gotInt_more {r : RuleV} {L R : List UInt8} {p q : Nat} {x : Int} (h : gotInt r L p = .ok x q) : gotInt r (L ++ R) p = .ok x q := by
 unfold gotInt at h ⊢
 split at h
 ·cases h
 ·rw [if_neg (by rw [List.length_append]; omega), more_take (by omega)]
  exact h
theorem gotBytes_more {L R : List UInt8} {p q n : Nat} {v : ValueV} (h : gotBytes L p n = .ok v q) : gotBytes (L ++ R) p n = .ok v q := by
 unfold gotBytes at h ⊢
 split at h
 ·cases h
 ·rw [if_neg (by rw [List.length_append]; omega), more_take (by omega)]
  exact h
theorem gotConst_more {p q : Nat} {R : List UInt8} {v : ValueV} : ∀ (cs ds : List UInt8) (i : Nat), gotConst p cs ds i = .ok v q → gotConst p cs (ds ++ R) i = .ok v q
 | [], ds, i, h => by rw [gotConst] at h ⊢; exact h
 | c :: cs, [], i, h => by rw [gotConst] at h; cases h
 | c :: cs, d :: ds, i, h => by
  rw [List.cons_append]
  rw [gotConst] at h ⊢
  split at h
  ·rename_i hd; rw [if_pos hd]; exact gotConst_more cs ds (i + 1) h
  ·cases h
theorem termR_more (t : UInt8) (R : List UInt8) : ∀ (l : List UInt8) (e : Bool) (o : List UInt8 × Nat), termR t l e = some o → termR t (l ++ R) e = some o
 | [], e, o, h => by simp [termR] at h
 | c :: l, e, o, h => by
  rw [List.cons_append]
  unfold termR at h ⊢
  split at h
  ·rename_i h1; rw [if_pos h1]; exact h
  ·rename_i h1
   rw [if_neg h1]
   split at h
   ·rename_i h2
    rw [if_pos h2]
    cases h3 : termR t l true with
    | none => rw [h3] at h; cases h
    | some o2 => rw [termR_more t R l true o2 h3]; rw [h3] at h; exact h
   ·rename_i h2
    rw [if_neg h2]
    cases h3 : termR t l false with
    | none => rw [h3] at h; cases h
    | some o2 => rw [termR_more t R l false o2 h3]; rw [h3] at h; exact h
theorem gotTerm_more {L R : List UInt8} {p q : Nat} {t : UInt8} {v : ValueV} (hp : p ≤ L.length) (h : gotTerm L p t = .ok v q) : gotTerm (L ++ R) p t = .ok v q := by
 unfold gotTerm at h ⊢
 cases h2 : termR t (L.drop p) false with
 | none => rw [h2] at h; cases h
 | some o =>
  rw [h2] at h
  rw [List.drop_append_of_le_length hp, termR_more t R _ _ _ h2]
  exact h
theorem gotItems_more {L : List UInt8} {r : RuleV} {x : Int} {rd rd' : Int → Nat → Got ValueV} {l : List ValueV} {z : Nat} : ∀ (m : Nat) (acc : List ValueV) (p : Nat),
  (∀ i, i < m → ∀ p v q, p ≤ L.length → rd (itemR r x (acc.length + i)) p = .ok v q → q ≤ L.length ∧ rd' (itemR r x (acc.length + i)) p = .ok v q) → p ≤ L.length → gotItems rd r x m acc p = .ok l z → gotItems rd' r x m acc p = .ok l z
 | 0, acc, p, _, _, h => by rw [gotItems] at h ⊢; exact h
 | m + 1, acc, p, hrd, hp, h => by
  rw [gotItems] at h ⊢
  cases h0 : rd (itemR r x acc.length) p with
  | bad q c => rw [h0] at h; cases h
  | ok v q =>
   rw [h0] at h
   have h1 := hrd 0 (by omega) p v q hp (by rw [Nat.add_zero]; exact h0)
   rw [Nat.add_zero] at h1
   rw [h1.2]
   simp only at h ⊢
   refine gotItems_more m (acc ++ [v]) q (fun i hi p v q hp => ?_) h1.1 h
   rw [List.length_append, List.length_singleton, show acc.length + 1 + i = acc.length + (i + 1) from by omega]
   exact hrd (i + 1) (by omega) p v q hp
theorem parse_more {rs : List RuleV} (hall : allV (kindI rs) rs) (L R : List UInt8) : ∀ (n k : Nat) (_ : k < rs.length) (_ : k < n) (p : Nat) (_ : p ≤ L.length) (v : ValueV) (q : Nat), parseB rs L n (k : Int) p = .ok v q → parseB rs (L ++ R) n (k : Int) p = .ok v q
 | 0, _, _, h, _, _, _, _, _ => by omega
 | n + 1, k, hk, hn, p, hp, v, q, h => by
  have hki := allV_kind hall hk
  have hkn := kindI_known hki
  have hits : ∀ (x : Int) (m p : Nat) (l : List ValueV) (z : Nat), ((rs[k].kind = 5) ∨ (rs[k].kind = 6 ∧ m = rs[k].kids.length) ∨ (rs[k].kind = 7 ∧ 0 ≤ itemR rs[k] x 0) ∨ rs[k].kind = 8 ∨ rs[k].kind = 9) → p ≤ L.length → gotItems (parseB rs L n) rs[k] x m [] p = .ok l z → gotItems (parseB rs (L ++ R) n) rs[k] x m [] p = .ok l z := fun x m p l z h hp =>
   gotItems_more (L := L) m [] p (fun i hi p v q hp hv => by
    rw [List.length_nil, Nat.zero_add] at hv ⊢
    obtain ⟨j, hj, hjk⟩ := items_kid hall hk (items_there hall hk (x := x) hi h)
    rw [hj] at hv ⊢
    have hf := parse_fine hall L n j (by omega) (by omega) p hp
    rw [hv] at hf
    exact ⟨hf.2, parse_more hall L R n j (by omega) (by omega) p hp v q hv⟩) hp
  rw [parseB, ruleAt_at hk] at h ⊢
  by_cases e1 : rs[k].kind = 1
  ·rw [if_pos e1] at h ⊢
   obtain ⟨u, hu, rfl⟩ := to_ok h
   rw [gotInt_more hu]; rfl
  rw [if_neg e1] at h ⊢
  by_cases e2 : rs[k].kind = 2
  ·rw [if_pos e2] at h ⊢
   rw [List.drop_append_of_le_length hp]
   exact gotConst_more _ _ _ h
  rw [if_neg e2] at h ⊢
  by_cases e3 : rs[k].kind = 3
  ·rw [if_pos e3] at h ⊢; exact gotBytes_more h
  rw [if_neg e3] at h ⊢
  by_cases e10 : rs[k].kind = 10
  ·rw [if_pos e10] at h ⊢; exact gotTerm_more hp h
  rw [if_neg e10] at h ⊢
  by_cases e6 : rs[k].kind = 6
  ·rw [if_pos e6] at h ⊢
   obtain ⟨u, hu, rfl⟩ := to_ok h
   rw [hits _ _ p _ _ (.inr (.inl ⟨e6, rfl⟩)) hp hu]; rfl
  rw [if_neg e6] at h ⊢
  by_cases e8 : rs[k].kind = 8
  ·rw [if_pos e8] at h ⊢
   cases hc : L[p]? with
   | none => rw [hc] at h; cases h
   | some c =>
    have hq : p < L.length := by
     rcases Nat.lt_or_ge p L.length with h | h
     ·exact h
     ·rw [List.getElem?_eq_none h] at hc; cases hc
    rw [hc] at h
    rw [List.getElem?_append_left hq, hc]
    simp only at h ⊢
    split at h
    ·cases h
    ·rename_i h1
     rw [if_neg h1]
     obtain ⟨u, hu, rfl⟩ := to_ok h
     rw [hits _ _ (p + 1) _ _ (.inr (.inr (.inr (.inl e8)))) (by omega) hu]; rfl
  rw [if_neg e8] at h ⊢
  by_cases e9 : rs[k].kind = 9
  ·rw [if_pos e9] at h ⊢
   have hf : Fine L p (gotItems (parseB rs L n) rs[k] 0 1 [] p) := gotItems_fine 1 [] p (fun i hi p hp => by
    rw [List.length_nil, Nat.zero_add]
    obtain ⟨j, hj, hjk⟩ := items_kid hall hk (items_there hall hk (x := 0) hi (.inr (.inr (.inr (.inr e9)))))
    rw [hj]
    exact parse_fine hall L n j (by omega) (by omega) p hp) hp
   cases hg : gotItems (parseB rs L n) rs[k] 0 1 [] p with
   | bad r c => rw [hg] at h; unfold gotSum at h; cases h
   | ok l r =>
    rw [hg] at h hf
    rw [hits _ _ p _ _ (.inr (.inr (.inr (.inr e9)))) hp hg]
    unfold gotSum at h ⊢
    simp only at h ⊢
    cases hc : L[r]? with
    | none => rw [hc] at h; cases h
    | some c =>
     have hq : r < L.length := by
      rcases Nat.lt_or_ge r L.length with h | h
      ·exact h
      ·rw [List.getElem?_eq_none h] at hc; cases hc
     rw [hc] at h
     rw [List.getElem?_append_left hq, hc, more_take (by have := hf.1; omega)]
     exact h
  rw [if_neg e9] at h ⊢
  have hI := gotInt_fine (ruleAt rs (rs[k].kids.getD 0 0)) L p hp
  cases hg : gotInt (ruleAt rs (rs[k].kids.getD 0 0)) L p with
  | bad q c => rw [hg] at h; cases h
  | ok x r =>
   rw [hg] at hI h
   rw [gotInt_more hg]
   simp only at h ⊢
   by_cases e7 : rs[k].kind = 7
   ·rw [if_pos e7] at h ⊢
    split at h
    ·cases h
    ·rename_i h1
     rw [if_neg h1]
     obtain ⟨u, hu, rfl⟩ := to_ok h
     rw [hits _ _ r _ _ (.inr (.inr (.inl ⟨e7, by omega⟩))) hI.2 hu]; rfl
   rw [if_neg e7] at h ⊢
   by_cases e4 : rs[k].kind = 4
   ·rw [if_pos e4] at h ⊢; exact gotBytes_more h
   rw [if_neg e4] at h ⊢
   split at h
   ·cases h
   ·rename_i h1
    rw [if_neg h1]
    obtain ⟨u, hu, rfl⟩ := to_ok h
    rw [hits _ _ r _ _ (.inl (by omega)) hI.2 hu]; rfl
end Go.Proofs.YtdccjobgfjoflaaGreatDoor

/- What FnParsing asks of reading: the encoding of a valid value, alone, within more bytes, with a byte too many, and with a byte too few. No program is walked here. -/
namespace Go.Proofs.YtdccjobgfjoflaaGreatDoor
open Go Go.RowKit
theorem pl_read {rs : List RuleV} (hall : allV (kindI rs) rs) {kk : Nat} (hk : kk + 1 = rs.length) (hok : okAt rs (kk : Int) = true) {v : ValueV} (hv : validV rs (kk : Int) v = true) (L R : List UInt8) (p : Nat) (hL : L.length ≤ 400) (hp : p ≤ L.length) (h : L.drop p = encV rs (kk : Int) v ++ R) :
  readG rs (kk : Int) L (p : Int) = .ok v (p + (encV rs (kk : Int) v).length) := by
 unfold readG
 rw [if_pos ⟨hok, by omega, by omega, hL⟩, Int.toNat_natCast]
 exact parse_enc hall rs.length kk (by omega) (by omega) v hv L R p hp h
theorem pl_file {rs : List RuleV} (hall : allV (kindI rs) rs) {kk : Nat} (hk : kk + 1 = rs.length) (hok : okAt rs (kk : Int) = true) {v : ValueV} (hv : validV rs (kk : Int) v = true) (hl : (encV rs (kk : Int) v).length ≤ 392) :
  fileG rs (encV rs (kk : Int) v) = .ok v (encV rs (kk : Int) v).length := by
 have h0 : readG rs (kk : Int) (encV rs (kk : Int) v) 0 = .ok v (0 + (encV rs (kk : Int) v).length) := pl_read hall hk hok hv _ [] 0 (by omega) (by omega) (by simp)
 unfold fileG
 rw [show (rs.length : Int) - 1 = (kk : Int) from by omega, h0]
 simp
theorem pl_more {rs : List RuleV} (hall : allV (kindI rs) rs) {kk : Nat} (hk : kk + 1 = rs.length) (hok : okAt rs (kk : Int) = true) {v : ValueV} (hv : validV rs (kk : Int) v = true) (hl : (encV rs (kk : Int) v).length ≤ 392) :
  readG rs (kk : Int) ([1, 2, 3] ++ encV rs (kk : Int) v ++ [9, 9]) 3 = .ok v (3 + (encV rs (kk : Int) v).length) := by
 have h := pl_read hall hk hok hv ([1, 2, 3] ++ encV rs (kk : Int) v ++ [9, 9]) [9, 9] 3 (by simp; omega) (by simp) (by simp)
 exact h
theorem pl_trail {rs : List RuleV} (hall : allV (kindI rs) rs) {kk : Nat} (hk : kk + 1 = rs.length) (hok : okAt rs (kk : Int) = true) {v : ValueV} (hv : validV rs (kk : Int) v = true) (hl : (encV rs (kk : Int) v).length ≤ 392) :
  fileG rs (encV rs (kk : Int) v ++ [0]) = .bad (encV rs (kk : Int) v).length 7 := by
 have h0 : readG rs (kk : Int) (encV rs (kk : Int) v ++ [0]) 0 = .ok v (0 + (encV rs (kk : Int) v).length) := pl_read hall hk hok hv _ [0] 0 (by simp; omega) (by omega) (by simp)
 unfold fileG
 rw [show (rs.length : Int) - 1 = (kk : Int) from by omega, h0]
 simp
theorem pl_short {rs : List RuleV} (hall : allV (kindI rs) rs) {kk : Nat} (hk : kk + 1 = rs.length) (hok : okAt rs (kk : Int) = true) {v : ValueV} (hv : validV rs (kk : Int) v = true) (hl : (encV rs (kk : Int) v).length ≤ 392) (h1 : 1 ≤ (encV rs (kk : Int) v).length) :
  ∃ q c, fileG rs ((encV rs (kk : Int) v).take ((encV rs (kk : Int) v).length - 1)) = .bad q c ∧ 1 ≤ c := by
 cases hf : fileG rs ((encV rs (kk : Int) v).take ((encV rs (kk : Int) v).length - 1)) with
 | bad q c => exact ⟨q, c, rfl, (fileG_code hf).1⟩
 | ok u q =>
  exfalso
  unfold fileG at hf
  rw [show (rs.length : Int) - 1 = (kk : Int) from by omega] at hf
  have hlen : ((encV rs (kk : Int) v).take ((encV rs (kk : Int) v).length - 1)).length = (encV rs (kk : Int) v).length - 1 := by rw [List.length_take]; omega
  have hr : readG rs (kk : Int) ((encV rs (kk : Int) v).take ((encV rs (kk : Int) v).length - 1)) 0 = parseB rs ((encV rs (kk : Int) v).take ((encV rs (kk : Int) v).length - 1)) rs.length (kk : Int) 0 := by
   unfold readG
   rw [if_pos ⟨hok, by omega, by omega, by omega⟩]
   rfl
  rw [hr] at hf
  cases hp : parseB rs ((encV rs (kk : Int) v).take ((encV rs (kk : Int) v).length - 1)) rs.length (kk : Int) 0 with
  | bad q' c' => rw [hp] at hf; cases hf
  | ok u' q' =>
   have hfine := parse_fine hall ((encV rs (kk : Int) v).take ((encV rs (kk : Int) v).length - 1)) rs.length kk (by omega) (by omega) 0 (by omega)
   rw [hp] at hfine
   have hq : q' ≤ ((encV rs (kk : Int) v).take ((encV rs (kk : Int) v).length - 1)).length := hfine.2
   have hm := parse_more hall _ ((encV rs (kk : Int) v).drop ((encV rs (kk : Int) v).length - 1)) rs.length kk (by omega) (by omega) 0 (by omega) u' q' hp
   rw [List.take_append_drop] at hm
   have he := parse_enc hall rs.length kk (by omega) (by omega) v hv (encV rs (kk : Int) v) [] 0 (by omega) (by simp)
   rw [hm] at he
   injection he with e1 e2
   omega
end Go.Proofs.YtdccjobgfjoflaaGreatDoor
