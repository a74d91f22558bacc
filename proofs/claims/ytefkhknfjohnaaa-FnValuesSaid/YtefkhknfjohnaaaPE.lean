/- BigEndian, LittleEndian: what comes back may be appended to. The contract of the model's l8Integer. Facts on the lengths of what is printed, kind by kind. No program is walked here. -/
import Derived.Test.YtefkhknfjohnaaaGEnd
import Derived.Test.YtefkhknfjohnaaaGBase
import Derived.Deep.RegionHeld3
import Derived.Deep.CutRange
import Derived.Test.YtefkhknfjohnaaaGP
import Derived.Test.YtefkhknfjohnaaaGD
import Derived.Test.YtefkhknfjohnaaaGPu
namespace Go.Proofs.Ytefkhknfjohnaaa
open Go Go.RowKit
/-- New bytes come back, that may be appended to; what was there is as it was. -/
def OwnOut (bs : List UInt8) (w : World) (e : Ending) (w' : World) : Prop := ∃ z, e = .returned z ∧ OwnB w.heap.size z bs w' ∧ Below w.heap.size w w'
theorem midB_endO {all : List UInt8} {v : Value} {w W : World} (h : MidB [] all v w W) : OwnOut all w (.returned v) W := by
  obtain ⟨acc, he, hown, hb⟩ := h
  rw [List.append_nil] at he
  subst he
  exact ⟨v, rfl, hown, hb⟩
theorem empty_outO (w : World) : OwnOut [] w (.returned (.slice (some ⟨w.heap.size, 0, none⟩) 0 0)) (w.alloc (.cells #[] 5)) := midB_endO (midB_start [] w)
theorem OwnB.more {base base' : Nat} {v : Value} {bs : List UInt8} {w : World} (h : OwnB base v bs w) (hb : base' ≤ base) : OwnB base' v bs w :=
  ⟨h.1, h.2.imp id fun ⟨g, cap, cur, h1, h2, h3⟩ => ⟨g, cap, cur, h1, Nat.le_trans hb h2, h3⟩⟩
theorem ownOut_below {bs : List UInt8} {w w1 : World} {e : Ending} {w2 : World} (hb : Below w.heap.size w w1) (h : OwnOut bs w1 e w2) : OwnOut bs w e w2 := by
  obtain ⟨z, he, ho, hb2⟩ := h
  exact ⟨z, he, ho.more hb.size, hb.trans (hb2.mono hb.size)⟩
end Go.Proofs.Ytefkhknfjohnaaa
namespace Go.Proofs.Ytefkhknfjohnaaa
open Go Go.RowKit
/-- The bytes of a number by a rule that is an integer. -/
def encI (little : Bool) (n s : Int) : List UInt8 := if little then (beOf n s).reverse else beOf n s
theorem encI_length {little : Bool} {n s : Int} (h1 : 1 ≤ s) (h2 : s ≤ 4) (h3 : 0 ≤ n) (h4 : n < 256 ^ s.toNat) : (encI little n s).length = s.toNat := by
  have h : (beOf n s).length = s.toNat := by rw [beOf, if_pos ⟨h1, h2, h3, h4⟩, beB_length]
  unfold encI
  cases little <;> simp [h]
end Go.Proofs.Ytefkhknfjohnaaa
namespace Go.Proofs.Ytefkhknfjohnaaa
open Go Go.RowKit
theorem plens_next {rs : List RuleV} {r : RuleV} {x : Int} {q : Nat} {l : List ValueV} (h : q < l.length) : plens rs r x q (l.drop q) = plen rs (itemR r x q) l[q] + plens rs r x (q + 1) (l.drop (q + 1)) := by
  rw [List.drop_eq_getElem_cons h, plens]
theorem pow_eq {s : Int} (h1 : 1 ≤ s) (h2 : s ≤ 4) : (256 : Int) ^ s.toNat = pow256 s := by
  obtain rfl | rfl | rfl | rfl : s = 1 ∨ s = 2 ∨ s = 3 ∨ s = 4 := by omega
  all_goals rfl
theorem enc_len {little : Bool} {x s : Int} (h1 : 1 ≤ s) (h2 : s ≤ 4) (h0 : 0 ≤ x) (hx : x ≤ pow256 s - 1) : (encI little x s).length = s.toNat :=
  encI_length h1 h2 h0 (by rw [pow_eq h1 h2]; omega)
theorem no_items {rs : List RuleV} {r : RuleV} {v : ValueV} (hk : r.kind = 1 ∨ r.kind = 2 ∨ r.kind = 3 ∨ r.kind = 4 ∨ r.kind = 10) (h : ownB rs r v = true) : plens rs r v.number 0 v.items = 0 := by
  have h0 : v.items = [] := by
    rcases hk with e | e | e | e | e
    · simp [ownB, e] at h; exact h.2.2
    · simp [ownB, e] at h; exact h.2.2
    · simp [ownB, e] at h; exact h.2.2
    · simp [ownB, e] at h; exact h.2.2
    · simp [ownB, e] at h; exact h.2.2
  rw [h0, plens]
theorem print_1 {rs : List RuleV} {r : RuleV} {v : ValueV} (hki : kindI rs r = true) (hk : r.kind = 1) (h : ownB rs r v = true) : (encI r.little v.number r.size).length = headLen rs r v.bytes + plens rs r v.number 0 v.items := by
  have hs := kindI_size hki hk
  have h2 : headLen rs r v.bytes = r.size.toNat := by simp [headLen, hk]
  rw [no_items (.inl hk) h, h2]
  simp [ownB, hk] at h
  rw [enc_len hs.1 hs.2 h.1.1 (by omega)]
  rfl
theorem print_2 {rs : List RuleV} {r : RuleV} {v : ValueV} (hk : r.kind = 2) (h : ownB rs r v = true) : r.bytes.length = headLen rs r v.bytes + plens rs r v.number 0 v.items := by
  rw [no_items (.inr (.inl hk)) h]
  simp [headLen, hk]
theorem print_3 {rs : List RuleV} {r : RuleV} {v : ValueV} (hk : r.kind = 3) (h : ownB rs r v = true) : v.bytes.length = headLen rs r v.bytes + plens rs r v.number 0 v.items := by
  rw [no_items (.inr (.inr (.inl hk))) h]
  simp [headLen, hk]
theorem kid_enc {rs : List RuleV} (hall : allV (kindI rs) rs) {m : Nat} (hm : m < rs.length) (hk : rs[m].kind = 1) {x : Int} (h0 : 0 ≤ x) (hx : x ≤ limitAt rs (m : Int)) : (encI rs[m].little x rs[m].size).length = rs[m].size.toNat := by
  have hs := kindI_size (allV_kind hall hm) hk
  rw [limitAt_in hm, if_pos ⟨hk, hs⟩] at hx
  exact enc_len hs.1 hs.2 h0 hx
theorem print_4 {rs : List RuleV} (hall : allV (kindI rs) rs) {r : RuleV} {v : ValueV} {m : Nat} (hm : m < rs.length) (hmk : r.kids.getD 0 0 = (m : Int)) (hk1 : rs[m].kind = 1) (hk : r.kind = 4) (h : ownB rs r v = true) :
    (encI rs[m].little (v.bytes.length : Nat) rs[m].size).length + v.bytes.length = headLen rs r v.bytes + plens rs r v.number 0 v.items := by
  have h2 : headLen rs r v.bytes = rs[m].size.toNat + v.bytes.length := by simp only [headLen, hk, hmk]; rw [ruleAt_at hm]; simp
  rw [no_items (.inr (.inr (.inr (.inl hk)))) h, h2]
  have h3 : (v.bytes.length : Int) ≤ limitAt rs (m : Int) := by
    simp only [ownB, hk, hmk] at h
    simp at h
    omega
  rw [kid_enc hall hm hk1 (by omega) h3]
  rfl
theorem print_5 {rs : List RuleV} (hall : allV (kindI rs) rs) {r : RuleV} {v : ValueV} {m : Nat} (hm : m < rs.length) (hmk : r.kids.getD 0 0 = (m : Int)) (hk1 : rs[m].kind = 1) (hk : r.kind = 5) (h : ownB rs r v = true) :
    (encI rs[m].little (v.items.length : Nat) rs[m].size).length + plens rs r v.number 0 v.items = headLen rs r v.bytes + plens rs r v.number 0 v.items := by
  have h2 : headLen rs r v.bytes = rs[m].size.toNat := by simp only [headLen, hk, hmk]; rw [ruleAt_at hm]; simp
  have h3 : (v.items.length : Int) ≤ limitAt rs (m : Int) := by
    simp only [ownB, hk, hmk] at h
    simp at h
    omega
  rw [h2, kid_enc hall hm hk1 (by omega) h3]
theorem tagsOk_in {lim : Int} : ∀ {lo : Int} {ts : List Int}, tagsOk lim lo ts = true → ∀ t ∈ ts, lo ≤ t ∧ t ≤ lim
  | _, [], _, _, h => by simp at h
  | lo, t :: ts, h, x, hx => by
    unfold tagsOk at h
    rw [Bool.and_eq_true] at h
    have h1 := of_decide_eq_true h.1
    rcases List.mem_cons.1 hx with rfl | hx
    · exact h1
    · have := tagsOk_in h.2 x hx
      omega
theorem tagKid_tag : ∀ {ts ks : List Int} {x : Int}, 0 ≤ tagKid ts ks x → x ∈ ts
  | [], _, _, h => by unfold tagKid at h; omega
  | _ :: _, [], _, h => by unfold tagKid at h; omega
  | t :: ts, k :: ks, x, h => by
    unfold tagKid at h
    split at h
    · rename_i e; rw [e]; simp
    · exact List.mem_cons_of_mem _ (tagKid_tag h)
theorem print_7 {rs : List RuleV} (hall : allV (kindI rs) rs) {r : RuleV} (hki : kindI rs r = true) {v : ValueV} {m : Nat} (hm : m < rs.length) (hmk : r.kids.getD 0 0 = (m : Int)) (hk1 : rs[m].kind = 1) (hk : r.kind = 7) (h : ownB rs r v = true) :
    (encI rs[m].little v.number rs[m].size).length + plens rs r v.number 0 v.items = headLen rs r v.bytes + plens rs r v.number 0 v.items := by
  have h2 : headLen rs r v.bytes = rs[m].size.toNat := by simp only [headLen, hk, hmk]; rw [ruleAt_at hm]; simp
  have h3 : 0 ≤ v.number ∧ v.number ≤ limitAt rs (m : Int) := by
    simp [ownB, hk] at h
    have h4 : itemR r v.number 0 = tagKid r.tags (r.kids.drop 1) v.number := by unfold itemR; rw [if_neg (by omega), if_neg (by omega), if_pos hk]
    have h5 := h.2.2
    rw [h4] at h5
    have h8 : tagsB rs r = true := by simp [kindI, meetsB, hk] at hki; exact hki.1
    unfold tagsB at h8
    rw [Bool.and_eq_true] at h8
    have h12 : r.kids.headD 0 = r.kids.getD 0 0 := by cases r.kids <;> rfl
    rw [h12, hmk] at h8
    exact tagsOk_in h8.2 _ (tagKid_tag h5)
  rw [h2, kid_enc hall hm hk1 h3.1 h3.2]
theorem src_of {a : Option Addr} {bs : List UInt8} {cap : Nat} {w : World} (h : Rd a bs w) (h0 : 0 < bs.length) : Src1 a bs cap w :=
  ⟨h, fun e => by obtain ⟨b, off, e2, _⟩ := h 0 h0; rw [e] at e2; cases e2⟩
theorem esc_next {t : UInt8} {bs : List UInt8} {j : Nat} (h : j < bs.length) : escLen t (bs.drop j) = (if bs[j] = t ∨ bs[j] = 92 then 2 else 1) + escLen t (bs.drop (j + 1)) := by
  rw [List.drop_eq_getElem_cons h, escLen]
theorem byte_inj {x y : UInt8} (h : (x.toNat : Int) = (y.toNat : Int)) : x = y := UInt8.toNat_inj.1 (by omega)
/-- A literal of one byte may be appended to. -/
theorem own_one (w : World) (z : Int) (x : UInt8) (e : Value.int .u8 z = bv x) : OwnB w.heap.size (.slice (some ⟨w.heap.size, 0, none⟩) 1 1) [x] (w.alloc (.cells #[.int .u8 z] 5)) := by
  rw [e]
  exact own_lits (f := bv) w w.heap.size 5 [x] (Nat.le_refl _) (by show 1 ≤ maxLen; decide)
theorem byte_is (n : Nat) (h : n < 256) : ∃ x, Value.int .u8 (n : Int) = bv x := ⟨UInt8.ofNat n, bv_of n _ (by omega)⟩
theorem escLen_le (t : UInt8) : ∀ bs : List UInt8, escLen t bs ≤ 2 * bs.length
  | [] => by simp [escLen]
  | b :: bs => by
    have h := escLen_le t bs
    unfold escLen
    rw [List.length_cons]
    split <;> omega
end Go.Proofs.Ytefkhknfjohnaaa
