/- Contract of the model's ParseHex. -/
import Derived.Test.YtikpbeealeofaaaDoorEndian
import Derived.Test.YtikpbeealeofaaaDoorHex
namespace Go.Proofs.YtikpbeealeofaaaDoor
open Go Go.RowKit
/-- The value of a hexadecimal digit, -1 if it is none. -/
def hexV (c : UInt8) : Int := if 48 ≤ c.toNat ∧ c.toNat ≤ 57 then (c.toNat : Int) - 48 else if 97 ≤ c.toNat ∧ c.toNat ≤ 102 then (c.toNat : Int) - 87 else -1
theorem hexV_bounds (c : UInt8) : -1 ≤ hexV c ∧ hexV c ≤ 15 := by
  unfold hexV
  by_cases h1 : 48 ≤ c.toNat ∧ c.toNat ≤ 57
  · rw [if_pos h1]; omega
  · rw [if_neg h1]
    by_cases h2 : 97 ≤ c.toNat ∧ c.toNat ≤ 102
    · rw [if_pos h2]; omega
    · rw [if_neg h2]; omega
/-- The bytes of these digits. -/
def unhex : List UInt8 → Option (List UInt8)
  | [] => some []
  | [_] => none
  | a :: b :: r => if 0 ≤ hexV a ∧ 0 ≤ hexV b then (unhex r).map (UInt8.ofNat (hexV a * 16 + hexV b).toNat :: ·) else none
/-- New bytes and a bool come back. -/
def BytesOkOut (bs : List UInt8) (ok : Bool) (w : World) (e : Ending) (w' : World) : Prop :=
  ∃ a cap, e = .returned (.tuple #[.slice a bs.length cap, .bool ok]) ∧ Row w.heap.size a bs cap w' ∧ Below w.heap.size w w'
/-- What ParseHex gives. -/
def parseHexOf (l : List UInt8) : List UInt8 × Bool := match unhex l with
  | some bs => (bs, true)
  | none => ([], false)
theorem unhex_odd : ∀ (n : Nat) (l : List UInt8), l.length = 2 * n + 1 → unhex l = none
  | 0, l, h => by
    match l, h with
    | [a], _ => rfl
  | n + 1, l, h => by
    match l, h with
    | a :: b :: r, h =>
      have hr := unhex_odd n r (by simp at h; omega)
      simp [unhex, hr]
theorem bytes_len (s : ByteArray) : s.data.toList.length = s.size := by show s.data.toList.length = s.data.size; simp
/-- What holds at the head of a round. -/
def RelX (s : ByteArray) (w : World) (v i : Value) (W : World) : Prop :=
  ∃ (p : Nat) (acc : List UInt8), p ≤ s.size ∧ Hid (p % 2 = 0) ∧ acc.length ≤ p ∧ i = .int .i64 (p : Int) ∧ Hid (unhex s.data.toList = (unhex (s.data.toList.drop p)).map (acc ++ ·)) ∧ Hid (OwnB w.heap.size v acc W) ∧ Hid (Below w.heap.size w W)
theorem unhex_start (l : List UInt8) : unhex l = (unhex (l.drop 0)).map ([] ++ ·) := by
  simp only [List.drop_zero, List.nil_append]
  cases unhex l <;> rfl
theorem hex_some {s : ByteArray} {acc : List UInt8} {v : Value} {w W : World} {p : Nat} (hp : s.size ≤ p) (h : unhex s.data.toList = (unhex (s.data.toList.drop p)).map (acc ++ ·)) (hown : OwnB w.heap.size v acc W) (hb : Below w.heap.size w W) :
    BytesOkOut (parseHexOf s.data.toList).1 (parseHexOf s.data.toList).2 w (.returned (.tuple #[v, .bool true])) W := by
  rw [List.drop_of_length_le (by rw [bytes_len]; exact hp)] at h
  have e : unhex s.data.toList = some acc := by rw [h]; simp [unhex]
  unfold parseHexOf
  rw [e]
  obtain ⟨a, cap, rfl, hf⟩ := hown.row
  exact ⟨a, cap, rfl, hf, hb⟩
theorem ownB_push {x : UInt8} {acc : List UInt8} {v v' : Value} {w W W2 : World} {o : Obj} (hown : OwnB w.heap.size v acc W) (hb : Below w.heap.size w W)
    (hown' : W2.ownsRow w.heap.size 5 1 v' (acc.length + 1) (acc.map bv ++ [bv x])) (hg : (W.alloc o).grownBy W2 v.ownBlock) : OwnB w.heap.size v' (acc ++ [x]) W2 ∧ Below w.heap.size w W2 := by
  refine ⟨?_, ?_⟩
  · unfold OwnB; simpa using hown'
  · exact (hb.alloc hb.size o).grown hg (by have := hb.size; simp; omega) fun k hk => (World.ownsRow.lt (w := W) hown k hk).1
theorem drop_two (s : ByteArray) (k : Nat) (h : k + 1 < s.size) : s.data.toList.drop k = s[k] :: s[k + 1] :: s.data.toList.drop (k + 2) := by
  have h1 : k < s.data.toList.length := by rw [bytes_len]; omega
  have h2 : k + 1 < s.data.toList.length := by rw [bytes_len]; omega
  rw [List.drop_eq_getElem_cons h1, List.drop_eq_getElem_cons h2]
  rfl
theorem unhex_step {l r acc : List UInt8} {a b : UInt8} (h : unhex l = (unhex (a :: b :: r)).map (acc ++ ·)) (ha : 0 ≤ hexV a) (hb : 0 ≤ hexV b) :
    unhex l = (unhex r).map ((acc ++ [UInt8.ofNat (hexV a * 16 + hexV b).toNat]) ++ ·) := by
  rw [h, unhex, if_pos ⟨ha, hb⟩]
  cases unhex r <;> simp
theorem unhex_bad {l r acc : List UInt8} {a b : UInt8} (h : unhex l = (unhex (a :: b :: r)).map (acc ++ ·)) (hn : ¬ (0 ≤ hexV a ∧ 0 ≤ hexV b)) : unhex l = none := by
  rw [h, unhex, if_neg hn]; rfl
theorem hex_none {s : ByteArray} {w W : World} (h : unhex s.data.toList = none) (hb : Below w.heap.size w W) :
    BytesOkOut (parseHexOf s.data.toList).1 (parseHexOf s.data.toList).2 w (.returned (.tuple #[.slice (some ⟨W.heap.size, 0, none⟩) 0 0, .bool false])) (W.alloc (.cells #[] 5)) := by
  unfold parseHexOf
  rw [h]
  exact ⟨_, _, rfl, ⟨.inl rfl, Nat.le_refl _, (fun e => by cases e)⟩, hb.alloc hb.size _⟩
theorem unhex_length : ∀ (n : Nat) (l bs : List UInt8), l.length ≤ n → unhex l = some bs → bs.length ≤ l.length
  | _, [], bs, _, h => by
    simp only [unhex, Option.some.injEq] at h
    subst h; simp
  | _, [_], bs, _, h => by simp [unhex] at h
  | 0, a :: b :: r, bs, hn, h => by simp at hn
  | n + 1, a :: b :: r, bs, hn, h => by
    rw [unhex] at h
    by_cases hab : 0 ≤ hexV a ∧ 0 ≤ hexV b
    · rw [if_pos hab] at h
      cases hr : unhex r with
      | none => simp [hr] at h
      | some cs =>
        have := unhex_length n r cs (by simp at hn; omega) hr
        simp only [hr, Option.map_some, Option.some.injEq] at h
        subst h
        simp; omega
    · rw [if_neg hab] at h; cases h
theorem parseHexOf_length (s : ByteArray) : (parseHexOf s.data.toList).1.length ≤ s.size := by
  unfold parseHexOf
  cases h : unhex s.data.toList with
  | none => simp
  | some bs =>
    have := unhex_length _ _ _ (Nat.le_refl _) h
    rw [bytes_len] at this
    exact this
end Go.Proofs.YtikpbeealeofaaaDoor
