/- Terminated bytes as data: the content that ReadTerminated finds, and where it ends. No program is walked here. -/
import Derived.Test.YtikpbeealeofaaaBytes
namespace Go.Proofs.Ytikpbeealeofaaa
open Go Go.RowKit
/-- The content up to the terminator and how many bytes it takes with it; e: the first byte is escaped. -/
def termR (t : UInt8) : List UInt8 → Bool → Option (List UInt8 × Nat)
  | [], _ => none
  | c :: l, e =>
    if e = false ∧ c = t then some ([], 1)
    else if e = false ∧ c = 92 then (termR t l true).map fun o => (o.1, o.2 + 1)
    else (termR t l false).map fun o => (c :: o.1, o.2 + 1)
/-- What is read out of the bytes from n on. -/
def termO (bs : List UInt8) (n : Int) (t : UInt8) : Option (List UInt8 × Nat) := if 0 ≤ n ∧ n ≤ (bs.length : Int) then termR t (bs.drop n.toNat) false else none
def termL (bs : List UInt8) (n : Int) (t : UInt8) : List UInt8 := match termO bs n t with | some o => o.1 | none => []
def termN (bs : List UInt8) (n : Int) (t : UInt8) : Int := match termO bs n t with | some o => n + (o.2 : Int) | none => n
def termK (bs : List UInt8) (n : Int) (t : UInt8) : Bool := (termO bs n t).isSome
theorem termR_len (t : UInt8) : ∀ (l : List UInt8) (e : Bool) (o : List UInt8 × Nat), termR t l e = some o → o.1.length ≤ o.2 ∧ o.2 ≤ l.length ∧ 0 < o.2
  | [], _, o, h => by simp [termR] at h
  | c :: l, e, o, h => by
    unfold termR at h
    split at h
    · injection h with h; subst h; simp
    · split at h
      · cases h2 : termR t l true with
        | none => rw [h2] at h; simp at h
        | some o2 =>
          have h3 := termR_len t l true o2 h2
          rw [h2] at h
          simp at h
          subst h
          simp
          omega
      · cases h2 : termR t l false with
        | none => rw [h2] at h; simp at h
        | some o2 =>
          have h3 := termR_len t l false o2 h2
          rw [h2] at h
          simp at h
          subst h
          simp
          omega
theorem termL_length (bs : List UInt8) (n : Int) (t : UInt8) : (termL bs n t).length ≤ bs.length := by
  unfold termL
  cases h : termO bs n t with
  | none => simp
  | some o =>
    unfold termO at h
    split at h
    · have := termR_len t _ _ o h
      rw [List.length_drop] at this
      show o.1.length ≤ _
      omega
    · cases h
/-- Between two bytes: what was gathered, and what is to come. -/
def TermAt (bs : List UInt8) (p : Nat) (t : UInt8) (k : Nat) (e : Bool) (acc : List UInt8) : Prop :=
  termR t (bs.drop p) false = (termR t (bs.drop k) e).map fun o => (acc ++ o.1, (k - p) + o.2)
theorem TermAt.start (bs : List UInt8) (p : Nat) (t : UInt8) : TermAt bs p t p false [] := by
  unfold TermAt
  cases termR t (bs.drop p) false with
  | none => rfl
  | some o => simp
theorem termAt_drop {bs : List UInt8} {k : Nat} (h : k < bs.length) : bs.drop k = bs[k] :: bs.drop (k + 1) := List.drop_eq_getElem_cons h
theorem TermAt.hit {bs : List UInt8} {p k : Nat} {t : UInt8} {acc : List UInt8} (h : TermAt bs p t k false acc) (hk : k < bs.length) (hc : bs[k] = t) : termR t (bs.drop p) false = some (acc, k - p + 1) := by
  unfold TermAt at h
  rw [h, termAt_drop hk, termR, if_pos ⟨rfl, hc⟩]
  simp
theorem TermAt.esc {bs : List UInt8} {p k : Nat} {t : UInt8} {acc : List UInt8} (h : TermAt bs p t k false acc) (hp : p ≤ k) (hk : k < bs.length) (hc : ¬ bs[k] = t) (he : bs[k] = 92) : TermAt bs p t (k + 1) true acc := by
  unfold TermAt at h ⊢
  rw [h, termAt_drop hk, termR, if_neg (fun h => hc h.2), if_pos ⟨rfl, he⟩, Option.map_map]
  congr 1
  funext o
  simp only [Function.comp]
  congr 1
  omega
theorem TermAt.take {bs : List UInt8} {p k : Nat} {t : UInt8} {e : Bool} {acc : List UInt8} (h : TermAt bs p t k e acc) (hp : p ≤ k) (hk : k < bs.length) (hc : e = true ∨ (¬ bs[k] = t ∧ ¬ bs[k] = 92)) : TermAt bs p t (k + 1) false (acc ++ [bs[k]]) := by
  unfold TermAt at h ⊢
  rw [h, termAt_drop hk, termR]
  rw [if_neg (fun h => by rcases hc with hc | hc; · rw [hc] at h; cases h.1
                          · exact hc.1 h.2), if_neg (fun h => by rcases hc with hc | hc; · rw [hc] at h; cases h.1
                                                                 · exact hc.2 h.2), Option.map_map]
  congr 1
  funext o
  simp only [Function.comp]
  congr 1
  · simp
  · omega
theorem TermAt.none {bs : List UInt8} {p k : Nat} {t : UInt8} {e : Bool} {acc : List UInt8} (h : TermAt bs p t k e acc) (hk : bs.length ≤ k) : termR t (bs.drop p) false = none := by
  unfold TermAt at h
  rw [h, List.drop_eq_nil_of_le hk]
  rfl
end Go.Proofs.Ytikpbeealeofaaa
