/- EscapeAll as data: every byte of the content escaped, then the terminator; what is read back of the escaped forms. No program is walked here. -/
import Derived.Test.YtefkhknfjohnaaaGP
import Derived.Test.YtefkhknfjohnaaaPE
namespace Go.Proofs.Ytefkhknfjohnaaa
open Go Go.RowKit
def escA : List UInt8 → List UInt8
  | [] => []
  | c :: l => 92 :: c :: escA l
def escAF (t : UInt8) (bs : List UInt8) : List UInt8 := escA bs ++ [t]
theorem escA_length : ∀ bs : List UInt8, (escA bs).length = 2 * bs.length
  | [] => rfl
  | c :: l => by simp only [escA, List.length_cons, escA_length l]; omega
theorem escAF_length (t : UInt8) (bs : List UInt8) : (escAF t bs).length = 2 * bs.length + 1 := by
  simp only [escAF, List.length_append, List.length_singleton, escA_length]
theorem escA_next {bs : List UInt8} {j : Nat} (h : j < bs.length) : escA (bs.drop j) = [92, bs[j]] ++ escA (bs.drop (j + 1)) := by
  rw [List.drop_eq_getElem_cons h, escA]; rfl
theorem term_all {t : UInt8} (ht : t ≠ 92) : ∀ b : List UInt8, termR t (escA b ++ [t]) false = some (b, 2 * b.length + 1)
  | [] => by simp [escA, termR]
  | c :: b => by
    have ih := term_all ht b
    rw [escA]
    simp only [List.cons_append]
    rw [termR, if_neg (fun h => ht h.2.symm), if_pos ⟨rfl, rfl⟩, termR, if_neg (by simp), if_neg (by simp), ih]
    simp only [Option.map_some, List.length_cons]
    congr 2
theorem term_cut {t : UInt8} (ht : t ≠ 92) : ∀ b : List UInt8, termR t (escB t b) false = none
  | [] => by simp [escB, termR]
  | c :: b => by
    have ih := term_cut ht b
    rw [escB]
    by_cases hc : c = t ∨ c = 92
    · rw [if_pos hc]
      simp only [List.cons_append, List.nil_append]
      rw [termR, if_neg (fun h => ht h.2.symm), if_pos ⟨rfl, rfl⟩, termR, if_neg (by simp), if_neg (by simp), ih]
      rfl
    · rw [if_neg hc]
      simp only [List.cons_append, List.nil_append]
      rw [termR, if_neg (fun h => hc (.inl h.2)), if_neg (fun h => hc (.inr h.2)), ih]
      rfl
theorem escAF_read {t : UInt8} (ht : t ≠ 92) (b : List UInt8) : termL (escAF t b) 0 t = b ∧ termN (escAF t b) 0 t = 2 * (b.length : Int) + 1 ∧ termK (escAF t b) 0 t = true := by
  have h : termO (escAF t b) 0 t = some (b, 2 * b.length + 1) := by
    unfold termO escAF
    rw [if_pos ⟨Int.le_refl 0, by omega⟩]
    exact term_all ht b
  refine ⟨by unfold termL; rw [h], ?_, by unfold termK; rw [h]; rfl⟩
  unfold termN
  rw [h]
  show (0 : Int) + ((2 * b.length + 1 : Nat) : Int) = _
  omega
theorem escB_read {t : UInt8} (b : List UInt8) (hE : ∀ R, termR t (escB t b ++ [t] ++ R) false = some (b, (escB t b).length + 1)) : termL (escB t b ++ [t]) 0 t = b ∧ termN (escB t b ++ [t]) 0 t = ((escB t b ++ [t]).length : Int) ∧ termK (escB t b ++ [t]) 0 t = true := by
  have h : termO (escB t b ++ [t]) 0 t = some (b, (escB t b).length + 1) := by
    unfold termO
    rw [if_pos ⟨Int.le_refl 0, by omega⟩]
    have := hE []
    rw [List.append_nil] at this
    exact this
  refine ⟨by unfold termL; rw [h], ?_, by unfold termK; rw [h]; rfl⟩
  unfold termN
  rw [h]
  simp
theorem escB_cut {t : UInt8} (ht : t ≠ 92) (b : List UInt8) : termK (escB t b) 0 t = false := by
  have h : termO (escB t b) 0 t = none := by
    unfold termO
    rw [if_pos ⟨Int.le_refl 0, by omega⟩]
    exact term_cut ht b
  unfold termK
  rw [h]
  rfl
end Go.Proofs.Ytefkhknfjohnaaa
