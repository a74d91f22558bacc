/- The names of drawn rules and of drawn parts are names, and differ. No program is walked here. -/
import Derived.Test.YtkegjgfggijinaaSeq6
namespace Go.Proofs.Ytkegjgfggijinaa
open Go Go.RowKit
def pqr : List ByteArray := [⟨#[112]⟩, ⟨#[113]⟩, ⟨#[114]⟩]
theorem name_all : ∀ s ∈ bases ++ pqr, ∀ n : Fin 10, (∀ i : Fin (s ++ digitS n.val).size, nameAt (s ++ digitS n.val)[i.val] i.val) ∧ 1 ≤ (s ++ digitS n.val).size ∧ (s ++ digitS n.val).size ≤ 12 := by decide +kernel
theorem name_made {s : ByteArray} {n : Nat} (hs : s ∈ bases ++ pqr) (hn : n < 10) : nameB (s ++ digitS n) = true := by
  obtain ⟨h1, h2⟩ := name_all s hs ⟨n, hn⟩
  rw [nameB_end (fun i hi _ => h1 ⟨i, hi⟩)]
  exact decide_eq_true h2
theorem name_ne : ∀ s ∈ bases ++ pqr, ∀ t ∈ bases ++ pqr, ∀ n m : Fin 10, n ≠ m → s ++ digitS n.val ≠ t ++ digitS m.val := by decide +kernel
theorem made_ne {s t : ByteArray} {n m : Nat} (hs : s ∈ bases ++ pqr) (ht : t ∈ bases ++ pqr) (hn : n < 10) (hm : m < 10) (hne : n ≠ m) : s ++ digitS n ≠ t ++ digitS m := name_ne s hs t ht ⟨n, hn⟩ ⟨m, hm⟩ fun e => hne (by injection e)
theorem names_seq {m : Nat} {ns : List ByteArray} (h : SeqN m 0 ns) (h1 : 1 ≤ m) (h3 : m ≤ 3) : namesB ns = true := by
  obtain ⟨hl, hn⟩ := h
  have hl' : ns.length = m := by omega
  have hto : namesTo ns ns.length := fun i hi _ => by
    obtain ⟨s, hs, e⟩ := hn i hi
    refine ⟨?_, hasS_false fun hmem => ?_⟩
    · rw [e]; exact name_made (List.mem_append_right _ hs) (by omega)
    · obtain ⟨t, ht, e2⟩ := List.getElem_of_mem hmem
      rw [List.getElem_take] at e2
      have ht2 : t < i ∧ t < ns.length := by simp at ht; omega
      obtain ⟨s2, hs2, e3⟩ := hn t ht2.2
      rw [e3, e] at e2
      exact made_ne (List.mem_append_right _ hs2) (List.mem_append_right _ hs) (by omega) (by omega) (by omega) e2
  rw [namesB_end hto]
  exact decide_eq_true (by omega)
theorem kids_seq {n : Nat} {ks : List Int} (h : KidsN n ks) : kidsB ks (n : Int) = true := by
  unfold kidsB
  rw [List.all_eq_true]
  intro x hx
  have := h x hx
  exact decide_eq_true (by omega)
theorem kind6 {rs : List RuleV} {nm : ByteArray} {ns : List ByteArray} {ks : List Int} {m : Nat} (h : SeqN m 0 ns) (hk : ks.length + 0 = m) (h1 : 1 ≤ m) (h3 : m ≤ 3) : kindI rs ⟨nm, 6, 0, false, [], ns, [], ks⟩ = true := by
  have h2 := names_seq h h1 h3
  have h4 := h.1
  simp [kindI, meetsB, onlyR, sameR, h2]
  omega
theorem row_blk {α : Type} {f : α → Value} {B : Nat} {a : Option Addr} {xs : List α} {cap : Nat} {w : World} (h : RowF f B a xs cap w) : ∀ b ∈ sliceBlk (.slice a xs.length cap), B ≤ b := fun b hb => by
  rcases h.1 with rfl | ⟨g, off, rfl, hB, _⟩
  · cases a <;> simp [sliceBlk] at hb
  · cases xs with
    | nil => simp [sliceBlk] at hb
    | cons x xs => simp [sliceBlk] at hb; omega
end Go.Proofs.Ytkegjgfggijinaa
