/- Contracts of the laws' marks of descriptions, and of reading the marks back. -/
import Derived.Test.YtpeldhediaodjaaMarkR
import Derived.Deep.RegionHeld3
namespace Go.Proofs.Ytpeldhediaodjaa
open Go Go.RowKit
/-- A description in new memory is marked. -/
def MarkOutD (lo hi : Nat) (a : Option Addr) (rs : List RuleV) (cap k : Nat) (w : World) (e : Ending) (w' : World) : Prop :=
  e = .returned (.int .i64 ((k + sumW rs rs.length : Nat) : Int)) ∧ ∃ L, Mixed k rs rs.length L ∧ OwnR lo hi a L cap w' ∧ Apart lo hi w w'
theorem OwnS.to {lo hi b off : Nat} {css : List (List Value)} {L : List RuleV} {cap : Nat} {w : World} (h : OwnS lo hi b off css L w) (hc : L.length ≤ cap) : OwnR lo hi (some ⟨b, off, none⟩) L cap w :=
  ⟨css, h.1, h.2.1, .inr ⟨b, off, rfl, h.2.2.1.1, h.2.2.1.2, h.2.2.2.1, h.2.2.2.2⟩, hc, fun e => by cases e⟩
theorem mark_none' (a : Option Addr) (cap k : Nat) (w : World) :
    Calls Try.prog 44 #[.slice a 0 cap, .int .i64 (k : Int)] w fun e w' => e = .returned (.int .i64 (k : Int)) ∧ w = w' := by
  go_enter Try.func44, Try.ntmps44
  go_wp2
  go_loop [1, 5] (fun q i => q = .int .i64 (k : Int) ∧ i = .int .i64 0) (fun _ _ => 0)
  case atStart => exact ⟨rfl, rfl⟩
  case round =>
    obtain ⟨rfl, rfl⟩ := hrel
    go_wp2
    go_ret
    exact ⟨rfl, rfl⟩
theorem mark_rules (lo hi : Nat) (a : Option Addr) (rs : List RuleV) (cap k : Nat) (w : World) (hl : rs.length ≤ 1048576) (hs : ∀ r ∈ rs, Short r) (hk0 : 0 < k) (hk : k + sumW rs rs.length ≤ 1073741824) (h : OwnR lo hi a rs cap w) :
    Calls Try.prog 44 #[.slice a rs.length cap, .int .i64 (k : Int)] w (MarkOutD lo hi a rs cap k w) := by
  have h0 := h
  obtain ⟨css, h1, h2, h3, h4, h5⟩ := h
  rcases h3 with rfl | ⟨b, off, rfl, h6, h7, h8, h9⟩
  · refine (mark_none' a cap k w).mono ?_
    rintro e w' ⟨rfl, rfl⟩
    exact ⟨by simp [sumW], [], Mixed.start k [], h0, Apart.refl _ _ _⟩
  · refine (markr_some lo hi b off rs css cap k w hl hs hk0 hk ⟨h1, h2, ⟨h6, h7⟩, h8, h9⟩).mono ?_
    rintro e w' ⟨rfl, L, css', hmix, ho, ha⟩
    exact ⟨rfl, L, hmix, ho.to (by rw [hmix.1]; exact h4), ha⟩
set_option maxRecDepth 100000 in
theorem mark_descr (lo hi : Nat) (a : Option Addr) (rs : List RuleV) (cap k : Nat) (w : World) (hl : rs.length ≤ 1048576) (hs : ∀ r ∈ rs, Short r) (hk0 : 0 < k) (hk : k + sumW rs rs.length ≤ 1073741824) (h : OwnR lo hi a rs cap w) :
    Calls Try.prog 24 #[.agg #[.slice a rs.length cap], .int .i64 (k : Int)] w (MarkOutD lo hi a rs cap k w) := by
  have hB : ∀ o, Below w.heap.size w (w.alloc o) := fun o => (Below.refl _ _).alloc (Nat.le_refl _) _
  have HB := fun o => Lib.hid (hB o)
  have H := fun o => Lib.hid (h.below (hB o))
  have HS := Lib.hid hs
  clear h hs hB
  go_enter Try.func24, Try.ntmps24
  go_wp2_with fail
  refine (mark_rules lo hi a rs cap k _ hl HS.out hk0 hk (H _).out).mono ?_
  rintro e w1 ⟨rfl, L, hmix, ho, ha⟩
  have HA := Lib.hid ((Apart.ofBelow (lo := lo) (hi := hi) (HB _).out).trans ha)
  have HO := Lib.hid ho
  have HM := Lib.hid hmix
  clear ha ho hmix
  obtain ⟨t, hT⟩ : ∃ t, t = k + sumW rs rs.length := ⟨_, rfl⟩
  rw [← hT]
  have HT := Lib.hid hT
  clear hT
  go_wp2
  go_ret
  exact ⟨ret_int (by rw [HT.out]), L, HM.out, HO.out, HA.out⟩
end Go.Proofs.Ytpeldhediaodjaa
