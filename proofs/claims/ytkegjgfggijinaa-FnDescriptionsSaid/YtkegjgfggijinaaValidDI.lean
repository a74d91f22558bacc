/- The contract of the program's IsValidDescription. -/
import Derived.Test.YtkegjgfggijinaaValidRI
namespace Go.Proofs.Ytkegjgfggijinaa
open Go Go.RowKit
theorem allV_next {f : RuleV → Bool} {rs : List RuleV} {k : Nat} (h : ∀ i : Nat, i < k → validAt f rs (i : Int) = true) (hk : validAt f rs (k : Int) = true) : ∀ i : Nat, i < k + 1 → validAt f rs (i : Int) = true := fun i hi => by
  by_cases e : i = k
  · subst e; exact hk
  · exact h i (by omega)
set_option maxRecDepth 100000 in
set_option maxHeartbeats 2000000 in
theorem validd_impl (a : Option Addr) (rs : List RuleV) (cap : Nat) (w : World) (hl : rs.length ≤ 1048576) (hs : ∀ r ∈ rs, Short r) (hp : ∀ r ∈ rs, Spelt r) (h : RdC a rs w) :
    Calls Try.prog 9 #[.agg #[.slice a rs.length cap]] w fun e w' => e = .returned (.bool (descrB (kindI rs) rs)) ∧ Below w.heap.size w w' := by
  obtain ⟨w0, hw0⟩ : ∃ w0, w0 = w.alloc (.cells #[.slice a rs.length cap] 26) := ⟨_, rfl⟩
  have hB : Below w.heap.size w w0 := by subst hw0; exact (Below.refl _ _).alloc (Nat.le_refl _) _
  have hX : CellsAt w.heap.size [.slice a rs.length cap] w0 := by subst hw0; exact CellsAt.new w _ _
  have HC := Lib.hid (h.below hB)
  have HB := Lib.hid hB
  have HX := Lib.hid hX
  have HS := Lib.hid hs
  have HP := Lib.hid hp
  have hW := Lib.hid hw0
  clear h hB hX hs hp hw0
  by_cases hn : 1 ≤ (rs.length : Int) ∧ (rs.length : Int) ≤ 24
  case neg =>
    have hr := Lib.hid (descrB_len (f := kindI rs) (rs := rs) (by omega))
    have hd := decide_eq_false hn
    go_enter Try.func9, Try.ntmps9
    go_wp2_with fail
    refine (inI_any _ _ _ false _ hd).mono ?_
    rintro e w1 ⟨rfl, rfl⟩
    go_wp2
    rw [← hW.out]
    go_ret
    exact ⟨ret_bool hr.out.symm, HB.out⟩
  have hd := decide_eq_true hn
  have hn2 : Hid (1 ≤ rs.length ∧ rs.length ≤ 24) := ⟨by omega, by omega⟩
  go_enter Try.func9, Try.ntmps9
  go_wp2_with fail
  refine (inI_any _ _ _ true _ hd).mono ?_
  rintro e w1 ⟨rfl, rfl⟩
  clear hd hn
  go_wp2
  go_loopw [12] (fun i W => ∃ k : Nat, k ≤ rs.length ∧ i = .int .i64 k ∧ Hid (∀ i : Nat, i < k → validAt (kindI rs) rs (i : Int) = true) ∧ Hid (Below w0.heap.size w0 W)) (fun i _ => rs.length - (intOf i).toNat)
  case atStart => exact ⟨0, Nat.zero_le _, rfl, fun i hi => by omega, by rw [← hW.out]; exact Below.refl _ _⟩
  case round =>
    obtain ⟨k, hk, rfl, hv, hbw⟩ := hrel
    have k0 : (0 : Int) ≤ (k : Int) := by omega
    have HBW := Lib.hid (HB.out.trans (hbw.out.mono HB.out.size))
    have bx := (HX.out.below hbw.out 0 _ rfl).1
    by_cases hlt : k < rs.length
    · have k1 : (k : Int) < (rs.length : Int) := by omega
      have HQ := Lib.hid (validr_impl a rs cap (k : Int) wr hl HS.out HP.out (HC.out.below hbw.out))
      cases hb : validAt (kindI rs) rs (k : Int) with
      | false =>
        have hr := Lib.hid (descrB_bad (f := kindI rs) hlt hb)
        rw [hb] at HQ
        clear hb
        go_wp2_with fail
        refine HQ.out.mono ?_
        rintro e w2 ⟨rfl, hb2⟩
        have HB2 := Lib.hid (HBW.out.trans (hb2.mono HBW.out.size))
        clear hb2
        go_wp2
        go_ret
        exact ⟨ret_bool hr.out.symm, HB2.out⟩
      | true =>
        have hv2 := Lib.hid (allV_next hv.out hb)
        rw [hb] at HQ
        clear hb
        go_wp2_with fail
        refine HQ.out.mono ?_
        rintro e w2 ⟨rfl, hb2⟩
        have HB2 := Lib.hid (hbw.out.trans (hb2.mono hbw.out.size))
        clear hb2
        go_wp2
        go_roundw
        case rel => exact ⟨k + 1, by omega, by go_num, hv2, HB2⟩
        case measure => simp [intOf]; omega
    · have k1 : ¬ (k : Int) < (rs.length : Int) := by omega
      obtain rfl : k = rs.length := by omega
      have hr := Lib.hid (descrB_yes (f := kindI rs) hn2.out hv.out)
      go_wp2
      go_ret
      exact ⟨ret_bool hr.out.symm, HBW.out⟩
end Go.Proofs.Ytkegjgfggijinaa
