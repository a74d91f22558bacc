/- The contract of the model's l4Names. -/
import Derived.Test.YtkegjgfggijinaaGreatDoorHas
import Derived.Test.YtkegjgfggijinaaGreatDoorNames
import Derived.Test.YtkegjgfggijinaaGreatDoorLimit
namespace Go.Proofs.YtkegjgfggijinaaGreatDoor
open Go Go.RowKit
/-- The first k strings are names, each not among those ahead of it. -/
def namesTo (ss : List ByteArray) (k : Nat) : Prop := ∀ i (h : i < ss.length), i < k → nameB ss[i] = true ∧ hasS (ss.take i) ss[i] = false
open Classical in
/-- Whether the strings are names of parts. -/
noncomputable def namesB (ss : List ByteArray) : Bool := decide (namesTo ss ss.length ∧ 1 ≤ ss.length ∧ ss.length ≤ 8)
theorem namesTo.next {ss : List ByteArray} {k : Nat} (h : namesTo ss k) (hk : k < ss.length) (h1 : nameB ss[k] = true) (h2 : hasS (ss.take k) ss[k] = false) : namesTo ss (k + 1) := fun i hi hik => by
  by_cases e : i = k
  · subst e; exact ⟨h1, h2⟩
  · exact h i hi (by omega)
open Classical in
theorem namesB_bad {ss : List ByteArray} {k : Nat} (hk : k < ss.length) (h : ¬ (nameB ss[k] = true ∧ hasS (ss.take k) ss[k] = false)) : namesB ss = false := by
  unfold namesB
  exact decide_eq_false fun h' => h (h'.1 k hk hk)
open Classical in
theorem namesB_end {ss : List ByteArray} (h : namesTo ss ss.length) : namesB ss = decide (1 ≤ ss.length ∧ ss.length ≤ 8) := by
  unfold namesB
  simp [h]
theorem RdF.take {α : Type} {f : α → Value} {a : Option Addr} {xs : List α} {w : World} (h : RdF f a xs w) (n : Nat) : RdF f a (xs.take n) w := fun j hj => by
  have hj2 : j < xs.length := by simp at hj; omega
  obtain ⟨b, off, ha, hc⟩ := h j hj2
  exact ⟨b, off, ha, by rw [List.getElem_take]; exact hc⟩
theorem has_take (a : Option Addr) (ss : List ByteArray) (k cap : Nat) (x : ByteArray) (w : World) (hl : ss.length ≤ 1073741824) (hk : k ≤ ss.length) (h : RdS a ss w) :
    Calls Tryz.prog 194 #[.slice a k cap, .string x] w fun e w' => e = .returned (.bool (hasS (ss.take k) x)) ∧ w' = w := by
  have e : (ss.take k).length = k := by simp; omega
  have h2 := has_spec a (ss.take k) cap x w (by omega) (h.take k)
  rw [e] at h2
  exact h2.mono fun _ _ ⟨h3, h4⟩ => ⟨h3, h4.symm⟩
set_option maxRecDepth 100000 in
set_option maxHeartbeats 1000000 in
theorem names_spec (a : Option Addr) (ss : List ByteArray) (cap : Nat) (w : World) (hl : ss.length ≤ 1048576) (hcap : ss.length ≤ cap) (hs : ∀ s ∈ ss, s.size ≤ 1048576) (h : RdS a ss w) :
    Calls Tryz.prog 180 #[.slice a ss.length cap] w fun e w' => e = .returned (.bool (namesB ss)) ∧ ∃ n, w' = w.drewN n := by
  have H := Lib.hid h
  have HS := Lib.hid hs
  clear h hs
  go_enter Tryz.func180, Tryz.ntmps180
  go_wp2
  go_loopw [3] (fun i W => ∃ k n : Nat, k ≤ ss.length ∧ i = .int .i64 k ∧ Hid (W = w.drewN n) ∧ Hid (namesTo ss k)) (fun i _ => ss.length - (intOf i).toNat)
  case atStart => exact ⟨0, 0, Nat.zero_le _, rfl, rfl, fun i _ h => by omega⟩
  case round =>
    obtain ⟨k, n, hk, rfl, hw, hn⟩ := hrel
    have Hr : Hid (RdS a ss wr) := by
      show RdF _ _ _ _
      rw [hw.out]; exact H.out
    have HE : ∀ m, Hid (wr.drewN m = w.drewN (n + m)) := fun m => by
      show _ = _
      rw [hw.out, World.drewN_drewN]
    have k0 : (0 : Int) ≤ (k : Int) := by omega
    by_cases hlt : k < ss.length
    · have k1 : (k : Int) < (ss.length : Int) := by omega
      have k2 : (k : Int) ≤ (cap : Int) := by omega
      have hsz := HS.out _ (List.getElem_mem hlt)
      have HQ1 : Hid (∀ m, Calls Tryz.prog 160 #[.string ss[k]] (wr.drewN m) fun e w' => e = .returned (.bool (nameB ss[k])) ∧ w' = wr.drewN m) := fun m => (name_spec ss[k] (wr.drewN m) (by omega)).mono fun _ _ ⟨h3, h4⟩ => ⟨h3, h4.symm⟩
      have HQ2 : Hid (∀ m, Calls Tryz.prog 194 #[.slice a k cap, .string ss[k]] (wr.drewN m) fun e w' => e = .returned (.bool (hasS (ss.take k) ss[k])) ∧ w' = wr.drewN m) := fun m => has_take a ss k cap ss[k] (wr.drewN m) (by omega) hk Hr.out
      have hbad := fun h => Lib.hid (namesB_bad hlt h)
      have hgood := fun h1 h2 => Lib.hid (hn.out.next hlt h1 h2)
      obtain ⟨b, off, rfl, hc⟩ := Hr.out k hlt
      generalize nameB ss[k] = b1 at HQ1 hbad hgood
      generalize hasS (ss.take k) ss[k] = b2 at HQ2 hbad hgood
      generalize ss[k] = x at HQ1 HQ2 hc hsz
      cases b1 with
      | false =>
        have hr := hbad (by simp)
        clear hbad hgood
        go_wp2
        go_quiet ((go_at_call 160; with_reducible exact Calls.quiet_of_same (HQ1.out _)))
        go_wp2
        go_ret
        exact ⟨ret_bool hr.out.symm, _, (HE _).out⟩
      | true =>
        cases b2 with
        | true =>
          have hr := hbad (by simp)
          clear hbad hgood
          go_wp2
          go_quiet (first | (go_at_call 160; with_reducible exact Calls.quiet_of_same (HQ1.out _)) | (go_at_call 194; with_reducible exact Calls.quiet_of_same (HQ2.out _)))
          go_wp2
          go_ret
          exact ⟨ret_bool hr.out.symm, _, (HE _).out⟩
        | false =>
          have hr := hgood rfl rfl
          clear hbad hgood
          go_wp2
          go_quiet (first | (go_at_call 160; with_reducible exact Calls.quiet_of_same (HQ1.out _)) | (go_at_call 194; with_reducible exact Calls.quiet_of_same (HQ2.out _)))
          go_wp2
          go_roundw
          case rel => exact ⟨k + 1, _, by omega, by go_num, HE _, hr⟩
          case measure => simp [intOf]; omega
    · have k1 : ¬ (k : Int) < (ss.length : Int) := by omega
      obtain rfl : k = ss.length := by omega
      have hr := Lib.hid (namesB_end hn.out)
      go_wp2_with fail
      refine (in_any (ss.length : Int) 1 8 (namesB ss) _ (by rw [hr.out]; simp only [decide_eq_decide]; omega)).mono ?_
      rintro e w1 ⟨rfl, rfl⟩
      go_wp2
      go_ret
      exact ⟨rfl, _, hw.out⟩
end Go.Proofs.YtkegjgfggijinaaGreatDoor
