/- The contract of the program's rulesMarked. -/
import Derived.Test.YtefkhknfjohnaaaArr
import Derived.Test.YtefkhknfjohnaaaGPu
import Derived.Test.YtefkhknfjohnaaaGDI
import Derived.Deep.CutRange
namespace Go.Proofs.Ytefkhknfjohnaaa
open Go Go.RowKit
theorem picks_no {p : Nat → Bool} {n : Nat} (h : p n = false) : picks p (n + 1) = picks p n := by
  conv => lhs; unfold picks
  rw [if_neg (by rw [h]; simp)]
theorem picks_yes {p : Nat → Bool} {n : Nat} (h : p n = true) : picks p (n + 1) = picks p n ++ [(n : Int)] := by
  conv => lhs; unfold picks
  rw [if_pos h]
set_option maxRecDepth 100000 in
set_option maxHeartbeats 4000000 in
theorem marked_impl (a : Option Addr) (rs : List RuleV) (cap : Nat) (u : Nat → Bool) (b : Bool) (w : World) (hn24 : rs.length ≤ 24) :
    Calls Try.prog 88 #[.agg #[.slice a rs.length cap], .agg (arrB u 24).toArray, .bool b] w (IntsOut (picks (fun i => u i == b) rs.length) w) := by
  obtain ⟨z, hz⟩ : ∃ z, z = (arrB u 24).toArray := ⟨_, rfl⟩
  obtain ⟨w0, hw0⟩ : ∃ w0, w0 = (w.alloc (.cells #[.slice a rs.length cap] 38)).alloc (.cells z 109) := ⟨_, rfl⟩
  have hB0 : Below w.heap.size w w0 := by subst hw0; exact ((Below.refl _ _).alloc (Nat.le_refl _) _).alloc (by simp) _
  have hX0 : CellsAt w.heap.size [.slice a rs.length cap] w0 := by subst hw0; exact (CellsAt.new w _ _).below ((Below.refl _ _).alloc (Nat.le_refl _) _)
  have hA0 : CellsAt (w.heap.size + 1) (arrB u 24) w0 := by subst hw0; subst hz; have h1 := CellsAt.new (w.alloc (.cells #[.slice a rs.length cap] 38)) (arrB u 24) 109; rw [World.size_alloc] at h1; exact h1
  have hs0 : w0.heap.size = w.heap.size + 2 := by subst hw0; simp
  have bx := ((hX0.below ((Below.refl _ w0).alloc (Nat.le_refl _) (.cells #[] 3))) 0 _ rfl).1
  have HB0 := Lib.hid hB0
  have HA := Lib.hid hA0
  have HS0 := Lib.hid hs0
  have hW := Lib.hid hw0
  have hHZ := Lib.hid hz
  clear hB0 hX0 hA0 hs0 hw0
  obtain ⟨p, hp⟩ : ∃ p : Nat → Bool, p = fun i => u i == b := ⟨_, rfl⟩
  rw [← hp]
  have HP : Hid (∀ i, p i = (u i == b)) := fun i => by rw [hp]
  clear hp
  go_enter Try.func88, Try.ntmps88
  rw [← hz]
  clear hz
  go_upto_region 1 with fail
  rw [← hW.out]
  clear hW
  go_wp2
  go_loopw [7, 8, 13] (fun v _ i W => ∃ (n : Nat) (zs : List Int) (v0 : Value), n ≤ rs.length ∧ i = .int .i64 n ∧ v0 = v ∧ Hid (W.ownsRow w0.heap.size 3 1 v0 zs.length (zs.map (Value.int .i64))) ∧ Hid (zs = picks p n) ∧ zs.length ≤ n ∧ Hid (Below w0.heap.size w0 W)) (fun _ _ i _ => rs.length - (intOf i).toNat)
  case atStart => exact ⟨0, [], _, Nat.zero_le _, rfl, rfl, World.ownsRow_made w0 #[] 0 (Nat.le_refl _) (Nat.zero_le _) rfl, rfl, Nat.le_refl _, (Below.refl _ _).alloc (Nat.le_refl _) _⟩
  case round =>
    obtain ⟨n, zs, v0, hnl, rfl, rfl, ho, hz, hzn, hbw⟩ := hrel
    have n0 : (0 : Int) ≤ (n : Int) := by omega
    by_cases hlt : n < rs.length
    · have n1 : (n : Int) < (rs.length : Int) := by omega
      have n2 : (n : Int) < 24 := by omega
      have un := (HA.out.below hbw.out n _ (arrB_at u (by omega))).1
      cases hcp : p n with
      | false =>
        have hz2 : Hid (zs = picks p (n + 1)) := by show _ = _; rw [hz.out, picks_no hcp]
        have e1 : (u n == b) = false := by rw [← HP.out]; exact hcp
        clear hcp
        generalize u n = c at un e1
        go_wp2
        go_roundw
        case rel => exact ⟨n + 1, zs, v0, by omega, by go_num, rfl, ho, hz2, by omega, hbw⟩
        case measure => simp [intOf]; omega
      | true =>
        have hz2 : Hid (zs ++ [(n : Int)] = picks p (n + 1)) := by show _ = _; rw [hz.out, picks_yes hcp]
        have e1 : (u n == b) = true := by rw [← HP.out]; exact hcp
        clear hcp
        generalize u n = c at un e1
        go_wp2_with (at_builtin; refine wp_pushF (f := Value.int .i64) 74 3 (.int .i64 0) 8 Try.underlying74 infoInt rfl rfl (.tmp 21) (.tmp 23) rfl w0.heap.size v0 zs (n : Int) rfl wr (by simp [Act.eval]) (by simp [Act.eval]) ho.out (by unfold maxLen; omega) (by omega) hbw.out.size ?_)
        intro v' w' hown hgrow _
        have ho2 : Hid (w'.ownsRow w0.heap.size 3 1 v' (zs ++ [(n : Int)]).length ((zs ++ [(n : Int)]).map (Value.int .i64))) := by show World.ownsRow _ _ _ _ _ _ _; simpa using hown
        have hb2 := Lib.hid (hbw.out.grown hgrow hbw.out.size fun g hg => (World.ownsRow.lt (w := wr) ho.out g hg).1)
        clear hown hgrow
        go_wp2
        go_roundw
        case rel => exact ⟨n + 1, zs ++ [(n : Int)], v', by omega, by go_num, rfl, ho2, hz2, by simp; omega, hb2⟩
        case measure => simp [intOf]; omega
    · have n1 : ¬ (n : Int) < (rs.length : Int) := by omega
      obtain rfl : n = rs.length := by omega
      obtain ⟨x, c, rfl, hrow⟩ := own_row (f := Value.int .i64) ho.out
      have HRW : Hid (RowF (Value.int .i64) w.heap.size x zs c wr) := hrow.more (by have h1 := HS0.out; omega)
      have HBX := Lib.hid (HB0.out.trans (hbw.out.mono HB0.out.size))
      clear hrow ho
      go_wp2
      go_ret
      simp only [← hz.out]
      exact ⟨x, c, rfl, HRW.out, HBX.out⟩
end Go.Proofs.Ytefkhknfjohnaaa
