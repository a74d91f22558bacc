/- The contract of the program's CopyDescription. -/
import Derived.Test.YtkegjgfggijinaaCopyRule
namespace Go.Proofs.Ytkegjgfggijinaa
open Go Go.RowKit
set_option maxRecDepth 100000 in
set_option maxHeartbeats 2000000 in
theorem copy_impl (a : Option Addr) (rs : List RuleV) (cap : Nat) (w : World) (hl : rs.length ≤ 1048576) (hs : ∀ r ∈ rs, Short r) (h : RdR a rs w) :
    Calls Try.prog 13 #[.agg #[.slice a rs.length cap]] w (DescrOut rs w) := by
  have HS := Lib.hid hs
  obtain ⟨w0, hw0⟩ : ∃ w0, w0 = (w.alloc (.cells #[.slice a rs.length cap] 26)).alloc (.cells #[.slice none 0 0] 26) := ⟨_, rfl⟩
  have hz0 : w0.heap.size = w.heap.size + 2 := by subst hw0; simp
  have hB0 : Below w.heap.size w w0 := by
    subst hw0
    exact ((Below.refl _ w).alloc (Nat.le_refl _) _).alloc (by simp) _
  have hX0 : CellsAt w.heap.size [.slice a rs.length cap] w0 := by subst hw0; exact (CellsAt.new w _ _).below ((Below.refl _ _).alloc (Nat.le_refl _) _)
  have Z0 : CellsAt (w.heap.size + 1) [.slice none 0 0] w0 := by
    subst hw0
    have h1 := CellsAt.new (w.alloc (.cells #[.slice a rs.length cap] 26)) [.slice none 0 0] 26
    simpa using h1
  have HB0 := Lib.hid hB0
  have HZ0 := Lib.hid Z0
  have H := Lib.hid (h.below hB0)
  have hW := Lib.hid hw0
  have hmk := make_rules rs.length (by omega) w0
  rw [hw0] at hmk
  have bx := (hX0.below (w' := w0.alloc (.cells (madeCells #[.string ⟨#[]⟩, .int .i64 0, .int .i64 0, .bool false, .slice none 0 0, .slice none 0 0, .slice none 0 0, .slice none 0 0] (rs.length * 8)) 35)) ((Below.refl _ _).alloc (Nat.le_refl _) _) 0 _ rfl).1
  rw [hw0] at bx
  clear hB0 Z0 h hs hX0 hw0
  go_enter Try.func13, Try.ntmps13
  go_wp2
  clear hmk bx
  rw [← hW.out, show w.heap.size + 1 + 1 = w0.heap.size from by omega]
  have HZS := Lib.hid hz0
  clear hz0
  go_loopw [13] (fun i W => ∃ k : Nat, k ≤ rs.length ∧ i = .int .i64 k ∧ Hid (HalfR rs k w0.heap.size w0 W)) (fun i _ => rs.length - (intOf i).toNat)
  case atStart => exact ⟨0, Nat.zero_le _, rfl, HalfR.start rs _ w0⟩
  case round =>
    obtain ⟨k, hk, rfl, hh⟩ := hrel
    have k0 : (0 : Int) ≤ (k : Int) := by omega
    by_cases hlt : k < rs.length
    · have k1 : (k : Int) < (rs.length : Int) := by omega
      have hsh := Lib.hid (HS.out _ (List.getElem_mem hlt))
      obtain ⟨b, off, a4, c4, a5, c5, a6, c6, a7, c7, rfl, ⟨d0, d1, d2, d3, d4, d5, d6, d7⟩, h4, h5, h6, h7⟩ := (H.out.below hh.out.1).at k hlt
      have HR : Hid (IsRule rs[k] [.string rs[k].name, .int .i64 rs[k].kind, .int .i64 rs[k].size, .bool rs[k].little, .slice a4 rs[k].bytes.length c4, .slice a5 rs[k].names.length c5, .slice a6 rs[k].tags.length c6, .slice a7 rs[k].kids.length c7] wr) := ⟨a4, c4, a5, c5, a6, c6, a7, c7, rfl, h4, h5, h6, h7⟩
      have hnext := fun cs W1 => Lib.hid (hh.out.next (W1 := W1) (cs := cs) (Nat.le_refl _) hlt)
      clear h4 h5 h6 h7
      generalize rs[k] = r at d0 d1 d2 d3 d4 d5 d6 d7 HR hsh hnext
      obtain ⟨W2, hW2⟩ : ∃ W2, W2 = wr.alloc (.cells #[.string r.name, .int .i64 r.kind, .int .i64 r.size, .bool r.little, .slice a4 r.bytes.length c4, .slice a5 r.names.length c5, .slice a6 r.tags.length c6, .slice a7 r.kids.length c7] 35) := ⟨_, rfl⟩
      have hb2 : Below wr.heap.size wr W2 := by subst hW2; exact (Below.refl _ _).alloc (Nat.le_refl _) _
      have hs2 : Hid (W2.heap.size = wr.heap.size + 1) := by subst hW2; exact World.size_alloc _ _
      have HR2 := Lib.hid (HR.out.below hb2)
      have HB2 := Lib.hid hb2
      clear hb2 HR
      go_wp2_with fail
      rw [← hW2]
      clear hW2
      refine (copyrule_impl r _ _ hsh.out HR2.out).mono ?_
      rintro e w1 ⟨cs, rfl, hown, hb1⟩
      have hb12 : Below wr.heap.size wr w1 := HB2.out.trans (hb1.mono (by have := hs2.out; omega))
      have hN := Lib.hid ((hnext cs w1).out hb12 (hown.more (by have := hs2.out; omega) (Nat.le_refl _)))
      obtain ⟨_, hlt2, css, hcl, _, _, hfz, hzz, _⟩ := hh.out
      have zc := fun i v hv => (hb12.cell (p := ⟨w0.heap.size, k * 8 + i, none⟩) hlt2).trans (hzz k (Nat.le_refl _) hlt i v hv)
      have fc := fun i (hi : i < 8) => (hb12.frozen (p := ⟨w0.heap.size, k * 8 + i, none⟩) hlt2).trans (hfz (k * 8 + i) (by omega))
      have z0 := zc 0 _ rfl
      have z1 := zc 1 _ rfl
      have z2 := zc 2 _ rfl
      have z3 := zc 3 _ rfl
      have z4 := zc 4 _ rfl
      have z5 := zc 5 _ rfl
      have z6 := zc 6 _ rfl
      have z7 := zc 7 _ rfl
      have f0 := fc 0 (by omega)
      have f1 := fc 1 (by omega)
      have f2 := fc 2 (by omega)
      have f3 := fc 3 (by omega)
      have f4 := fc 4 (by omega)
      have f5 := fc 5 (by omega)
      have f6 := fc 6 (by omega)
      have f7 := fc 7 (by omega)
      rw [Nat.add_zero] at z0 f0
      obtain ⟨x4, y4, x5, y5, x6, y6, x7, y7, rfl, -⟩ := hown
      clear hb1 hb12 zc fc hfz hzz hnext d0 d1 d2 d3 d4 d5 d6 d7 HR2 HB2 hh
      go_wp2
      go_roundw
      case rel => exact ⟨k + 1, by omega, by go_num, hN⟩
      case measure => simp [intOf]; omega
    · have k1 : ¬ (k : Int) < (rs.length : Int) := by omega
      obtain rfl : k = rs.length := by omega
      have R := Lib.hid hh.out.end
      have hbw := hh.out.1
      have HBW := Lib.hid hbw
      obtain ⟨z0, t0⟩ := (HZ0.out.below hbw) 0 _ rfl
      have hsw := hbw.size
      clear hh hbw
      go_wp2
      (try simp only [Exit.inBlock, Exit.then])
      refine bodyPost_ret (v := .agg #[.slice (some ⟨w0.heap.size, 0, none⟩) rs.length rs.length]) ?_ rfl ?_
      · simp [results, Try.results13, go_sem, z0]
      · exact ⟨_, _, rfl, (R.out.setFar (c := w.heap.size + 1) (by have := HZS.out; omega)).more (by have := HZS.out; omega) (by simp), (HB0.out.trans (HBW.out.mono (by have := HZS.out; omega))).setCell (p := ⟨w.heap.size + 1, 0, none⟩) (by simp) _⟩
end Go.Proofs.Ytkegjgfggijinaa
