/- The contracts of EscapeAll, of the model and of the program. -/
import Derived.Test.YtefkhknfjohnaaaEscAR
import Derived.Test.YtefkhknfjohnaaaPE
import Derived.Test.YtefkhknfjohnaaaGD
import Derived.Test.YtefkhknfjohnaaaGPu
namespace Go.Proofs.Ytefkhknfjohnaaa
open Go Go.RowKit
set_option maxRecDepth 100000 in
set_option maxHeartbeats 4000000 in
theorem escA_spec (a : Option Addr) (bs : List UInt8) (cap : Nat) (t : UInt8) (w : World) (hl : bs.length ≤ 1048576) (h : Rd a bs w) :
    Calls Try.prog 19 #[.slice a bs.length cap, .int .u8 (t.toNat : Int)] w (BytesOut (escAF t bs) w) := by
  obtain ⟨tn, htn⟩ : ∃ tn : Int, tn = (t.toNat : Int) := ⟨_, rfl⟩
  rw [← htn]
  have HTV : Hid (Value.int .u8 tn = bv t) := by show _ = _; rw [htn]; rfl
  have HR := Lib.hid h
  have H0 := Lib.hid (OwnB.start w)
  have HX0 : Hid (([] : List UInt8) ++ escA (bs.drop 0) = escA bs) := rfl
  have HL0 : Hid (([] : List UInt8).length = 2 * 0) := rfl
  clear htn h
  go_enter Try.func19, Try.ntmps19
  go_wp2
  go_loopw [5, 6] (fun z i W => ∃ (j : Nat) (ac : List UInt8), j ≤ bs.length ∧ i = .int .i64 j ∧ Hid (OwnB w.heap.size z ac W) ∧ Hid (ac.length = 2 * j) ∧ Hid (ac ++ escA (bs.drop j) = escA bs) ∧ Hid (Below w.heap.size w W)) (fun _ i _ => bs.length - (intOf i).toNat)
  case atStart => exact ⟨0, [], Nat.zero_le _, rfl, H0.out, HL0.out, HX0.out, (Below.refl _ _).alloc (Nat.le_refl _) _⟩
  case round =>
    obtain ⟨j, ac, hjl, rfl, ho, hlen, hesc, hb⟩ := hrel
    have j0 : (0 : Int) ≤ (j : Int) := by omega
    by_cases hjt : j < bs.length
    · have j1 : (j : Int) < (bs.length : Int) := by omega
      obtain ⟨bb, ob, hab, hcb⟩ := HR.out j hjt
      subst hab
      have HNB := Lib.hid (escA_next hjt)
      generalize bs[j] = xb at hcb HNB
      obtain ⟨xn, hxn⟩ : ∃ xn : Int, xn = (xb.toNat : Int) := ⟨_, rfl⟩
      rw [← hxn] at hcb
      have HXN : Hid (Value.int .u8 xn = bv xb) := by show _ = _; rw [hxn]; rfl
      have HCB := Lib.hid hcb
      clear hcb hxn
      have HLB : Hid ((ac ++ [92, xb]).length ≤ 1099511627776) := by show _ ≤ _; have h1 := hlen.out; simp only [List.length_append, List.length_cons, List.length_nil]; omega
      have HCW := Lib.hid (cellK hb.out (Nat.le_refl _) HCB.out)
      have cw := HCW.out
      have HBA := Lib.hid ((Below.refl wr.heap.size wr).alloc (Nat.le_refl _) (.cells #[.int .u8 92, .int .u8 xn] 5))
      have HSR : Hid (Src1 (some ⟨wr.heap.size, 0, none⟩) [92, xb] 2 (wr.alloc (.cells #[.int .u8 92, .int .u8 xn] 5))) := by obtain ⟨a', c', e, h⟩ := (own_two wr _ _ 92 xb rfl HXN.out).row; cases e; exact h.src
      have HOD := Lib.hid (own_below ho.out HBA.out)
      have HBD := Lib.hid (hb.out.trans (HBA.out.mono hb.out.size))
      go_wp2_with (at_builtin; refine wp_app rfl _ _ rfl w.heap.size u5 ac [92, xb] (some ⟨wr.heap.size, 0, none⟩) 2 _ rfl rfl HOD.out HSR.out (by have := HLB.out; simp only [List.length_append, List.length_cons, List.length_nil] at this ⊢; omega) HBD.out.size ?_)
      intro v6 w6 ho5 hg5
      have HB_w6 := Lib.hid (app_frame HBD.out HBD.out.size HOD.out hg5)
      have HO_w6 := Lib.hid ho5
      clear ho5 hg5 HBA HSR HOD HBD
      go_wp2
      go_roundw
      case rel => exact ⟨j + 1, _, by omega, by go_num, HO_w6.out, by show _ = _; have h2 := hlen.out; simp only [List.length_append, List.length_cons, List.length_nil]; omega, by show _ = _; have h1 := hesc.out; rw [HNB.out] at h1; rw [← h1]; simp, HB_w6.out⟩
      case measure => simp [intOf]; omega
    · have j1 : ¬ (j : Int) < (bs.length : Int) := by omega
      have HLX : Hid (ac ++ [t] = escAF t bs) := by show _ = _; have h1 := hesc.out; rw [List.drop_of_length_le (by omega), escA, List.append_nil] at h1; rw [h1]; rfl
      have HLB : Hid ((ac ++ [t]).length ≤ 1099511627776) := by show _ ≤ _; have h1 := hlen.out; simp only [List.length_append, List.length_singleton]; omega
      have HBA := Lib.hid ((Below.refl wr.heap.size wr).alloc (Nat.le_refl _) (.cells #[.int .u8 tn] 5))
      have HSR : Hid (Src1 (some ⟨wr.heap.size, 0, none⟩) [t] 1 (wr.alloc (.cells #[.int .u8 tn] 5))) := by obtain ⟨a', c', e, h⟩ := (own_one wr _ t HTV.out).row; cases e; exact h.src
      have HOD := Lib.hid (own_below ho.out HBA.out)
      have HBD := Lib.hid (hb.out.trans (HBA.out.mono hb.out.size))
      go_wp2_with (at_builtin; refine wp_app rfl _ _ rfl w.heap.size u5 ac [t] (some ⟨wr.heap.size, 0, none⟩) 1 _ rfl rfl HOD.out HSR.out (by have := HLB.out; simp only [List.length_append, List.length_singleton] at this ⊢; omega) HBD.out.size ?_)
      intro v5 w5 ho5 hg5
      have HB_w5 := Lib.hid (app_frame HBD.out HBD.out.size HOD.out hg5)
      have HO_w5 := Lib.hid ho5
      clear ho5 hg5 HBA HSR HOD HBD
      obtain ⟨az, cz, rfl, hrow⟩ := HO_w5.out.row
      have HRW := Lib.hid hrow
      clear hrow
      go_wp2
      go_ret
      rw [← HLX.out]
      exact ⟨az, cz, rfl, HRW.out, HB_w5.out⟩
theorem make_bytesE (h : Nat) (hh : h ≤ 4000000) (W : World) : (Instr.makeSlice 22 (.int .i64 (h : Int)) (.int .i64 (h : Int))).run Try.prog W = .ok (.slice (some ⟨W.heap.size, 0, none⟩) h h) (W.alloc (.cells (madeCells #[.int .u8 0] h) 5)) := by
  obtain ⟨i0, hi, hz0, hz1, hz2⟩ := infoParts
  have hr := run_make (P := Try.prog) W 22 5 i0 (.int .u8 0) Try.underlying22 hi hz0 .i64 .i64 (h : Int) (h : Int) (by omega) (by omega) (by rw [hz2]; omega) (by omega)
  rw [hr, hz1]
  simp [Value.cells]
theorem elemA : Try.prog.underlying 22 = some (.slice (Try.prog.elem 22)) := by kernel_rfl
theorem sizeA (w : World) : (sizeOf (Try.prog.elem 22)).run Try.prog w = .ok 1 w := by kernel_rfl
/-- The row in its block, whole. -/
def EscAt (bs : List UInt8) (j g : Nat) (W : World) : Prop := W.heap[g]? = some (.cells (rowA bs j).toArray 5 (0, 0))
theorem escAt_made (bs : List UInt8) (w : World) : EscAt bs 0 w.heap.size (w.alloc (.cells (madeCells #[.int .u8 0] (2 * bs.length + 1)) 5)) := by
  unfold EscAt
  have e : (madeCells #[.int .u8 0] (2 * bs.length + 1)) = (rowA bs 0).toArray := by
    apply Array.ext'
    rw [toList_madeCells_one]
    simp [rowA, escA]
  rw [e]
  exact heap_alloc_new w _
theorem EscAt.lt {bs : List UInt8} {j g : Nat} {W : World} (h : EscAt bs j g W) : g < W.heap.size := by
  rcases Nat.lt_or_ge g W.heap.size with h1 | h1
  · exact h1
  · unfold EscAt at h; rw [Array.getElem?_eq_none h1] at h; cases h
theorem EscAt.below {bs : List UInt8} {j g : Nat} {W W' : World} (h : EscAt bs j g W) (hb : Below W.heap.size W W') : EscAt bs j g W' := (hb.block g h.lt).trans h
theorem EscAt.cell {bs : List UInt8} {j g : Nat} {W : World} (h : EscAt bs j g W) (i : Nat) : W.cell? ⟨g, i, none⟩ = (rowA bs j)[i]? := by unfold EscAt at h; simp [World.cell?, h]
theorem EscAt.frozen {bs : List UInt8} {j g : Nat} {W : World} (h : EscAt bs j g W) (i : Nat) : W.frozen? ⟨g, i, none⟩ = false := by unfold EscAt at h; simp [World.frozen?, h]
theorem EscAt.last {bs : List UInt8} {g : Nat} {W : World} (h : EscAt bs bs.length g W) : W.cell? ⟨g, 2 * bs.length, none⟩ = some (.int .u8 0) := by
  rw [h.cell]
  unfold rowA
  rw [List.getElem?_append_right (by rw [List.length_map, escA_length, List.take_length]; exact Nat.le_refl _), List.length_map, escA_length, List.take_length, Nat.sub_self, Nat.sub_self]
  rfl
theorem EscAt.row {bs : List UInt8} {g B : Nat} {t : UInt8} {W : World} (h : EscAt bs bs.length g W) (hB : B ≤ g) : Row B (some ⟨g, 0, none⟩) (escAF t bs) (2 * bs.length + 1) (W.setCell ⟨g, 2 * bs.length, none⟩ (bv t)) := by
  have hl := escAF_length t bs
  refine ⟨.inr ⟨g, 0, rfl, hB, fun j hj => ⟨?_, ?_⟩⟩, by omega, fun e => by cases e⟩
  · have h1 : ((escAF t bs).map bv)[j]? = some (bv (escAF t bs)[j]) := by rw [List.getElem?_map, List.getElem?_eq_getElem hj]; rfl
    rw [← rowA_end] at h1
    show _ = some (bv (escAF t bs)[j])
    rw [← h1, Nat.zero_add]
    by_cases e : 2 * bs.length = j
    · subst e
      rw [World.cell?_setCell_same _ _ _ h.last, List.getElem?_set_self (by rw [rowA_length bs bs.length (Nat.le_refl _)]; omega)]
    · rw [World.cell?_setCell_other _ _ _ _ (fun he => e (by have := congrArg Addr.off he; simpa using this)), h.cell, List.getElem?_set_ne e]
  · rw [World.frozen?_setCell]; exact h.frozen _
set_option maxRecDepth 100000 in
set_option maxHeartbeats 4000000 in
theorem escA_impl (a : Option Addr) (bs : List UInt8) (cap : Nat) (t : UInt8) (w : World) (hl : bs.length ≤ 1048576) (h : Rd a bs w) :
    Calls Try.prog 11 #[.slice a bs.length cap, .int .u8 (t.toNat : Int)] w (BytesOut (escAF t bs) w) := by
  obtain ⟨tn, htn⟩ : ∃ tn : Int, tn = (t.toNat : Int) := ⟨_, rfl⟩
  rw [← htn]
  have HTV : Hid (Value.int .u8 tn = bv t) := by show _ = _; rw [htn]; rfl
  have HR := Lib.hid h
  have hmk := make_bytesE (2 * bs.length + 1) (by omega)
  have hcast : ((2 * bs.length + 1 : Nat) : Int) = 2 * (bs.length : Int) + 1 := by omega
  rw [hcast] at hmk
  have hE0 := Lib.hid (escAt_made bs w)
  obtain ⟨R, hR⟩ : ∃ R, R = 2 * bs.length + 1 := ⟨_, rfl⟩
  rw [← hR] at hmk hE0
  have HRE := Lib.hid hR
  have hB0 : Hid (Below w.heap.size w (w.alloc (.cells (madeCells #[.int .u8 0] R) 5))) := (Below.refl _ _).alloc (Nat.le_refl _) _
  clear htn h hcast hR
  go_enter Try.func11, Try.ntmps11
  go_wp2
  go_loopw [15] (fun i W => ∃ j : Nat, j ≤ bs.length ∧ i = .int .i64 j ∧ Hid (EscAt bs j w.heap.size W) ∧ Hid (Below w.heap.size w W)) (fun i _ => bs.length - (intOf i).toNat)
  case atStart => exact ⟨0, Nat.zero_le _, rfl, hE0.out, hB0.out⟩
  case round =>
    clear hmk hE0 hB0
    obtain ⟨j, hjl, rfl, hE, hb⟩ := hrel
    have j0 : (0 : Int) ≤ (j : Int) := by omega
    by_cases hjt : j < bs.length
    · have j1 : (j : Int) < (bs.length : Int) := by omega
      obtain ⟨bb, ob, hab, hcb⟩ := HR.out j hjt
      subst hab
      have HNX := Lib.hid (rowA_next bs j hjt)
      generalize bs[j] = xb at hcb HNX
      obtain ⟨xn, hxn⟩ : ∃ xn : Int, xn = (xb.toNat : Int) := ⟨_, rfl⟩
      rw [← hxn] at hcb
      have HXN : Hid (Value.int .u8 xn = bv xb) := by show _ = _; rw [hxn]; rfl
      have HCB := Lib.hid hcb
      clear hcb hxn
      have HCW := Lib.hid (cellK hb.out (Nat.le_refl _) HCB.out)
      have cw := HCW.out
      have hsl : ∀ W, (Instr.slice 22 (.slice (some ⟨w.heap.size, 0, none⟩) R R) (some (.int .i64 (2 * (j : Int)))) none none).run Try.prog W = .ok (.slice (some ⟨w.heap.size, 2 * j, none⟩) (R - 2 * j) (R - 2 * j)) W := fun W => by
        have hr := HRE.out
        have e : (2 * (j : Int)) = ((2 * j : Nat) : Int) := by omega
        have hne : ¬ R = 2 * j := by omega
        rw [e, run_slice_l W 22 _ R R elemA .i64 ((2 * j : Nat) : Int) (by omega) (by omega), sizeA]
        simp only [Result.andThen, sliced, Int.toNat_natCast, if_neg hne]
        simp [Addr.add]
        try omega
      have HBA := Lib.hid ((Below.refl wr.heap.size wr).alloc (Nat.le_refl _) (.cells #[.int .u8 92, .int .u8 xn] 5))
      have HEA := Lib.hid (hE.out.below HBA.out)
      have HBD := Lib.hid (hb.out.trans (HBA.out.mono hb.out.size))
      have hi8 : (Try.prog.info? 5).map (·.size) = some 1 := by kernel_rfl
      go_wp2_with ((with_reducible show wpList _ _ _ _ _ _); refine wpList_copy_splice (o := ⟨some 26, _, _, _, _, _⟩) rfl (.tmp 23) (.tmp 25) 22 22 rfl 5 Try.underlying22 hi8 (some ⟨w.heap.size, 2 * j, none⟩) (some ⟨wr.heap.size, 0, none⟩) (R - 2 * j) (R - 2 * j) 2 2 rfl rfl w.heap.size (2 * j) (rowA bs j) 5 HEA.out [bv 92, bv xb] ?c1 ?c2 ?c3 ?c4 w.heap.size w HBD.out (Nat.le_refl _) ?_)
      case c1 => show 2 = Nat.min 2 (R - 2 * j); have hr := HRE.out; exact (Nat.min_eq_left (by omega)).symm
      case c2 => intro k v hv; rw [HXN.out]; exact hv
      case c3 => rw [rowA_length bs j hjl]; simp only [List.length_cons, List.length_nil]; omega
      case c4 => intro v hv; simp at hv; rcases hv with rfl | rfl <;> rfl
      · intro w6 hg6 hb6
        have HE6 : Hid (EscAt bs (j + 1) w.heap.size w6) := by have h1 := hg6.out; rw [HNX.out] at h1; exact h1
        have HB6 := Lib.hid hb6
        clear hg6 hb6 HEA HBA HBD hsl
        go_wp2
        go_roundw
        case rel => exact ⟨j + 1, by omega, by go_num, HE6.out, HB6.out⟩
        case measure => simp [intOf]; omega
    · have j1 : ¬ (j : Int) < (bs.length : Int) := by omega
      obtain rfl : j = bs.length := by omega
      have HE := Lib.hid hE.out
      have hcell := HE.out.last
      have hfz := HE.out.frozen (2 * bs.length)
      have q0 : (0 : Int) ≤ 2 * (bs.length : Int) := by omega
      have q2 : 2 * (bs.length : Int) < (R : Int) := by have := HRE.out; omega
      have q3 : (2 * (bs.length : Int)).toNat = 2 * bs.length := by omega
      go_wp2
      go_ret
      have hR : R = (escAF t bs).length := by rw [escAF_length]; exact HRE.out
      have hrow := HE.out.row (t := t) (B := w.heap.size) (Nat.le_refl _)
      rw [← HTV.out, ← HRE.out] at hrow
      have hR2 : Value.slice (some ⟨w.heap.size, 0, none⟩) R R = .slice (some ⟨w.heap.size, 0, none⟩) (escAF t bs).length R := by rw [← hR]
      exact ⟨some ⟨w.heap.size, 0, none⟩, R, congrArg Ending.returned hR2, hrow, hb.out.setCell (p := ⟨w.heap.size, 2 * bs.length, none⟩) (Nat.le_refl _) _⟩
end Go.Proofs.Ytefkhknfjohnaaa
