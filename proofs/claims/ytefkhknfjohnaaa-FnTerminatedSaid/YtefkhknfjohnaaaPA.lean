/- The contract of the program's EscapeBytes. -/
import Derived.Test.YtefkhknfjohnaaaPE
import Derived.Test.YtefkhknfjohnaaaGD
import Derived.Test.YtefkhknfjohnaaaGPu
namespace Go.Proofs.Ytefkhknfjohnaaa
open Go Go.RowKit
set_option maxRecDepth 100000 in
set_option maxHeartbeats 4000000 in
theorem esc_impl (a : Option Addr) (bs : List UInt8) (cap : Nat) (t : UInt8) (w : World) (hl : bs.length ≤ 1048576) (h : Rd a bs w) :
    Calls Try.prog 10 #[.slice a bs.length cap, .int .u8 (t.toNat : Int)] w (BytesOut (escB t bs ++ [t]) w) := by
  obtain ⟨tn, htn⟩ : ∃ tn : Int, tn = (t.toNat : Int) := ⟨_, rfl⟩
  rw [← htn]
  have HTN := Lib.hid htn
  have HTV : Hid (Value.int .u8 tn = bv t) := by show _ = _; rw [htn]; rfl
  have HR := Lib.hid h
  have H0 := Lib.hid (OwnB.start w)
  have HX0 : Hid (([] : List UInt8) ++ escB t (bs.drop 0) = escB t bs) := rfl
  have HL0 : Hid (([] : List UInt8).length + escLen t (bs.drop 0) = escLen t bs) := by show _ = _; simp
  have HSZ : Hid (escLen t bs ≤ 2097152) := by show _ ≤ _; have := escLen_le t bs; omega
  clear htn h
  go_enter Try.func10, Try.ntmps10
  go_wp2
  go_loopw [5, 11] (fun z i W => ∃ (j : Nat) (ac : List UInt8), j ≤ bs.length ∧ i = .int .i64 j ∧ Hid (OwnB w.heap.size z ac W) ∧ Hid (ac.length + escLen t (bs.drop j) = escLen t bs) ∧ Hid (ac ++ escB t (bs.drop j) = escB t bs) ∧ Hid (Below w.heap.size w W)) (fun _ i _ => bs.length - (intOf i).toNat)
  case atStart => exact ⟨0, [], Nat.zero_le _, rfl, H0.out, HL0.out, HX0.out, (Below.refl _ _).alloc (Nat.le_refl _) _⟩
  case round =>
    obtain ⟨j, ac, hjl, rfl, ho, hlen, hesc, hb⟩ := hrel
    have j0 : (0 : Int) ≤ (j : Int) := by omega
    by_cases hjt : j < bs.length
    · have j1 : (j : Int) < (bs.length : Int) := by omega
      obtain ⟨bb, ob, hab, hcb⟩ := HR.out j hjt
      subst hab
      have HNX := Lib.hid (esc_next (t := t) hjt)
      have HNB := Lib.hid (escB_next (t := t) hjt)
      generalize bs[j] = xb at hcb HNX HNB
      obtain ⟨xn, hxn⟩ : ∃ xn : Int, xn = (xb.toNat : Int) := ⟨_, rfl⟩
      rw [← hxn] at hcb
      have HXN : Hid (Value.int .u8 xn = bv xb) := by show _ = _; rw [hxn]; rfl
      have HXV := Lib.hid hxn
      have HCB := Lib.hid hcb
      clear hcb hxn
      by_cases hx1 : xn = tn
      · have HEQ : Hid (xb = t) := byte_inj (by rw [← HXV.out, ← HTN.out]; exact hx1)
        replace HNX : Hid (escLen t (bs.drop j) = 2 + escLen t (bs.drop (j + 1))) := by show _ = _; rw [HNX.out, if_pos (.inl HEQ.out)]
        replace HNB : Hid (escB t (bs.drop j) = [92, xb] ++ escB t (bs.drop (j + 1))) := by show _ = _; rw [HNB.out, if_pos (.inl HEQ.out)]
        subst hx1
        have HLB : Hid ((ac ++ [xb] ++ [xb]).length ≤ 1099511627776) := by show _ ≤ _; have h1 := hlen.out; have h2 := HNX.out; have h3 := HSZ.out; simp only [List.length_append, List.length_singleton]; omega
        have HCW := Lib.hid (cellK hb.out (Nat.le_refl _) HCB.out)
        have cw := HCW.out
        have HBA := Lib.hid ((Below.refl wr.heap.size wr).alloc (Nat.le_refl _) (.cells #[.int .u8 92] 5))
        have HSR : Hid (Src1 (some ⟨wr.heap.size, 0, none⟩) [92] 1 (wr.alloc (.cells #[.int .u8 92] 5))) := by obtain ⟨a', c', e, h⟩ := (own_one wr _ 92 rfl).row; cases e; exact h.src
        have HOD := Lib.hid (own_below ho.out HBA.out)
        have HBD := Lib.hid (hb.out.trans (HBA.out.mono hb.out.size))
        go_wp2_with (at_builtin; refine wp_app rfl _ _ rfl w.heap.size u5 ac [92] (some ⟨wr.heap.size, 0, none⟩) 1 _ rfl rfl HOD.out HSR.out (by have := HLB.out; simp only [List.length_append, List.length_singleton] at this ⊢; omega) HBD.out.size ?_)
        intro v5 w5 ho5 hg5
        have HB_w5 := Lib.hid (app_frame HBD.out HBD.out.size HOD.out hg5)
        have HO_w5 := Lib.hid ho5
        clear ho5 hg5 HBA HSR HOD HBD
        have HBA := Lib.hid ((Below.refl w5.heap.size w5).alloc (Nat.le_refl _) (.cells #[.int .u8 xn] 5))
        have HSR : Hid (Src1 (some ⟨w5.heap.size, 0, none⟩) [xb] 1 (w5.alloc (.cells #[.int .u8 xn] 5))) := by obtain ⟨a', c', e, h⟩ := (own_one w5 _ xb HXN.out).row; cases e; exact h.src
        have HOD := Lib.hid (own_below HO_w5.out HBA.out)
        have HBD := Lib.hid (HB_w5.out.trans (HBA.out.mono HB_w5.out.size))
        go_wp2_with (at_builtin; refine wp_app rfl _ _ rfl w.heap.size v5 (ac ++ [92]) [xb] (some ⟨w5.heap.size, 0, none⟩) 1 _ rfl rfl HOD.out HSR.out (by have := HLB.out; simp only [List.length_append, List.length_singleton] at this ⊢; omega) HBD.out.size ?_)
        intro v6 w6 ho5 hg5
        have HB_w6 := Lib.hid (app_frame HBD.out HBD.out.size HOD.out hg5)
        have HO_w6 := Lib.hid ho5
        clear ho5 hg5 HBA HSR HOD HBD
        go_wp2
        go_roundw
        case rel => exact ⟨j + 1, _, by omega, by go_num, HO_w6.out, by show _ = _; have h1 := HNX.out; have h2 := hlen.out; simp only [List.length_append, List.length_cons, List.length_nil]; omega, by show _ = _; have h1 := hesc.out; rw [HNB.out] at h1; rw [← h1]; simp, HB_w6.out⟩
        case measure => simp [intOf]; omega
      · have e1 : (xn == tn) = false := by simpa using hx1
        have HNE : Hid (¬ xb = t) := fun h => hx1 (by rw [HXV.out, HTN.out, h])
        by_cases hx2 : xn = 92
        · have HEQ : Hid (xb = 92) := byte_inj (by rw [← HXV.out]; exact hx2)
          replace HNX : Hid (escLen t (bs.drop j) = 2 + escLen t (bs.drop (j + 1))) := by show _ = _; rw [HNX.out, if_pos (.inr HEQ.out)]
          replace HNB : Hid (escB t (bs.drop j) = [92, xb] ++ escB t (bs.drop (j + 1))) := by show _ = _; rw [HNB.out, if_pos (.inr HEQ.out)]
          subst hx2
          have HLB : Hid ((ac ++ [xb] ++ [xb]).length ≤ 1099511627776) := by show _ ≤ _; have h1 := hlen.out; have h2 := HNX.out; have h3 := HSZ.out; simp only [List.length_append, List.length_singleton]; omega
          have HCW := Lib.hid (cellK hb.out (Nat.le_refl _) HCB.out)
          have cw := HCW.out
          have HBA := Lib.hid ((Below.refl wr.heap.size wr).alloc (Nat.le_refl _) (.cells #[.int .u8 92] 5))
          have HSR : Hid (Src1 (some ⟨wr.heap.size, 0, none⟩) [92] 1 (wr.alloc (.cells #[.int .u8 92] 5))) := by obtain ⟨a', c', e, h⟩ := (own_one wr _ 92 rfl).row; cases e; exact h.src
          have HOD := Lib.hid (own_below ho.out HBA.out)
          have HBD := Lib.hid (hb.out.trans (HBA.out.mono hb.out.size))
          go_wp2_with (at_builtin; refine wp_app rfl _ _ rfl w.heap.size u5 ac [92] (some ⟨wr.heap.size, 0, none⟩) 1 _ rfl rfl HOD.out HSR.out (by have := HLB.out; simp only [List.length_append, List.length_singleton] at this ⊢; omega) HBD.out.size ?_)
          intro v5 w5 ho5 hg5
          have HB_w5 := Lib.hid (app_frame HBD.out HBD.out.size HOD.out hg5)
          have HO_w5 := Lib.hid ho5
          clear ho5 hg5 HBA HSR HOD HBD
          have HBA := Lib.hid ((Below.refl w5.heap.size w5).alloc (Nat.le_refl _) (.cells #[.int .u8 92] 5))
          have HSR : Hid (Src1 (some ⟨w5.heap.size, 0, none⟩) [xb] 1 (w5.alloc (.cells #[.int .u8 92] 5))) := by obtain ⟨a', c', e, h⟩ := (own_one w5 _ xb HXN.out).row; cases e; exact h.src
          have HOD := Lib.hid (own_below HO_w5.out HBA.out)
          have HBD := Lib.hid (HB_w5.out.trans (HBA.out.mono HB_w5.out.size))
          go_wp2_with (at_builtin; refine wp_app rfl _ _ rfl w.heap.size v5 (ac ++ [92]) [xb] (some ⟨w5.heap.size, 0, none⟩) 1 _ rfl rfl HOD.out HSR.out (by have := HLB.out; simp only [List.length_append, List.length_singleton] at this ⊢; omega) HBD.out.size ?_)
          intro v6 w6 ho5 hg5
          have HB_w6 := Lib.hid (app_frame HBD.out HBD.out.size HOD.out hg5)
          have HO_w6 := Lib.hid ho5
          clear ho5 hg5 HBA HSR HOD HBD
          go_wp2
          go_roundw
          case rel => exact ⟨j + 1, _, by omega, by go_num, HO_w6.out, by show _ = _; have h1 := HNX.out; have h2 := hlen.out; simp only [List.length_append, List.length_cons, List.length_nil]; omega, by show _ = _; have h1 := hesc.out; rw [HNB.out] at h1; rw [← h1]; simp, HB_w6.out⟩
          case measure => simp [intOf]; omega
        · have e2 : (xn == 92) = false := by simpa using hx2
          replace HNX : Hid (escLen t (bs.drop j) = 1 + escLen t (bs.drop (j + 1))) := by show _ = _; rw [HNX.out, if_neg (fun h => h.elim HNE.out (fun h => hx2 (by rw [HXV.out, h]; rfl)))]
          replace HNB : Hid (escB t (bs.drop j) = [xb] ++ escB t (bs.drop (j + 1))) := by show _ = _; rw [HNB.out, if_neg (fun h => h.elim HNE.out (fun h => hx2 (by rw [HXV.out, h]; rfl)))]
          have HLB : Hid ((ac ++ [xb]).length ≤ 1099511627776) := by show _ ≤ _; have h1 := hlen.out; have h2 := HNX.out; have h3 := HSZ.out; simp only [List.length_append, List.length_singleton]; omega
          have HCW := Lib.hid (cellK hb.out (Nat.le_refl _) HCB.out)
          have cw := HCW.out
          have HBA := Lib.hid ((Below.refl wr.heap.size wr).alloc (Nat.le_refl _) (.cells #[.int .u8 xn] 5))
          have HSR : Hid (Src1 (some ⟨wr.heap.size, 0, none⟩) [xb] 1 (wr.alloc (.cells #[.int .u8 xn] 5))) := by obtain ⟨a', c', e, h⟩ := (own_one wr _ xb HXN.out).row; cases e; exact h.src
          have HOD := Lib.hid (own_below ho.out HBA.out)
          have HBD := Lib.hid (hb.out.trans (HBA.out.mono hb.out.size))
          go_wp2_with (at_builtin; refine wp_app rfl _ _ rfl w.heap.size u5 ac [xb] (some ⟨wr.heap.size, 0, none⟩) 1 _ rfl rfl HOD.out HSR.out (by have := HLB.out; simp only [List.length_append, List.length_singleton] at this ⊢; omega) HBD.out.size ?_)
          intro v6 w6 ho5 hg5
          have HB_w6 := Lib.hid (app_frame HBD.out HBD.out.size HOD.out hg5)
          have HO_w6 := Lib.hid ho5
          clear ho5 hg5 HBA HSR HOD HBD
          go_wp2
          go_roundw
          case rel => exact ⟨j + 1, _, by omega, by go_num, HO_w6.out, by show _ = _; have h1 := HNX.out; have h2 := hlen.out; simp only [List.length_append, List.length_cons, List.length_nil]; omega, by show _ = _; have h1 := hesc.out; rw [HNB.out] at h1; rw [← h1]; simp, HB_w6.out⟩
          case measure => simp [intOf]; omega
    · have j1 : ¬ (j : Int) < (bs.length : Int) := by omega
      have HLX : Hid (ac ++ [t] = escB t bs ++ [t]) := by show _ = _; have h1 := hesc.out; rw [List.drop_of_length_le (by omega), escB, List.append_nil] at h1; rw [h1]
      have HLB : Hid ((ac ++ [t]).length ≤ 1099511627776) := by show _ ≤ _; have h1 := hlen.out; have h3 := HSZ.out; simp only [List.length_append, List.length_singleton]; omega
      have HBA := Lib.hid ((Below.refl wr.heap.size wr).alloc (Nat.le_refl _) (.cells #[.int .u8 tn] 5))
      have HSR : Hid (Src1 (some ⟨wr.heap.size, 0, none⟩) [t] 1 (wr.alloc (.cells #[.int .u8 tn] 5))) := by obtain ⟨a', c', e, h⟩ := (own_one wr _ t HTV.out).row; cases e; exact h.src
      have HOD := Lib.hid (own_below ho.out HBA.out)
      have HBD := Lib.hid (hb.out.trans (HBA.out.mono hb.out.size))
      go_wp2_with (at_builtin; refine wp_app rfl _ _ rfl w.heap.size u5 ac [t] (some ⟨wr.heap.size, 0, none⟩) 1 _ rfl rfl HOD.out HSR.out (by have := HLB.out; simp only [List.length_append, List.length_singleton] at this ⊢; omega) HBD.out.size ?_)
      intro v5 w5 ho5 hg5
      have HB_w5 := Lib.hid (app_frame HBD.out HBD.out.size HOD.out hg5)
      have HO_w5 := Lib.hid ho5
      clear ho5 hg5 HBA HSR HOD HBD
      obtain ⟨az, cz, rfl, hrow⟩ := HO_w5.out.row
      have HRW := Lib.hid hrow
      clear hrow
      go_wp2
      go_ret
      rw [← HLX.out]
      exact ⟨az, cz, rfl, HRW.out, HB_w5.out⟩
end Go.Proofs.Ytefkhknfjohnaaa
