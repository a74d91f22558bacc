/- The model's FormatRule at an integer, a const, a fixed, a terminated. The model's FormatRule at a sized, an array, an option, a checked. The model's FormatRule at a sequence. The model's FormatRule at a choice. The contract of the model's FormatDescription. -/
import Derived.Test.YtndjefednfcmmaaGreatDoorGTxt
import Derived.Test.YtndjefednfcmmaaGreatDoorGKindS
import Derived.Test.YtndjefednfcmmaaGreatDoorGLin
import Derived.Test.YtndjefednfcmmaaGreatDoorFmt2
import Derived.Deep.RegionWith
import Derived.Deep.CutRange
import Derived.IntWalk
set_option maxRecDepth 100000
namespace Go.Proofs.YtndjefednfcmmaaGreatDoor
open Go Go.RowKit
set_option maxHeartbeats 4000000 in
theorem srule_1 (a : Option Addr) (rs : List RuleV) (cap n : Nat) (w : World) (hl : rs.length ≤ 1048576) (hn : n < rs.length) (hsh : ∀ r ∈ rs, Short r) (hsp : ∀ r ∈ rs, Spelt r) (hv : validAt (kindS rs) rs (n : Int) = true) (hvk : kindI rs rs[n] = true) (hrd : RdC a rs w) (hk : rs[n].kind = 1) :
  Calls Tryz.prog 71 #[.agg #[.slice a rs.length cap], .int .i64 (n : Int)] w fun e w' => e = .returned (.string (lineS rs n rs[n])) ∧ Below w.heap.size w w' := by
 obtain ⟨w0, hw0⟩ : ∃ w0, w0 = w.alloc (.cells #[.slice a rs.length cap] 26) := ⟨_, rfl⟩
 have hB : Below w.heap.size w w0 := by subst hw0; exact (Below.refl _ _).alloc (Nat.le_refl _) _
 have hX : CellsAt w.heap.size [.slice a rs.length cap] w0 := by subst hw0; exact CellsAt.new w _ _
 have hx0 := (hX 0 _ rfl).1
 have HX := Lib.hid hX
 have HB := Lib.hid hB
 have HRD := Lib.hid hrd
 have HSH := Lib.hid hsh
 have HSP := Lib.hid hsp
 have HVK := Lib.hid hvk
 have HV := Lib.hid hv
 have HNM : Hid (∀ r ∈ rs, r.name.size ≤ 1048576) := fun r hr => (hsp r hr).1
 have HKZ := Lib.hid (kidName_size HNM.out)
 clear hB hX hrd hsh hsp hv hvk
 go_enter Tryz.func71, Tryz.ntmps71
 go_wp2_with fail
 rw [← hw0]
 clear hw0
 refine (validr_spec a rs cap (n : Int) _ hl HSH.out HSP.out (HRD.out.below HB.out)).mono ?_
 rintro e w1 ⟨rfl, hb1⟩
 rw [HV.out]
 have hx1 := (HX.out.below hb1 0 _ rfl).1
 replace HX := Lib.hid (HX.out.below hb1)
 replace HB := Lib.hid (HB.out.trans (hb1.mono HB.out.size))
 clear hb1 hx0 HV
 have k0 : (0 : Int) ≤ (n : Int) := by omega
 have k1 : (n : Int) < (rs.length : Int) := by omega
 obtain ⟨b0, off, a4, c4, a5, c5, a6, c6, a7, c7, rfl, ⟨d0, d1, d2, d3, d4, d5, d6, d7⟩, r4, r5, r6, r7⟩ := (HRD.out.rd.below HB.out).at n hn
 have hnr := HNM.out _ (List.getElem_mem hn)
 have hsr := Lib.hid (HSH.out _ (List.getElem_mem hn))
 have hls := Lib.hid (line_size (n := n) HVK.out HNM.out hnr)
 obtain ⟨r, hr⟩ : ∃ r, r = rs[n] := ⟨_, rfl⟩
 rw [← hr] at d0 d1 d2 d3 d4 d5 d6 d7 hnr hsr hls HVK hk r4 r5 r6 r7
 have HRN := Lib.hid hr
 clear hr
 rw [hk] at d1
 obtain ⟨w2, hw2⟩ : ∃ w2, w2 = w1.alloc (.cells #[.string r.name, .int .i64 (1), .int .i64 r.size, .bool r.little, .slice a4 r.bytes.length c4, .slice a5 r.names.length c5, .slice a6 r.tags.length c6, .slice a7 r.kids.length c7] 59) := ⟨_, rfl⟩
 have hb2 : Below w1.heap.size w1 w2 := by subst hw2; exact (Below.refl _ _).alloc (Nat.le_refl _) _
 have HR : Hid (CellsAt w1.heap.size [.string r.name, .int .i64 (1), .int .i64 r.size, .bool r.little, .slice a4 r.bytes.length c4, .slice a5 r.names.length c5, .slice a6 r.tags.length c6, .slice a7 r.kids.length c7] w2) := by subst hw2; exact CellsAt.new w1 _ _
 replace HX := Lib.hid (HX.out.below hb2)
 replace HB := Lib.hid (HB.out.trans (hb2.mono HB.out.size))
 have HR4 := Lib.hid (r4.below hb2)
 have HR5 := Lib.hid (r5.below hb2)
 have HR6 := Lib.hid (r6.below hb2)
 have HR7 := Lib.hid (r7.below hb2)
 have HRE := Lib.hid (HRD.out.rd.below HB.out)
 obtain ⟨kn, hkn⟩ : ∃ kn, kn = kindName (1) := ⟨_, rfl⟩
 have HKN := Lib.hid hkn
 have hW := Lib.hid hw2
 clear hb2 hw2 r4 r5 r6 r7 hkn
 go_upto_region 4 with fail
 rw [← hW.out]
 clear hW d0 d1 d2 d3 d4 d5 d6 d7 hx1
 go_cut [6] from 19 to 24 (fun l W => ∃ (zs : List ByteArray) (v0 : Value), v0 = l ∧ zs.length ≤ 2 ∧ Hid (zs = [r.name, kn]) ∧ Hid (W.ownsRow w2.heap.size 9 1 v0 zs.length (zs.map Value.string)) ∧ Hid (Below w2.heap.size w2 W))
 case first =>
  obtain ⟨c0, -⟩ := HR.out 0 _ rfl
  obtain ⟨c1, -⟩ := HR.out 1 _ rfl
  go_region_with ((go_at_call 96; refine (kind_spec (1) _).mono ?_; rintro e w3 ⟨rfl, hb3⟩; rw [← HKN.out]; have c3 := cell_keep (w := w2.drew) hb3 c0; have HB3 : Hid (Below w2.heap.size w2 w3) := (below_drewN (Below.refl _ w2) 1).trans hb3; clear hb3))
  all_goals (go_wp2_with fail; go_meet; exact ⟨[r.name, kn], _, rfl, Nat.le_refl _, rfl, own_lits (f := Value.string) _ w2.heap.size 9 [r.name, kn] HB3.out.size (by unfold maxLen; simp), HB3.out.alloc HB3.out.size _⟩)
 case rest =>
  obtain ⟨zs, v, rfl, hzl, HZ, HO, HBW⟩ := hcut
  have hz := kindI_size HVK.out hk
  cases hlt : r.little with
  | false =>
   rw [hlt] at HR
   have b1 := (HR.out.below HBW.out 1 _ rfl).1
   have b2 := (HR.out.below HBW.out 2 _ rfl).1
   go_wp2_with fail
   clear b1 b2
   refine (fmt_spec r.size _ (by omega) (by omega)).mono ?_
   rintro e u4w ⟨rfl, hb⟩
   replace HO := Lib.hid (own_below HO.out hb)
   replace HBW := Lib.hid (HBW.out.trans (hb.mono HBW.out.size))
   clear hb
   have hbq : Hid (∀ W', Below w2.heap.size w2 W' → W'.cell? ⟨w1.heap.size, 3, none⟩ = some (.bool false)) := fun W' hb => (HR.out.below hb 3 _ rfl).1
   go_wp2_with (at_builtin; refine wp_pushF (f := Value.string) 51 9 (.string ⟨#[]⟩) 16 Tryz.underlying51 infoStr rfl rfl (.tmp 43) (.tmp 47) rfl w2.heap.size v zs (itoaS r.size) rfl u4w (by simp [Act.eval]) (by simp [Act.eval]) HO.out (by unfold maxLen; omega) (by omega) HBW.out.size ?_)
   intro v5 u5w hown hgrow _
   have hown2 : u5w.ownsRow w2.heap.size 9 1 v5 (zs ++ [itoaS r.size]).length ((zs ++ [itoaS r.size]).map Value.string) := by simpa using hown
   obtain ⟨z5, hz5⟩ : ∃ z, z = zs ++ [itoaS r.size] := ⟨_, rfl⟩
   rw [← hz5] at hown2
   have z5l : z5.length ≤ 3 := by rw [hz5]; simp; omega
   have Hz5 := Lib.hid hz5
   have HBn := Lib.hid (HBW.out.grown hgrow HBW.out.size fun g hg => (World.ownsRow.lt HO.out g hg).1)
   replace HBW := HBn
   replace HO := Lib.hid hown2
   clear hown hown2 hgrow hz5 HBn
   have b3 := (HR.out.below HBW.out 3 _ rfl).1
   clear hbq
   have hzz : Hid (joinS ⟨#[32]⟩ z5 = lineS rs n r) := by
    show _ = _
    rw [show z5 = r.name :: (kindName r.kind :: fieldsOf rs n r) from by rw [Hz5.out, HZ.out, hk, HKN.out]; unfold fieldsOf; simp [hk, hlt], join_addWs]; rfl
   obtain ⟨xj, cj, rfl, hrow⟩ := own_row (f := Value.string) HO.out
   have HRW := Lib.hid hrow
   clear hrow
   have hjz : Hid ((joinS ⟨#[32]⟩ z5).size ≤ 4398046511104) := by show _ ≤ _; rw [hzz.out]; have := hls.out; omega
   go_wp2_with fail
   refine (join_spec xj z5 cj ⟨#[32]⟩ _ (by omega) hjz.out HRW.out.rd).mono ?_
   rintro e wj ⟨rfl, rfl⟩
   rw [hzz.out]
   obtain ⟨ln, hln⟩ : ∃ ln, ln = lineS rs n r := ⟨_, rfl⟩
   rw [← hln]
   have HLN := Lib.hid hln
   clear hln
   go_wp2
   go_ret
   exact ⟨ret_str (by rw [HLN.out, HRN.out]), HB.out.trans (HBW.out.mono HB.out.size)⟩
  | true =>
   rw [hlt] at HR
   have b1 := (HR.out.below HBW.out 1 _ rfl).1
   have b2 := (HR.out.below HBW.out 2 _ rfl).1
   go_wp2_with fail
   clear b1 b2
   refine (fmt_spec r.size _ (by omega) (by omega)).mono ?_
   rintro e u4w ⟨rfl, hb⟩
   replace HO := Lib.hid (own_below HO.out hb)
   replace HBW := Lib.hid (HBW.out.trans (hb.mono HBW.out.size))
   clear hb
   have hbq : Hid (∀ W', Below w2.heap.size w2 W' → W'.cell? ⟨w1.heap.size, 3, none⟩ = some (.bool true)) := fun W' hb => (HR.out.below hb 3 _ rfl).1
   go_wp2_with (at_builtin; refine wp_pushF (f := Value.string) 51 9 (.string ⟨#[]⟩) 16 Tryz.underlying51 infoStr rfl rfl (.tmp 43) (.tmp 47) rfl w2.heap.size v zs (itoaS r.size) rfl u4w (by simp [Act.eval]) (by simp [Act.eval]) HO.out (by unfold maxLen; omega) (by omega) HBW.out.size ?_)
   intro v5 u5w hown hgrow _
   have hown2 : u5w.ownsRow w2.heap.size 9 1 v5 (zs ++ [itoaS r.size]).length ((zs ++ [itoaS r.size]).map Value.string) := by simpa using hown
   obtain ⟨z5, hz5⟩ : ∃ z, z = zs ++ [itoaS r.size] := ⟨_, rfl⟩
   rw [← hz5] at hown2
   have z5l : z5.length ≤ 3 := by rw [hz5]; simp; omega
   have Hz5 := Lib.hid hz5
   have HBn := Lib.hid (HBW.out.grown hgrow HBW.out.size fun g hg => (World.ownsRow.lt HO.out g hg).1)
   replace HBW := HBn
   replace HO := Lib.hid hown2
   clear hown hown2 hgrow hz5 HBn
   have b3 := (HR.out.below HBW.out 3 _ rfl).1
   clear hbq
   go_wp2_with (at_builtin; refine wp_pushF (f := Value.string) 51 9 (.string ⟨#[]⟩) 16 Tryz.underlying51 infoStr rfl rfl (.tmp 51) (.tmp 52) rfl w2.heap.size v5 z5 (littleS) rfl u5w (by simp [Act.eval]) (by simp [Act.eval]) HO.out (by unfold maxLen; omega) (by omega) HBW.out.size ?_)
   intro v6 u6w hown hgrow _
   have hown2 : u6w.ownsRow w2.heap.size 9 1 v6 (z5 ++ [littleS]).length ((z5 ++ [littleS]).map Value.string) := by simpa using hown
   obtain ⟨z6, hz6⟩ : ∃ z, z = z5 ++ [littleS] := ⟨_, rfl⟩
   rw [← hz6] at hown2
   have z6l : z6.length ≤ 4 := by rw [hz6]; simp; omega
   have Hz6 := Lib.hid hz6
   have HBn := Lib.hid (HBW.out.grown hgrow HBW.out.size fun g hg => (World.ownsRow.lt HO.out g hg).1)
   replace HBW := HBn
   replace HO := Lib.hid hown2
   clear hown hown2 hgrow hz6 HBn
   clear b3
   have hzz : Hid (joinS ⟨#[32]⟩ z6 = lineS rs n r) := by
    show _ = _
    rw [show z6 = r.name :: (kindName r.kind :: fieldsOf rs n r) from by rw [Hz6.out, Hz5.out, HZ.out, hk, HKN.out]; unfold fieldsOf; simp [hk, hlt], join_addWs]; rfl
   obtain ⟨xj, cj, rfl, hrow⟩ := own_row (f := Value.string) HO.out
   have HRW := Lib.hid hrow
   clear hrow
   have hjz : Hid ((joinS ⟨#[32]⟩ z6).size ≤ 4398046511104) := by show _ ≤ _; rw [hzz.out]; have := hls.out; omega
   go_wp2_with fail
   refine (join_spec xj z6 cj ⟨#[32]⟩ _ (by omega) hjz.out HRW.out.rd).mono ?_
   rintro e wj ⟨rfl, rfl⟩
   rw [hzz.out]
   obtain ⟨ln, hln⟩ : ∃ ln, ln = lineS rs n r := ⟨_, rfl⟩
   rw [← hln]
   have HLN := Lib.hid hln
   clear hln
   go_wp2
   go_ret
   exact ⟨ret_str (by rw [HLN.out, HRN.out]), HB.out.trans (HBW.out.mono HB.out.size)⟩
set_option maxHeartbeats 4000000 in
theorem srule_3 (a : Option Addr) (rs : List RuleV) (cap n : Nat) (w : World) (hl : rs.length ≤ 1048576) (hn : n < rs.length) (hsh : ∀ r ∈ rs, Short r) (hsp : ∀ r ∈ rs, Spelt r) (hv : validAt (kindS rs) rs (n : Int) = true) (hvk : kindI rs rs[n] = true) (hrd : RdC a rs w) (hk : rs[n].kind = 3) :
  Calls Tryz.prog 71 #[.agg #[.slice a rs.length cap], .int .i64 (n : Int)] w fun e w' => e = .returned (.string (lineS rs n rs[n])) ∧ Below w.heap.size w w' := by
 obtain ⟨w0, hw0⟩ : ∃ w0, w0 = w.alloc (.cells #[.slice a rs.length cap] 26) := ⟨_, rfl⟩
 have hB : Below w.heap.size w w0 := by subst hw0; exact (Below.refl _ _).alloc (Nat.le_refl _) _
 have hX : CellsAt w.heap.size [.slice a rs.length cap] w0 := by subst hw0; exact CellsAt.new w _ _
 have hx0 := (hX 0 _ rfl).1
 have HX := Lib.hid hX
 have HB := Lib.hid hB
 have HRD := Lib.hid hrd
 have HSH := Lib.hid hsh
 have HSP := Lib.hid hsp
 have HVK := Lib.hid hvk
 have HV := Lib.hid hv
 have HNM : Hid (∀ r ∈ rs, r.name.size ≤ 1048576) := fun r hr => (hsp r hr).1
 have HKZ := Lib.hid (kidName_size HNM.out)
 clear hB hX hrd hsh hsp hv hvk
 go_enter Tryz.func71, Tryz.ntmps71
 go_wp2_with fail
 rw [← hw0]
 clear hw0
 refine (validr_spec a rs cap (n : Int) _ hl HSH.out HSP.out (HRD.out.below HB.out)).mono ?_
 rintro e w1 ⟨rfl, hb1⟩
 rw [HV.out]
 have hx1 := (HX.out.below hb1 0 _ rfl).1
 replace HX := Lib.hid (HX.out.below hb1)
 replace HB := Lib.hid (HB.out.trans (hb1.mono HB.out.size))
 clear hb1 hx0 HV
 have k0 : (0 : Int) ≤ (n : Int) := by omega
 have k1 : (n : Int) < (rs.length : Int) := by omega
 obtain ⟨b0, off, a4, c4, a5, c5, a6, c6, a7, c7, rfl, ⟨d0, d1, d2, d3, d4, d5, d6, d7⟩, r4, r5, r6, r7⟩ := (HRD.out.rd.below HB.out).at n hn
 have hnr := HNM.out _ (List.getElem_mem hn)
 have hsr := Lib.hid (HSH.out _ (List.getElem_mem hn))
 have hls := Lib.hid (line_size (n := n) HVK.out HNM.out hnr)
 obtain ⟨r, hr⟩ : ∃ r, r = rs[n] := ⟨_, rfl⟩
 rw [← hr] at d0 d1 d2 d3 d4 d5 d6 d7 hnr hsr hls HVK hk r4 r5 r6 r7
 have HRN := Lib.hid hr
 clear hr
 rw [hk] at d1
 obtain ⟨w2, hw2⟩ : ∃ w2, w2 = w1.alloc (.cells #[.string r.name, .int .i64 (3), .int .i64 r.size, .bool r.little, .slice a4 r.bytes.length c4, .slice a5 r.names.length c5, .slice a6 r.tags.length c6, .slice a7 r.kids.length c7] 59) := ⟨_, rfl⟩
 have hb2 : Below w1.heap.size w1 w2 := by subst hw2; exact (Below.refl _ _).alloc (Nat.le_refl _) _
 have HR : Hid (CellsAt w1.heap.size [.string r.name, .int .i64 (3), .int .i64 r.size, .bool r.little, .slice a4 r.bytes.length c4, .slice a5 r.names.length c5, .slice a6 r.tags.length c6, .slice a7 r.kids.length c7] w2) := by subst hw2; exact CellsAt.new w1 _ _
 replace HX := Lib.hid (HX.out.below hb2)
 replace HB := Lib.hid (HB.out.trans (hb2.mono HB.out.size))
 have HR4 := Lib.hid (r4.below hb2)
 have HR5 := Lib.hid (r5.below hb2)
 have HR6 := Lib.hid (r6.below hb2)
 have HR7 := Lib.hid (r7.below hb2)
 have HRE := Lib.hid (HRD.out.rd.below HB.out)
 obtain ⟨kn, hkn⟩ : ∃ kn, kn = kindName (3) := ⟨_, rfl⟩
 have HKN := Lib.hid hkn
 have hW := Lib.hid hw2
 clear hb2 hw2 r4 r5 r6 r7 hkn
 go_upto_region 4 with fail
 rw [← hW.out]
 clear hW d0 d1 d2 d3 d4 d5 d6 d7 hx1
 go_cut [6] from 19 to 24 (fun l W => ∃ (zs : List ByteArray) (v0 : Value), v0 = l ∧ zs.length ≤ 2 ∧ Hid (zs = [r.name, kn]) ∧ Hid (W.ownsRow w2.heap.size 9 1 v0 zs.length (zs.map Value.string)) ∧ Hid (Below w2.heap.size w2 W))
 case first =>
  obtain ⟨c0, -⟩ := HR.out 0 _ rfl
  obtain ⟨c1, -⟩ := HR.out 1 _ rfl
  go_region_with ((go_at_call 96; refine (kind_spec (3) _).mono ?_; rintro e w3 ⟨rfl, hb3⟩; rw [← HKN.out]; have c3 := cell_keep (w := w2.drew) hb3 c0; have HB3 : Hid (Below w2.heap.size w2 w3) := (below_drewN (Below.refl _ w2) 1).trans hb3; clear hb3))
  all_goals (go_wp2_with fail; go_meet; exact ⟨[r.name, kn], _, rfl, Nat.le_refl _, rfl, own_lits (f := Value.string) _ w2.heap.size 9 [r.name, kn] HB3.out.size (by unfold maxLen; simp), HB3.out.alloc HB3.out.size _⟩)
 case rest =>
  obtain ⟨zs, v, rfl, hzl, HZ, HO, HBW⟩ := hcut
  have hz := kindI_size3 HVK.out hk
  have b1 := (HR.out.below HBW.out 1 _ rfl).1
  have b2 := (HR.out.below HBW.out 2 _ rfl).1
  go_wp2_with fail
  clear b1 b2
  refine (fmt_spec r.size _ (by omega) (by omega)).mono ?_
  rintro e u4w ⟨rfl, hb⟩
  replace HO := Lib.hid (own_below HO.out hb)
  replace HBW := Lib.hid (HBW.out.trans (hb.mono HBW.out.size))
  clear hb
  go_wp2_with (at_builtin; refine wp_pushF (f := Value.string) 51 9 (.string ⟨#[]⟩) 16 Tryz.underlying51 infoStr rfl rfl (.tmp 65) (.tmp 69) rfl w2.heap.size v zs (itoaS r.size) rfl u4w (by simp [Act.eval]) (by simp [Act.eval]) HO.out (by unfold maxLen; omega) (by omega) HBW.out.size ?_)
  intro v5 u5w hown hgrow _
  have hown2 : u5w.ownsRow w2.heap.size 9 1 v5 (zs ++ [itoaS r.size]).length ((zs ++ [itoaS r.size]).map Value.string) := by simpa using hown
  obtain ⟨z5, hz5⟩ : ∃ z, z = zs ++ [itoaS r.size] := ⟨_, rfl⟩
  rw [← hz5] at hown2
  have z5l : z5.length ≤ 3 := by rw [hz5]; simp; omega
  have Hz5 := Lib.hid hz5
  have HBn := Lib.hid (HBW.out.grown hgrow HBW.out.size fun g hg => (World.ownsRow.lt HO.out g hg).1)
  replace HBW := HBn
  replace HO := Lib.hid hown2
  clear hown hown2 hgrow hz5 HBn
  have hzz : Hid (joinS ⟨#[32]⟩ z5 = lineS rs n r) := by
   show _ = _
   rw [show z5 = r.name :: (kindName r.kind :: fieldsOf rs n r) from by rw [Hz5.out, HZ.out, hk, HKN.out]; unfold fieldsOf; simp [hk], join_addWs]; rfl
  obtain ⟨xj, cj, rfl, hrow⟩ := own_row (f := Value.string) HO.out
  have HRW := Lib.hid hrow
  clear hrow
  have hjz : Hid ((joinS ⟨#[32]⟩ z5).size ≤ 4398046511104) := by show _ ≤ _; rw [hzz.out]; have := hls.out; omega
  go_wp2_with fail
  refine (join_spec xj z5 cj ⟨#[32]⟩ _ (by omega) hjz.out HRW.out.rd).mono ?_
  rintro e wj ⟨rfl, rfl⟩
  rw [hzz.out]
  obtain ⟨ln, hln⟩ : ∃ ln, ln = lineS rs n r := ⟨_, rfl⟩
  rw [← hln]
  have HLN := Lib.hid hln
  clear hln
  go_wp2
  go_ret
  exact ⟨ret_str (by rw [HLN.out, HRN.out]), HB.out.trans (HBW.out.mono HB.out.size)⟩
set_option maxHeartbeats 4000000 in
theorem srule_2 (a : Option Addr) (rs : List RuleV) (cap n : Nat) (w : World) (hl : rs.length ≤ 1048576) (hn : n < rs.length) (hsh : ∀ r ∈ rs, Short r) (hsp : ∀ r ∈ rs, Spelt r) (hv : validAt (kindS rs) rs (n : Int) = true) (hvk : kindI rs rs[n] = true) (hrd : RdC a rs w) (hk : rs[n].kind = 2) :
  Calls Tryz.prog 71 #[.agg #[.slice a rs.length cap], .int .i64 (n : Int)] w fun e w' => e = .returned (.string (lineS rs n rs[n])) ∧ Below w.heap.size w w' := by
 obtain ⟨w0, hw0⟩ : ∃ w0, w0 = w.alloc (.cells #[.slice a rs.length cap] 26) := ⟨_, rfl⟩
 have hB : Below w.heap.size w w0 := by subst hw0; exact (Below.refl _ _).alloc (Nat.le_refl _) _
 have hX : CellsAt w.heap.size [.slice a rs.length cap] w0 := by subst hw0; exact CellsAt.new w _ _
 have hx0 := (hX 0 _ rfl).1
 have HX := Lib.hid hX
 have HB := Lib.hid hB
 have HRD := Lib.hid hrd
 have HSH := Lib.hid hsh
 have HSP := Lib.hid hsp
 have HVK := Lib.hid hvk
 have HV := Lib.hid hv
 have HNM : Hid (∀ r ∈ rs, r.name.size ≤ 1048576) := fun r hr => (hsp r hr).1
 have HKZ := Lib.hid (kidName_size HNM.out)
 clear hB hX hrd hsh hsp hv hvk
 go_enter Tryz.func71, Tryz.ntmps71
 go_wp2_with fail
 rw [← hw0]
 clear hw0
 refine (validr_spec a rs cap (n : Int) _ hl HSH.out HSP.out (HRD.out.below HB.out)).mono ?_
 rintro e w1 ⟨rfl, hb1⟩
 rw [HV.out]
 have hx1 := (HX.out.below hb1 0 _ rfl).1
 replace HX := Lib.hid (HX.out.below hb1)
 replace HB := Lib.hid (HB.out.trans (hb1.mono HB.out.size))
 clear hb1 hx0 HV
 have k0 : (0 : Int) ≤ (n : Int) := by omega
 have k1 : (n : Int) < (rs.length : Int) := by omega
 obtain ⟨b0, off, a4, c4, a5, c5, a6, c6, a7, c7, rfl, ⟨d0, d1, d2, d3, d4, d5, d6, d7⟩, r4, r5, r6, r7⟩ := (HRD.out.rd.below HB.out).at n hn
 have hnr := HNM.out _ (List.getElem_mem hn)
 have hsr := Lib.hid (HSH.out _ (List.getElem_mem hn))
 have hls := Lib.hid (line_size (n := n) HVK.out HNM.out hnr)
 obtain ⟨r, hr⟩ : ∃ r, r = rs[n] := ⟨_, rfl⟩
 rw [← hr] at d0 d1 d2 d3 d4 d5 d6 d7 hnr hsr hls HVK hk r4 r5 r6 r7
 have HRN := Lib.hid hr
 clear hr
 rw [hk] at d1
 obtain ⟨w2, hw2⟩ : ∃ w2, w2 = w1.alloc (.cells #[.string r.name, .int .i64 (2), .int .i64 r.size, .bool r.little, .slice a4 r.bytes.length c4, .slice a5 r.names.length c5, .slice a6 r.tags.length c6, .slice a7 r.kids.length c7] 59) := ⟨_, rfl⟩
 have hb2 : Below w1.heap.size w1 w2 := by subst hw2; exact (Below.refl _ _).alloc (Nat.le_refl _) _
 have HR : Hid (CellsAt w1.heap.size [.string r.name, .int .i64 (2), .int .i64 r.size, .bool r.little, .slice a4 r.bytes.length c4, .slice a5 r.names.length c5, .slice a6 r.tags.length c6, .slice a7 r.kids.length c7] w2) := by subst hw2; exact CellsAt.new w1 _ _
 replace HX := Lib.hid (HX.out.below hb2)
 replace HB := Lib.hid (HB.out.trans (hb2.mono HB.out.size))
 have HR4 := Lib.hid (r4.below hb2)
 have HR5 := Lib.hid (r5.below hb2)
 have HR6 := Lib.hid (r6.below hb2)
 have HR7 := Lib.hid (r7.below hb2)
 have HRE := Lib.hid (HRD.out.rd.below HB.out)
 obtain ⟨kn, hkn⟩ : ∃ kn, kn = kindName (2) := ⟨_, rfl⟩
 have HKN := Lib.hid hkn
 have hW := Lib.hid hw2
 clear hb2 hw2 r4 r5 r6 r7 hkn
 go_upto_region 4 with fail
 rw [← hW.out]
 clear hW d0 d1 d2 d3 d4 d5 d6 d7 hx1
 go_cut [6] from 19 to 24 (fun l W => ∃ (zs : List ByteArray) (v0 : Value), v0 = l ∧ zs.length ≤ 2 ∧ Hid (zs = [r.name, kn]) ∧ Hid (W.ownsRow w2.heap.size 9 1 v0 zs.length (zs.map Value.string)) ∧ Hid (Below w2.heap.size w2 W))
 case first =>
  obtain ⟨c0, -⟩ := HR.out 0 _ rfl
  obtain ⟨c1, -⟩ := HR.out 1 _ rfl
  go_region_with ((go_at_call 96; refine (kind_spec (2) _).mono ?_; rintro e w3 ⟨rfl, hb3⟩; rw [← HKN.out]; have c3 := cell_keep (w := w2.drew) hb3 c0; have HB3 : Hid (Below w2.heap.size w2 w3) := (below_drewN (Below.refl _ w2) 1).trans hb3; clear hb3))
  all_goals (go_wp2_with fail; go_meet; exact ⟨[r.name, kn], _, rfl, Nat.le_refl _, rfl, own_lits (f := Value.string) _ w2.heap.size 9 [r.name, kn] HB3.out.size (by unfold maxLen; simp), HB3.out.alloc HB3.out.size _⟩)
 case rest =>
  obtain ⟨zs, v, rfl, hzl, HZ, HO, HBW⟩ := hcut
  have hz := kindI_bytes HVK.out (.inl hk)
  have b1 := (HR.out.below HBW.out 1 _ rfl).1
  have b4 := (HR.out.below HBW.out 4 _ rfl).1
  go_wp2_with fail
  clear b1 b4
  refine (fmthex_spec a4 r.bytes c4 _ (by omega) (HR4.out.below HBW.out)).mono ?_
  rintro e u4w ⟨rfl, nq, hq⟩
  have hb : Below wc.heap.size wc u4w := by subst hq; exact below_drewN (Below.refl _ _) nq
  replace HO := Lib.hid (own_below HO.out hb)
  replace HBW := Lib.hid (HBW.out.trans (hb.mono HBW.out.size))
  clear hb hq
  go_wp2_with (at_builtin; refine wp_pushF (f := Value.string) 51 9 (.string ⟨#[]⟩) 16 Tryz.underlying51 infoStr rfl rfl (.tmp 57) (.tmp 61) rfl w2.heap.size v zs (hexS r.bytes) rfl u4w (by simp [Act.eval]) (by simp [Act.eval]) HO.out (by unfold maxLen; omega) (by omega) HBW.out.size ?_)
  intro v5 u5w hown hgrow _
  have hown2 : u5w.ownsRow w2.heap.size 9 1 v5 (zs ++ [hexS r.bytes]).length ((zs ++ [hexS r.bytes]).map Value.string) := by simpa using hown
  obtain ⟨z5, hz5⟩ : ∃ z, z = zs ++ [hexS r.bytes] := ⟨_, rfl⟩
  rw [← hz5] at hown2
  have z5l : z5.length ≤ 3 := by rw [hz5]; simp; omega
  have Hz5 := Lib.hid hz5
  have HBn := Lib.hid (HBW.out.grown hgrow HBW.out.size fun g hg => (World.ownsRow.lt HO.out g hg).1)
  replace HBW := HBn
  replace HO := Lib.hid hown2
  clear hown hown2 hgrow hz5 HBn
  have hzz : Hid (joinS ⟨#[32]⟩ z5 = lineS rs n r) := by
   show _ = _
   rw [show z5 = r.name :: (kindName r.kind :: fieldsOf rs n r) from by rw [Hz5.out, HZ.out, hk, HKN.out]; unfold fieldsOf; simp [hk], join_addWs]; rfl
  obtain ⟨xj, cj, rfl, hrow⟩ := own_row (f := Value.string) HO.out
  have HRW := Lib.hid hrow
  clear hrow
  have hjz : Hid ((joinS ⟨#[32]⟩ z5).size ≤ 4398046511104) := by show _ ≤ _; rw [hzz.out]; have := hls.out; omega
  go_wp2_with fail
  refine (join_spec xj z5 cj ⟨#[32]⟩ _ (by omega) hjz.out HRW.out.rd).mono ?_
  rintro e wj ⟨rfl, rfl⟩
  rw [hzz.out]
  obtain ⟨ln, hln⟩ : ∃ ln, ln = lineS rs n r := ⟨_, rfl⟩
  rw [← hln]
  have HLN := Lib.hid hln
  clear hln
  go_wp2
  go_ret
  exact ⟨ret_str (by rw [HLN.out, HRN.out]), HB.out.trans (HBW.out.mono HB.out.size)⟩
set_option maxHeartbeats 4000000 in
theorem srule_10 (a : Option Addr) (rs : List RuleV) (cap n : Nat) (w : World) (hl : rs.length ≤ 1048576) (hn : n < rs.length) (hsh : ∀ r ∈ rs, Short r) (hsp : ∀ r ∈ rs, Spelt r) (hv : validAt (kindS rs) rs (n : Int) = true) (hvk : kindI rs rs[n] = true) (hrd : RdC a rs w) (hk : rs[n].kind = 10) :
  Calls Tryz.prog 71 #[.agg #[.slice a rs.length cap], .int .i64 (n : Int)] w fun e w' => e = .returned (.string (lineS rs n rs[n])) ∧ Below w.heap.size w w' := by
 obtain ⟨w0, hw0⟩ : ∃ w0, w0 = w.alloc (.cells #[.slice a rs.length cap] 26) := ⟨_, rfl⟩
 have hB : Below w.heap.size w w0 := by subst hw0; exact (Below.refl _ _).alloc (Nat.le_refl _) _
 have hX : CellsAt w.heap.size [.slice a rs.length cap] w0 := by subst hw0; exact CellsAt.new w _ _
 have hx0 := (hX 0 _ rfl).1
 have HX := Lib.hid hX
 have HB := Lib.hid hB
 have HRD := Lib.hid hrd
 have HSH := Lib.hid hsh
 have HSP := Lib.hid hsp
 have HVK := Lib.hid hvk
 have HV := Lib.hid hv
 have HNM : Hid (∀ r ∈ rs, r.name.size ≤ 1048576) := fun r hr => (hsp r hr).1
 have HKZ := Lib.hid (kidName_size HNM.out)
 clear hB hX hrd hsh hsp hv hvk
 go_enter Tryz.func71, Tryz.ntmps71
 go_wp2_with fail
 rw [← hw0]
 clear hw0
 refine (validr_spec a rs cap (n : Int) _ hl HSH.out HSP.out (HRD.out.below HB.out)).mono ?_
 rintro e w1 ⟨rfl, hb1⟩
 rw [HV.out]
 have hx1 := (HX.out.below hb1 0 _ rfl).1
 replace HX := Lib.hid (HX.out.below hb1)
 replace HB := Lib.hid (HB.out.trans (hb1.mono HB.out.size))
 clear hb1 hx0 HV
 have k0 : (0 : Int) ≤ (n : Int) := by omega
 have k1 : (n : Int) < (rs.length : Int) := by omega
 obtain ⟨b0, off, a4, c4, a5, c5, a6, c6, a7, c7, rfl, ⟨d0, d1, d2, d3, d4, d5, d6, d7⟩, r4, r5, r6, r7⟩ := (HRD.out.rd.below HB.out).at n hn
 have hnr := HNM.out _ (List.getElem_mem hn)
 have hsr := Lib.hid (HSH.out _ (List.getElem_mem hn))
 have hls := Lib.hid (line_size (n := n) HVK.out HNM.out hnr)
 obtain ⟨r, hr⟩ : ∃ r, r = rs[n] := ⟨_, rfl⟩
 rw [← hr] at d0 d1 d2 d3 d4 d5 d6 d7 hnr hsr hls HVK hk r4 r5 r6 r7
 have HRN := Lib.hid hr
 clear hr
 rw [hk] at d1
 obtain ⟨w2, hw2⟩ : ∃ w2, w2 = w1.alloc (.cells #[.string r.name, .int .i64 (10), .int .i64 r.size, .bool r.little, .slice a4 r.bytes.length c4, .slice a5 r.names.length c5, .slice a6 r.tags.length c6, .slice a7 r.kids.length c7] 59) := ⟨_, rfl⟩
 have hb2 : Below w1.heap.size w1 w2 := by subst hw2; exact (Below.refl _ _).alloc (Nat.le_refl _) _
 have HR : Hid (CellsAt w1.heap.size [.string r.name, .int .i64 (10), .int .i64 r.size, .bool r.little, .slice a4 r.bytes.length c4, .slice a5 r.names.length c5, .slice a6 r.tags.length c6, .slice a7 r.kids.length c7] w2) := by subst hw2; exact CellsAt.new w1 _ _
 replace HX := Lib.hid (HX.out.below hb2)
 replace HB := Lib.hid (HB.out.trans (hb2.mono HB.out.size))
 have HR4 := Lib.hid (r4.below hb2)
 have HR5 := Lib.hid (r5.below hb2)
 have HR6 := Lib.hid (r6.below hb2)
 have HR7 := Lib.hid (r7.below hb2)
 have HRE := Lib.hid (HRD.out.rd.below HB.out)
 obtain ⟨kn, hkn⟩ : ∃ kn, kn = kindName (10) := ⟨_, rfl⟩
 have HKN := Lib.hid hkn
 have hW := Lib.hid hw2
 clear hb2 hw2 r4 r5 r6 r7 hkn
 go_upto_region 4 with fail
 rw [← hW.out]
 clear hW d0 d1 d2 d3 d4 d5 d6 d7 hx1
 go_cut [6] from 19 to 24 (fun l W => ∃ (zs : List ByteArray) (v0 : Value), v0 = l ∧ zs.length ≤ 2 ∧ Hid (zs = [r.name, kn]) ∧ Hid (W.ownsRow w2.heap.size 9 1 v0 zs.length (zs.map Value.string)) ∧ Hid (Below w2.heap.size w2 W))
 case first =>
  obtain ⟨c0, -⟩ := HR.out 0 _ rfl
  obtain ⟨c1, -⟩ := HR.out 1 _ rfl
  go_region_with ((go_at_call 96; refine (kind_spec (10) _).mono ?_; rintro e w3 ⟨rfl, hb3⟩; rw [← HKN.out]; have c3 := cell_keep (w := w2.drew) hb3 c0; have HB3 : Hid (Below w2.heap.size w2 w3) := (below_drewN (Below.refl _ w2) 1).trans hb3; clear hb3))
  all_goals (go_wp2_with fail; go_meet; exact ⟨[r.name, kn], _, rfl, Nat.le_refl _, rfl, own_lits (f := Value.string) _ w2.heap.size 9 [r.name, kn] HB3.out.size (by unfold maxLen; simp), HB3.out.alloc HB3.out.size _⟩)
 case rest =>
  obtain ⟨zs, v, rfl, hzl, HZ, HO, HBW⟩ := hcut
  have hz := kindI_bytes HVK.out (.inr hk)
  have b1 := (HR.out.below HBW.out 1 _ rfl).1
  have b4 := (HR.out.below HBW.out 4 _ rfl).1
  go_wp2_with fail
  clear b1 b4
  refine (fmthex_spec a4 r.bytes c4 _ (by omega) (HR4.out.below HBW.out)).mono ?_
  rintro e u4w ⟨rfl, nq, hq⟩
  have hb : Below wc.heap.size wc u4w := by subst hq; exact below_drewN (Below.refl _ _) nq
  replace HO := Lib.hid (own_below HO.out hb)
  replace HBW := Lib.hid (HBW.out.trans (hb.mono HBW.out.size))
  clear hb hq
  go_wp2_with (at_builtin; refine wp_pushF (f := Value.string) 51 9 (.string ⟨#[]⟩) 16 Tryz.underlying51 infoStr rfl rfl (.tmp 57) (.tmp 61) rfl w2.heap.size v zs (hexS r.bytes) rfl u4w (by simp [Act.eval]) (by simp [Act.eval]) HO.out (by unfold maxLen; omega) (by omega) HBW.out.size ?_)
  intro v5 u5w hown hgrow _
  have hown2 : u5w.ownsRow w2.heap.size 9 1 v5 (zs ++ [hexS r.bytes]).length ((zs ++ [hexS r.bytes]).map Value.string) := by simpa using hown
  obtain ⟨z5, hz5⟩ : ∃ z, z = zs ++ [hexS r.bytes] := ⟨_, rfl⟩
  rw [← hz5] at hown2
  have z5l : z5.length ≤ 3 := by rw [hz5]; simp; omega
  have Hz5 := Lib.hid hz5
  have HBn := Lib.hid (HBW.out.grown hgrow HBW.out.size fun g hg => (World.ownsRow.lt HO.out g hg).1)
  replace HBW := HBn
  replace HO := Lib.hid hown2
  clear hown hown2 hgrow hz5 HBn
  have hzz : Hid (joinS ⟨#[32]⟩ z5 = lineS rs n r) := by
   show _ = _
   rw [show z5 = r.name :: (kindName r.kind :: fieldsOf rs n r) from by rw [Hz5.out, HZ.out, hk, HKN.out]; unfold fieldsOf; simp [hk], join_addWs]; rfl
  obtain ⟨xj, cj, rfl, hrow⟩ := own_row (f := Value.string) HO.out
  have HRW := Lib.hid hrow
  clear hrow
  have hjz : Hid ((joinS ⟨#[32]⟩ z5).size ≤ 4398046511104) := by show _ ≤ _; rw [hzz.out]; have := hls.out; omega
  go_wp2_with fail
  refine (join_spec xj z5 cj ⟨#[32]⟩ _ (by omega) hjz.out HRW.out.rd).mono ?_
  rintro e wj ⟨rfl, rfl⟩
  rw [hzz.out]
  obtain ⟨ln, hln⟩ : ∃ ln, ln = lineS rs n r := ⟨_, rfl⟩
  rw [← hln]
  have HLN := Lib.hid hln
  clear hln
  go_wp2
  go_ret
  exact ⟨ret_str (by rw [HLN.out, HRN.out]), HB.out.trans (HBW.out.mono HB.out.size)⟩
def kidsTo (rs : List RuleV) (n : Nat) : Nat → List ByteArray
 | 0 => []
 | k + 1 => kidsTo rs n k ++ [kidName rs (n : Int) (k : Int)]
set_option maxHeartbeats 4000000 in
theorem srule_4 (a : Option Addr) (rs : List RuleV) (cap n : Nat) (w : World) (hl : rs.length ≤ 1048576) (hn : n < rs.length) (hsh : ∀ r ∈ rs, Short r) (hsp : ∀ r ∈ rs, Spelt r) (hv : validAt (kindS rs) rs (n : Int) = true) (hvk : kindI rs rs[n] = true) (hrd : RdC a rs w) (hk : rs[n].kind = 4) :
  Calls Tryz.prog 71 #[.agg #[.slice a rs.length cap], .int .i64 (n : Int)] w fun e w' => e = .returned (.string (lineS rs n rs[n])) ∧ Below w.heap.size w w' := by
 obtain ⟨w0, hw0⟩ : ∃ w0, w0 = w.alloc (.cells #[.slice a rs.length cap] 26) := ⟨_, rfl⟩
 have hB : Below w.heap.size w w0 := by subst hw0; exact (Below.refl _ _).alloc (Nat.le_refl _) _
 have hX : CellsAt w.heap.size [.slice a rs.length cap] w0 := by subst hw0; exact CellsAt.new w _ _
 have hx0 := (hX 0 _ rfl).1
 have HX := Lib.hid hX
 have HB := Lib.hid hB
 have HRD := Lib.hid hrd
 have HSH := Lib.hid hsh
 have HSP := Lib.hid hsp
 have HVK := Lib.hid hvk
 have HV := Lib.hid hv
 have HNM : Hid (∀ r ∈ rs, r.name.size ≤ 1048576) := fun r hr => (hsp r hr).1
 have HKZ := Lib.hid (kidName_size HNM.out)
 clear hB hX hrd hsh hsp hv hvk
 go_enter Tryz.func71, Tryz.ntmps71
 go_wp2_with fail
 rw [← hw0]
 clear hw0
 refine (validr_spec a rs cap (n : Int) _ hl HSH.out HSP.out (HRD.out.below HB.out)).mono ?_
 rintro e w1 ⟨rfl, hb1⟩
 rw [HV.out]
 have hx1 := (HX.out.below hb1 0 _ rfl).1
 replace HX := Lib.hid (HX.out.below hb1)
 replace HB := Lib.hid (HB.out.trans (hb1.mono HB.out.size))
 clear hb1 hx0 HV
 have k0 : (0 : Int) ≤ (n : Int) := by omega
 have k1 : (n : Int) < (rs.length : Int) := by omega
 obtain ⟨b0, off, a4, c4, a5, c5, a6, c6, a7, c7, rfl, ⟨d0, d1, d2, d3, d4, d5, d6, d7⟩, r4, r5, r6, r7⟩ := (HRD.out.rd.below HB.out).at n hn
 have hnr := HNM.out _ (List.getElem_mem hn)
 have hsr := Lib.hid (HSH.out _ (List.getElem_mem hn))
 have hls := Lib.hid (line_size (n := n) HVK.out HNM.out hnr)
 obtain ⟨r, hr⟩ : ∃ r, r = rs[n] := ⟨_, rfl⟩
 rw [← hr] at d0 d1 d2 d3 d4 d5 d6 d7 hnr hsr hls HVK hk r4 r5 r6 r7
 have HRN := Lib.hid hr
 clear hr
 rw [hk] at d1
 obtain ⟨w2, hw2⟩ : ∃ w2, w2 = w1.alloc (.cells #[.string r.name, .int .i64 (4), .int .i64 r.size, .bool r.little, .slice a4 r.bytes.length c4, .slice a5 r.names.length c5, .slice a6 r.tags.length c6, .slice a7 r.kids.length c7] 59) := ⟨_, rfl⟩
 have hb2 : Below w1.heap.size w1 w2 := by subst hw2; exact (Below.refl _ _).alloc (Nat.le_refl _) _
 have HR : Hid (CellsAt w1.heap.size [.string r.name, .int .i64 (4), .int .i64 r.size, .bool r.little, .slice a4 r.bytes.length c4, .slice a5 r.names.length c5, .slice a6 r.tags.length c6, .slice a7 r.kids.length c7] w2) := by subst hw2; exact CellsAt.new w1 _ _
 replace HX := Lib.hid (HX.out.below hb2)
 replace HB := Lib.hid (HB.out.trans (hb2.mono HB.out.size))
 have HR4 := Lib.hid (r4.below hb2)
 have HR5 := Lib.hid (r5.below hb2)
 have HR6 := Lib.hid (r6.below hb2)
 have HR7 := Lib.hid (r7.below hb2)
 have HRE := Lib.hid (HRD.out.rd.below HB.out)
 obtain ⟨kn, hkn⟩ : ∃ kn, kn = kindName (4) := ⟨_, rfl⟩
 have HKN := Lib.hid hkn
 have hW := Lib.hid hw2
 clear hb2 hw2 r4 r5 r6 r7 hkn
 go_upto_region 4 with fail
 rw [← hW.out]
 clear hW d0 d1 d2 d3 d4 d5 d6 d7 hx1
 go_cut [6] from 19 to 24 (fun l W => ∃ (zs : List ByteArray) (v0 : Value), v0 = l ∧ zs.length ≤ 2 ∧ Hid (zs = [r.name, kn]) ∧ Hid (W.ownsRow w2.heap.size 9 1 v0 zs.length (zs.map Value.string)) ∧ Hid (Below w2.heap.size w2 W))
 case first =>
  obtain ⟨c0, -⟩ := HR.out 0 _ rfl
  obtain ⟨c1, -⟩ := HR.out 1 _ rfl
  go_region_with ((go_at_call 96; refine (kind_spec (4) _).mono ?_; rintro e w3 ⟨rfl, hb3⟩; rw [← HKN.out]; have c3 := cell_keep (w := w2.drew) hb3 c0; have HB3 : Hid (Below w2.heap.size w2 w3) := (below_drewN (Below.refl _ w2) 1).trans hb3; clear hb3))
  all_goals (go_wp2_with fail; go_meet; exact ⟨[r.name, kn], _, rfl, Nat.le_refl _, rfl, own_lits (f := Value.string) _ w2.heap.size 9 [r.name, kn] HB3.out.size (by unfold maxLen; simp), HB3.out.alloc HB3.out.size _⟩)
 case rest =>
  obtain ⟨zs, v, rfl, hzl, HZ, HO, HBW⟩ := hcut
  have hkl := Lib.hid (kindI_kids1 HVK.out (.inl hk))
  have hkm : r.kids.length ≤ 2 := by have := hkl.out; omega
  have b1 := (HR.out.below HBW.out 1 _ rfl).1
  go_wp2
  clear b1
  go_loopw [6, 9] (fun l i W => ∃ (k : Nat) (zk : List ByteArray) (vk : Value), k ≤ r.kids.length ∧ i = .int .i64 k ∧ vk = l ∧ zk.length ≤ 3 + k ∧ Hid (zk = r.name :: kn :: kidsTo rs n k) ∧ Hid (W.ownsRow w2.heap.size 9 1 vk zk.length (zk.map Value.string)) ∧ Hid (Below w2.heap.size w2 W)) (fun _ i _ => r.kids.length - (intOf i).toNat)
  case atStart => exact ⟨0, zs, v, Nat.zero_le _, rfl, rfl, by omega, HZ, HO, HBW⟩
  case round =>
   clear HO HBW HZ hzl
   obtain ⟨k, zk, vk, hkk, rfl, rfl, hzl, HZ, HO, HBW⟩ := hrel
   have m0 : (0 : Int) ≤ (k : Int) := by omega
   have b7 := (HR.out.below HBW.out 7 _ rfl).1
   by_cases hlt : k < r.kids.length
   ·have m1 : (k : Int) < (r.kids.length : Int) := by omega
    have bx := (HX.out.below HBW.out 0 _ rfl).1
    have hnext : Hid (r.name :: kn :: kidsTo rs n (k + 1) = (r.name :: kn :: kidsTo rs n k) ++ [kidName rs (n : Int) (k : Int)]) := rfl
    go_wp2_with fail
    clear bx b7
    refine (kid_spec (some ⟨b0, off, none⟩) rs cap (n : Int) (k : Int) _ (by omega) HSH.out (HRE.out.below HBW.out)).mono ?_
    rintro e u4w ⟨rfl, hb⟩
    replace HO := Lib.hid (own_below HO.out hb)
    replace HBW := Lib.hid (HBW.out.trans (hb.mono HBW.out.size))
    clear hb
    generalize kidName rs (n : Int) (k : Int) = kd at *
    go_wp2_with (at_builtin; refine wp_pushF (f := Value.string) 51 9 (.string ⟨#[]⟩) 16 Tryz.underlying51 infoStr rfl rfl (.tmp 34) (.tmp 39) rfl w2.heap.size vk zk (kd) rfl u4w (by simp [Act.eval]) (by simp [Act.eval]) HO.out (by unfold maxLen; omega) (by omega) HBW.out.size ?_)
    intro v5 u5w hown hgrow _
    have hown2 : u5w.ownsRow w2.heap.size 9 1 v5 (zk ++ [kd]).length ((zk ++ [kd]).map Value.string) := by simpa using hown
    obtain ⟨z5, hz5⟩ : ∃ z, z = zk ++ [kd] := ⟨_, rfl⟩
    rw [← hz5] at hown2
    have z5l : z5.length ≤ 6 := by rw [hz5]; simp; omega
    have Hz5 := Lib.hid hz5
    have HBn := Lib.hid (HBW.out.grown hgrow HBW.out.size fun g hg => (World.ownsRow.lt HO.out g hg).1)
    replace HBW := HBn
    replace HO := Lib.hid hown2
    clear hown hown2 hgrow hz5 HBn
    have hzn : Hid (z5 = r.name :: kn :: kidsTo rs n (k + 1)) := by show _ = _; rw [Hz5.out, HZ.out, hnext.out]
    have hzm : z5.length ≤ 3 + (k + 1) := by rw [Hz5.out]; simp; omega
    go_wp2
    go_roundw
    case rel => exact ⟨k + 1, z5, v5, by omega, by go_num, rfl, hzm, hzn, HO, HBW⟩
    case measure => simp [intOf]; omega
   ·have m1 : ¬ (k : Int) < (r.kids.length : Int) := by omega
    obtain rfl : k = r.kids.length := by omega
    have hzl2 : zk.length ≤ 5 := by omega
    clear hzl
    have hzz : Hid (joinS ⟨#[32]⟩ zk = lineS rs n r) := by
     show _ = _
     rw [show zk = r.name :: (kindName r.kind :: fieldsOf rs n r) from by rw [HZ.out, hkl.out, hk, HKN.out]; unfold fieldsOf; simp [hk, kidsTo], join_addWs]; rfl
    obtain ⟨xj, cj, rfl, hrow⟩ := own_row (f := Value.string) HO.out
    have HRW := Lib.hid hrow
    clear hrow
    have hjz : Hid ((joinS ⟨#[32]⟩ zk).size ≤ 4398046511104) := by show _ ≤ _; rw [hzz.out]; have := hls.out; omega
    go_wp2_with fail
    refine (join_spec xj zk cj ⟨#[32]⟩ _ (by omega) hjz.out HRW.out.rd).mono ?_
    rintro e wj ⟨rfl, rfl⟩
    rw [hzz.out]
    obtain ⟨ln, hln⟩ : ∃ ln, ln = lineS rs n r := ⟨_, rfl⟩
    rw [← hln]
    have HLN := Lib.hid hln
    clear hln
    go_wp2
    go_ret
    exact ⟨ret_str (by rw [HLN.out, HRN.out]), HB.out.trans (HBW.out.mono HB.out.size)⟩
set_option maxHeartbeats 4000000 in
theorem srule_8 (a : Option Addr) (rs : List RuleV) (cap n : Nat) (w : World) (hl : rs.length ≤ 1048576) (hn : n < rs.length) (hsh : ∀ r ∈ rs, Short r) (hsp : ∀ r ∈ rs, Spelt r) (hv : validAt (kindS rs) rs (n : Int) = true) (hvk : kindI rs rs[n] = true) (hrd : RdC a rs w) (hk : rs[n].kind = 8) :
  Calls Tryz.prog 71 #[.agg #[.slice a rs.length cap], .int .i64 (n : Int)] w fun e w' => e = .returned (.string (lineS rs n rs[n])) ∧ Below w.heap.size w w' := by
 obtain ⟨w0, hw0⟩ : ∃ w0, w0 = w.alloc (.cells #[.slice a rs.length cap] 26) := ⟨_, rfl⟩
 have hB : Below w.heap.size w w0 := by subst hw0; exact (Below.refl _ _).alloc (Nat.le_refl _) _
 have hX : CellsAt w.heap.size [.slice a rs.length cap] w0 := by subst hw0; exact CellsAt.new w _ _
 have hx0 := (hX 0 _ rfl).1
 have HX := Lib.hid hX
 have HB := Lib.hid hB
 have HRD := Lib.hid hrd
 have HSH := Lib.hid hsh
 have HSP := Lib.hid hsp
 have HVK := Lib.hid hvk
 have HV := Lib.hid hv
 have HNM : Hid (∀ r ∈ rs, r.name.size ≤ 1048576) := fun r hr => (hsp r hr).1
 have HKZ := Lib.hid (kidName_size HNM.out)
 clear hB hX hrd hsh hsp hv hvk
 go_enter Tryz.func71, Tryz.ntmps71
 go_wp2_with fail
 rw [← hw0]
 clear hw0
 refine (validr_spec a rs cap (n : Int) _ hl HSH.out HSP.out (HRD.out.below HB.out)).mono ?_
 rintro e w1 ⟨rfl, hb1⟩
 rw [HV.out]
 have hx1 := (HX.out.below hb1 0 _ rfl).1
 replace HX := Lib.hid (HX.out.below hb1)
 replace HB := Lib.hid (HB.out.trans (hb1.mono HB.out.size))
 clear hb1 hx0 HV
 have k0 : (0 : Int) ≤ (n : Int) := by omega
 have k1 : (n : Int) < (rs.length : Int) := by omega
 obtain ⟨b0, off, a4, c4, a5, c5, a6, c6, a7, c7, rfl, ⟨d0, d1, d2, d3, d4, d5, d6, d7⟩, r4, r5, r6, r7⟩ := (HRD.out.rd.below HB.out).at n hn
 have hnr := HNM.out _ (List.getElem_mem hn)
 have hsr := Lib.hid (HSH.out _ (List.getElem_mem hn))
 have hls := Lib.hid (line_size (n := n) HVK.out HNM.out hnr)
 obtain ⟨r, hr⟩ : ∃ r, r = rs[n] := ⟨_, rfl⟩
 rw [← hr] at d0 d1 d2 d3 d4 d5 d6 d7 hnr hsr hls HVK hk r4 r5 r6 r7
 have HRN := Lib.hid hr
 clear hr
 rw [hk] at d1
 obtain ⟨w2, hw2⟩ : ∃ w2, w2 = w1.alloc (.cells #[.string r.name, .int .i64 (8), .int .i64 r.size, .bool r.little, .slice a4 r.bytes.length c4, .slice a5 r.names.length c5, .slice a6 r.tags.length c6, .slice a7 r.kids.length c7] 59) := ⟨_, rfl⟩
 have hb2 : Below w1.heap.size w1 w2 := by subst hw2; exact (Below.refl _ _).alloc (Nat.le_refl _) _
 have HR : Hid (CellsAt w1.heap.size [.string r.name, .int .i64 (8), .int .i64 r.size, .bool r.little, .slice a4 r.bytes.length c4, .slice a5 r.names.length c5, .slice a6 r.tags.length c6, .slice a7 r.kids.length c7] w2) := by subst hw2; exact CellsAt.new w1 _ _
 replace HX := Lib.hid (HX.out.below hb2)
 replace HB := Lib.hid (HB.out.trans (hb2.mono HB.out.size))
 have HR4 := Lib.hid (r4.below hb2)
 have HR5 := Lib.hid (r5.below hb2)
 have HR6 := Lib.hid (r6.below hb2)
 have HR7 := Lib.hid (r7.below hb2)
 have HRE := Lib.hid (HRD.out.rd.below HB.out)
 obtain ⟨kn, hkn⟩ : ∃ kn, kn = kindName (8) := ⟨_, rfl⟩
 have HKN := Lib.hid hkn
 have hW := Lib.hid hw2
 clear hb2 hw2 r4 r5 r6 r7 hkn
 go_upto_region 4 with fail
 rw [← hW.out]
 clear hW d0 d1 d2 d3 d4 d5 d6 d7 hx1
 go_cut [6] from 19 to 24 (fun l W => ∃ (zs : List ByteArray) (v0 : Value), v0 = l ∧ zs.length ≤ 2 ∧ Hid (zs = [r.name, kn]) ∧ Hid (W.ownsRow w2.heap.size 9 1 v0 zs.length (zs.map Value.string)) ∧ Hid (Below w2.heap.size w2 W))
 case first =>
  obtain ⟨c0, -⟩ := HR.out 0 _ rfl
  obtain ⟨c1, -⟩ := HR.out 1 _ rfl
  go_region_with ((go_at_call 96; refine (kind_spec (8) _).mono ?_; rintro e w3 ⟨rfl, hb3⟩; rw [← HKN.out]; have c3 := cell_keep (w := w2.drew) hb3 c0; have HB3 : Hid (Below w2.heap.size w2 w3) := (below_drewN (Below.refl _ w2) 1).trans hb3; clear hb3))
  all_goals (go_wp2_with fail; go_meet; exact ⟨[r.name, kn], _, rfl, Nat.le_refl _, rfl, own_lits (f := Value.string) _ w2.heap.size 9 [r.name, kn] HB3.out.size (by unfold maxLen; simp), HB3.out.alloc HB3.out.size _⟩)
 case rest =>
  obtain ⟨zs, v, rfl, hzl, HZ, HO, HBW⟩ := hcut
  have hkl := Lib.hid (kindI_kids1 HVK.out (.inr (.inl hk)))
  have hkm : r.kids.length ≤ 2 := by have := hkl.out; omega
  have b1 := (HR.out.below HBW.out 1 _ rfl).1
  go_wp2
  clear b1
  go_loopw [6, 9] (fun l i W => ∃ (k : Nat) (zk : List ByteArray) (vk : Value), k ≤ r.kids.length ∧ i = .int .i64 k ∧ vk = l ∧ zk.length ≤ 3 + k ∧ Hid (zk = r.name :: kn :: kidsTo rs n k) ∧ Hid (W.ownsRow w2.heap.size 9 1 vk zk.length (zk.map Value.string)) ∧ Hid (Below w2.heap.size w2 W)) (fun _ i _ => r.kids.length - (intOf i).toNat)
  case atStart => exact ⟨0, zs, v, Nat.zero_le _, rfl, rfl, by omega, HZ, HO, HBW⟩
  case round =>
   clear HO HBW HZ hzl
   obtain ⟨k, zk, vk, hkk, rfl, rfl, hzl, HZ, HO, HBW⟩ := hrel
   have m0 : (0 : Int) ≤ (k : Int) := by omega
   have b7 := (HR.out.below HBW.out 7 _ rfl).1
   by_cases hlt : k < r.kids.length
   ·have m1 : (k : Int) < (r.kids.length : Int) := by omega
    have bx := (HX.out.below HBW.out 0 _ rfl).1
    have hnext : Hid (r.name :: kn :: kidsTo rs n (k + 1) = (r.name :: kn :: kidsTo rs n k) ++ [kidName rs (n : Int) (k : Int)]) := rfl
    go_wp2_with fail
    clear bx b7
    refine (kid_spec (some ⟨b0, off, none⟩) rs cap (n : Int) (k : Int) _ (by omega) HSH.out (HRE.out.below HBW.out)).mono ?_
    rintro e u4w ⟨rfl, hb⟩
    replace HO := Lib.hid (own_below HO.out hb)
    replace HBW := Lib.hid (HBW.out.trans (hb.mono HBW.out.size))
    clear hb
    generalize kidName rs (n : Int) (k : Int) = kd at *
    go_wp2_with (at_builtin; refine wp_pushF (f := Value.string) 51 9 (.string ⟨#[]⟩) 16 Tryz.underlying51 infoStr rfl rfl (.tmp 34) (.tmp 39) rfl w2.heap.size vk zk (kd) rfl u4w (by simp [Act.eval]) (by simp [Act.eval]) HO.out (by unfold maxLen; omega) (by omega) HBW.out.size ?_)
    intro v5 u5w hown hgrow _
    have hown2 : u5w.ownsRow w2.heap.size 9 1 v5 (zk ++ [kd]).length ((zk ++ [kd]).map Value.string) := by simpa using hown
    obtain ⟨z5, hz5⟩ : ∃ z, z = zk ++ [kd] := ⟨_, rfl⟩
    rw [← hz5] at hown2
    have z5l : z5.length ≤ 6 := by rw [hz5]; simp; omega
    have Hz5 := Lib.hid hz5
    have HBn := Lib.hid (HBW.out.grown hgrow HBW.out.size fun g hg => (World.ownsRow.lt HO.out g hg).1)
    replace HBW := HBn
    replace HO := Lib.hid hown2
    clear hown hown2 hgrow hz5 HBn
    have hzn : Hid (z5 = r.name :: kn :: kidsTo rs n (k + 1)) := by show _ = _; rw [Hz5.out, HZ.out, hnext.out]
    have hzm : z5.length ≤ 3 + (k + 1) := by rw [Hz5.out]; simp; omega
    go_wp2
    go_roundw
    case rel => exact ⟨k + 1, z5, v5, by omega, by go_num, rfl, hzm, hzn, HO, HBW⟩
    case measure => simp [intOf]; omega
   ·have m1 : ¬ (k : Int) < (r.kids.length : Int) := by omega
    obtain rfl : k = r.kids.length := by omega
    have hzl2 : zk.length ≤ 5 := by omega
    clear hzl
    have hzz : Hid (joinS ⟨#[32]⟩ zk = lineS rs n r) := by
     show _ = _
     rw [show zk = r.name :: (kindName r.kind :: fieldsOf rs n r) from by rw [HZ.out, hkl.out, hk, HKN.out]; unfold fieldsOf; simp [hk, kidsTo], join_addWs]; rfl
    obtain ⟨xj, cj, rfl, hrow⟩ := own_row (f := Value.string) HO.out
    have HRW := Lib.hid hrow
    clear hrow
    have hjz : Hid ((joinS ⟨#[32]⟩ zk).size ≤ 4398046511104) := by show _ ≤ _; rw [hzz.out]; have := hls.out; omega
    go_wp2_with fail
    refine (join_spec xj zk cj ⟨#[32]⟩ _ (by omega) hjz.out HRW.out.rd).mono ?_
    rintro e wj ⟨rfl, rfl⟩
    rw [hzz.out]
    obtain ⟨ln, hln⟩ : ∃ ln, ln = lineS rs n r := ⟨_, rfl⟩
    rw [← hln]
    have HLN := Lib.hid hln
    clear hln
    go_wp2
    go_ret
    exact ⟨ret_str (by rw [HLN.out, HRN.out]), HB.out.trans (HBW.out.mono HB.out.size)⟩
set_option maxHeartbeats 4000000 in
theorem srule_9 (a : Option Addr) (rs : List RuleV) (cap n : Nat) (w : World) (hl : rs.length ≤ 1048576) (hn : n < rs.length) (hsh : ∀ r ∈ rs, Short r) (hsp : ∀ r ∈ rs, Spelt r) (hv : validAt (kindS rs) rs (n : Int) = true) (hvk : kindI rs rs[n] = true) (hrd : RdC a rs w) (hk : rs[n].kind = 9) :
  Calls Tryz.prog 71 #[.agg #[.slice a rs.length cap], .int .i64 (n : Int)] w fun e w' => e = .returned (.string (lineS rs n rs[n])) ∧ Below w.heap.size w w' := by
 obtain ⟨w0, hw0⟩ : ∃ w0, w0 = w.alloc (.cells #[.slice a rs.length cap] 26) := ⟨_, rfl⟩
 have hB : Below w.heap.size w w0 := by subst hw0; exact (Below.refl _ _).alloc (Nat.le_refl _) _
 have hX : CellsAt w.heap.size [.slice a rs.length cap] w0 := by subst hw0; exact CellsAt.new w _ _
 have hx0 := (hX 0 _ rfl).1
 have HX := Lib.hid hX
 have HB := Lib.hid hB
 have HRD := Lib.hid hrd
 have HSH := Lib.hid hsh
 have HSP := Lib.hid hsp
 have HVK := Lib.hid hvk
 have HV := Lib.hid hv
 have HNM : Hid (∀ r ∈ rs, r.name.size ≤ 1048576) := fun r hr => (hsp r hr).1
 have HKZ := Lib.hid (kidName_size HNM.out)
 clear hB hX hrd hsh hsp hv hvk
 go_enter Tryz.func71, Tryz.ntmps71
 go_wp2_with fail
 rw [← hw0]
 clear hw0
 refine (validr_spec a rs cap (n : Int) _ hl HSH.out HSP.out (HRD.out.below HB.out)).mono ?_
 rintro e w1 ⟨rfl, hb1⟩
 rw [HV.out]
 have hx1 := (HX.out.below hb1 0 _ rfl).1
 replace HX := Lib.hid (HX.out.below hb1)
 replace HB := Lib.hid (HB.out.trans (hb1.mono HB.out.size))
 clear hb1 hx0 HV
 have k0 : (0 : Int) ≤ (n : Int) := by omega
 have k1 : (n : Int) < (rs.length : Int) := by omega
 obtain ⟨b0, off, a4, c4, a5, c5, a6, c6, a7, c7, rfl, ⟨d0, d1, d2, d3, d4, d5, d6, d7⟩, r4, r5, r6, r7⟩ := (HRD.out.rd.below HB.out).at n hn
 have hnr := HNM.out _ (List.getElem_mem hn)
 have hsr := Lib.hid (HSH.out _ (List.getElem_mem hn))
 have hls := Lib.hid (line_size (n := n) HVK.out HNM.out hnr)
 obtain ⟨r, hr⟩ : ∃ r, r = rs[n] := ⟨_, rfl⟩
 rw [← hr] at d0 d1 d2 d3 d4 d5 d6 d7 hnr hsr hls HVK hk r4 r5 r6 r7
 have HRN := Lib.hid hr
 clear hr
 rw [hk] at d1
 obtain ⟨w2, hw2⟩ : ∃ w2, w2 = w1.alloc (.cells #[.string r.name, .int .i64 (9), .int .i64 r.size, .bool r.little, .slice a4 r.bytes.length c4, .slice a5 r.names.length c5, .slice a6 r.tags.length c6, .slice a7 r.kids.length c7] 59) := ⟨_, rfl⟩
 have hb2 : Below w1.heap.size w1 w2 := by subst hw2; exact (Below.refl _ _).alloc (Nat.le_refl _) _
 have HR : Hid (CellsAt w1.heap.size [.string r.name, .int .i64 (9), .int .i64 r.size, .bool r.little, .slice a4 r.bytes.length c4, .slice a5 r.names.length c5, .slice a6 r.tags.length c6, .slice a7 r.kids.length c7] w2) := by subst hw2; exact CellsAt.new w1 _ _
 replace HX := Lib.hid (HX.out.below hb2)
 replace HB := Lib.hid (HB.out.trans (hb2.mono HB.out.size))
 have HR4 := Lib.hid (r4.below hb2)
 have HR5 := Lib.hid (r5.below hb2)
 have HR6 := Lib.hid (r6.below hb2)
 have HR7 := Lib.hid (r7.below hb2)
 have HRE := Lib.hid (HRD.out.rd.below HB.out)
 obtain ⟨kn, hkn⟩ : ∃ kn, kn = kindName (9) := ⟨_, rfl⟩
 have HKN := Lib.hid hkn
 have hW := Lib.hid hw2
 clear hb2 hw2 r4 r5 r6 r7 hkn
 go_upto_region 4 with fail
 rw [← hW.out]
 clear hW d0 d1 d2 d3 d4 d5 d6 d7 hx1
 go_cut [6] from 19 to 24 (fun l W => ∃ (zs : List ByteArray) (v0 : Value), v0 = l ∧ zs.length ≤ 2 ∧ Hid (zs = [r.name, kn]) ∧ Hid (W.ownsRow w2.heap.size 9 1 v0 zs.length (zs.map Value.string)) ∧ Hid (Below w2.heap.size w2 W))
 case first =>
  obtain ⟨c0, -⟩ := HR.out 0 _ rfl
  obtain ⟨c1, -⟩ := HR.out 1 _ rfl
  go_region_with ((go_at_call 96; refine (kind_spec (9) _).mono ?_; rintro e w3 ⟨rfl, hb3⟩; rw [← HKN.out]; have c3 := cell_keep (w := w2.drew) hb3 c0; have HB3 : Hid (Below w2.heap.size w2 w3) := (below_drewN (Below.refl _ w2) 1).trans hb3; clear hb3))
  all_goals (go_wp2_with fail; go_meet; exact ⟨[r.name, kn], _, rfl, Nat.le_refl _, rfl, own_lits (f := Value.string) _ w2.heap.size 9 [r.name, kn] HB3.out.size (by unfold maxLen; simp), HB3.out.alloc HB3.out.size _⟩)
 case rest =>
  obtain ⟨zs, v, rfl, hzl, HZ, HO, HBW⟩ := hcut
  have hkl := Lib.hid (kindI_kids1 HVK.out (.inr (.inr hk)))
  have hkm : r.kids.length ≤ 2 := by have := hkl.out; omega
  have b1 := (HR.out.below HBW.out 1 _ rfl).1
  go_wp2
  clear b1
  go_loopw [6, 9] (fun l i W => ∃ (k : Nat) (zk : List ByteArray) (vk : Value), k ≤ r.kids.length ∧ i = .int .i64 k ∧ vk = l ∧ zk.length ≤ 3 + k ∧ Hid (zk = r.name :: kn :: kidsTo rs n k) ∧ Hid (W.ownsRow w2.heap.size 9 1 vk zk.length (zk.map Value.string)) ∧ Hid (Below w2.heap.size w2 W)) (fun _ i _ => r.kids.length - (intOf i).toNat)
  case atStart => exact ⟨0, zs, v, Nat.zero_le _, rfl, rfl, by omega, HZ, HO, HBW⟩
  case round =>
   clear HO HBW HZ hzl
   obtain ⟨k, zk, vk, hkk, rfl, rfl, hzl, HZ, HO, HBW⟩ := hrel
   have m0 : (0 : Int) ≤ (k : Int) := by omega
   have b7 := (HR.out.below HBW.out 7 _ rfl).1
   by_cases hlt : k < r.kids.length
   ·have m1 : (k : Int) < (r.kids.length : Int) := by omega
    have bx := (HX.out.below HBW.out 0 _ rfl).1
    have hnext : Hid (r.name :: kn :: kidsTo rs n (k + 1) = (r.name :: kn :: kidsTo rs n k) ++ [kidName rs (n : Int) (k : Int)]) := rfl
    go_wp2_with fail
    clear bx b7
    refine (kid_spec (some ⟨b0, off, none⟩) rs cap (n : Int) (k : Int) _ (by omega) HSH.out (HRE.out.below HBW.out)).mono ?_
    rintro e u4w ⟨rfl, hb⟩
    replace HO := Lib.hid (own_below HO.out hb)
    replace HBW := Lib.hid (HBW.out.trans (hb.mono HBW.out.size))
    clear hb
    generalize kidName rs (n : Int) (k : Int) = kd at *
    go_wp2_with (at_builtin; refine wp_pushF (f := Value.string) 51 9 (.string ⟨#[]⟩) 16 Tryz.underlying51 infoStr rfl rfl (.tmp 34) (.tmp 39) rfl w2.heap.size vk zk (kd) rfl u4w (by simp [Act.eval]) (by simp [Act.eval]) HO.out (by unfold maxLen; omega) (by omega) HBW.out.size ?_)
    intro v5 u5w hown hgrow _
    have hown2 : u5w.ownsRow w2.heap.size 9 1 v5 (zk ++ [kd]).length ((zk ++ [kd]).map Value.string) := by simpa using hown
    obtain ⟨z5, hz5⟩ : ∃ z, z = zk ++ [kd] := ⟨_, rfl⟩
    rw [← hz5] at hown2
    have z5l : z5.length ≤ 6 := by rw [hz5]; simp; omega
    have Hz5 := Lib.hid hz5
    have HBn := Lib.hid (HBW.out.grown hgrow HBW.out.size fun g hg => (World.ownsRow.lt HO.out g hg).1)
    replace HBW := HBn
    replace HO := Lib.hid hown2
    clear hown hown2 hgrow hz5 HBn
    have hzn : Hid (z5 = r.name :: kn :: kidsTo rs n (k + 1)) := by show _ = _; rw [Hz5.out, HZ.out, hnext.out]
    have hzm : z5.length ≤ 3 + (k + 1) := by rw [Hz5.out]; simp; omega
    go_wp2
    go_roundw
    case rel => exact ⟨k + 1, z5, v5, by omega, by go_num, rfl, hzm, hzn, HO, HBW⟩
    case measure => simp [intOf]; omega
   ·have m1 : ¬ (k : Int) < (r.kids.length : Int) := by omega
    obtain rfl : k = r.kids.length := by omega
    have hzl2 : zk.length ≤ 5 := by omega
    clear hzl
    have hzz : Hid (joinS ⟨#[32]⟩ zk = lineS rs n r) := by
     show _ = _
     rw [show zk = r.name :: (kindName r.kind :: fieldsOf rs n r) from by rw [HZ.out, hkl.out, hk, HKN.out]; unfold fieldsOf; simp [hk, kidsTo], join_addWs]; rfl
    obtain ⟨xj, cj, rfl, hrow⟩ := own_row (f := Value.string) HO.out
    have HRW := Lib.hid hrow
    clear hrow
    have hjz : Hid ((joinS ⟨#[32]⟩ zk).size ≤ 4398046511104) := by show _ ≤ _; rw [hzz.out]; have := hls.out; omega
    go_wp2_with fail
    refine (join_spec xj zk cj ⟨#[32]⟩ _ (by omega) hjz.out HRW.out.rd).mono ?_
    rintro e wj ⟨rfl, rfl⟩
    rw [hzz.out]
    obtain ⟨ln, hln⟩ : ∃ ln, ln = lineS rs n r := ⟨_, rfl⟩
    rw [← hln]
    have HLN := Lib.hid hln
    clear hln
    go_wp2
    go_ret
    exact ⟨ret_str (by rw [HLN.out, HRN.out]), HB.out.trans (HBW.out.mono HB.out.size)⟩
set_option maxHeartbeats 4000000 in
theorem srule_5 (a : Option Addr) (rs : List RuleV) (cap n : Nat) (w : World) (hl : rs.length ≤ 1048576) (hn : n < rs.length) (hsh : ∀ r ∈ rs, Short r) (hsp : ∀ r ∈ rs, Spelt r) (hv : validAt (kindS rs) rs (n : Int) = true) (hvk : kindI rs rs[n] = true) (hrd : RdC a rs w) (hk : rs[n].kind = 5) :
  Calls Tryz.prog 71 #[.agg #[.slice a rs.length cap], .int .i64 (n : Int)] w fun e w' => e = .returned (.string (lineS rs n rs[n])) ∧ Below w.heap.size w w' := by
 obtain ⟨w0, hw0⟩ : ∃ w0, w0 = w.alloc (.cells #[.slice a rs.length cap] 26) := ⟨_, rfl⟩
 have hB : Below w.heap.size w w0 := by subst hw0; exact (Below.refl _ _).alloc (Nat.le_refl _) _
 have hX : CellsAt w.heap.size [.slice a rs.length cap] w0 := by subst hw0; exact CellsAt.new w _ _
 have hx0 := (hX 0 _ rfl).1
 have HX := Lib.hid hX
 have HB := Lib.hid hB
 have HRD := Lib.hid hrd
 have HSH := Lib.hid hsh
 have HSP := Lib.hid hsp
 have HVK := Lib.hid hvk
 have HV := Lib.hid hv
 have HNM : Hid (∀ r ∈ rs, r.name.size ≤ 1048576) := fun r hr => (hsp r hr).1
 have HKZ := Lib.hid (kidName_size HNM.out)
 clear hB hX hrd hsh hsp hv hvk
 go_enter Tryz.func71, Tryz.ntmps71
 go_wp2_with fail
 rw [← hw0]
 clear hw0
 refine (validr_spec a rs cap (n : Int) _ hl HSH.out HSP.out (HRD.out.below HB.out)).mono ?_
 rintro e w1 ⟨rfl, hb1⟩
 rw [HV.out]
 have hx1 := (HX.out.below hb1 0 _ rfl).1
 replace HX := Lib.hid (HX.out.below hb1)
 replace HB := Lib.hid (HB.out.trans (hb1.mono HB.out.size))
 clear hb1 hx0 HV
 have k0 : (0 : Int) ≤ (n : Int) := by omega
 have k1 : (n : Int) < (rs.length : Int) := by omega
 obtain ⟨b0, off, a4, c4, a5, c5, a6, c6, a7, c7, rfl, ⟨d0, d1, d2, d3, d4, d5, d6, d7⟩, r4, r5, r6, r7⟩ := (HRD.out.rd.below HB.out).at n hn
 have hnr := HNM.out _ (List.getElem_mem hn)
 have hsr := Lib.hid (HSH.out _ (List.getElem_mem hn))
 have hls := Lib.hid (line_size (n := n) HVK.out HNM.out hnr)
 obtain ⟨r, hr⟩ : ∃ r, r = rs[n] := ⟨_, rfl⟩
 rw [← hr] at d0 d1 d2 d3 d4 d5 d6 d7 hnr hsr hls HVK hk r4 r5 r6 r7
 have HRN := Lib.hid hr
 clear hr
 rw [hk] at d1
 obtain ⟨w2, hw2⟩ : ∃ w2, w2 = w1.alloc (.cells #[.string r.name, .int .i64 (5), .int .i64 r.size, .bool r.little, .slice a4 r.bytes.length c4, .slice a5 r.names.length c5, .slice a6 r.tags.length c6, .slice a7 r.kids.length c7] 59) := ⟨_, rfl⟩
 have hb2 : Below w1.heap.size w1 w2 := by subst hw2; exact (Below.refl _ _).alloc (Nat.le_refl _) _
 have HR : Hid (CellsAt w1.heap.size [.string r.name, .int .i64 (5), .int .i64 r.size, .bool r.little, .slice a4 r.bytes.length c4, .slice a5 r.names.length c5, .slice a6 r.tags.length c6, .slice a7 r.kids.length c7] w2) := by subst hw2; exact CellsAt.new w1 _ _
 replace HX := Lib.hid (HX.out.below hb2)
 replace HB := Lib.hid (HB.out.trans (hb2.mono HB.out.size))
 have HR4 := Lib.hid (r4.below hb2)
 have HR5 := Lib.hid (r5.below hb2)
 have HR6 := Lib.hid (r6.below hb2)
 have HR7 := Lib.hid (r7.below hb2)
 have HRE := Lib.hid (HRD.out.rd.below HB.out)
 obtain ⟨kn, hkn⟩ : ∃ kn, kn = kindName (5) := ⟨_, rfl⟩
 have HKN := Lib.hid hkn
 have hW := Lib.hid hw2
 clear hb2 hw2 r4 r5 r6 r7 hkn
 go_upto_region 4 with fail
 rw [← hW.out]
 clear hW d0 d1 d2 d3 d4 d5 d6 d7 hx1
 go_cut [6] from 19 to 24 (fun l W => ∃ (zs : List ByteArray) (v0 : Value), v0 = l ∧ zs.length ≤ 2 ∧ Hid (zs = [r.name, kn]) ∧ Hid (W.ownsRow w2.heap.size 9 1 v0 zs.length (zs.map Value.string)) ∧ Hid (Below w2.heap.size w2 W))
 case first =>
  obtain ⟨c0, -⟩ := HR.out 0 _ rfl
  obtain ⟨c1, -⟩ := HR.out 1 _ rfl
  go_region_with ((go_at_call 96; refine (kind_spec (5) _).mono ?_; rintro e w3 ⟨rfl, hb3⟩; rw [← HKN.out]; have c3 := cell_keep (w := w2.drew) hb3 c0; have HB3 : Hid (Below w2.heap.size w2 w3) := (below_drewN (Below.refl _ w2) 1).trans hb3; clear hb3))
  all_goals (go_wp2_with fail; go_meet; exact ⟨[r.name, kn], _, rfl, Nat.le_refl _, rfl, own_lits (f := Value.string) _ w2.heap.size 9 [r.name, kn] HB3.out.size (by unfold maxLen; simp), HB3.out.alloc HB3.out.size _⟩)
 case rest =>
  obtain ⟨zs, v, rfl, hzl, HZ, HO, HBW⟩ := hcut
  have hkl := Lib.hid (kindI_kids2 HVK.out hk)
  have hkm : r.kids.length ≤ 2 := by have := hkl.out; omega
  have b1 := (HR.out.below HBW.out 1 _ rfl).1
  go_wp2
  clear b1
  go_loopw [6, 9] (fun l i W => ∃ (k : Nat) (zk : List ByteArray) (vk : Value), k ≤ r.kids.length ∧ i = .int .i64 k ∧ vk = l ∧ zk.length ≤ 3 + k ∧ Hid (zk = r.name :: kn :: kidsTo rs n k) ∧ Hid (W.ownsRow w2.heap.size 9 1 vk zk.length (zk.map Value.string)) ∧ Hid (Below w2.heap.size w2 W)) (fun _ i _ => r.kids.length - (intOf i).toNat)
  case atStart => exact ⟨0, zs, v, Nat.zero_le _, rfl, rfl, by omega, HZ, HO, HBW⟩
  case round =>
   clear HO HBW HZ hzl
   obtain ⟨k, zk, vk, hkk, rfl, rfl, hzl, HZ, HO, HBW⟩ := hrel
   have m0 : (0 : Int) ≤ (k : Int) := by omega
   have b7 := (HR.out.below HBW.out 7 _ rfl).1
   by_cases hlt : k < r.kids.length
   ·have m1 : (k : Int) < (r.kids.length : Int) := by omega
    have bx := (HX.out.below HBW.out 0 _ rfl).1
    have hnext : Hid (r.name :: kn :: kidsTo rs n (k + 1) = (r.name :: kn :: kidsTo rs n k) ++ [kidName rs (n : Int) (k : Int)]) := rfl
    go_wp2_with fail
    clear bx b7
    refine (kid_spec (some ⟨b0, off, none⟩) rs cap (n : Int) (k : Int) _ (by omega) HSH.out (HRE.out.below HBW.out)).mono ?_
    rintro e u4w ⟨rfl, hb⟩
    replace HO := Lib.hid (own_below HO.out hb)
    replace HBW := Lib.hid (HBW.out.trans (hb.mono HBW.out.size))
    clear hb
    generalize kidName rs (n : Int) (k : Int) = kd at *
    go_wp2_with (at_builtin; refine wp_pushF (f := Value.string) 51 9 (.string ⟨#[]⟩) 16 Tryz.underlying51 infoStr rfl rfl (.tmp 34) (.tmp 39) rfl w2.heap.size vk zk (kd) rfl u4w (by simp [Act.eval]) (by simp [Act.eval]) HO.out (by unfold maxLen; omega) (by omega) HBW.out.size ?_)
    intro v5 u5w hown hgrow _
    have hown2 : u5w.ownsRow w2.heap.size 9 1 v5 (zk ++ [kd]).length ((zk ++ [kd]).map Value.string) := by simpa using hown
    obtain ⟨z5, hz5⟩ : ∃ z, z = zk ++ [kd] := ⟨_, rfl⟩
    rw [← hz5] at hown2
    have z5l : z5.length ≤ 6 := by rw [hz5]; simp; omega
    have Hz5 := Lib.hid hz5
    have HBn := Lib.hid (HBW.out.grown hgrow HBW.out.size fun g hg => (World.ownsRow.lt HO.out g hg).1)
    replace HBW := HBn
    replace HO := Lib.hid hown2
    clear hown hown2 hgrow hz5 HBn
    have hzn : Hid (z5 = r.name :: kn :: kidsTo rs n (k + 1)) := by show _ = _; rw [Hz5.out, HZ.out, hnext.out]
    have hzm : z5.length ≤ 3 + (k + 1) := by rw [Hz5.out]; simp; omega
    go_wp2
    go_roundw
    case rel => exact ⟨k + 1, z5, v5, by omega, by go_num, rfl, hzm, hzn, HO, HBW⟩
    case measure => simp [intOf]; omega
   ·have m1 : ¬ (k : Int) < (r.kids.length : Int) := by omega
    obtain rfl : k = r.kids.length := by omega
    have hzl2 : zk.length ≤ 5 := by omega
    clear hzl
    have hzz : Hid (joinS ⟨#[32]⟩ zk = lineS rs n r) := by
     show _ = _
     rw [show zk = r.name :: (kindName r.kind :: fieldsOf rs n r) from by rw [HZ.out, hkl.out, hk, HKN.out]; unfold fieldsOf; simp [hk, kidsTo], join_addWs]; rfl
    obtain ⟨xj, cj, rfl, hrow⟩ := own_row (f := Value.string) HO.out
    have HRW := Lib.hid hrow
    clear hrow
    have hjz : Hid ((joinS ⟨#[32]⟩ zk).size ≤ 4398046511104) := by show _ ≤ _; rw [hzz.out]; have := hls.out; omega
    go_wp2_with fail
    refine (join_spec xj zk cj ⟨#[32]⟩ _ (by omega) hjz.out HRW.out.rd).mono ?_
    rintro e wj ⟨rfl, rfl⟩
    rw [hzz.out]
    obtain ⟨ln, hln⟩ : ∃ ln, ln = lineS rs n r := ⟨_, rfl⟩
    rw [← hln]
    have HLN := Lib.hid hln
    clear hln
    go_wp2
    go_ret
    exact ⟨ret_str (by rw [HLN.out, HRN.out]), HB.out.trans (HBW.out.mono HB.out.size)⟩
set_option maxHeartbeats 4000000 in
theorem srule_6 (a : Option Addr) (rs : List RuleV) (cap n : Nat) (w : World) (hl : rs.length ≤ 1048576) (hn : n < rs.length) (hsh : ∀ r ∈ rs, Short r) (hsp : ∀ r ∈ rs, Spelt r) (hv : validAt (kindS rs) rs (n : Int) = true) (hvk : kindI rs rs[n] = true) (hrd : RdC a rs w) (hk : rs[n].kind = 6) :
  Calls Tryz.prog 71 #[.agg #[.slice a rs.length cap], .int .i64 (n : Int)] w fun e w' => e = .returned (.string (lineS rs n rs[n])) ∧ Below w.heap.size w w' := by
 obtain ⟨w0, hw0⟩ : ∃ w0, w0 = w.alloc (.cells #[.slice a rs.length cap] 26) := ⟨_, rfl⟩
 have hB : Below w.heap.size w w0 := by subst hw0; exact (Below.refl _ _).alloc (Nat.le_refl _) _
 have hX : CellsAt w.heap.size [.slice a rs.length cap] w0 := by subst hw0; exact CellsAt.new w _ _
 have hx0 := (hX 0 _ rfl).1
 have HX := Lib.hid hX
 have HB := Lib.hid hB
 have HRD := Lib.hid hrd
 have HSH := Lib.hid hsh
 have HSP := Lib.hid hsp
 have HVK := Lib.hid hvk
 have HV := Lib.hid hv
 have HNM : Hid (∀ r ∈ rs, r.name.size ≤ 1048576) := fun r hr => (hsp r hr).1
 have HKZ := Lib.hid (kidName_size HNM.out)
 clear hB hX hrd hsh hsp hv hvk
 go_enter Tryz.func71, Tryz.ntmps71
 go_wp2_with fail
 rw [← hw0]
 clear hw0
 refine (validr_spec a rs cap (n : Int) _ hl HSH.out HSP.out (HRD.out.below HB.out)).mono ?_
 rintro e w1 ⟨rfl, hb1⟩
 rw [HV.out]
 have hx1 := (HX.out.below hb1 0 _ rfl).1
 replace HX := Lib.hid (HX.out.below hb1)
 replace HB := Lib.hid (HB.out.trans (hb1.mono HB.out.size))
 clear hb1 hx0 HV
 have k0 : (0 : Int) ≤ (n : Int) := by omega
 have k1 : (n : Int) < (rs.length : Int) := by omega
 obtain ⟨b0, off, a4, c4, a5, c5, a6, c6, a7, c7, rfl, ⟨d0, d1, d2, d3, d4, d5, d6, d7⟩, r4, r5, r6, r7⟩ := (HRD.out.rd.below HB.out).at n hn
 have hnr := HNM.out _ (List.getElem_mem hn)
 have hsr := Lib.hid (HSH.out _ (List.getElem_mem hn))
 have hls := Lib.hid (line_size (n := n) HVK.out HNM.out hnr)
 obtain ⟨r, hr⟩ : ∃ r, r = rs[n] := ⟨_, rfl⟩
 rw [← hr] at d0 d1 d2 d3 d4 d5 d6 d7 hnr hsr hls HVK hk r4 r5 r6 r7
 have HRN := Lib.hid hr
 clear hr
 rw [hk] at d1
 obtain ⟨w2, hw2⟩ : ∃ w2, w2 = w1.alloc (.cells #[.string r.name, .int .i64 (6), .int .i64 r.size, .bool r.little, .slice a4 r.bytes.length c4, .slice a5 r.names.length c5, .slice a6 r.tags.length c6, .slice a7 r.kids.length c7] 59) := ⟨_, rfl⟩
 have hb2 : Below w1.heap.size w1 w2 := by subst hw2; exact (Below.refl _ _).alloc (Nat.le_refl _) _
 have HR : Hid (CellsAt w1.heap.size [.string r.name, .int .i64 (6), .int .i64 r.size, .bool r.little, .slice a4 r.bytes.length c4, .slice a5 r.names.length c5, .slice a6 r.tags.length c6, .slice a7 r.kids.length c7] w2) := by subst hw2; exact CellsAt.new w1 _ _
 replace HX := Lib.hid (HX.out.below hb2)
 replace HB := Lib.hid (HB.out.trans (hb2.mono HB.out.size))
 have HR4 := Lib.hid (r4.below hb2)
 have HR5 := Lib.hid (r5.below hb2)
 have HR6 := Lib.hid (r6.below hb2)
 have HR7 := Lib.hid (r7.below hb2)
 have HRE := Lib.hid (HRD.out.rd.below HB.out)
 obtain ⟨kn, hkn⟩ : ∃ kn, kn = kindName (6) := ⟨_, rfl⟩
 have HKN := Lib.hid hkn
 have hW := Lib.hid hw2
 clear hb2 hw2 r4 r5 r6 r7 hkn
 go_upto_region 4 with fail
 rw [← hW.out]
 clear hW d0 d1 d2 d3 d4 d5 d6 d7 hx1
 go_cut [6] from 19 to 24 (fun l W => ∃ (zs : List ByteArray) (v0 : Value), v0 = l ∧ zs.length ≤ 2 ∧ Hid (zs = [r.name, kn]) ∧ Hid (W.ownsRow w2.heap.size 9 1 v0 zs.length (zs.map Value.string)) ∧ Hid (Below w2.heap.size w2 W))
 case first =>
  obtain ⟨c0, -⟩ := HR.out 0 _ rfl
  obtain ⟨c1, -⟩ := HR.out 1 _ rfl
  go_region_with ((go_at_call 96; refine (kind_spec (6) _).mono ?_; rintro e w3 ⟨rfl, hb3⟩; rw [← HKN.out]; have c3 := cell_keep (w := w2.drew) hb3 c0; have HB3 : Hid (Below w2.heap.size w2 w3) := (below_drewN (Below.refl _ w2) 1).trans hb3; clear hb3))
  all_goals (go_wp2_with fail; go_meet; exact ⟨[r.name, kn], _, rfl, Nat.le_refl _, rfl, own_lits (f := Value.string) _ w2.heap.size 9 [r.name, kn] HB3.out.size (by unfold maxLen; simp), HB3.out.alloc HB3.out.size _⟩)
 case rest =>
  obtain ⟨zs, v, rfl, hzl, HZ, HO, HBW⟩ := hcut
  obtain ⟨hz1, hz2, hz3⟩ := kindI_seq HVK.out hk
  have HZ1 := Lib.hid hz1
  have HZ3 := Lib.hid hz3
  have hkm : r.kids.length ≤ 8 := by omega
  clear hz1 hz3
  have b1 := (HR.out.below HBW.out 1 _ rfl).1
  go_wp2
  clear b1
  go_loopw [6, 7] (fun l i W => ∃ (k : Nat) (zk : List ByteArray) (vk : Value), k ≤ r.kids.length ∧ i = .int .i64 k ∧ vk = l ∧ zk.length ≤ 3 + k ∧ Hid (zk = r.name :: kn :: seqTo rs n r.names k) ∧ Hid (W.ownsRow w2.heap.size 9 1 vk zk.length (zk.map Value.string)) ∧ Hid (Below w2.heap.size w2 W)) (fun _ i _ => r.kids.length - (intOf i).toNat)
  case atStart => exact ⟨0, zs, v, Nat.zero_le _, rfl, rfl, by omega, HZ, HO, HBW⟩
  case round =>
   clear HO HBW HZ hzl
   obtain ⟨k, zk, vk, hkk, rfl, rfl, hzl, HZ, HO, HBW⟩ := hrel
   have m0 : (0 : Int) ≤ (k : Int) := by omega
   have b7 := (HR.out.below HBW.out 7 _ rfl).1
   by_cases hlt : k < r.kids.length
   ·have m1 : (k : Int) < (r.kids.length : Int) := by omega
    have hlt2 : k < r.names.length := by have := HZ1.out; omega
    have m2 : (k : Int) < (r.names.length : Int) := by omega
    obtain ⟨b5, o5, rfl, e5⟩ := (HR5.out.below HBW.out) k hlt2
    have hns := HZ3.out _ (List.getElem_mem hlt2)
    have hnext : Hid (r.name :: kn :: seqTo rs n r.names (k + 1) = (r.name :: kn :: seqTo rs n r.names k) ++ [r.names[k] ++ ⟨#[58]⟩ ++ kidName rs (n : Int) (k : Int)]) := by show _ = _; rw [show seqTo rs n r.names (k + 1) = seqTo rs n r.names k ++ [r.names.getD k ⟨#[]⟩ ++ ⟨#[58]⟩ ++ kidName rs (n : Int) (k : Int)] from rfl, List.getD, List.getElem?_eq_getElem hlt2]; rfl
    have hkz := HKZ.out (n : Int) (k : Int)
    have ha1 := fun W => add_str W r.names[k] ⟨#[58]⟩ (by show r.names[k].size + 1 ≤ _; omega)
    have ha2 := fun W => add_str W (r.names[k] ++ ⟨#[58]⟩) (kidName rs (n : Int) (k : Int)) (by rw [ByteArray.size_append]; show r.names[k].size + 1 + _ ≤ _; omega)
    generalize r.names[k] ++ ⟨#[58]⟩ ++ kidName rs (n : Int) (k : Int) = y2 at ha2 hnext
    generalize r.names[k] ++ ⟨#[58]⟩ = y1 at ha1 ha2
    generalize r.names[k] = nm at e5 hns ha1
    have bx := (HX.out.below HBW.out 0 _ rfl).1
    have b5c := (HR.out.below HBW.out 5 _ rfl).1
    go_upto_region 23 with fail
    clear b7
    replace HO : Hid (wr.drew.ownsRow w2.heap.size 9 1 vk zk.length (zk.map Value.string)) := own_below HO.out (below_drewN (Below.refl _ _) 1)
    replace HBW : Hid (Below w2.heap.size w2 wr.drew) := below_drewN HBW.out 1
    go_region_law (first | (go_simp; go_at_call 106; refine (kid_spec (some ⟨b0, off, none⟩) rs cap (n : Int) (k : Int) _ (by omega) HSH.out (HRE.out.below HBW.out)).mono ?_; rintro e w5 ⟨rfl, hb⟩; have e5b := cell_keep (w := wr.drew) hb e5; replace HO := Lib.hid (own_below HO.out hb); replace HBW := Lib.hid (HBW.out.trans (hb.mono HBW.out.size)); have b5d := (HR.out.below HBW.out 5 _ rfl).1; clear hb) | (refine step_pushF (f := Value.string) 51 9 (.string ⟨#[]⟩) 16 Tryz.underlying51 infoStr rfl (by rfl) (.tmp 80) (.tmp 92) (by rfl) w2.heap.size vk zk y2 rfl w5 (by simp [Act.eval]) (by simp [Act.eval]) HO.out (by unfold maxLen; omega) (by omega) HBW.out.size ?_; intro v' w7 hown hg _; have HV7 := Lib.hid hown; have HB7 := Lib.hid (HBW.out.grown hg HBW.out.size fun g e => (World.ownsRow.lt HO.out g e).1); clear hown hg))
    all_goals (have hzn : Hid (zk ++ [y2] = r.name :: kn :: seqTo rs n r.names (k + 1)) := (by show _ = _; rw [HZ.out, hnext.out]); have hzm : (zk ++ [y2]).length ≤ 3 + (k + 1) := (by simp; omega); obtain ⟨zn, hzn2⟩ : ∃ z, z = zk ++ [y2] := ⟨_, rfl⟩; rw [← hzn2] at HV7 hzn hzm; clear hzn2)
    all_goals go_wp2
    all_goals go_roundw
    all_goals first | exact ⟨k + 1, zn, _, by omega, by go_num, rfl, hzm, hzn, HV7, HB7⟩ | (simp [intOf]; omega)
   ·have m1 : ¬ (k : Int) < (r.kids.length : Int) := by omega
    obtain rfl : k = r.kids.length := by omega
    have hzl2 : zk.length ≤ 11 := by omega
    clear hzl
    have hzz : Hid (joinS ⟨#[32]⟩ zk = lineS rs n r) := by
     show _ = _
     rw [show zk = r.name :: (kindName r.kind :: fieldsOf rs n r) from by rw [HZ.out, hk, HKN.out]; unfold fieldsOf; simp [hk, HZ1.out], join_addWs]; rfl
    obtain ⟨xj, cj, rfl, hrow⟩ := own_row (f := Value.string) HO.out
    have HRW := Lib.hid hrow
    clear hrow
    have hjz : Hid ((joinS ⟨#[32]⟩ zk).size ≤ 4398046511104) := by show _ ≤ _; rw [hzz.out]; have := hls.out; omega
    go_wp2_with fail
    refine (join_spec xj zk cj ⟨#[32]⟩ _ (by omega) hjz.out HRW.out.rd).mono ?_
    rintro e wj ⟨rfl, rfl⟩
    rw [hzz.out]
    obtain ⟨ln, hln⟩ : ∃ ln, ln = lineS rs n r := ⟨_, rfl⟩
    rw [← hln]
    have HLN := Lib.hid hln
    clear hln
    go_wp2
    go_ret
    exact ⟨ret_str (by rw [HLN.out, HRN.out]), HB.out.trans (HBW.out.mono HB.out.size)⟩
set_option maxHeartbeats 4000000 in
theorem srule_7 (a : Option Addr) (rs : List RuleV) (cap n : Nat) (w : World) (hl : rs.length ≤ 1048576) (hn : n < rs.length) (hsh : ∀ r ∈ rs, Short r) (hsp : ∀ r ∈ rs, Spelt r) (hv : validAt (kindS rs) rs (n : Int) = true) (hvk : kindI rs rs[n] = true) (hrd : RdC a rs w) (hk : rs[n].kind = 7) :
  Calls Tryz.prog 71 #[.agg #[.slice a rs.length cap], .int .i64 (n : Int)] w fun e w' => e = .returned (.string (lineS rs n rs[n])) ∧ Below w.heap.size w w' := by
 obtain ⟨w0, hw0⟩ : ∃ w0, w0 = w.alloc (.cells #[.slice a rs.length cap] 26) := ⟨_, rfl⟩
 have hB : Below w.heap.size w w0 := by subst hw0; exact (Below.refl _ _).alloc (Nat.le_refl _) _
 have hX : CellsAt w.heap.size [.slice a rs.length cap] w0 := by subst hw0; exact CellsAt.new w _ _
 have hx0 := (hX 0 _ rfl).1
 have HX := Lib.hid hX
 have HB := Lib.hid hB
 have HRD := Lib.hid hrd
 have HSH := Lib.hid hsh
 have HSP := Lib.hid hsp
 have HVK := Lib.hid hvk
 have HV := Lib.hid hv
 have HNM : Hid (∀ r ∈ rs, r.name.size ≤ 1048576) := fun r hr => (hsp r hr).1
 have HKZ := Lib.hid (kidName_size HNM.out)
 clear hB hX hrd hsh hsp hv hvk
 go_enter Tryz.func71, Tryz.ntmps71
 go_wp2_with fail
 rw [← hw0]
 clear hw0
 refine (validr_spec a rs cap (n : Int) _ hl HSH.out HSP.out (HRD.out.below HB.out)).mono ?_
 rintro e w1 ⟨rfl, hb1⟩
 rw [HV.out]
 have hx1 := (HX.out.below hb1 0 _ rfl).1
 replace HX := Lib.hid (HX.out.below hb1)
 replace HB := Lib.hid (HB.out.trans (hb1.mono HB.out.size))
 clear hb1 hx0 HV
 have k0 : (0 : Int) ≤ (n : Int) := by omega
 have k1 : (n : Int) < (rs.length : Int) := by omega
 obtain ⟨b0, off, a4, c4, a5, c5, a6, c6, a7, c7, rfl, ⟨d0, d1, d2, d3, d4, d5, d6, d7⟩, r4, r5, r6, r7⟩ := (HRD.out.rd.below HB.out).at n hn
 have hnr := HNM.out _ (List.getElem_mem hn)
 have hsr := Lib.hid (HSH.out _ (List.getElem_mem hn))
 have hls := Lib.hid (line_size (n := n) HVK.out HNM.out hnr)
 obtain ⟨r, hr⟩ : ∃ r, r = rs[n] := ⟨_, rfl⟩
 rw [← hr] at d0 d1 d2 d3 d4 d5 d6 d7 hnr hsr hls HVK hk r4 r5 r6 r7
 have HRN := Lib.hid hr
 clear hr
 rw [hk] at d1
 obtain ⟨w2, hw2⟩ : ∃ w2, w2 = w1.alloc (.cells #[.string r.name, .int .i64 (7), .int .i64 r.size, .bool r.little, .slice a4 r.bytes.length c4, .slice a5 r.names.length c5, .slice a6 r.tags.length c6, .slice a7 r.kids.length c7] 59) := ⟨_, rfl⟩
 have hb2 : Below w1.heap.size w1 w2 := by subst hw2; exact (Below.refl _ _).alloc (Nat.le_refl _) _
 have HR : Hid (CellsAt w1.heap.size [.string r.name, .int .i64 (7), .int .i64 r.size, .bool r.little, .slice a4 r.bytes.length c4, .slice a5 r.names.length c5, .slice a6 r.tags.length c6, .slice a7 r.kids.length c7] w2) := by subst hw2; exact CellsAt.new w1 _ _
 replace HX := Lib.hid (HX.out.below hb2)
 replace HB := Lib.hid (HB.out.trans (hb2.mono HB.out.size))
 have HR4 := Lib.hid (r4.below hb2)
 have HR5 := Lib.hid (r5.below hb2)
 have HR6 := Lib.hid (r6.below hb2)
 have HR7 := Lib.hid (r7.below hb2)
 have HRE := Lib.hid (HRD.out.rd.below HB.out)
 obtain ⟨kn, hkn⟩ : ∃ kn, kn = kindName (7) := ⟨_, rfl⟩
 have HKN := Lib.hid hkn
 have hW := Lib.hid hw2
 clear hb2 hw2 r4 r5 r6 r7 hkn
 go_upto_region 4 with fail
 rw [← hW.out]
 clear hW d0 d1 d2 d3 d4 d5 d6 d7 hx1
 go_cut [6] from 19 to 24 (fun l W => ∃ (zs : List ByteArray) (v0 : Value), v0 = l ∧ zs.length ≤ 2 ∧ Hid (zs = [r.name, kn]) ∧ Hid (W.ownsRow w2.heap.size 9 1 v0 zs.length (zs.map Value.string)) ∧ Hid (Below w2.heap.size w2 W))
 case first =>
  obtain ⟨c0, -⟩ := HR.out 0 _ rfl
  obtain ⟨c1, -⟩ := HR.out 1 _ rfl
  go_region_with ((go_at_call 96; refine (kind_spec (7) _).mono ?_; rintro e w3 ⟨rfl, hb3⟩; rw [← HKN.out]; have c3 := cell_keep (w := w2.drew) hb3 c0; have HB3 : Hid (Below w2.heap.size w2 w3) := (below_drewN (Below.refl _ w2) 1).trans hb3; clear hb3))
  all_goals (go_wp2_with fail; go_meet; exact ⟨[r.name, kn], _, rfl, Nat.le_refl _, rfl, own_lits (f := Value.string) _ w2.heap.size 9 [r.name, kn] HB3.out.size (by unfold maxLen; simp), HB3.out.alloc HB3.out.size _⟩)
 case rest =>
  obtain ⟨zs, v, rfl, hzl, HZ, HO, HBW⟩ := hcut
  obtain ⟨-, hz2, hz3⟩ := kindI_tags HVK.out hk
  have HZ3 := Lib.hid hz3
  clear hz3
  have b1 := (HR.out.below HBW.out 1 _ rfl).1
  have bx := (HX.out.below HBW.out 0 _ rfl).1
  go_wp2_with fail
  clear b1 bx
  refine (kid_spec (some ⟨b0, off, none⟩) rs cap (n : Int) 0 _ (by omega) HSH.out (HRE.out.below HBW.out)).mono ?_
  rintro e u4w ⟨rfl, hb⟩
  replace HO := Lib.hid (own_below HO.out hb)
  replace HBW := Lib.hid (HBW.out.trans (hb.mono HBW.out.size))
  clear hb
  obtain ⟨kz, hkz0⟩ : ∃ kz, kz = kidName rs (n : Int) 0 := ⟨_, rfl⟩
  rw [← hkz0]
  have HK0 := Lib.hid hkz0
  clear hkz0
  go_wp2_with (at_builtin; refine wp_pushF (f := Value.string) 51 9 (.string ⟨#[]⟩) 16 Tryz.underlying51 infoStr rfl rfl (.tmp 96) (.tmp 100) rfl w2.heap.size v zs (kz) rfl u4w (by simp [Act.eval]) (by simp [Act.eval]) HO.out (by unfold maxLen; omega) (by omega) HBW.out.size ?_)
  intro v5 u5w hown hgrow _
  have hown2 : u5w.ownsRow w2.heap.size 9 1 v5 (zs ++ [kz]).length ((zs ++ [kz]).map Value.string) := by simpa using hown
  obtain ⟨z5, hz5⟩ : ∃ z, z = zs ++ [kz] := ⟨_, rfl⟩
  rw [← hz5] at hown2
  have z5l : z5.length ≤ 3 := by rw [hz5]; simp; omega
  have Hz5 := Lib.hid hz5
  have HBn := Lib.hid (HBW.out.grown hgrow HBW.out.size fun g hg => (World.ownsRow.lt HO.out g hg).1)
  replace HBW := HBn
  replace HO := Lib.hid hown2
  clear hown hown2 hgrow hz5 HBn
  have hz3l : Hid (z5 = r.name :: kn :: kz :: chTo rs n r.tags 0) := by show _ = _; rw [Hz5.out, HZ.out]; rfl
  go_wp2
  go_loopw [6, 8] (fun l i W => ∃ (k : Nat) (zk : List ByteArray) (vk : Value), k ≤ r.tags.length ∧ i = .int .i64 k ∧ vk = l ∧ zk.length ≤ 3 + k ∧ Hid (zk = r.name :: kn :: kz :: chTo rs n r.tags k) ∧ Hid (W.ownsRow w2.heap.size 9 1 vk zk.length (zk.map Value.string)) ∧ Hid (Below w2.heap.size w2 W)) (fun _ i _ => r.tags.length - (intOf i).toNat)
  case atStart => exact ⟨0, z5, v5, Nat.zero_le _, rfl, rfl, by omega, hz3l, HO, HBW⟩
  case round =>
   clear HO HBW HZ hzl hz3l
   obtain ⟨k, zk, vk, hkk, rfl, rfl, hzl, HZ, HO, HBW⟩ := hrel
   have m0 : (0 : Int) ≤ (k : Int) := by omega
   have b6 := (HR.out.below HBW.out 6 _ rfl).1
   by_cases hlt : k < r.tags.length
   ·have m1 : (k : Int) < (r.tags.length : Int) := by omega
    obtain ⟨b6a, o6, rfl, e6⟩ := (HR6.out.below HBW.out) k hlt
    obtain ⟨t0, t1⟩ := HZ3.out _ (List.getElem_mem hlt)
    have hnext : Hid (r.name :: kn :: kz :: chTo rs n r.tags (k + 1) = (r.name :: kn :: kz :: chTo rs n r.tags k) ++ [itoaS r.tags[k] ++ ⟨#[58]⟩ ++ kidName rs (n : Int) ((k : Int) + 1)]) := by show _ = _; rw [show chTo rs n r.tags (k + 1) = chTo rs n r.tags k ++ [itoaS (r.tags.getD k 0) ++ ⟨#[58]⟩ ++ kidName rs (n : Int) ((k : Int) + 1)] from rfl, List.getD, List.getElem?_eq_getElem hlt]; rfl
    have hkz := HKZ.out (n : Int) ((k : Int) + 1)
    have hiz : (itoaS r.tags[k]).size ≤ 21 := itoaS_size (by omega) (by omega)
    have ha1 := fun W => add_str W (itoaS r.tags[k]) ⟨#[58]⟩ (by show (itoaS r.tags[k]).size + 1 ≤ _; omega)
    have ha2 := fun W => add_str W (itoaS r.tags[k] ++ ⟨#[58]⟩) (kidName rs (n : Int) ((k : Int) + 1)) (by rw [ByteArray.size_append]; show (itoaS r.tags[k]).size + 1 + _ ≤ _; omega)
    generalize itoaS r.tags[k] ++ ⟨#[58]⟩ ++ kidName rs (n : Int) ((k : Int) + 1) = y2 at ha2 hnext
    generalize itoaS r.tags[k] ++ ⟨#[58]⟩ = y1 at ha1 ha2
    unfold itoaS at ha1
    clear hiz
    generalize r.tags[k] = tg at e6 t0 t1 ha1
    have bx := (HX.out.below HBW.out 0 _ rfl).1
    have hw : IntKind.i64.wrap ((k : Int) + 1) = (k : Int) + 1 := IntWalk.i64_in _ (by omega)
    go_upto_region 29 with fail
    replace HO : Hid (wr.drew.ownsRow w2.heap.size 9 1 vk zk.length (zk.map Value.string)) := own_below HO.out (below_drewN (Below.refl _ _) 1)
    replace HBW : Hid (Below w2.heap.size w2 wr.drew) := below_drewN HBW.out 1
    go_region_law (first | (go_simp; go_at_call 72; refine (fmt_spec tg _ (by omega) (by omega)).mono ?_; rintro e w4 ⟨rfl, hb⟩; replace HO := Lib.hid (own_below HO.out hb); replace HBW := Lib.hid (HBW.out.trans (hb.mono HBW.out.size)); clear hb; have bx4 := (HX.out.below HBW.out 0 _ rfl).1) | (go_simp; go_at_call 106; refine (kid_spec (some ⟨b0, off, none⟩) rs cap (n : Int) ((k : Int) + 1) _ (by omega) HSH.out (HRE.out.below HBW.out)).mono ?_; rintro e w5 ⟨rfl, hb⟩; replace HO := Lib.hid (own_below HO.out hb); replace HBW := Lib.hid (HBW.out.trans (hb.mono HBW.out.size)); clear hb) | (refine step_pushF (f := Value.string) 51 9 (.string ⟨#[]⟩) 16 Tryz.underlying51 infoStr rfl (by rfl) (.tmp 109) (.tmp 123) (by rfl) w2.heap.size vk zk y2 rfl w5 (by simp [Act.eval]) (by simp [Act.eval]) HO.out (by unfold maxLen; omega) (by omega) HBW.out.size ?_; intro v' w7 hown hg _; have HV7 := Lib.hid hown; have HB7 := Lib.hid (HBW.out.grown hg HBW.out.size fun g e => (World.ownsRow.lt HO.out g e).1); clear hown hg))
    all_goals (have hzn : Hid (zk ++ [y2] = r.name :: kn :: kz :: chTo rs n r.tags (k + 1)) := (by show _ = _; rw [HZ.out, hnext.out]); have hzm : (zk ++ [y2]).length ≤ 3 + (k + 1) := (by simp; omega); obtain ⟨zn, hzn2⟩ : ∃ z, z = zk ++ [y2] := ⟨_, rfl⟩; rw [← hzn2] at HV7 hzn hzm; clear hzn2)
    all_goals go_wp2
    all_goals go_roundw
    all_goals first | exact ⟨k + 1, zn, _, by omega, by go_num, rfl, hzm, hzn, HV7, HB7⟩ | (simp [intOf]; omega)
   ·have m1 : ¬ (k : Int) < (r.tags.length : Int) := by omega
    obtain rfl : k = r.tags.length := by omega
    have hzl2 : zk.length ≤ 11 := by omega
    clear hzl
    have hzz : Hid (joinS ⟨#[32]⟩ zk = lineS rs n r) := by
     show _ = _
     rw [show zk = r.name :: (kindName r.kind :: fieldsOf rs n r) from by rw [HZ.out, hk, HKN.out, HK0.out]; unfold fieldsOf; simp [hk], join_addWs]; rfl
    obtain ⟨xj, cj, rfl, hrow⟩ := own_row (f := Value.string) HO.out
    have HRW := Lib.hid hrow
    clear hrow
    have hjz : Hid ((joinS ⟨#[32]⟩ zk).size ≤ 4398046511104) := by show _ ≤ _; rw [hzz.out]; have := hls.out; omega
    go_wp2_with fail
    refine (join_spec xj zk cj ⟨#[32]⟩ _ (by omega) hjz.out HRW.out.rd).mono ?_
    rintro e wj ⟨rfl, rfl⟩
    rw [hzz.out]
    obtain ⟨ln, hln⟩ : ∃ ln, ln = lineS rs n r := ⟨_, rfl⟩
    rw [← hln]
    have HLN := Lib.hid hln
    clear hln
    go_wp2
    go_ret
    exact ⟨ret_str (by rw [HLN.out, HRN.out]), HB.out.trans (HBW.out.mono HB.out.size)⟩
theorem frule_spec (a : Option Addr) (rs : List RuleV) (cap n : Nat) (w : World) (hl : rs.length ≤ 1048576) (hn : n < rs.length) (hsh : ∀ r ∈ rs, Short r) (hsp : ∀ r ∈ rs, Spelt r) (hv : validAt (kindS rs) rs (n : Int) = true) (hvk : kindI rs rs[n] = true) (hrd : RdC a rs w) :
  Calls Tryz.prog 71 #[.agg #[.slice a rs.length cap], .int .i64 (n : Int)] w fun e w' => e = .returned (.string (lineS rs n rs[n])) ∧ Below w.heap.size w w' := by
 rcases fields_cases hvk with hk | hk | hk | hk | hk | hk | hk | hk | hk | hk
 ·exact srule_1 a rs cap n w hl hn hsh hsp hv hvk hrd hk
 ·exact srule_2 a rs cap n w hl hn hsh hsp hv hvk hrd hk
 ·exact srule_3 a rs cap n w hl hn hsh hsp hv hvk hrd hk
 ·exact srule_4 a rs cap n w hl hn hsh hsp hv hvk hrd hk
 ·exact srule_5 a rs cap n w hl hn hsh hsp hv hvk hrd hk
 ·exact srule_6 a rs cap n w hl hn hsh hsp hv hvk hrd hk
 ·exact srule_7 a rs cap n w hl hn hsh hsp hv hvk hrd hk
 ·exact srule_8 a rs cap n w hl hn hsh hsp hv hvk hrd hk
 ·exact srule_9 a rs cap n w hl hn hsh hsp hv hvk hrd hk
 ·exact srule_10 a rs cap n w hl hn hsh hsp hv hvk hrd hk
set_option maxHeartbeats 2000000 in
theorem fdescr_spec (a : Option Addr) (rs : List RuleV) (cap : Nat) (w : World) (hl : rs.length ≤ 1048576) (hsh : ∀ r ∈ rs, Short r) (hsp : ∀ r ∈ rs, Spelt r) (hrd : RdC a rs w) :
  Calls Tryz.prog 38 #[.agg #[.slice a rs.length cap]] w fun e w' => e = .returned (.string (textD rs)) ∧ Below w.heap.size w w' := by
 obtain ⟨w0, hw0⟩ : ∃ w0, w0 = w.alloc (.cells #[.slice a rs.length cap] 26) := ⟨_, rfl⟩
 have hB : Below w.heap.size w w0 := by subst hw0; exact (Below.refl _ _).alloc (Nat.le_refl _) _
 have hX : CellsAt w.heap.size [.slice a rs.length cap] w0 := by subst hw0; exact CellsAt.new w _ _
 have HX := Lib.hid hX
 have HB := Lib.hid hB
 have HRD := Lib.hid (hrd.below hB)
 have HSH := Lib.hid hsh
 have HSP := Lib.hid hsp
 have HNM : Hid (∀ r ∈ rs, r.name.size ≤ 1048576) := fun r hr => (hsp r hr).1
 clear hB hX hrd hsh hsp
 cases hd : descrB (kindI rs) rs with
 | false =>
  have hr : Hid (textD rs = ⟨#[]⟩) := by show _ = _; unfold textD; rw [hd]; rfl
  have hD := Lib.hid hd
  clear hd
  go_enter Tryz.func38, Tryz.ntmps38
  go_wp2
  rw [← hw0]
  clear hw0
  go_loopw [3, 4] (fun q i W => i = .int .i64 ((0 : Nat) : Int) ∧ q = .string ⟨#[]⟩ ∧ Hid (Below w0.heap.size w0 W)) (fun _ _ _ => 0)
  case atStart => exact ⟨rfl, rfl, Below.refl _ _⟩
  case round =>
   obtain ⟨rfl, rfl, hb⟩ := hrel
   have hx := (HX.out.below hb.out 0 _ rfl).1
   by_cases hlt : 0 < rs.length
   ·have k1 : (0 : Int) < (rs.length : Int) := by omega
    go_wp2_with fail
    refine (validd_spec a rs cap _ hl HSH.out HSP.out (HRD.out.below hb.out)).mono ?_
    rintro e w1 ⟨rfl, hb1⟩
    rw [hD.out]
    have HB1 := Lib.hid (HB.out.trans ((hb.out.trans (hb1.mono hb.out.size)).mono HB.out.size))
    clear hb1
    go_wp2
    go_ret
    exact ⟨ret_str hr.out.symm, HB1.out⟩
   ·have k1 : ¬ (0 : Int) < (rs.length : Int) := by omega
    have HB1 := Lib.hid (HB.out.trans (hb.out.mono HB.out.size))
    go_wp2
    go_ret
    exact ⟨ret_str hr.out.symm, HB1.out⟩
 | true =>
  have hr : Hid (textD rs = textS rs rs.length) := by show _ = _; unfold textD; rw [hd]; rfl
  have hds : descrB (kindS rs) rs = true := by rw [← descr_same]; exact hd
  obtain ⟨⟨hn1, hn2⟩, hav⟩ := descrB_iff.1 hd
  have HAV := Lib.hid hav
  have HAS := Lib.hid (descrB_iff.1 hds).2
  have hD := Lib.hid hd
  clear hd hds hav
  go_enter Tryz.func38, Tryz.ntmps38
  go_wp2
  rw [← hw0]
  clear hw0
  go_loopw [3, 4] (fun q i W => ∃ (k : Nat) (tx : ByteArray), k ≤ rs.length ∧ i = .int .i64 k ∧ q = .string tx ∧ tx.size ≤ k * 16777300 ∧ Hid (tx = textS rs k) ∧ Hid (Below w0.heap.size w0 W)) (fun _ i _ => rs.length - (intOf i).toNat)
  case atStart => exact ⟨0, _, Nat.zero_le _, rfl, rfl, Nat.le_refl _, rfl, Below.refl _ _⟩
  case round =>
   obtain ⟨k, tx, hk, rfl, rfl, hts, htx, hb⟩ := hrel
   have k0 : (0 : Int) ≤ (k : Int) := by omega
   have hx := (HX.out.below hb.out 0 _ rfl).1
   by_cases hlt : k < rs.length
   ·have k1 : (k : Int) < (rs.length : Int) := by omega
    have hv := Lib.hid (HAS.out k hlt)
    have hvk := Lib.hid (validAt_kind hlt (HAV.out k hlt))
    have hls := line_size (n := k) hvk.out HNM.out (HNM.out _ (List.getElem_mem hlt))
    have hla := Lib.hid (lineAt_in hlt)
    go_wp2_with fail
    refine (validd_spec a rs cap _ hl HSH.out HSP.out (HRD.out.below hb.out)).mono ?_
    rintro e w1 ⟨rfl, hb1⟩
    rw [hD.out]
    have Hb1 := Lib.hid (hb.out.trans (hb1.mono hb.out.size))
    clear hb1 hb hx
    have hx := (HX.out.below Hb1.out 0 _ rfl).1
    go_wp2_with fail
    refine (frule_spec a rs cap k _ hl hlt HSH.out HSP.out hv.out hvk.out (HRD.out.below Hb1.out)).mono ?_
    rintro e w2 ⟨rfl, hb2⟩
    have Hb2 := Lib.hid (Hb1.out.trans (hb2.mono Hb1.out.size))
    clear hb2 Hb1 hx
    rw [← hla.out] at hls ⊢
    have hnx : Hid (tx ++ lineAt rs k ++ ⟨#[10]⟩ = textS rs (k + 1)) := by show _ = _; rw [htx.out, textS_next]
    have ha1 := fun W => add_str W tx (lineAt rs k) (by omega)
    have ha2 := fun W => add_str W (tx ++ lineAt rs k) ⟨#[10]⟩ (by rw [ByteArray.size_append]; show tx.size + (lineAt rs k).size + 1 ≤ _; omega)
    have hsz : (tx ++ lineAt rs k ++ ⟨#[10]⟩).size ≤ (k + 1) * 16777300 := by rw [ByteArray.size_append, ByteArray.size_append]; show tx.size + (lineAt rs k).size + 1 ≤ _; omega
    generalize tx ++ lineAt rs k ++ ⟨#[10]⟩ = t2 at ha2 hnx hsz
    generalize tx ++ lineAt rs k = t1 at ha1 ha2
    generalize lineAt rs k = ln at ha1 ⊢
    clear hls
    go_wp2
    go_roundw
    case rel => exact ⟨k + 1, t2, by omega, by go_num, rfl, hsz, hnx, Hb2⟩
    case measure => simp [intOf]; omega
   ·have k1 : ¬ (k : Int) < (rs.length : Int) := by omega
    obtain rfl : k = rs.length := by omega
    have HB1 := Lib.hid (HB.out.trans (hb.out.mono HB.out.size))
    go_wp2
    go_ret
    exact ⟨ret_str (by rw [hr.out, htx.out]), HB1.out⟩
end Go.Proofs.YtndjefednfcmmaaGreatDoor
