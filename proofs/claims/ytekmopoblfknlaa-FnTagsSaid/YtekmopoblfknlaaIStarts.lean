/- The contract of the program's startsOf. -/
import Derived.Test.YtekmopoblfknlaaIEnc
import Derived.Test.YtekmopoblfknlaaArrS
import Derived.Test.YtekmopoblfknlaaMarkUsed
import Derived.Test.YtekmopoblfknlaaIsDescr
import Derived.Test.YtekmopoblfknlaaChoice
import Derived.Deep.CutRange
import Derived.Deep.RegionLaw
namespace Go.Proofs.Ytekmopoblfknlaa
open Go Go.RowKit
theorem arrB_congr {u v : Nat → Bool} {n : Nat} (h : ∀ i, i < n → u i = v i) : arrB u n = arrB v n := by
  unfold arrB
  exact List.map_congr_left fun i hi => by rw [h i (List.mem_range.1 hi)]
theorem one_if (i nb : Nat) : (if i = nb then true else false) = decide (nb = i) := by
  by_cases c : i = nb
  · subst c; simp
  · have c2 : ¬ nb = i := fun h => c h.symm
    simp [c, c2]
theorem lt_next (i t : Nat) : decide (i < t + 1) = (if i = t then true else decide (i < t)) := by
  by_cases c : i = t
  · subst c; simp
  · have c2 : (i < t + 1) = (i < t) := by apply propext; omega
    simp [c, c2]
/-- The rule that decides is one of the rules, and decides by itself. -/
theorem firstR_in {rs : List RuleV} (hall : allV (kindI rs) rs) : ∀ m, m < rs.length → ∃ j, ∃ (hj : j < rs.length), firstR rs m = rs[j] ∧ ¬ (rs[j].kind = 4 ∨ rs[j].kind = 5 ∨ rs[j].kind = 6 ∨ rs[j].kind = 9) := by
  intro m
  induction m using Nat.strongRecOn with
  | ind m ih =>
    intro hm
    by_cases h : rs[m].kind = 4 ∨ rs[m].kind = 5 ∨ rs[m].kind = 6 ∨ rs[m].kind = 9
    · obtain ⟨q, hq, hqm, _⟩ := kid0 hall hm h
      obtain ⟨j, hj, h1, h2⟩ := ih q hqm (by omega)
      exact ⟨j, hj, by rw [firstR_kid hall hm h hq, h1], h2⟩
    · exact ⟨m, hm, firstR_self hm h, h⟩
/-- The bytes with which the first t tags begin. -/
def tagsU (rs : List RuleV) (r : RuleV) (t : Nat) (b : Nat) : Bool := (r.tags.take t).any fun x => decide (((tagB rs r x).getD 0 0).toNat = b)
theorem tagsU_next (rs : List RuleV) (r : RuleV) {t : Nat} (h : t < r.tags.length) (b : Nat) : tagsU rs r (t + 1) b = (if b = ((tagB rs r r.tags[t]).getD 0 0).toNat then true else tagsU rs r t b) := by
  unfold tagsU
  rw [List.take_succ_eq_append_getElem h, List.any_append]
  by_cases e : b = ((tagB rs r r.tags[t]).getD 0 0).toNat
  · rw [if_pos e, e]; simp
  · rw [if_neg e]
    have e2 : ¬ ((tagB rs r r.tags[t]).getD 0 0).toNat = b := fun h => e h.symm
    simp only [List.any_cons, List.any_nil, Bool.or_false, decide_eq_false e2]
theorem startR_const (rs : List RuleV) {r : RuleV} (hk : r.kind = 2) (b : Nat) : startR rs r b = decide ((r.bytes.getD 0 0).toNat = b) := by unfold startR; rw [if_pos hk]
theorem startR_option (rs : List RuleV) {r : RuleV} (hk : r.kind = 8) (b : Nat) : startR rs r b = decide (b < 2) := by unfold startR; rw [if_neg (by omega), if_pos hk]
theorem startR_choice (rs : List RuleV) {r : RuleV} (hk : r.kind = 7) (b : Nat) : startR rs r b = tagsU rs r r.tags.length b := by
  unfold startR tagsU
  rw [if_neg (by omega), if_neg (by omega), if_pos hk, List.take_length]
theorem startR_rest (rs : List RuleV) {r : RuleV} (hk : r.kind = 1 ∨ r.kind = 3 ∨ r.kind = 10) (b : Nat) : startR rs r b = true := by
  unfold startR
  rw [if_neg (by omega), if_neg (by omega), if_neg (by omega)]
set_option maxRecDepth 100000 in
set_option maxHeartbeats 16000000 in
theorem startset_impl (a : Option Addr) (rs : List RuleV) (cap : Nat) (k : Int) (w : World) (hl : rs.length ≤ 1048576) (hs : ∀ r ∈ rs, Short r) (hp : ∀ r ∈ rs, Spelt r) (h : RdC a rs w) :
    Calls Try.prog 41 #[.agg #[.slice a rs.length cap], .int .i64 k] w fun e w' => e = .returned (.agg (arrB (startK rs k) 256).toArray) ∧ Below w.heap.size w w' := by
  obtain ⟨w0, hw0⟩ : ∃ w0, w0 = ((w.alloc (.cells #[.slice a rs.length cap] 26)).alloc (.cells noStarts.toArray 63)).alloc (.cells noStarts.toArray 63) := ⟨_, rfl⟩
  have hB0 : Below w.heap.size w w0 := by subst hw0; exact (((Below.refl _ _).alloc (Nat.le_refl _) _).alloc (by simp) _).alloc (by simp; omega) _
  have hX0 : CellsAt w.heap.size [.slice a rs.length cap] w0 := by subst hw0; exact ((CellsAt.new w _ _).below ((Below.refl _ _).alloc (Nat.le_refl _) _)).below ((Below.refl _ _).alloc (Nat.le_refl _) _)
  have hT0 : CellsAt (w.heap.size + 1) noStarts w0 := by subst hw0; have h1 := CellsAt.new (w.alloc (.cells #[.slice a rs.length cap] 26)) noStarts 63; rw [World.size_alloc] at h1; exact h1.below ((Below.refl _ _).alloc (Nat.le_refl _) _)
  have hU0 : CellsAt (w.heap.size + 2) noStarts w0 := by subst hw0; have h1 := CellsAt.new ((w.alloc (.cells #[.slice a rs.length cap] 26)).alloc (.cells noStarts.toArray 63)) noStarts 63; rw [World.size_alloc, World.size_alloc] at h1; exact h1
  have bx := (hX0 0 _ rfl).1
  have HX := Lib.hid hX0
  have HB := Lib.hid hB0
  have HT := Lib.hid hT0
  have HU := Lib.hid hU0
  have HC := Lib.hid (h.below hB0)
  have HCW := Lib.hid h
  have HS := Lib.hid hs
  have HP := Lib.hid hp
  have hW := Lib.hid hw0
  have hz0 : w.heap.size + 3 = w0.heap.size := by subst hw0; simp
  have HZ0 := Lib.hid hz0
  clear h hB0 hX0 hT0 hU0 hs hp hw0 hz0
  obtain ⟨ok, hok⟩ : ∃ x, x = okAt rs k := ⟨_, rfl⟩
  have HOK := Lib.hid hok
  clear hok
  go_enter Try.func41, Try.ntmps41
  go_upto_region 2 with (refine wp_alloc256 rfl _ rfl rfl ?_)
  rw [← hW.out]
  clear hW
  go_wp2_with fail
  refine (isdescr_impl a rs cap k _ hl HS.out HP.out HC.out).mono ?_
  rintro e w1 ⟨rfl, hb1⟩
  rw [← HOK.out]
  replace HX := Lib.hid (HX.out.below hb1)
  clear HC
  replace HT := Lib.hid (HT.out.below hb1)
  replace HU := Lib.hid (HU.out.below hb1)
  have HZ1 : Hid (w.heap.size + 3 ≤ w1.heap.size) := by show _ ≤ _; rw [HZ0.out]; exact hb1.size
  replace HB := Lib.hid (HB.out.trans (hb1.mono HB.out.size))
  clear hb1 bx HZ0
  have bx := (HX.out 0 _ rfl).1
  cases ok with
  | false =>
    have heq : Hid (arrB (fun _ => false) 256 = arrB (startK rs k) 256) := arrB_congr fun i _ => by unfold startK; rw [← HOK.out]; rfl
    replace HU : Hid (CellsAt (w.heap.size + 2) (arrB (fun _ => false) 256) w1) := HU.out
    go_upto_region 3 with fail
    have hth : w1.there (w.heap.size + 1) 0 256 := by have := HT.out.there; rw [noStarts_length] at this; exact this
    have HBF : Hid (Below w.heap.size w (w1.setCells (w.heap.size + 1) 0 (arrB (fun _ => false) 256))) := Below.setCells (by omega) _ _ _ HB.out
    have hfin : Hid ((w1.setCells (w.heap.size + 1) 0 (arrB (fun _ => false) 256)).rangeAt (w.heap.size + 1) 0 (arrB (fun _ => false) 256)) := World.rangeAt_setCells_same _ _ _ _ (by rw [arrB_length]; exact hth)
    have hst : w1.there (w.heap.size + 1) 0 (arrB (fun _ => false) 256).toArray.size := by show w1.there _ 0 (arrB (fun _ => false) 256).length; rw [arrB_length]; exact hth
    have hsi : (Try.prog.info? 63).map (·.size) = some (arrB (fun _ => false) 256).toArray.size := info256 (fun _ => false)
    have HST := Lib.hid hst
    have HSI := Lib.hid hsi
    clear hth hst hsi
    go_wp2_with (first | (refine wpList_load_mid rfl 63 (.tmp 5) rfl (w.heap.size + 2) 0 rfl (arrB (fun _ => false) 256) _ HU.out.range Try.underlying63 rfl (info256 (fun _ => false)) ?_) | (refine wpList_store_mid rfl 63 (.tmp 4) (.tmp 14) rfl (w.heap.size + 1) 0 (arrB (fun _ => false) 256).toArray rfl rfl HST.out HSI.out (arrB_one (fun _ => false) 256) ?_))
    (try simp only [Exit.inBlock, Exit.then])
    refine bodyPost_ret (v := .agg (arrB (fun _ => false) 256).toArray) ?_ rfl ?_
    · exact results_cell_mid (p := 4) (ty := 63) rfl _ _ (w.heap.size + 1) (arrB (fun _ => false) 256) _ rfl hfin.out Try.underlying63 rfl (info256 (fun _ => false))
    · exact ⟨by rw [heq.out], HBF.out⟩
  | true =>
    obtain ⟨⟨hk0, hk1⟩, hn, hall⟩ := okAt_yes HOK.out.symm
    obtain ⟨m, rfl⟩ : ∃ m : Nat, k = (m : Int) := ⟨k.toNat, by omega⟩
    have hm : m < rs.length := by omega
    have HSK : Hid (∀ b, startK rs (m : Int) b = startR rs (firstR rs m) b) := fun b => by unfold startK; rw [← HOK.out, Bool.true_and, Int.toNat_natCast]; exact startB_first rs m b
    have HALL := Lib.hid hall
    have HFI := Lib.hid (firstR_in hall m hm)
    clear hn HOK
    obtain ⟨b0, off, a4, c4, a5, c5, a6, c6, a7, c7, hx, ⟨u0, u1, u2, u3, u4, u5, u6, u7⟩, r4, r5, r6, r7⟩ := HCW.out.rd.at m hm
    subst hx
    have HIS : Hid (IsRule rs[m] [.string rs[m].name, .int .i64 rs[m].kind, .int .i64 rs[m].size, .bool rs[m].little, .slice a4 rs[m].bytes.length c4, .slice a5 rs[m].names.length c5, .slice a6 rs[m].tags.length c6, .slice a7 rs[m].kids.length c7] w) := ⟨a4, c4, a5, c5, a6, c6, a7, c7, rfl, r4, r5, r6, r7⟩
    have HF : Hid (∀ W, Below w.heap.size w W → Calls Try.prog 63 #[.agg #[.slice (some ⟨b0, off, none⟩) rs.length cap], .agg #[.string rs[m].name, .int .i64 rs[m].kind, .int .i64 rs[m].size, .bool rs[m].little, .slice a4 rs[m].bytes.length c4, .slice a5 rs[m].names.length c5, .slice a6 rs[m].tags.length c6, .slice a7 rs[m].kids.length c7]] W (FirstOut (firstR rs m) w W)) := fun W hW => first_impl w _ rs cap hl HALL.out HCW.out m hm _ W HIS.out hW
    obtain ⟨r1, hr1⟩ : ∃ r1, r1 = rs[m] := ⟨_, rfl⟩
    rw [← hr1] at u0 u1 u2 u3 u4 u5 u6 u7 HF
    clear hr1 HIS r4 r5 r6 r7 hall hm
    obtain ⟨r, hr⟩ : ∃ r, r = firstR rs m := ⟨_, rfl⟩
    rw [← hr] at HSK HF HFI
    clear hr
    obtain ⟨za, hza⟩ : ∃ za, za = w1.alloc (.cells #[.string ⟨#[]⟩, .int .i64 0, .int .i64 0, .bool false, .slice none 0 0, .slice none 0 0, .slice none 0 0, .slice none 0 0] 44) := ⟨_, rfl⟩
    have hba : Below w1.heap.size w1 za := by subst hza; exact (Below.refl _ _).alloc (Nat.le_refl _) _
    have HCN : Hid (CellsAt w1.heap.size [.string ⟨#[]⟩, .int .i64 0, .int .i64 0, .bool false, .slice none 0 0, .slice none 0 0, .slice none 0 0, .slice none 0 0] za) := by subst hza; exact CellsAt.new w1 _ _
    have HZS : Hid (za.heap.size = w1.heap.size + 1) := by show _ = _; subst hza; exact World.size_alloc _ _
    have HBA := Lib.hid hba
    have bxA := (HX.out.below hba 0 _ rfl).1
    have v0 := cell_keep HB.out u0
    have va0 := cell_keep (HB.out.trans (hba.mono HB.out.size)) u0
    have v1 := cell_keep HB.out u1
    have va1 := cell_keep (HB.out.trans (hba.mono HB.out.size)) u1
    have v2 := cell_keep HB.out u2
    have va2 := cell_keep (HB.out.trans (hba.mono HB.out.size)) u2
    have v3 := cell_keep HB.out u3
    have va3 := cell_keep (HB.out.trans (hba.mono HB.out.size)) u3
    have v4 := cell_keep HB.out u4
    have va4 := cell_keep (HB.out.trans (hba.mono HB.out.size)) u4
    have v5 := cell_keep HB.out u5
    have va5 := cell_keep (HB.out.trans (hba.mono HB.out.size)) u5
    have v6 := cell_keep HB.out u6
    have va6 := cell_keep (HB.out.trans (hba.mono HB.out.size)) u6
    have v7 := cell_keep HB.out u7
    have va7 := cell_keep (HB.out.trans (hba.mono HB.out.size)) u7
    subst hza
    clear hba u0 u1 u2 u3 u4 u5 u6 u7
    have HBR := Lib.hid (Below.refl w1.heap.size w1)
    go_upto_region 4 with fail
    go_cut [6] from 15 to 21 (fun p W => ∃ (N : Nat) (g4 : Option Addr) (h4 : Nat) (g5 : Option Addr) (h5 : Nat) (g6 : Option Addr) (h6 : Nat) (g7 : Option Addr) (h7 : Nat), p = .pointer (some ⟨N, 0, none⟩) ∧ w1.heap.size ≤ N ∧ Hid (CellsAt N [.string r.name, .int .i64 r.kind, .int .i64 r.size, .bool r.little, .slice g4 r.bytes.length h4, .slice g5 r.names.length h5, .slice g6 r.tags.length h6, .slice g7 r.kids.length h7] W) ∧ Hid (IsRule r [.string r.name, .int .i64 r.kind, .int .i64 r.size, .bool r.little, .slice g4 r.bytes.length h4, .slice g5 r.names.length h5, .slice g6 r.tags.length h6, .slice g7 r.kids.length h7] w) ∧ Hid (Below w1.heap.size w1 W))
    case first =>
      go_region_law (first
        | (go_simp; go_at_call 63; refine (HF.out w1.drew (below_drewN HB.out 1)).mono ?_; rintro e w4 ⟨cs, rfl, his, hb4⟩; have HIR := Lib.hid his; obtain ⟨g4, h4, g5, h5, g6, h6, g7, h7, rfl, -⟩ := his; have HB4 := Lib.hid ((below_drewN HBR.out 1).trans hb4); clear hb4)
        | (go_simp; go_at_call 63; refine (HF.out (w1.alloc (.cells #[.string ⟨#[]⟩, .int .i64 0, .int .i64 0, .bool false, .slice none 0 0, .slice none 0 0, .slice none 0 0, .slice none 0 0] 44)).drew (below_drewN (HB.out.trans (HBA.out.mono HB.out.size)) 1)).mono ?_; rintro e w4 ⟨cs, rfl, his, hb4⟩; have HIRB := Lib.hid his; obtain ⟨g4, h4, g5, h5, g6, h6, g7, h7, rfl, -⟩ := his; have HB4 := Lib.hid ((below_drewN HBA.out 1).trans (hb4.mono (by have h1 := HZS.out; show w1.heap.size ≤ (w1.alloc (.cells #[.string ⟨#[]⟩, .int .i64 0, .int .i64 0, .bool false, .slice none 0 0, .slice none 0 0, .slice none 0 0, .slice none 0 0] 44)).heap.size; omega))); have HBQ := Lib.hid (CellsAt.below (w := (w1.alloc (.cells #[.string ⟨#[]⟩, .int .i64 0, .int .i64 0, .bool false, .slice none 0 0, .slice none 0 0, .slice none 0 0, .slice none 0 0] 44)).drew) HCN.out hb4); clear hb4; obtain ⟨q0, f0⟩ := HBQ.out 0 _ rfl; obtain ⟨q1, f1⟩ := HBQ.out 1 _ rfl; obtain ⟨q2, f2⟩ := HBQ.out 2 _ rfl; obtain ⟨q3, f3⟩ := HBQ.out 3 _ rfl; obtain ⟨q4, f4⟩ := HBQ.out 4 _ rfl; obtain ⟨q5, f5⟩ := HBQ.out 5 _ rfl; obtain ⟨q6, f6⟩ := HBQ.out 6 _ rfl; obtain ⟨q7, f7⟩ := HBQ.out 7 _ rfl))
      all_goals (
        first
          | (have hb5 : Below w4.heap.size w4 (w4.alloc (.cells #[.string r.name, .int .i64 r.kind, .int .i64 r.size, .bool r.little, .slice g4 r.bytes.length h4, .slice g5 r.names.length h5, .slice g6 r.tags.length h6, .slice g7 r.kids.length h7] 44)) := (Below.refl _ _).alloc (Nat.le_refl _) _
             have HQ : Hid (CellsAt w4.heap.size [.string r.name, .int .i64 r.kind, .int .i64 r.size, .bool r.little, .slice g4 r.bytes.length h4, .slice g5 r.names.length h5, .slice g6 r.tags.length h6, .slice g7 r.kids.length h7] (w4.alloc (.cells #[.string r.name, .int .i64 r.kind, .int .i64 r.size, .bool r.little, .slice g4 r.bytes.length h4, .slice g5 r.names.length h5, .slice g6 r.tags.length h6, .slice g7 r.kids.length h7] 44))) := CellsAt.new w4 _ _
             have HBE := Lib.hid (HB4.out.trans (hb5.mono HB4.out.size))
             have hs4 := HB4.out.size
             have HIR2 := Lib.hid HIR.out
             clear HIR HB4 hb5
             go_wp2_with fail
             go_meet
             exact ⟨w4.heap.size, g4, h4, g5, h5, g6, h6, g7, h7, rfl, hs4, HQ, HIR2, HBE⟩)
          | (have HQ0 := (((((((HBQ.out.set 0 (.string r.name) (by simp)).set 1 (.int .i64 r.kind) (by simp)).set 2 (.int .i64 r.size) (by simp)).set 3 (.bool r.little) (by simp)).set 4 (.slice g4 r.bytes.length h4) (by simp)).set 5 (.slice g5 r.names.length h5) (by simp)).set 6 (.slice g6 r.tags.length h6) (by simp)).set 7 (.slice g7 r.kids.length h7) (by simp)
             simp only [List.set] at HQ0
             have HQ := Lib.hid HQ0
             have HBE := Lib.hid HB4.out
             have HIR2 := Lib.hid HIRB.out
             clear HB4 HQ0 HBQ HIRB
             go_wp2_with fail
             go_meet
             refine ⟨w1.heap.size, g4, h4, g5, h5, g6, h6, g7, h7, rfl, Nat.le_refl _, HQ, HIR2, ?_⟩
             show Below _ _ _
             iterate 8 (refine Below.setCell ?_ (by show w1.heap.size ≤ w1.heap.size; omega) _)
             exact HBE.out))
    case rest =>
      obtain ⟨N, g4, h4, g5, h5, g6, h6, g7, h7, rfl, hN, HQ, HIR, HBE⟩ := hcut
      clear v0 v1 v2 v3 v4 v5 v6 v7 va0 va1 va2 va3 va4 va5 va6 va7 bx bxA HF HCN HZS HBA HBR
      obtain ⟨j, hj, hrj, hself⟩ := HFI.out
      have hkn := kindI_known (allV_kind HALL.out hj)
      have HKI := Lib.hid (allV_kind HALL.out hj)
      have HCF := fun h => Lib.hid (choice_facts HALL.out hj h)
      rw [← hrj] at hkn HKI HCF hself
      clear hrj HFI hj
      replace HX := Lib.hid (HX.out.below HBE.out)
      replace HT := Lib.hid (HT.out.below HBE.out)
      replace HU := Lib.hid (HU.out.below HBE.out)
      replace HB := Lib.hid (HB.out.trans (HBE.out.mono HB.out.size))
      have hN3 : w.heap.size + 3 ≤ N := by have := HZ1.out; omega
      have HN3 := Lib.hid hN3
      clear HBE hN HZ1 hN3
      have y1 := (HQ.out 1 _ rfl).1
      obtain ⟨x4, z4, x5, z5, x6, z6, x7, z7, heqs, s4, s5, s6, s7⟩ := id HIR.out
      simp only [List.cons.injEq, Value.slice.injEq, and_true, true_and] at heqs
      obtain ⟨⟨rfl, rfl⟩, ⟨rfl, rfl⟩, ⟨rfl, rfl⟩, ⟨rfl, rfl⟩⟩ := heqs
      have S4 : Hid (Rd g4 r.bytes wc) := Rd.below s4 HB.out
      have S6 : Hid (RdI g6 r.tags w) := s6
      clear s4 s5 s6 s7
      rcases (by omega : r.kind = 2 ∨ r.kind = 8 ∨ r.kind = 7 ∨ (r.kind = 1 ∨ r.kind = 3 ∨ r.kind = 10)) with hk | hk | hk | hk
      · have hbl : 1 ≤ r.bytes.length := by have h := HKI.out; simp [kindI, meetsB, hk] at h; omega
        obtain ⟨b4, o4, e4, hc4⟩ := S4.out 0 (by omega)
        subst e4
        simp only [Nat.add_zero] at hc4
        have hg0 : r.bytes.getD 0 0 = r.bytes[0] := by rw [List.getD, List.getElem?_eq_getElem (by omega), Option.getD_some]
        obtain ⟨nb, hnb⟩ : ∃ nb, nb = r.bytes[0].toNat := ⟨_, rfl⟩
        have hn256 : nb < 256 := by rw [hnb]; exact r.bytes[0].toNat_lt
        rw [← hnb] at hc4
        obtain ⟨u, hu⟩ : ∃ u : Nat → Bool, u = fun i => if i = nb then true else false := ⟨_, rfl⟩
        have heq : Hid (arrB u 256 = arrB (startK rs (m : Int)) 256) := arrB_congr fun i _ => by rw [HSK.out, startR_const rs hk, hg0, ← hnb, hu]; exact one_if i nb
        have q0 := (HU.out nb (.bool false) (arrB_at _ hn256)).1
        have q1 := (HU.out nb (.bool false) (arrB_at _ hn256)).2
        have y4 := (HQ.out 4 _ rfl).1
        have n0 : (0 : Int) ≤ (nb : Int) := by omega
        have n1 : (nb : Int) < 256 := by omega
        have hbl1 : (0 : Int) < (r.bytes.length : Int) := by omega
        rw [hk] at y1
        clear hk hkn hself HCF HIR hg0 hnb hbl
        obtain ⟨w5, hw5⟩ : ∃ w5, w5 = wc.setCell ⟨w.heap.size + 2, nb, none⟩ (.bool true) := ⟨_, rfl⟩
        have HU5 : Hid (CellsAt (w.heap.size + 2) (arrB u 256) w5) := by have h1 := HU.out.set nb (.bool true) (by rw [noStarts_length]; exact hn256); unfold noStarts at h1; rw [arrB_set, ← hu, ← hw5] at h1; exact h1
        have HT5 : Hid (CellsAt (w.heap.size + 1) noStarts w5) := by subst hw5; exact HT.out.far (by omega)
        have HB5 : Hid (Below w.heap.size w w5) := by subst hw5; exact HB.out.setCell (p := ⟨w.heap.size + 2, nb, none⟩) (by show w.heap.size ≤ w.heap.size + 2; omega) _
        have HW5 := Lib.hid hw5
        clear hw5 hu hn256
        go_upto_region 21 with fail
        rw [← HW5.out]
        have hth : w5.there (w.heap.size + 1) 0 256 := by have := HT5.out.there; rw [noStarts_length] at this; exact this
        have HBF : Hid (Below w.heap.size w (w5.setCells (w.heap.size + 1) 0 (arrB (u) 256))) := Below.setCells (by omega) _ _ _ HB5.out
        have hfin : Hid ((w5.setCells (w.heap.size + 1) 0 (arrB (u) 256)).rangeAt (w.heap.size + 1) 0 (arrB (u) 256)) := World.rangeAt_setCells_same _ _ _ _ (by rw [arrB_length]; exact hth)
        have hst : w5.there (w.heap.size + 1) 0 (arrB (u) 256).toArray.size := by show w5.there _ 0 (arrB (u) 256).length; rw [arrB_length]; exact hth
        have hsi : (Try.prog.info? 63).map (·.size) = some (arrB (u) 256).toArray.size := info256 (u)
        have HST := Lib.hid hst
        have HSI := Lib.hid hsi
        clear hth hst hsi
        go_wp2_with (first | (refine wpList_load_mid rfl 63 (.tmp 5) rfl (w.heap.size + 2) 0 rfl (arrB (u) 256) _ HU5.out.range Try.underlying63 rfl (info256 (u)) ?_) | (refine wpList_store_mid rfl 63 (.tmp 4) (.tmp 58) rfl (w.heap.size + 1) 0 (arrB (u) 256).toArray rfl rfl HST.out HSI.out (arrB_one (u) 256) ?_))
        (try simp only [Exit.inBlock, Exit.then])
        refine bodyPost_ret (v := .agg (arrB (u) 256).toArray) ?_ rfl ?_
        · exact results_cell_mid (p := 4) (ty := 63) rfl _ _ (w.heap.size + 1) (arrB (u) 256) _ rfl hfin.out Try.underlying63 rfl (info256 (u))
        · exact ⟨by rw [heq.out], HBF.out⟩
      · obtain ⟨u, hu⟩ : ∃ u : Nat → Bool, u = fun i => if i = 1 then true else if i = 0 then true else false := ⟨_, rfl⟩
        have heq : Hid (arrB u 256 = arrB (startK rs (m : Int)) 256) := arrB_congr fun i _ => by rw [HSK.out, startR_option rs hk, hu]; rcases i with _ | _ | i <;> simp
        have q0 := (HU.out 0 (.bool false) rfl).1
        have q1 := (HU.out 0 (.bool false) rfl).2
        have q2 := (HU.out 1 (.bool false) rfl).1
        have q3 := (HU.out 1 (.bool false) rfl).2
        rw [hk] at y1
        clear hk hkn hself HCF HIR
        obtain ⟨w5, hw5⟩ : ∃ w5, w5 = (wc.setCell ⟨w.heap.size + 2, 0, none⟩ (.bool true)).setCell ⟨w.heap.size + 2, 1, none⟩ (.bool true) := ⟨_, rfl⟩
        have HU5 : Hid (CellsAt (w.heap.size + 2) (arrB u 256) w5) := by have h1 := (HU.out.set 0 (.bool true) (by rw [noStarts_length]; omega)).set 1 (.bool true) (by rw [List.length_set, noStarts_length]; omega); unfold noStarts at h1; rw [arrB_set, arrB_set, ← hu, ← hw5] at h1; exact h1
        have HT5 : Hid (CellsAt (w.heap.size + 1) noStarts w5) := by subst hw5; exact (HT.out.far (by omega)).far (by omega)
        have HB5 : Hid (Below w.heap.size w w5) := by subst hw5; exact (HB.out.setCell (p := ⟨w.heap.size + 2, 0, none⟩) (by show w.heap.size ≤ w.heap.size + 2; omega) _).setCell (p := ⟨w.heap.size + 2, 1, none⟩) (by show w.heap.size ≤ w.heap.size + 2; omega) _
        have HW5 := Lib.hid hw5
        clear hw5 hu
        go_upto_region 21 with fail
        rw [← HW5.out]
        have hth : w5.there (w.heap.size + 1) 0 256 := by have := HT5.out.there; rw [noStarts_length] at this; exact this
        have HBF : Hid (Below w.heap.size w (w5.setCells (w.heap.size + 1) 0 (arrB (u) 256))) := Below.setCells (by omega) _ _ _ HB5.out
        have hfin : Hid ((w5.setCells (w.heap.size + 1) 0 (arrB (u) 256)).rangeAt (w.heap.size + 1) 0 (arrB (u) 256)) := World.rangeAt_setCells_same _ _ _ _ (by rw [arrB_length]; exact hth)
        have hst : w5.there (w.heap.size + 1) 0 (arrB (u) 256).toArray.size := by show w5.there _ 0 (arrB (u) 256).length; rw [arrB_length]; exact hth
        have hsi : (Try.prog.info? 63).map (·.size) = some (arrB (u) 256).toArray.size := info256 (u)
        have HST := Lib.hid hst
        have HSI := Lib.hid hsi
        clear hth hst hsi
        go_wp2_with (first | (refine wpList_load_mid rfl 63 (.tmp 5) rfl (w.heap.size + 2) 0 rfl (arrB (u) 256) _ HU5.out.range Try.underlying63 rfl (info256 (u)) ?_) | (refine wpList_store_mid rfl 63 (.tmp 4) (.tmp 58) rfl (w.heap.size + 1) 0 (arrB (u) 256).toArray rfl rfl HST.out HSI.out (arrB_one (u) 256) ?_))
        (try simp only [Exit.inBlock, Exit.then])
        refine bodyPost_ret (v := .agg (arrB (u) 256).toArray) ?_ rfl ?_
        · exact results_cell_mid (p := 4) (ty := 63) rfl _ _ (w.heap.size + 1) (arrB (u) 256) _ rfl hfin.out Try.underlying63 rfl (info256 (u))
        · exact ⟨by rw [heq.out], HBF.out⟩
      · have heq : Hid (arrB (tagsU rs r r.tags.length) 256 = arrB (startK rs (m : Int)) 256) := arrB_congr fun i _ => by rw [HSK.out, startR_choice rs hk]
        obtain ⟨qk, hqk, -, hqr, hkl, htl, htag⟩ := (HCF hk).out
        have HQK := Lib.hid hqk
        have HTG := Lib.hid htag
        have HU0 : Hid (CellsAt (w.heap.size + 2) (arrB (tagsU rs r 0) 256) wc) := HU.out
        have y6 := (HQ.out 6 _ rfl).1
        rw [hk] at y1
        clear hk hkn hself HCF hqk htag HSK HKI HU
        go_wp2
        go_loopw [8, 46] (fun _ i W => ∃ t : Nat, t ≤ r.tags.length ∧ i = .int .i64 t ∧ Hid (CellsAt (w.heap.size + 2) (arrB (tagsU rs r t) 256) W) ∧ Hid (CellsAt (w.heap.size + 1) noStarts W) ∧ Hid (Below w.heap.size w W) ∧ Hid (CellsAt w.heap.size [.slice (some ⟨b0, off, none⟩) rs.length cap] W) ∧ Hid (CellsAt N [.string r.name, .int .i64 r.kind, .int .i64 r.size, .bool r.little, .slice g4 r.bytes.length h4, .slice g5 r.names.length h5, .slice g6 r.tags.length h6, .slice g7 r.kids.length h7] W) ∧ Hid (w.heap.size + 3 ≤ W.heap.size)) (fun _ i _ => r.tags.length - (intOf i).toNat)
        case atStart => exact ⟨0, Nat.zero_le _, rfl, HU0, HT, HB, HX, HQ, Nat.le_trans HN3.out (Nat.le_of_lt (cell_lt (HQ.out 0 _ rfl).1))⟩
        case round =>
          clear HU0 HT HB HX HQ S4 y1 y6
          obtain ⟨t, ht, rfl, HU, HT, HB, HX, HQ, HSZ⟩ := hrel
          have t0 : (0 : Int) ≤ (t : Int) := by omega
          by_cases hlt : t < r.tags.length
          · have t1 : (t : Int) < (r.tags.length : Int) := by omega
            obtain ⟨b6, o6, e6, hc6⟩ := S6.out.cellAt (j := t) hlt
            subst e6
            have hc6w := cell_keep HB.out hc6
            have y0 := (HQ.out 0 _ rfl).1
            have y1 := (HQ.out 1 _ rfl).1
            have y2 := (HQ.out 2 _ rfl).1
            have y3 := (HQ.out 3 _ rfl).1
            have y4 := (HQ.out 4 _ rfl).1
            have y5 := (HQ.out 5 _ rfl).1
            have y6 := (HQ.out 6 _ rfl).1
            have y7 := (HQ.out 7 _ rfl).1
            have bx := (HX.out 0 _ rfl).1
            obtain ⟨tg, htg⟩ : ∃ tg, tg = r.tags[t] := ⟨_, rfl⟩
            have hlen : 1 ≤ (tagB rs r tg).length := by have := HTG.out tg (by rw [htg]; exact List.getElem_mem hlt); rw [this.1]; exact this.2
            have hnx : Hid (∀ b, tagsU rs r (t + 1) b = (if b = ((tagB rs r tg).getD 0 0).toNat then true else tagsU rs r t b)) := fun b => by rw [tagsU_next rs r hlt, ← htg]
            rw [← htg] at hc6w
            obtain ⟨bs, hbs⟩ : ∃ bs, bs = tagB rs r tg := ⟨_, rfl⟩
            rw [← hbs] at hlen hnx
            have HCALL : Hid (∀ W, Below w.heap.size w W → Calls Try.prog 48 #[.agg #[.slice (some ⟨b0, off, none⟩) rs.length cap], .agg #[.string r.name, .int .i64 r.kind, .int .i64 r.size, .bool r.little, .slice g4 r.bytes.length h4, .slice g5 r.names.length h5, .slice (some ⟨b6, o6, none⟩) r.tags.length h6, .slice g7 r.kids.length h7], .int .i64 tg] W (BytesOut bs W)) := fun W h1 => by rw [hbs]; exact enct_impl _ rs cap r _ tg qk W hl HQK.out hqr hkl (HCW.out.below h1) (HIR.out.below h1)
            have HBS := Lib.hid hbs
            clear hbs htg hc6
            go_wp2_with fail
            refine (HCALL.out _ HB.out).mono ?_
            rintro e w5 ⟨az, cz, rfl, hrow, hb5⟩
            obtain ⟨bz, oz, hz, hcz⟩ := hrow.rd 0 hlen
            subst hz
            simp only [Nat.add_zero] at hcz
            have hg0 : bs.getD 0 0 = bs[0] := by rw [List.getD, List.getElem?_eq_getElem hlen, Option.getD_some]
            have hnx2 : Hid (∀ b, tagsU rs r (t + 1) b = (if b = bs[0].toNat then true else tagsU rs r t b)) := fun b => by rw [hnx.out, hg0]
            obtain ⟨nb, hnb⟩ : ∃ nb, nb = bs[0].toNat := ⟨_, rfl⟩
            have hn256 : nb < 256 := by rw [hnb]; exact bs[0].toNat_lt
            rw [← hnb] at hcz hnx2
            have hlen1 : (0 : Int) < (bs.length : Int) := by omega
            have n0 : (0 : Int) ≤ (nb : Int) := by omega
            have n1 : (nb : Int) < 256 := by omega
            have HSZ5 : Hid (w.heap.size + 3 ≤ w5.heap.size) := Nat.le_trans HSZ.out hb5.size
            have HU5 := Lib.hid (HU.out.below hb5)
            have q0 := (HU5.out nb _ (arrB_at _ hn256)).1
            have q1 := (HU5.out nb _ (arrB_at _ hn256)).2
            have HU6 : Hid (CellsAt (w.heap.size + 2) (arrB (tagsU rs r (t + 1)) 256) (w5.setCell ⟨w.heap.size + 2, nb, none⟩ (.bool true))) := by have h1 := HU5.out.set nb (.bool true) (by rw [arrB_length]; exact hn256); rw [arrB_set] at h1; have e1 : arrB (tagsU rs r (t + 1)) 256 = arrB (fun i => if i = nb then true else tagsU rs r t i) 256 := arrB_congr (fun i _ => hnx2.out i); show CellsAt _ _ _; rw [e1]; exact h1
            have HT6 : Hid (CellsAt (w.heap.size + 1) noStarts (w5.setCell ⟨w.heap.size + 2, nb, none⟩ (.bool true))) := (HT.out.below hb5).far (by omega)
            have HB5 := Lib.hid (HB.out.trans (hb5.mono HB.out.size))
            have HB6 : Hid (Below w.heap.size w (w5.setCell ⟨w.heap.size + 2, nb, none⟩ (.bool true))) := HB5.out.setCell (p := ⟨w.heap.size + 2, nb, none⟩) (by show w.heap.size ≤ w.heap.size + 2; omega) _
            have HX6 : Hid (CellsAt w.heap.size [.slice (some ⟨b0, off, none⟩) rs.length cap] (w5.setCell ⟨w.heap.size + 2, nb, none⟩ (.bool true))) := (HX.out.below hb5).far (by omega)
            have HQ6 : Hid (CellsAt N [.string r.name, .int .i64 r.kind, .int .i64 r.size, .bool r.little, .slice g4 r.bytes.length h4, .slice g5 r.names.length h5, .slice (some ⟨b6, o6, none⟩) r.tags.length h6, .slice g7 r.kids.length h7] (w5.setCell ⟨w.heap.size + 2, nb, none⟩ (.bool true))) := (HQ.out.below hb5).far (by have := HN3.out; omega)
            have HSZ6 : Hid (w.heap.size + 3 ≤ (w5.setCell ⟨w.heap.size + 2, nb, none⟩ (.bool true)).heap.size) := by show _ ≤ _; simp; exact HSZ5.out
            clear hrow hb5 hg0 hnx hlen hnb hnx2 HU HT HB HX HQ HSZ y0 y1 y2 y3 y4 y5 y6 y7 bx hc6w HU5 HB5 HCALL
            go_wp2
            go_roundw
            case rel => exact ⟨t + 1, by omega, by go_num, HU6, HT6, HB6, HX6, HQ6, HSZ6⟩
            case measure => simp [intOf]; omega
          · have t1 : ¬ (t : Int) < (r.tags.length : Int) := by omega
            have hte : t = r.tags.length := by omega
            have HUE : Hid (CellsAt (w.heap.size + 2) (arrB (tagsU rs r r.tags.length) 256) wr) := by have := HU.out; rw [hte] at this; exact this
            clear hte HX HQ HSZ S6 HU
            go_upto_region 21 with fail
            have hth : wr.there (w.heap.size + 1) 0 256 := by have := HT.out.there; rw [noStarts_length] at this; exact this
            have HBF : Hid (Below w.heap.size w (wr.setCells (w.heap.size + 1) 0 (arrB (tagsU rs r r.tags.length) 256))) := Below.setCells (by omega) _ _ _ HB.out
            have hfin : Hid ((wr.setCells (w.heap.size + 1) 0 (arrB (tagsU rs r r.tags.length) 256)).rangeAt (w.heap.size + 1) 0 (arrB (tagsU rs r r.tags.length) 256)) := World.rangeAt_setCells_same _ _ _ _ (by rw [arrB_length]; exact hth)
            have hst : wr.there (w.heap.size + 1) 0 (arrB (tagsU rs r r.tags.length) 256).toArray.size := by show wr.there _ 0 (arrB (tagsU rs r r.tags.length) 256).length; rw [arrB_length]; exact hth
            have hsi : (Try.prog.info? 63).map (·.size) = some (arrB (tagsU rs r r.tags.length) 256).toArray.size := info256 (tagsU rs r r.tags.length)
            have HST := Lib.hid hst
            have HSI := Lib.hid hsi
            clear hth hst hsi
            go_wp2_with (first | (refine wpList_load_mid rfl 63 (.tmp 5) rfl (w.heap.size + 2) 0 rfl (arrB (tagsU rs r r.tags.length) 256) _ HUE.out.range Try.underlying63 rfl (info256 (tagsU rs r r.tags.length)) ?_) | (refine wpList_store_mid rfl 63 (.tmp 4) (.tmp 58) rfl (w.heap.size + 1) 0 (arrB (tagsU rs r r.tags.length) 256).toArray rfl rfl HST.out HSI.out (arrB_one (tagsU rs r r.tags.length) 256) ?_))
            (try simp only [Exit.inBlock, Exit.then])
            refine bodyPost_ret (v := .agg (arrB (tagsU rs r r.tags.length) 256).toArray) ?_ rfl ?_
            · exact results_cell_mid (p := 4) (ty := 63) rfl _ _ (w.heap.size + 1) (arrB (tagsU rs r r.tags.length) 256) _ rfl hfin.out Try.underlying63 rfl (info256 (tagsU rs r r.tags.length))
            · exact ⟨by rw [heq.out], HBF.out⟩
      · have heq : Hid (arrB (fun x => decide (x < 256)) 256 = arrB (startK rs (m : Int)) 256) := arrB_congr fun i hi => by rw [HSK.out, startR_rest rs hk, decide_eq_true hi]
        have HU0 : Hid (CellsAt (w.heap.size + 2) (arrB (fun x => decide (x < 0)) 256) wc) := by have e1 : arrB (fun x => decide (x < 0)) 256 = noStarts := arrB_congr (fun i _ => by simp); show CellsAt _ _ _; rw [e1]; exact HU.out
        clear HIR HCF HSK HKI HU hself S4 S6 hkn HX HCW HP HS HALL
        rcases hk with hk | hk | hk
        all_goals
          rw [hk] at y1
          clear hk HQ
          go_wp2
          go_loopw [9, 24] (fun _ i W => ∃ t : Nat, t ≤ 256 ∧ i = .int .i64 t ∧ Hid (CellsAt (w.heap.size + 2) (arrB (fun x => decide (x < t)) 256) W) ∧ Hid (CellsAt (w.heap.size + 1) noStarts W) ∧ Hid (Below w.heap.size w W)) (fun _ i _ => 256 - (intOf i).toNat)
          case atStart => exact ⟨0, Nat.zero_le _, rfl, HU0, HT, HB⟩
          case round =>
            clear HU0 HT HB y1
            obtain ⟨t, ht, rfl, HU, HT, HB⟩ := hrel
            have t0 : (0 : Int) ≤ (t : Int) := by omega
            by_cases hlt : t < 256
            · have t1 : (t : Int) < 256 := by omega
              have q0 := (HU.out t _ (arrB_at _ hlt)).1
              have q1 := (HU.out t _ (arrB_at _ hlt)).2
              have HU6 : Hid (CellsAt (w.heap.size + 2) (arrB (fun x => decide (x < t + 1)) 256) (wr.setCell ⟨w.heap.size + 2, t, none⟩ (.bool true))) := by have h1 := HU.out.set t (.bool true) (by rw [arrB_length]; exact hlt); rw [arrB_set] at h1; have e1 : arrB (fun x => decide (x < t + 1)) 256 = arrB (fun i => if i = t then true else decide (i < t)) 256 := arrB_congr (fun i _ => by exact lt_next i t); show CellsAt _ _ _; rw [e1]; exact h1
              have HT6 : Hid (CellsAt (w.heap.size + 1) noStarts (wr.setCell ⟨w.heap.size + 2, t, none⟩ (.bool true))) := HT.out.far (by omega)
              have HB6 : Hid (Below w.heap.size w (wr.setCell ⟨w.heap.size + 2, t, none⟩ (.bool true))) := HB.out.setCell (p := ⟨w.heap.size + 2, t, none⟩) (by show w.heap.size ≤ w.heap.size + 2; omega) _
              clear HU HT HB
              go_wp2
              go_roundw
              case rel => exact ⟨t + 1, by omega, by go_num, HU6, HT6, HB6⟩
              case measure => simp [intOf]; omega
            · have t1 : ¬ (t : Int) < 256 := by omega
              have hte : t = 256 := by omega
              have HUE : Hid (CellsAt (w.heap.size + 2) (arrB (fun x => decide (x < 256)) 256) wr) := by have := HU.out; rw [hte] at this; exact this
              clear hte HU
              go_upto_region 21 with fail
              have hth : wr.there (w.heap.size + 1) 0 256 := by have := HT.out.there; rw [noStarts_length] at this; exact this
              have HBF : Hid (Below w.heap.size w (wr.setCells (w.heap.size + 1) 0 (arrB (fun x => decide (x < 256)) 256))) := Below.setCells (by omega) _ _ _ HB.out
              have hfin : Hid ((wr.setCells (w.heap.size + 1) 0 (arrB (fun x => decide (x < 256)) 256)).rangeAt (w.heap.size + 1) 0 (arrB (fun x => decide (x < 256)) 256)) := World.rangeAt_setCells_same _ _ _ _ (by rw [arrB_length]; exact hth)
              have hst : wr.there (w.heap.size + 1) 0 (arrB (fun x => decide (x < 256)) 256).toArray.size := by show wr.there _ 0 (arrB (fun x => decide (x < 256)) 256).length; rw [arrB_length]; exact hth
              have hsi : (Try.prog.info? 63).map (·.size) = some (arrB (fun x => decide (x < 256)) 256).toArray.size := info256 (fun x => decide (x < 256))
              have HST := Lib.hid hst
              have HSI := Lib.hid hsi
              clear hth hst hsi
              go_wp2_with (first | (refine wpList_load_mid rfl 63 (.tmp 5) rfl (w.heap.size + 2) 0 rfl (arrB (fun x => decide (x < 256)) 256) _ HUE.out.range Try.underlying63 rfl (info256 (fun x => decide (x < 256))) ?_) | (refine wpList_store_mid rfl 63 (.tmp 4) (.tmp 58) rfl (w.heap.size + 1) 0 (arrB (fun x => decide (x < 256)) 256).toArray rfl rfl HST.out HSI.out (arrB_one (fun x => decide (x < 256)) 256) ?_))
              (try simp only [Exit.inBlock, Exit.then])
              refine bodyPost_ret (v := .agg (arrB (fun x => decide (x < 256)) 256).toArray) ?_ rfl ?_
              · exact results_cell_mid (p := 4) (ty := 63) rfl _ _ (w.heap.size + 1) (arrB (fun x => decide (x < 256)) 256) _ rfl hfin.out Try.underlying63 rfl (info256 (fun x => decide (x < 256)))
              · exact ⟨by rw [heq.out], HBF.out⟩
end Go.Proofs.Ytekmopoblfknlaa
