/- It is proved that the law FnDescriptions returns true at every input of its parameter type and leaves its argument as it was (statement Rows.FnDescriptionsSaid), with no condition. -/
import Derived.Test.YtkegjgfggijinaaKidPush
import Derived.Test.YtkegjgfggijinaaDescrP
import Derived.Test.YtkegjgfggijinaaValidDI
import Derived.Test.YtkegjgfggijinaaFindImpl
import Derived.Test.YtkegjgfggijinaaArg
import Derived.Deep.RegionHeld3
import Derived.Deep.RegionLaw
import Derived.Deep.CutRange
namespace Go.Proofs.Ytkegjgfggijinaa
open Go Go.ChangeShapes Go.WideShapes Go.ChangeAt Go.RowKit
namespace fnDescriptions
theorem big_no (a : Option Addr) (n cap : Nat) (w : World) (h : n ≤ 1048576) : Calls Try.prog 7 #[.slice a n cap] w fun e w' => e = .returned (.bool false) ∧ w = w' := by
  have g : ¬ (1048576 : Int) < (n : Int) := by omega
  go_enter Try.func7, Try.ntmps7
  go_wp2
  go_ret
  exact ⟨rfl, rfl⟩
theorem big_yes (a : Option Addr) (n cap : Nat) (w : World) (h : 1048576 < n) (_hm : n ≤ 9223372036854775807) : Calls Try.prog 7 #[.slice a n cap] w fun e w' => e = .returned (.bool true) ∧ w = w' := by
  have g : (1048576 : Int) < (n : Int) := by omega
  go_enter Try.func7, Try.ntmps7
  go_wp2
  go_ret
  exact ⟨rfl, rfl⟩
theorem walk_long (a0 : Option Addr) (bs0 : List UInt8) (cap0 : Nat) (w : World) (h : 1048576 < bs0.length) (hm : bs0.length ≤ 9223372036854775807) :
    Calls Try.prog 3 #[.slice a0 bs0.length cap0] w fun e w' => e = .returned (.bool true) ∧ Below w.heap.size w w' := by
  go_enter Try.func3, Try.ntmps3
  go_wp2_with fail
  refine (big_yes a0 bs0.length cap0 w h hm).mono ?_
  rintro e w1 ⟨rfl, rfl⟩
  go_wp2_with fail
  go_ret
  exact ⟨rfl, Below.refl _ _⟩
theorem validd_n (n : Nat) (a : Option Addr) (rs : List RuleV) (cap : Nat) (w : World) (hn : n = rs.length) (hl : rs.length ≤ 1048576) (hs : ∀ r ∈ rs, Short r) (hp : ∀ r ∈ rs, Spelt r) (h : RdC a rs w) :
    Calls Try.prog 9 #[.agg #[.slice a n cap]] w fun e w' => e = .returned (.bool (descrB (kindI rs) rs)) ∧ Below w.heap.size w w' := by subst hn; exact validd_impl a rs cap w hl hs hp h
theorem validr_n (n : Nat) (a : Option Addr) (rs : List RuleV) (cap : Nat) (k : Int) (w : World) (hn : n = rs.length) (hl : rs.length ≤ 1048576) (hs : ∀ r ∈ rs, Short r) (hp : ∀ r ∈ rs, Spelt r) (h : RdC a rs w) :
    Calls Try.prog 11 #[.agg #[.slice a n cap], .int .i64 k] w fun e w' => e = .returned (.bool (validAt (kindI rs) rs k)) ∧ Below w.heap.size w w' := by subst hn; exact validr_impl a rs cap k w hl hs hp h
theorem eqd_n (n : Nat) (a b : Option Addr) (rs ss : List RuleV) (ca cb : Nat) (w : World) (hn : n = rs.length) (hl : rs.length ≤ 1048576) (hm : ss.length ≤ 1048576) (hr : ∀ r ∈ rs, Short r) (hs : ∀ r ∈ ss, Short r) (ha : RdR a rs w) (hb : RdR b ss w) :
    Calls Try.prog 14 #[.agg #[.slice a n ca], .agg #[.slice b ss.length cb]] w fun e w' => e = .returned (.bool (sameD rs ss)) ∧ Below w.heap.size w w' := by subst hn; exact eqd_impl a b rs ss ca cb w hl hm hr hs ha hb
theorem take_rdc {a : Option Addr} {rs : List RuleV} {w : World} (h : RdC a rs w) (n : Nat) : RdC a (rs.take n) w := fun j hj => by
  have hj2 : j < rs.length := by rw [List.length_take] at hj; omega
  rw [List.getElem_take]
  exact h j hj2
theorem limit0 {rs : List RuleV} (hv : allV (kindI rs) rs) (h1 : 1 ≤ rs.length) (hk : rs[0].kind = 1) : 255 ≤ limitAt rs 0 := by
  have h2 := kindI_size (validAt_kind (by omega) (hv 0 (by omega))) hk
  have h3 : limitAt rs ((0 : Nat) : Int) = _ := limitAt_in (by omega)
  rw [if_pos ⟨hk, h2⟩] at h3
  rw [show limitAt rs 0 = pow256 rs[0].size - 1 from h3]
  rcases (by omega : rs[0].size = 1 ∨ rs[0].size = 2 ∨ rs[0].size = 3 ∨ rs[0].size = 4) with e | e | e | e <;> rw [e] <;> decide
theorem more_short {r : RuleV} {x : Int} (h : Short r) (hk : r.kids.length ≤ 9) : Short (moreKid r x) := ⟨h.1, h.2.1, h.2.2.1, by show (r.kids ++ [x]).length ≤ 1048576; simp; omega⟩
open Classical in
theorem kids_nine {rs : List RuleV} {r : RuleV} (h : kindI rs r = true) : r.kids.length ≤ 9 := by
  unfold kindI at h
  rw [Bool.and_eq_true] at h
  have hsame : r = onlyR r := (sameR_iff _ _).1 h.2
  have h1 := h.1
  rcases kind_cases r.kind with hk | hk | hk | hk | hk | hk | hk | hk | hk | hk | hk
  · have e : onlyR r = ⟨r.name, r.kind, r.size, r.little, [], [], [], []⟩ := by unfold onlyR; simp [hk]
    rw [e] at hsame
    rw [hsame]; simp
  · have e : onlyR r = ⟨r.name, r.kind, 0, false, r.bytes, [], [], []⟩ := by unfold onlyR; simp [hk]
    rw [e] at hsame
    have h2 : r.bytes.length ≤ 16 := by simp [meetsB, hk] at h1; omega
    first | (rw [hsame]; simp; done) | omega
  · have e : onlyR r = ⟨r.name, r.kind, r.size, false, [], [], [], []⟩ := by unfold onlyR; simp [hk]
    rw [e] at hsame
    rw [hsame]; simp
  · have e : onlyR r = ⟨r.name, r.kind, 0, false, [], [], [], r.kids⟩ := by unfold onlyR; simp [hk]
    rw [e] at hsame
    have h2 : r.kids.length ≤ 2 := by simp [meetsB, hk] at h1; omega
    first | (rw [hsame]; simp; done) | omega
  · have e : onlyR r = ⟨r.name, r.kind, 0, false, [], [], [], r.kids⟩ := by unfold onlyR; simp [hk]
    rw [e] at hsame
    have h2 : r.kids.length ≤ 2 := by simp [meetsB, hk] at h1; omega
    first | (rw [hsame]; simp; done) | omega
  · have e : onlyR r = ⟨r.name, r.kind, 0, false, [], r.names, [], r.kids⟩ := by unfold onlyR; simp [hk]
    rw [e] at hsame
    have h2 : r.names.length = r.kids.length ∧ namesB r.names = true := by simpa [meetsB, hk] using h1
    have h3 : r.names.length ≤ 8 := by
      have h4 := h2.2
      unfold namesB at h4
      exact (of_decide_eq_true h4).2.2
    first | (rw [hsame]; simp; done) | omega
  · have e : onlyR r = ⟨r.name, r.kind, 0, false, [], [], r.tags, r.kids⟩ := by unfold onlyR; simp [hk]
    rw [e] at hsame
    have h2 : tagsB rs r = true := by simpa [meetsB, hk] using h1
    unfold tagsB at h2
    rw [Bool.and_eq_true] at h2
    have h3 := of_decide_eq_true h2.1
    first | (rw [hsame]; simp; done) | omega
  · have e : onlyR r = ⟨r.name, r.kind, 0, false, [], [], [], r.kids⟩ := by unfold onlyR; simp [hk]
    rw [e] at hsame
    have h2 : r.kids.length = 1 := by simpa [meetsB, hk] using h1
    first | (rw [hsame]; simp; done) | omega
  · have e : onlyR r = ⟨r.name, r.kind, 0, false, [], [], [], r.kids⟩ := by unfold onlyR; simp [hk]
    rw [e] at hsame
    have h2 : r.kids.length = 1 := by simpa [meetsB, hk] using h1
    first | (rw [hsame]; simp; done) | omega
  · have e : onlyR r = ⟨r.name, r.kind, 0, false, r.bytes, [], [], []⟩ := by unfold onlyR; simp [hk]
    rw [e] at hsame
    have h2 : r.bytes.length = 1 := by simp [meetsB, hk, termB] at h1; exact h1.1
    first | (rw [hsame]; simp; done) | omega
  · obtain ⟨k1, k2, k3, k4, k5, k6, k7, k8, k9, k10⟩ := hk
    simp [meetsB, k1, k2, k3, k4, k5, k6, k7, k8, k9, k10] at h1
theorem fields_le' {rs : List RuleV} {k : Nat} (h : validAt (kindI rs) rs (k : Int) = true) (hk : k < rs.length) : rs[k].kids.length ≤ 9 := kids_nine (validAt_kind hk h)
theorem cell_keep {w w' : World} {p : Addr} {v : Value} (hb : Below w.heap.size w w') (h : w.cell? p = some v) : w'.cell? p = some v := (hb.cell (cell_lt h)).trans h
theorem keep_cell {N o : Nat} {v : Value} {w w' : World} {row : Option Nat} (hg : w.grownBy w' row) (hne : some N ≠ row) (hc : w.cell? ⟨N, o, none⟩ = some v) (hf : w.frozen? ⟨N, o, none⟩ = false) : w'.cell? ⟨N, o, none⟩ = some v ∧ w'.frozen? ⟨N, o, none⟩ = false :=
  ⟨hg.cell hc hne, (World.frozen?_of_block (a := ⟨N, o, none⟩) (hg.block N (cell_lt hc) hne)).trans hf⟩
set_option maxRecDepth 100000 in
set_option maxHeartbeats 16000000 in
theorem walk_short (a0 : Option Addr) (bs0 : List UInt8) (cap0 : Nat) (w : World) (h : bs0.length ≤ 1048576) (hs : Code a0 bs0.length w) :
    Calls Try.prog 3 #[.slice a0 bs0.length cap0] w fun e w' => e = .returned (.bool true) ∧ Below w.heap.size w w' := by
  have HS := Lib.hid hs
  clear hs
  go_enter Try.func3, Try.ntmps3
  go_wp2_with fail
  refine (big_no a0 bs0.length cap0 w h).mono ?_
  rintro e w1 ⟨rfl, rfl⟩
  go_wp2_with fail
  refine (drawd a0 bs0.length cap0 w (by omega) HS.out).mono ?_
  rintro e w1 ⟨rs, x, cp, rfl, hm, ⟨hn1, hn6⟩, hk0, hrow, hb1⟩
  obtain ⟨z, hz⟩ : ∃ z, z = w1.alloc (.cells #[.slice x rs.length cp] 26) := ⟨_, rfl⟩
  have hbz : Below w1.heap.size w1 z := by subst hz; exact (Below.refl _ _).alloc (Nat.le_refl _) _
  have HX : Hid (CellsAt w1.heap.size [.slice x rs.length cp] z) := by subst hz; exact CellsAt.new w1 _ _
  have HBZ := Lib.hid (hb1.trans (hbz.mono hb1.size))
  have HRC := Lib.hid (hrow.at.below hbz)
  have hcp : rs.length ≤ cp := by
    obtain ⟨a, c, e, -, h2, -⟩ := hrow.rdc
    injection e with e1 e2 e3
    omega
  have HV := Lib.hid (made_valid hm (by omega))
  have HD := Lib.hid (made_descr hm hn1 (by omega))
  have HSH := Lib.hid (made_short hm)
  have HSP := Lib.hid (made_spelt hm (by omega))
  have HM := Lib.hid hm
  have HK0 := Lib.hid (limit0 HV.out hn1 (hk0 (by omega)))
  have hDs : w1.heap.size < z.heap.size := by subst hz; simp
  have hW := Lib.hid hz
  obtain ⟨D, hD⟩ : ∃ D, D = w1.heap.size := ⟨_, rfl⟩
  rw [← hD] at HX hDs
  have HDD := Lib.hid hD
  clear hz hbz hb1 hrow hm hk0 HS hD
  go_upto_region 4 with fail
  rw [← hW.out, ← HDD.out]
  clear hW HDD
  have hb : Hid (Below z.heap.size z z.drew) := below_drewN (Below.refl _ _) 1
  have hwr : IntKind.i64.wrap ((rs.length : Int) - 1) = (rs.length : Int) - 1 := IntWalk.i64_in _ (by omega)
  go_region_held3 (fun W => W.cell? ⟨D, 0, none⟩ = some (.slice x rs.length cp)) (exact (HX.out.below hb.out 0 _ rfl).1) (first | (go_at_call 9; refine (validd_impl x rs cp _ (by omega) HSH.out HSP.out (HRC.out.below hb.out)).mono ?_; rintro e y1 ⟨rfl, hb1⟩; rw [HD.out]; replace hb := Lib.hid (hb.out.trans (hb1.mono hb.out.size)); clear hb1) | (go_at_call 10; refine (root_impl x rs cp _ (by omega) (HRC.out.rd.below hb.out)).mono ?_; rintro e y2 ⟨rfl, hb1⟩; replace hb := Lib.hid (hb.out.trans (hb1.mono hb.out.size)); clear hb1))
  go_wp2
  go_loopw [4] (fun i W => ∃ k : Nat, k ≤ rs.length ∧ i = .int .i64 k ∧ Hid (Below z.heap.size z W)) (fun i _ => rs.length - (intOf i).toNat)
  case atStart => exact ⟨0, Nat.zero_le _, rfl, hb⟩
  case round =>
    clear hb
    obtain ⟨k, hk, rfl, hb⟩ := hrel
    have k0 : (0 : Int) ≤ (k : Int) := by omega
    have hx := (HX.out.below hb.out 0 _ rfl).1
    by_cases hlt : k < rs.length
    · have k1 : (k : Int) < (rs.length : Int) := by omega
      have kc : (k : Int) + 1 ≤ (cp : Int) := by omega
      obtain ⟨b0, off, a4, c4, a5, c5, a6, c6, a7, c7, rfl, ⟨d0, -⟩, -⟩ := (HRC.out.rd.below hb.out).at k hlt
      obtain ⟨z2, hz2⟩ : ∃ z2, z2 = wr.alloc (.cells #[.slice (some ⟨b0, off, none⟩) (k + 1) cp] 26) := ⟨_, rfl⟩
      have hbz2 : Below wr.heap.size wr z2 := by subst hz2; exact (Below.refl _ _).alloc (Nat.le_refl _) _
      have HE : Hid (CellsAt wr.heap.size [.slice (some ⟨b0, off, none⟩) (k + 1) cp] z2.drew) := by subst hz2; exact (CellsAt.new wr _ _).below (below_drewN (Below.refl _ _) 1)
      have hdn := Lib.hid (cell_keep hbz2 d0)
      replace hb := Lib.hid (below_drewN (hb.out.trans (hbz2.mono hb.out.size)) 1)
      obtain ⟨nm, hnm⟩ : ∃ nm, nm = rs[k].name := ⟨_, rfl⟩
      rw [← hnm] at hdn
      have HNM := Lib.hid hnm
      have hfq : Hid (findFrom nm rs 0 = (k : Int)) := by
        have h1 := HV.out k hlt
        rw [validAt_in hlt] at h1
        simp only [Bool.and_eq_true] at h1
        show _ = _
        rw [hnm]
        exact of_decide_eq_true h1.1
      obtain ⟨es, hes⟩ : ∃ es, es = rs.take (k + 1) := ⟨_, rfl⟩
      have hel : Hid (k + 1 = es.length) := by rw [hes, List.length_take]; exact (Nat.min_eq_left (by omega)).symm
      have hEM : MadeAll es := by rw [hes]; exact HM.out.take _
      have hel2 : es.length ≤ 6 := by rw [← hel.out]; omega
      have HED := Lib.hid (made_descr hEM (by rw [← hel.out]; omega) (by omega))
      have HEH := Lib.hid (made_short hEM)
      have HEP := Lib.hid (made_spelt hEM (by omega))
      have HER : Hid (RdC (some ⟨b0, off, none⟩) es z) := by rw [hes]; exact take_rdc HRC.out _
      have hvk := Lib.hid (HV.out k hlt)
      obtain ⟨E, hE⟩ : ∃ E, E = wr.heap.size := ⟨_, rfl⟩
      rw [← hE] at HE
      have HEE := Lib.hid hE
      have HZ2 := Lib.hid hz2
      replace hdn : Hid (z2.drew.cell? ⟨b0, off + k * 8, none⟩ = some (.string nm)) := hdn.out
      clear hes hEM hnm d0 hbz2 hE hz2
      go_upto_region 10 with fail
      rw [← HZ2.out, ← HEE.out]
      clear HZ2 HEE hx
      go_region_held3 (fun W => W.cell? ⟨D, 0, none⟩ = some (.slice (some ⟨b0, off, none⟩) rs.length cp) ∧ W.cell? ⟨E, 0, none⟩ = some (.slice (some ⟨b0, off, none⟩) (k + 1) cp) ∧ W.cell? ⟨b0, off + k * 8, none⟩ = some (.string nm)) (exact ⟨(HX.out.below hb.out 0 _ rfl).1, (HE.out 0 _ rfl).1, hdn.out⟩) (first | (go_at_call 9; refine (validd_n (k + 1) (some ⟨b0, off, none⟩) es cp _ hel.out (by omega) HEH.out HEP.out (HER.out.below hb.out)).mono ?_; rintro e y3 ⟨rfl, hb1⟩; rw [HED.out]; replace hb := Lib.hid (hb.out.trans (hb1.mono hb.out.size)); replace HE := Lib.hid (HE.out.below hb1); replace hdn := Lib.hid (cell_keep hb1 hdn.out); clear hb1) | (go_at_call 11; refine (validr_impl (some ⟨b0, off, none⟩) rs cp (k : Int) _ (by omega) HSH.out HSP.out (HRC.out.below hb.out)).mono ?_; rintro e y4 ⟨rfl, hb1⟩; rw [hvk.out]; replace hb := Lib.hid (hb.out.trans (hb1.mono hb.out.size)); replace HE := Lib.hid (HE.out.below hb1); replace hdn := Lib.hid (cell_keep hb1 hdn.out); clear hb1) | (go_at_call 12; refine (find_impl (some ⟨b0, off, none⟩) rs cp nm _ (by omega) (HRC.out.rd.below hb.out)).mono ?_; rintro e y5 ⟨rfl, hb1⟩; rw [hfq.out]; replace hb := Lib.hid (hb.out.trans (hb1.mono hb.out.size)); replace HE := Lib.hid (HE.out.below hb1); replace hdn := Lib.hid (cell_keep hb1 hdn.out); clear hb1))
      clear HE hdn HED HEH HEP HER hfq HNM hel hel2 hvk
      have hx := (HX.out.below hb.out 0 _ rfl).1
      go_wp2_with fail
      clear hx
      refine (copy_kid k (some ⟨b0, off, none⟩) rs cp _ hlt (by omega) HSH.out (HRC.out.rd.below hb.out)).mono ?_
      rintro e w6 ⟨N, rfl, hown, hb6, hfar⟩
      have hNlo : z.heap.size ≤ N ∧ N < w6.heap.size := by
        obtain ⟨_, _, _, hr, _⟩ := hown
        rcases hr with hr | ⟨b, o, e, h1, h2, _⟩
        · rw [hr] at hlt; simp at hlt
        · injection e with e
          injection e with e1 e2
          subst e1
          exact ⟨Nat.le_trans hb.out.size h1, h2⟩
      obtain ⟨z3, hz3⟩ : ∃ z3, z3 = w6.alloc (.cells #[.slice (some ⟨N, 0, none⟩) rs.length rs.length] 26) := ⟨_, rfl⟩
      have hbz3 : Below w6.heap.size w6 z3 := by subst hz3; exact (Below.refl _ _).alloc (Nat.le_refl _) _
      obtain ⟨F, hF⟩ : ∃ F, F = w6.heap.size := ⟨_, rfl⟩
      have HF : Hid (CellsAt F [.slice (some ⟨N, 0, none⟩) rs.length rs.length] z3) := by subst hz3 hF; exact CellsAt.new w6 _ _
      have HRN := Lib.hid (hown.rdc.below hbz3)
      obtain ⟨q, p, v7, g1, g0, g2, g3a, g4a, g5a, g6, g7a⟩ := hfar
      have g3 := (hbz3.cell (p := ⟨N, k * 8 + 7, none⟩) hNlo.2).trans g3a
      have g4 := (hbz3.frozen (p := ⟨N, k * 8 + 7, none⟩) hNlo.2).trans g4a
      have g5 := own_below g5a hbz3
      have g7 : ∀ j c, j < rs.length → c < 8 → ¬ (j = k ∧ c = 7) → ∀ v, z3.cell? ⟨N, j * 8 + c, none⟩ = some v → ∀ b ∈ sliceBlk v, N < b ∧ (b < q ∨ p ≤ b) := fun j c hj hc hne v hv => g7a j c hj hc hne v (by rw [← hv]; exact (hbz3.cell (p := ⟨N, j * 8 + c, none⟩) hNlo.2).symm)
      have hpF : p ≤ F := by omega
      have hqz : Hid (q ≤ z3.heap.size) := Nat.le_trans g0 (Nat.le_trans g2 hbz3.size)
      have G3 := Lib.hid g3
      have G4 := Lib.hid g4
      have G5 := Lib.hid g5
      have G6 := Lib.hid g6
      have G7 := Lib.hid g7
      replace hb := Lib.hid ((hb.out.trans (hb6.mono hb.out.size)).trans (hbz3.mono (Nat.le_trans hb.out.size hb6.size)))
      have hNF : N < F := by omega
      have hF3 : F < z3.heap.size := by subst hz3 hF; simp
      have hNz := hNlo.1
      have hx := (HX.out.below hb.out 0 _ rfl).1
      have hf := (HF.out 0 _ rfl).1
      have HZ3 := Lib.hid hz3
      have HFF := Lib.hid hF
      clear hown hNlo hbz3 hb6 hz3 hF g2 g3 g4 g5 g6 g7 g3a g4a g5a g7a
      go_upto_region 13 with fail
      rw [← HZ3.out, ← HFF.out]
      clear HZ3 HFF
      go_upto_region 15 with fail
      clear hx hf
      go_cut [] from 23 to 87 (fun W => Hid (RdC (some ⟨N, 0, none⟩) (rs.set k (moreKid rs[k] (k : Int))) W ∧ Below z.heap.size z W ∧ W.cell? ⟨F, 0, none⟩ = some (.slice (some ⟨N, 0, none⟩) rs.length rs.length)))
      case first =>
        have hkids : rs[k].kids.length ≤ 1048576 := (HSH.out _ (List.getElem_mem hlt)).2.2.2
        obtain ⟨ks, hks⟩ : ∃ ks, ks = rs[k].kids := ⟨_, rfl⟩
        rw [← hks] at G5 hkids
        have HKS := Lib.hid hks
        have hf0 := (HF.out 0 _ rfl).1
        have hf1 := (HF.out.below ((Below.refl z3.heap.size z3).alloc (Nat.le_refl _) (.cells #[.int .i64 (k : Int)] 3)) 0 _ rfl).1
        have o7 := G3.out
        have o7b := ((Below.refl z3.heap.size z3).alloc (Nat.le_refl _) (.cells #[.int .i64 (k : Int)] 3)).cell (p := ⟨N, k * 8 + 7, none⟩) (by show N < z3.heap.size; omega)
        rw [G3.out] at o7b
        clear hks
        go_region_law (first | (refine step_pushF (f := Value.int .i64) 33 3 (.int .i64 0) 8 Try.underlying33 infoInt rfl (by rfl) (.tmp 74) (.tmp 76) (by rfl) q v7 ks (k : Int) rfl z3.drew (by simp [Act.eval]) (by simp [Act.eval]) G5.out (by unfold maxLen; omega) (by omega) hqz.out ?_; intro v' w7 hown hg hblk; obtain ⟨x', c', rfl, -⟩ := own_row (f := Value.int .i64) hown; have HV7 := Lib.hid hown; have HG7 := Lib.hid (show z3.grownBy w7 v7.ownBlock from ⟨hg.os, hg.tape, hg.output, hg.size, hg.block⟩); obtain ⟨o7e, p7e⟩ := keep_cell (N := N) (o := k * 8 + 7) hg (fun e => by have := (World.ownsRow.lt G5.out N e.symm).1; omega) G3.out G4.out; obtain ⟨f7e, -⟩ := keep_cell (N := F) (o := 0) hg (fun e => by have := (World.ownsRow.lt G5.out F e.symm).1; have := G6.out F e.symm; omega) (HF.out 0 _ rfl).1 (HF.out 0 _ rfl).2; clear hown hg hblk))
        all_goals (go_wp2_with fail; go_meet; exact ⟨kid_pushed hlt HRN.out g1 G3.out (by rw [← HKS.out]; exact G5.out) G6.out G7.out (by rw [← HKS.out]; have h := HV7.out; rw [show (ks ++ [(k : Int)]).length = ks.length + 1 from by simp] at h ⊢; exact h) HG7.out, (hb.out.grown HG7.out hb.out.size (fun g e => by have := (World.ownsRow.lt G5.out g e).1; omega)).setCell (p := ⟨N, k * 8 + 7, none⟩) hNz _, (World.cell?_setCell_other _ _ _ _ (fun he => by have h1 := congrArg Addr.block he; simp at h1; omega)).trans f7e⟩)
      case rest =>
        clear hb HF HRN G3 G4 G5 G6 G7 g0 hqz
        obtain ⟨hrn, hb0, hf⟩ := hcut.out
        clear hcut
        have hb := Lib.hid hb0
        have HRN := Lib.hid hrn
        have hkl : rs[k].kids.length ≤ 9 := fields_le' (HV.out k hlt) hlt
        obtain ⟨bs, hbs⟩ : ∃ bs, bs = rs.set k (moreKid rs[k] (k : Int)) := ⟨_, rfl⟩
        have hbl : Hid (rs.length = bs.length) := by show _ = _; rw [hbs]; simp
        have HBV : Hid (validAt (kindI bs) bs (k : Int) = false) := by show _ = _; rw [hbs]; exact more_invalid hlt
        have HBO : Hid (sameD bs rs = false) := by show _ = _; rw [hbs]; exact more_other hlt
        have HBS : Hid (∀ r ∈ bs, Short r) := by rw [hbs]; exact more_all hlt HSH.out (more_short (HSH.out _ (List.getElem_mem hlt)) hkl)
        have HBP : Hid (∀ r ∈ bs, Spelt r) := by rw [hbs]; exact more_all hlt HSP.out (show Spelt (moreKid rs[k] (k : Int)) from HSP.out rs[k] (List.getElem_mem hlt))
        rw [← hbs] at HRN
        have hbn : bs.length ≤ 1048576 := by rw [← hbl.out]; omega
        clear hrn hb0 hbs hkl
        go_wp2_with fail
        refine (validr_n rs.length (some ⟨N, 0, none⟩) bs rs.length (k : Int) _ hbl.out hbn HBS.out HBP.out HRN.out).mono ?_
        rintro e v1 ⟨rfl, hb1⟩
        rw [HBV.out]
        replace HRN := Lib.hid (HRN.out.below hb1)
        replace hf := cell_keep hb1 hf
        replace hb := Lib.hid (hb.out.trans (hb1.mono hb.out.size))
        have hx := (HX.out.below hb.out 0 _ rfl).1
        clear hb1
        go_wp2_with fail
        refine (eqd_n rs.length (some ⟨N, 0, none⟩) (some ⟨b0, off, none⟩) bs rs rs.length cp _ hbl.out hbn (by omega) HBS.out HSH.out HRN.out.rd (HRC.out.rd.below hb.out)).mono ?_
        rintro e v2 ⟨rfl, hb1⟩
        rw [HBO.out]
        replace hb := Lib.hid (hb.out.trans (hb1.mono hb.out.size))
        clear hb1 hx hf
        go_wp2
        go_roundw
        all_goals first | exact ⟨k + 1, by omega, by go_num, hb⟩ | (simp [intOf]; omega)
    · have k1 : ¬ (k : Int) < (rs.length : Int) := by omega
      have hlim := HK0.out
      have g255 : decide ((255 : Int) ≤ limitAt rs 0) = true := decide_eq_true hlim
      have hss : Hid (sameD rs rs = true) := (sameD_iff rs rs).2 rfl
      obtain ⟨lm, hlm⟩ : ∃ lm, lm = limitAt rs 0 := ⟨_, rfl⟩
      rw [← hlm] at g255 hlim
      have HLM := Lib.hid hlm
      clear hlm
      go_upto_region 18 with fail
      clear hx
      replace hb : Hid (Below z.heap.size z wr.drew) := below_drewN hb.out 1
      go_region_held3 (fun W => W.cell? ⟨D, 0, none⟩ = some (.slice x rs.length cp)) (exact (HX.out.below hb.out 0 _ rfl).1) (first | (go_at_call 13; refine (copy_impl x rs cp _ (by omega) HSH.out (HRC.out.rd.below hb.out)).mono ?_; rintro e y6 ⟨xc, yc, rfl, hoc, hb1⟩; have HOC := Lib.hid hoc.rd; replace hb := Lib.hid (hb.out.trans (hb1.mono hb.out.size)); clear hb1 hoc) | (go_at_call 14; refine (eqd_impl xc x rs rs yc cp _ (by omega) (by omega) HSH.out HSH.out HOC.out (HRC.out.rd.below hb.out)).mono ?_; rintro e y7 ⟨rfl, hb1⟩; rw [hss.out]; replace hb := Lib.hid (hb.out.trans (hb1.mono hb.out.size)); clear hb1) | (go_at_call 15; refine (limit_impl x rs cp 0 _ (by omega) (HRC.out.rd.below hb.out)).mono ?_; rintro e y8 ⟨rfl, hb1⟩; rw [← HLM.out]; replace hb := Lib.hid (hb.out.trans (hb1.mono hb.out.size)); clear hb1))
      go_wp2
      go_ret
      exact ⟨rfl, HBZ.out.trans (hb.out.mono HBZ.out.size)⟩
theorem walk (a0 : Option Addr) (bs0 : List UInt8) (cap0 : Nat) (w : World) (r0 : Arg a0 bs0 cap0 w) :
    Calls Try.prog 3 #[.slice a0 bs0.length cap0] w fun e w' => e = .returned (.bool true) ∧ Below w.heap.size w w' := by
  by_cases h0 : 1048576 < bs0.length
  · exact walk_long a0 bs0 cap0 w h0 (by have q1 := r0.2.1; have q2 := r0.2.2.2; omega)
  · exact walk_short a0 bs0 cap0 w (by omega) r0.code
set_option maxRecDepth 100000 in
theorem lifted (os : Os) (started : os.Started) (H : Type) (enc : TypeId × Value → H) :
    ReturnsInHanded {} Try.checked os 3 .any (Rows.fnDescriptionsSpec.pre6 enc Try.prog Try.f3 Rows.fnDescriptionsRow.domain false) (Rows.fnDescriptionsSpec.post enc Try.prog Try.f3 false true false false) := by
  refine returnsInHanded_of_change (C := Try.checked) own started (by kernel_rfl) Try.func3
    (ChangeSpec.witness6 (enc := enc) (C := Try.checked) false ⟨#[], #[.slice none 0 0], []⟩ 8 (by kernel_rfl) (by kernel_rfl) (by kernel_rfl) (by kernel_rfl)) ?_
  intro W base args ds gs before hval0 hW hcnd _
  have hval : ∀ (j : Nat) t v, Try.f3.params[j]? = some t → args[j]? = some v → Value.okWide Try.prog W .any base t v := hval0
  have hW' := hW
  obtain ⟨p, q, hA0, hV, rfl, hfz, hnd⟩ := hW
  have hA : DataW.TrodAll enc Try.prog W 0 (fun _ => true) true Try.f3.params.toList args.toList ds p := hA0
  rw [Try.params3] at hA hval
  obtain ⟨v0, vs0, d0, ds0, p0, q0, hargs, rfl, rfl, h0, r0⟩ := trodAll_cons hA
  obtain ⟨rfl, rfl, rfl⟩ := trodAll_nil r0
  obtain rfl : args = #[v0] := by cases args; simp_all
  obtain ⟨rfl, rfl⟩ := trodVars_none hV
  simp only [List.append_nil] at hW'
  have hlt : ∀ x ∈ p0, x.block < W.heap.size := fun x hx => hW'.lt x (by simpa using hx)
  obtain ⟨a0, len0, cap0, rfl⟩ := okWide_slice Try.underlying22 (hval 0 22 v0 rfl rfl)
  obtain ⟨bs0, rfl, hb0⟩ := bytes_arg h0
  have m0 : ∀ (W' : World), Below W.heap.size W W' → DataW.Trod enc Try.prog W' 0 (fun b => decide (b < W.heap.size)) true 22 (.slice a0 bs0.length cap0) d0 p0 := fun W' hn => Below.trod laidOut (by kernel_rfl) (of_decide_eq_true (by kernel_rfl)) h0 hn (fun x hx => hlt x (by simp [hx]))
  clear hA0 hval0
  refine (walk a0 bs0 cap0 W hb0).mono fun e W' ⟨he, hb⟩ => ?_
  subst he
  exact ⟨_, rfl, _, _, _, [], _, [], hW', trodAll_cons_mk (shut_bool Try.underlying4 _) trodAll_mk0, (trodAll_cons_mk (m0 _ hb) trodAll_mk0), rfl, hb.frame _, fun h => by cases h⟩
theorem over : Rows.fnDescriptionsRow.holds Try.pinned (OpenSpec.ofChange Rows.fnDescriptionsSpec) :=
  OpenClaim.holds_of_wide 3 Try.f3 rfl rfl rfl rfl rfl rfl rfl ⟨rfl, rfl, rfl, rfl, rfl⟩ rfl rfl rfl rfl rfl (by kernel_rfl) Try.func3 (by kernel_rfl)
    (of_decide_eq_true (by kernel_rfl)) (by unfold Func.isWrapper; first | (rw [if_pos (by decide +kernel)]; kernel_rfl) | (rw [if_neg (by decide +kernel)]; exact ⟨rfl, rfl⟩))
    (fun os started H enc _ => lifted os started H enc)
/-- THE STATEMENT -/
theorem proved : Rows.FnDescriptionsSaid := over
end fnDescriptions
#print axioms fnDescriptions.proved
end Go.Proofs.Ytkegjgfggijinaa
