/- The contracts of the model's PrintValue and PrintFile, with the bytes. -/
import Derived.Test.YtekmopoblfknlaaPrintE
import Derived.Test.YtekmopoblfknlaaGEnd
import Derived.Test.YtekmopoblfknlaaGNam
import Derived.Deep.RegionHeld3
import Derived.Test.YtekmopoblfknlaaValidI
namespace Go.Proofs.Ytekmopoblfknlaa
open Go Go.RowKit
/-- Whether a value is printed. -/
noncomputable def printB (rs : List RuleV) (k : Int) (v : ValueV) : Bool := fitsV rs k v && decide (plen rs k v ≤ 400)
def PvE (ok : Bool) (E : List UInt8) (w : World) (e : Ending) (w' : World) : Prop := ∃ az bs cz, e = .returned (.tuple #[.slice az bs.length cz, .bool ok]) ∧ bs = (if ok = true then E else []) ∧ Row w.heap.size az bs cz w' ∧ Below w.heap.size w w'
theorem pve_none {w w1 : World} {E : List UInt8} (hb : Below w.heap.size w w1) : PvE false E w (.returned (.tuple #[.slice (some ⟨w1.heap.size, 0, none⟩) 0 0, .bool false])) (w1.alloc (.cells #[] 5)) := by
  obtain ⟨a, cap, he, hr, hb2⟩ := bytesOut_below hb (empty_out w1)
  injection he with he
  injection he with h1 h2 h3
  subst h1
  subst h3
  exact ⟨_, [], _, rfl, rfl, hr, hb2⟩
set_option maxRecDepth 100000 in
set_option maxHeartbeats 4000000 in
theorem printve_spec (a : Option Addr) (rs : List RuleV) (cap n : Nat) (k : Int) (v : ValueV) (vs : List Value) (w : World) (hl : rs.length ≤ 1048576) (hs : ∀ r ∈ rs, Short r) (hp : ∀ r ∈ rs, Spelt r) (h : RdC a rs w) (hv : IsVal n v vs w) (hpl : plen rs k v ≤ 1099511627776) :
    Calls Try.prog 38 #[.agg #[.slice a rs.length cap], .int .i64 k, .agg vs.toArray] w (PvE (printB rs k v) (encV rs k v) w) := by
  obtain ⟨ab, cb, ai, ci, rfl⟩ := hv.cells
  obtain ⟨w0, hw0⟩ : ∃ w0, w0 = (w.alloc (.cells #[.slice a rs.length cap] 26)).alloc (.cells #[.int .i64 v.number, .slice ab v.bytes.length cb, .slice ai v.items.length ci] 29) := ⟨_, rfl⟩
  have hB : Below w.heap.size w w0 := by subst hw0; exact ((Below.refl _ _).alloc (Nat.le_refl _) _).alloc (by simp) _
  have hD : CellsAt w.heap.size [.slice a rs.length cap] w0 := by subst hw0; exact (CellsAt.new w _ _).below ((Below.refl _ _).alloc (Nat.le_refl _) _)
  have hVC : CellsAt (w.heap.size + 1) [.int .i64 v.number, .slice ab v.bytes.length cb, .slice ai v.items.length ci] w0 := by subst hw0; have h1 := CellsAt.new (w.alloc (.cells #[.slice a rs.length cap] 26)) [.int .i64 v.number, .slice ab v.bytes.length cb, .slice ai v.items.length ci] 29; rw [World.size_alloc] at h1; exact h1
  have HC := Lib.hid (h.below hB)
  have HV := Lib.hid (hv.below hB)
  have HD := Lib.hid hD
  have HVC := Lib.hid hVC
  have HB := Lib.hid hB
  have HS := Lib.hid hs
  have HP := Lib.hid hp
  have hW := Lib.hid hw0
  have HPL := Lib.hid hpl
  have bx := (hD 0 _ rfl).1
  have z0 := (hVC 0 _ rfl).1
  have z1 := (hVC 1 _ rfl).1
  have z2 := (hVC 2 _ rfl).1
  obtain ⟨L, hL⟩ : ∃ L, L = plen rs k v := ⟨_, rfl⟩
  obtain ⟨E, hE⟩ : ∃ E, E = encV rs k v := ⟨_, rfl⟩
  obtain ⟨fb, hfb⟩ : ∃ b, b = fitsV rs k v := ⟨_, rfl⟩
  obtain ⟨pb, hpb⟩ : ∃ b, b = printB rs k v := ⟨_, rfl⟩
  have HPB : Hid (pb = (fb && decide (L ≤ 400))) := by show _ = _; rw [hpb, hfb, hL]; rfl
  rw [← hpb, ← hE]
  have HE := Lib.hid hE
  have HF := Lib.hid hfb
  have HL := Lib.hid hL
  clear h hv hB hD hVC hs hp hw0 hfb hpb hL hE hpl
  go_enter Try.func38, Try.ntmps38
  go_upto_region 1 with fail
  rw [← hW.out]
  clear hW
  go_wp2_with fail
  refine (fits_spec a rs cap n k v _ _ hl HS.out HP.out HC.out HV.out).mono ?_
  rintro e w1 ⟨rfl, hb1⟩
  rw [← HF.out]
  replace HD := Lib.hid (HD.out.below hb1)
  replace HVC := Lib.hid (HVC.out.below hb1)
  replace HC := Lib.hid (HC.out.below hb1)
  replace HV := Lib.hid (HV.out.below hb1)
  replace HB := Lib.hid (HB.out.trans (hb1.mono HB.out.size))
  clear hb1 bx z0 z1 z2
  cases fb with
  | false =>
    obtain rfl : pb = false := HPB.out
    go_wp2
    go_ret2
    exact pve_none HB.out
  | true =>
    have hok : okAt rs k = true := by have h1 := HF.out.symm; unfold fitsV at h1; rw [Bool.and_eq_true] at h1; exact h1.1
    have hva : validV rs k v = true := by have h1 := HF.out.symm; unfold fitsV at h1; rw [Bool.and_eq_true] at h1; exact h1.2
    obtain ⟨⟨k0, k1⟩, hn, hall⟩ := okAt_yes hok
    obtain ⟨m, rfl⟩ : ∃ m : Nat, k = (m : Int) := ⟨k.toNat, by omega⟩
    have hm : m < rs.length := by omega
    have bx := (HD.out 0 _ rfl).1
    have z0 := (HVC.out 0 _ rfl).1
    have z1 := (HVC.out 1 _ rfl).1
    have z2 := (HVC.out 2 _ rfl).1
    have HCL := Lib.hid (printe_spec a rs cap hl hall n v _ m w1 hm HC.out.rd HV.out hva HPL.out)
    rw [← HE.out] at HCL
    have hel : E.length = L := by rw [HE.out, HL.out]; exact encV_length hall m hm v hva
    have HEL := Lib.hid hel
    clear hel
    clear hok hva hn hall HF
    go_wp2_with fail
    refine HCL.out.mono ?_
    rintro e w2 ⟨z, rfl, ho, hb2⟩
    obtain ⟨az, cz, rfl, hrow⟩ := ho.row
    have HRW := Lib.hid (hrow.more HB.out.size)
    replace HB := Lib.hid (HB.out.trans (hb2.mono HB.out.size))
    clear ho hb2 hrow HCL
    by_cases hle : L ≤ 400
    · obtain rfl : pb = true := by rw [HPB.out, decide_eq_true hle]; rfl
      have g1 : ¬ (400 : Int) < (E.length : Int) := by have := HEL.out; omega
      go_wp2
      go_ret2
      exact ⟨_, E, _, rfl, rfl, HRW.out, HB.out⟩
    · obtain rfl : pb = false := by rw [HPB.out, decide_eq_false hle]; rfl
      have g1 : (400 : Int) < (E.length : Int) := by have := HEL.out; omega
      go_wp2
      go_ret2
      exact pve_none HB.out
set_option maxRecDepth 100000 in
set_option maxHeartbeats 4000000 in
theorem printf_spec (a : Option Addr) (rs : List RuleV) (cap n : Nat) (v : ValueV) (vs : List Value) (w : World) (hl : rs.length ≤ 1048576) (hs : ∀ r ∈ rs, Short r) (hp : ∀ r ∈ rs, Spelt r) (h : RdC a rs w) (hv : IsVal n v vs w) (hpl : plen rs ((rs.length : Int) - 1) v ≤ 1099511627776) :
    Calls Try.prog 12 #[.agg #[.slice a rs.length cap], .agg vs.toArray] w (PvE (printB rs ((rs.length : Int) - 1) v) (encV rs ((rs.length : Int) - 1) v) w) := by
  have hiv := hv
  obtain ⟨ab, cb, ai, ci, rfl⟩ := hv.cells
  obtain ⟨w0, hw0⟩ : ∃ w0, w0 = (w.alloc (.cells #[.slice a rs.length cap] 26)).alloc (.cells #[.int .i64 v.number, .slice ab v.bytes.length cb, .slice ai v.items.length ci] 29) := ⟨_, rfl⟩
  have hB : Below w.heap.size w w0 := by subst hw0; exact ((Below.refl _ _).alloc (Nat.le_refl _) _).alloc (by simp) _
  have hD : CellsAt w.heap.size [.slice a rs.length cap] w0 := by subst hw0; exact (CellsAt.new w _ _).below ((Below.refl _ _).alloc (Nat.le_refl _) _)
  have hVC : CellsAt (w.heap.size + 1) [.int .i64 v.number, .slice ab v.bytes.length cb, .slice ai v.items.length ci] w0 := by subst hw0; have h1 := CellsAt.new (w.alloc (.cells #[.slice a rs.length cap] 26)) [.int .i64 v.number, .slice ab v.bytes.length cb, .slice ai v.items.length ci] 29; rw [World.size_alloc] at h1; exact h1
  have hbd : Below w0.heap.size w0 w0.drew := below_drewN (Below.refl _ _) 1
  have HD := Lib.hid (hD.below hbd)
  have HVC := Lib.hid (hVC.below hbd)
  have HB := Lib.hid (hB.trans (hbd.mono hB.size))
  have HCW := Lib.hid h
  have hW := Lib.hid hw0
  obtain ⟨k, hk⟩ : ∃ k, k = (rs.length : Int) - 1 := ⟨_, rfl⟩
  obtain ⟨E, hE⟩ : ∃ E, E = encV rs k v := ⟨_, rfl⟩
  obtain ⟨pb, hpb⟩ : ∃ b, b = printB rs k v := ⟨_, rfl⟩
  have HCL : Hid (∀ W, Below w.heap.size w W → Calls Try.prog 38 #[.agg #[.slice a rs.length cap], .int .i64 k, .agg #[.int .i64 v.number, .slice ab v.bytes.length cb, .slice ai v.items.length ci]] W (PvE pb E W)) := fun W hW => by rw [hE, hpb]; exact printve_spec a rs cap n k v _ W hl hs hp (h.below hW) (hiv.below hW) (by rw [hk]; exact hpl)
  have HRO : Hid (∀ W, Below w.heap.size w W → Calls Try.prog 39 #[.agg #[.slice a rs.length cap]] W fun e w' => e = .returned (.int .i64 k) ∧ Below W.heap.size W w') := fun W hW => by rw [hk]; exact root_spec a rs cap W (by omega) (h.below hW).rd
  rw [← hk, ← hE, ← hpb]
  clear h hv hiv hB hD hVC hbd hs hp hw0 hE hpb hpl hk
  go_enter Try.func12, Try.ntmps12
  go_upto_region 1 with fail
  rw [← hW.out]
  clear hW
  go_region_held3 (fun W => W.cell? ⟨w.heap.size, 0, none⟩ = some (.slice a rs.length cap) ∧ W.cell? ⟨w.heap.size + 1, 0, none⟩ = some (.int .i64 v.number) ∧ W.cell? ⟨w.heap.size + 1, 1, none⟩ = some (.slice ab v.bytes.length cb) ∧ W.cell? ⟨w.heap.size + 1, 2, none⟩ = some (.slice ai v.items.length ci)) (exact ⟨(HD.out 0 _ rfl).1, (HVC.out 0 _ rfl).1, (HVC.out 1 _ rfl).1, (HVC.out 2 _ rfl).1⟩) (first | (go_at_call 39; refine (HRO.out _ HB.out).mono ?_; rintro e w3 ⟨rfl, hb3⟩; replace HD := Lib.hid (HD.out.below hb3); replace HVC := Lib.hid (HVC.out.below hb3); replace HB := Lib.hid (HB.out.trans (hb3.mono HB.out.size)); clear hb3) | (go_at_call 38; refine (HCL.out _ HB.out).mono ?_; rintro e w4 ⟨az, bs, cz, rfl, hbs, hrow, hb4⟩; have HRW := Lib.hid (hrow.more HB.out.size); have HBS := Lib.hid hbs; replace HD := Lib.hid (HD.out.below hb4); replace HVC := Lib.hid (HVC.out.below hb4); replace HB := Lib.hid (HB.out.trans (hb4.mono HB.out.size)); clear hb4 hrow hbs))
  all_goals (go_wp2; go_ret2; exact ⟨az, bs, cz, rfl, HBS.out, HRW.out, HB.out⟩)
end Go.Proofs.Ytekmopoblfknlaa
