/- The contracts of the model's PrintValue and EncodedLength. -/
import Derived.Test.YtfmnjclnhppghaaQW
import Derived.Test.YtfmnjclnhppghaaPrint
namespace Go.Proofs.Ytfmnjclnhppghaa
open Go Go.RowKit
def PvOut (ok : Bool) (L : Nat) (w : World) (e : Ending) (w' : World) : Prop := ∃ az n cz, e = .returned (.tuple #[.slice az n cz, .bool ok]) ∧ (ok = true → n = L) ∧ Below w.heap.size w w'
set_option maxRecDepth 100000 in
set_option maxHeartbeats 4000000 in
theorem printv_spec (a : Option Addr) (rs : List RuleV) (cap n : Nat) (k : Int) (v : ValueV) (vs : List Value) (w : World) (hl : rs.length ≤ 1048576) (hs : ∀ r ∈ rs, Short r) (hp : ∀ r ∈ rs, Spelt r) (h : RdC a rs w) (hv : IsVal n v vs w) (hpl : plen rs k v ≤ 1099511627776) :
  Calls Try.prog 14 #[.agg #[.slice a rs.length cap], .int .i64 k, .agg vs.toArray] w (PvOut (printB rs k v) (plen rs k v) w) := by
 obtain ⟨ab, cb, ai, ci, rfl⟩ := hv.cells
 obtain ⟨w0, hw0⟩ : ∃ w0, w0 = (w.alloc (.cells #[.slice a rs.length cap] 35)).alloc (.cells #[.int .i64 v.number, .slice ab v.bytes.length cb, .slice ai v.items.length ci] 39) := ⟨_, rfl⟩
 have hB : Below w.heap.size w w0 := by subst hw0; exact ((Below.refl _ _).alloc (Nat.le_refl _) _).alloc (by simp) _
 have hD : CellsAt w.heap.size [.slice a rs.length cap] w0 := by subst hw0; exact (CellsAt.new w _ _).below ((Below.refl _ _).alloc (Nat.le_refl _) _)
 have hVC : CellsAt (w.heap.size + 1) [.int .i64 v.number, .slice ab v.bytes.length cb, .slice ai v.items.length ci] w0 := by subst hw0; have h1 := CellsAt.new (w.alloc (.cells #[.slice a rs.length cap] 35)) [.int .i64 v.number, .slice ab v.bytes.length cb, .slice ai v.items.length ci] 39; rw [World.size_alloc] at h1; exact h1
 have HC := Lib.hid (h.below hB)
 have HV := Lib.hid (hv.below hB)
 have HD := Lib.hid hD
 have HVC := Lib.hid hVC
 have HB := Lib.hid hB
 have HS := Lib.hid hs
 have HP := Lib.hid hp
 have hW := Lib.hid hw0
 have HPL := Lib.hid hpl
 have bx := (hD 0 _ rfl).1
 have z0 := (hVC 0 _ rfl).1
 have z1 := (hVC 1 _ rfl).1
 have z2 := (hVC 2 _ rfl).1
 obtain ⟨L, hL⟩ : ∃ L, L = plen rs k v := ⟨_, rfl⟩
 obtain ⟨fb, hfb⟩ : ∃ b, b = fitsV rs k v := ⟨_, rfl⟩
 obtain ⟨pb, hpb⟩ : ∃ b, b = printB rs k v := ⟨_, rfl⟩
 have HPB : Hid (pb = (fb && decide (L ≤ 400))) := by show _ = _; rw [hpb, hfb, hL]; rfl
 rw [← hpb, ← hL]
 have HF := Lib.hid hfb
 have HL := Lib.hid hL
 clear h hv hB hD hVC hs hp hw0 hfb hpb hL hpl
 go_enter Try.func14, Try.ntmps14
 go_upto_region 1 with fail
 rw [← hW.out]
 clear hW
 go_wp2_with fail
 refine (fits_spec a rs cap n k v _ _ hl HS.out HP.out HC.out HV.out).mono ?_
 rintro e w1 ⟨rfl, hb1⟩
 rw [← HF.out]
 replace HD := Lib.hid (HD.out.below hb1)
 replace HVC := Lib.hid (HVC.out.below hb1)
 replace HC := Lib.hid (HC.out.below hb1)
 replace HV := Lib.hid (HV.out.below hb1)
 replace HB := Lib.hid (HB.out.trans (hb1.mono HB.out.size))
 clear hb1 bx z0 z1 z2
 cases fb with
 | false =>
  obtain rfl : pb = false := HPB.out
  go_wp2
  go_ret2
  exact ⟨_, _, _, rfl, fun e => (by cases e), HB.out.alloc HB.out.size _⟩
 | true =>
  have hok : okAt rs k = true := by have h1 := HF.out.symm; unfold fitsV at h1; rw [Bool.and_eq_true] at h1; exact h1.1
  have hva : validV rs k v = true := by have h1 := HF.out.symm; unfold fitsV at h1; rw [Bool.and_eq_true] at h1; exact h1.2
  obtain ⟨⟨k0, k1⟩, hn, hall⟩ := okAt_yes hok
  obtain ⟨m, rfl⟩ : ∃ m : Nat, k = (m : Int) := ⟨k.toNat, by omega⟩
  have hm : m < rs.length := by omega
  have bx := (HD.out 0 _ rfl).1
  have z0 := (HVC.out 0 _ rfl).1
  have z1 := (HVC.out 1 _ rfl).1
  have z2 := (HVC.out 2 _ rfl).1
  have HCL := Lib.hid (print_spec a rs cap hl hall n v _ m w1 hm HC.out.rd HV.out hva HPL.out)
  rw [← HL.out] at HCL
  clear hok hva hn hall HF
  go_wp2_with fail
  refine HCL.out.mono ?_
  rintro e w2 ⟨z, bs, rfl, hbl, ho, hb2⟩
  obtain ⟨az, cz, rfl, -⟩ := ho.row
  rw [hbl]
  replace HB := Lib.hid (HB.out.trans (hb2.mono HB.out.size))
  clear ho hb2 hbl HCL
  by_cases hle : L ≤ 400
  ·obtain rfl : pb = true := by rw [HPB.out, decide_eq_true hle]; rfl
   have g1 : ¬ (400 : Int) < (L : Int) := by omega
   go_wp2
   go_ret2
   exact ⟨_, _, _, rfl, fun _ => rfl, HB.out⟩
  ·obtain rfl : pb = false := by rw [HPB.out, decide_eq_false hle]; rfl
   have g1 : (400 : Int) < (L : Int) := by omega
   go_wp2
   go_ret2
   exact ⟨_, _, _, rfl, fun e => (by cases e), HB.out.alloc HB.out.size _⟩
end Go.Proofs.Ytfmnjclnhppghaa
