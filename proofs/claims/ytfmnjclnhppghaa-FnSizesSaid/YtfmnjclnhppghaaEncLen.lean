/- The contract of the model's EncodedLength. -/
import Derived.Test.YtfmnjclnhppghaaPrintV
namespace Go.Proofs.Ytfmnjclnhppghaa
open Go Go.RowKit
noncomputable def lenV (rs : List RuleV) (k : Int) (v : ValueV) : Int := if printB rs k v = true then (plen rs k v : Int) else -1
set_option maxRecDepth 100000 in
set_option maxHeartbeats 4000000 in
theorem elen_spec (a : Option Addr) (rs : List RuleV) (cap n : Nat) (k : Int) (v : ValueV) (vs : List Value) (w : World) (hl : rs.length ≤ 1048576) (hs : ∀ r ∈ rs, Short r) (hp : ∀ r ∈ rs, Spelt r) (h : RdC a rs w) (hv : IsVal n v vs w) (hpl : plen rs k v ≤ 1099511627776) :
  Calls Try.prog 25 #[.agg #[.slice a rs.length cap], .int .i64 k, .agg vs.toArray] w fun e w' => e = .returned (.int .i64 (lenV rs k v)) ∧ Below w.heap.size w w' := by
 obtain ⟨ab, cb, ai, ci, rfl⟩ := hv.cells
 obtain ⟨w0, hw0⟩ : ∃ w0, w0 = (w.alloc (.cells #[.slice a rs.length cap] 35)).alloc (.cells #[.int .i64 v.number, .slice ab v.bytes.length cb, .slice ai v.items.length ci] 39) := ⟨_, rfl⟩
 have hB : Below w.heap.size w w0 := by subst hw0; exact ((Below.refl _ _).alloc (Nat.le_refl _) _).alloc (by simp) _
 have hD : CellsAt w.heap.size [.slice a rs.length cap] w0 := by subst hw0; exact (CellsAt.new w _ _).below ((Below.refl _ _).alloc (Nat.le_refl _) _)
 have hVC : CellsAt (w.heap.size + 1) [.int .i64 v.number, .slice ab v.bytes.length cb, .slice ai v.items.length ci] w0 := by subst hw0; have h1 := CellsAt.new (w.alloc (.cells #[.slice a rs.length cap] 35)) [.int .i64 v.number, .slice ab v.bytes.length cb, .slice ai v.items.length ci] 39; rw [World.size_alloc] at h1; exact h1
 have HCL := Lib.hid (printv_spec a rs cap n k v _ w0 hl hs hp (h.below hB) (hv.below hB) hpl)
 have HB := Lib.hid hB
 have hW := Lib.hid hw0
 have bx := (hD 0 _ rfl).1
 have z0 := (hVC 0 _ rfl).1
 have z1 := (hVC 1 _ rfl).1
 have z2 := (hVC 2 _ rfl).1
 obtain ⟨L, hL⟩ : ∃ L, L = plen rs k v := ⟨_, rfl⟩
 obtain ⟨pb, hpb⟩ : ∃ b, b = printB rs k v := ⟨_, rfl⟩
 obtain ⟨x, hx⟩ : ∃ x, x = lenV rs k v := ⟨_, rfl⟩
 have HX : Hid (x = if pb = true then (L : Int) else -1) := by show _ = _; rw [hx, hpb, hL]; rfl
 rw [← hpb, ← hL] at HCL
 rw [← hx]
 clear h hv hB hD hVC hs hp hw0 hpb hL hpl hx
 go_enter Try.func25, Try.ntmps25
 go_upto_region 1 with fail
 rw [← hW.out]
 clear hW
 go_wp2_with fail
 refine HCL.out.mono ?_
 rintro e w1 ⟨az, len, cz, rfl, hok, hb1⟩
 replace HB := Lib.hid (HB.out.trans (hb1.mono HB.out.size))
 clear hb1 bx z0 z1 z2 HCL
 cases pb with
 | false =>
  obtain rfl : x = -1 := HX.out
  clear hok
  go_wp2
  go_ret
  exact ⟨rfl, HB.out⟩
 | true =>
  obtain rfl := hok rfl
  obtain rfl : x = (len : Int) := HX.out
  clear hok
  go_wp2
  go_ret
  exact ⟨rfl, HB.out⟩
end Go.Proofs.Ytfmnjclnhppghaa
