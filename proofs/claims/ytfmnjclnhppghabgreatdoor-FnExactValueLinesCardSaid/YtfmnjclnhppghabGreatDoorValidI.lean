/- The contract of the model's IsValidValue. -/
import Derived.Test.YtfmnjclnhppghabGreatDoorValidV
namespace Go.Proofs.YtfmnjclnhppghabGreatDoor
open Go Go.RowKit
/-- Whether a value is one of a rule of a valid description. -/
noncomputable def fitsV (rs : List RuleV) (k : Int) (v : ValueV) : Bool := okAt rs k && validV rs k v
theorem RdC.rdr {a : Option Addr} {rs : List RuleV} {w : World} (h : RdC a rs w) : RdR a rs w := h.rd
set_option maxRecDepth 100000 in
set_option maxHeartbeats 4000000 in
theorem fits_spec (a : Option Addr) (rs : List RuleV) (cap n : Nat) (k : Int) (v : ValueV) (vs : List Value) (w : World) (hl : rs.length ≤ 1048576) (hs : ∀ r ∈ rs, Short r) (hp : ∀ r ∈ rs, Spelt r) (h : RdC a rs w) (hv : IsVal n v vs w) :
    Calls Tryz.prog 20 #[.agg #[.slice a rs.length cap], .int .i64 k, .agg vs.toArray] w fun e w' => e = .returned (.bool (fitsV rs k v)) ∧ Below w.heap.size w w' := by
  obtain ⟨ab, cb, ai, ci, rfl⟩ := hv.cells
  obtain ⟨w0, hw0⟩ : ∃ w0, w0 = (w.alloc (.cells #[.slice a rs.length cap] 35)).alloc (.cells #[.int .i64 v.number, .slice ab v.bytes.length cb, .slice ai v.items.length ci] 39) := ⟨_, rfl⟩
  have hB : Below w.heap.size w w0 := by subst hw0; exact ((Below.refl _ _).alloc (Nat.le_refl _) _).alloc (by simp) _
  have hD : CellsAt w.heap.size [.slice a rs.length cap] w0 := by subst hw0; exact (CellsAt.new w _ _).below ((Below.refl _ _).alloc (Nat.le_refl _) _)
  have hVC : CellsAt (w.heap.size + 1) [.int .i64 v.number, .slice ab v.bytes.length cb, .slice ai v.items.length ci] w0 := by subst hw0; have h1 := CellsAt.new (w.alloc (.cells #[.slice a rs.length cap] 35)) [.int .i64 v.number, .slice ab v.bytes.length cb, .slice ai v.items.length ci] 39; rw [World.size_alloc] at h1; exact h1
  have HC := Lib.hid (h.below hB)
  have HV := Lib.hid (hv.below hB)
  have HD := Lib.hid hD
  have HVC := Lib.hid hVC
  have HB := Lib.hid hB
  have HS := Lib.hid hs
  have HP := Lib.hid hp
  have hW := Lib.hid hw0
  have bx := (hD 0 _ rfl).1
  obtain ⟨ok, hok⟩ : ∃ b, b = okAt rs k := ⟨_, rfl⟩
  have HO := Lib.hid hok
  obtain ⟨fb, hfb⟩ : ∃ b, b = fitsV rs k v := ⟨_, rfl⟩
  rw [← hfb]
  have HF : Hid (fb = (ok && validV rs k v)) := by show _ = _; rw [hfb, hok]; rfl
  clear h hv hB hD hVC hs hp hw0 hok hfb
  go_enter Tryz.func20, Tryz.ntmps20
  go_upto_region 1 with fail
  rw [← hW.out]
  clear hW
  go_wp2_with fail
  refine (l7_spec a rs cap k _ hl HS.out HP.out HC.out).mono ?_
  rintro e w1 ⟨rfl, hb1⟩
  rw [← HO.out]
  replace HD := Lib.hid (HD.out.below hb1)
  replace HVC := Lib.hid (HVC.out.below hb1)
  replace HC := Lib.hid (HC.out.below hb1)
  replace HV := Lib.hid (HV.out.below hb1)
  replace HB := Lib.hid (HB.out.trans (hb1.mono HB.out.size))
  clear hb1 bx
  have bx := (HD.out 0 _ rfl).1
  have z0 := (HVC.out 0 _ rfl).1
  have z1 := (HVC.out 1 _ rfl).1
  have z2 := (HVC.out 2 _ rfl).1
  cases ok with
  | false =>
    obtain rfl : fb = false := HF.out
    go_wp2
    go_ret
    exact ⟨rfl, HB.out⟩
  | true =>
    obtain ⟨⟨k0, k1⟩, hn, hv⟩ := okAt_yes HO.out.symm
    obtain ⟨m, rfl⟩ : ∃ m : Nat, k = (m : Int) := ⟨k.toNat, by omega⟩
    have hm : m < rs.length := by omega
    have HA := Lib.hid hv
    clear hv hn HO
    go_wp2_with fail
    refine (valid_spec a rs cap hl HA.out n v _ m _ hm HC.out.rd HV.out).mono ?_
    rintro e w2 ⟨rfl, hb2⟩
    have hr : validV rs (m : Int) v = fb := by rw [HF.out]; rfl
    rw [hr]
    have HR := Lib.hid hr
    clear hr
    replace HB := Lib.hid (HB.out.trans (hb2.mono HB.out.size))
    clear hb2
    go_wp2
    go_ret
    exact ⟨rfl, HB.out⟩
end Go.Proofs.YtfmnjclnhppghabGreatDoor
