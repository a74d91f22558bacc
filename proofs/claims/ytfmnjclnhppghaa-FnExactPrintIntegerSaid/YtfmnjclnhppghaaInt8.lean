/- The contract of the model's l8Integer. -/
import Derived.Test.YtfmnjclnhppghaaEndO
import Derived.Test.YtfmnjclnhppghaaGBase
import Derived.Deep.RegionHeld3
import Derived.Deep.CutRange
namespace Go.Proofs.Ytfmnjclnhppghaa
open Go Go.RowKit
/-- The bytes of a number by a rule that is an integer. -/
def encI (little : Bool) (n s : Int) : List UInt8 := if little then (beOf n s).reverse else beOf n s
theorem encI_length {little : Bool} {n s : Int} (h1 : 1 ≤ s) (h2 : s ≤ 4) (h3 : 0 ≤ n) (h4 : n < 256 ^ s.toNat) : (encI little n s).length = s.toNat := by
  have h : (beOf n s).length = s.toNat := by rw [beOf, if_pos ⟨h1, h2, h3, h4⟩, beB_length]
  unfold encI
  cases little <;> simp [h]
set_option maxRecDepth 100000 in
set_option maxHeartbeats 2000000 in
theorem int8_spec (r : RuleV) (cs : List Value) (n : Int) (w : World) (h : IsRule r cs w) :
    Calls Try.prog 64 #[.agg cs.toArray, .int .i64 n] w (OwnOut (encI r.little n r.size) w) := by
  obtain ⟨a4, c4, a5, c5, a6, c6, a7, c7, rfl, -, -, -, -⟩ := h
  obtain ⟨w0, hw0⟩ : ∃ w0, w0 = w.alloc (.cells #[.string r.name, .int .i64 r.kind, .int .i64 r.size, .bool r.little, .slice a4 r.bytes.length c4, .slice a5 r.names.length c5, .slice a6 r.tags.length c6, .slice a7 r.kids.length c7] 66) := ⟨_, rfl⟩
  have hB : Below w.heap.size w w0 := by subst hw0; exact (Below.refl _ _).alloc (Nat.le_refl _) _
  have hC : CellsAt w.heap.size [.string r.name, .int .i64 r.kind, .int .i64 r.size, .bool r.little, .slice a4 r.bytes.length c4, .slice a5 r.names.length c5, .slice a6 r.tags.length c6, .slice a7 r.kids.length c7] w0 := by subst hw0; exact CellsAt.new w _ _
  have y2 := (hC 2 _ rfl).1
  have y3 := (hC 3 _ rfl).1
  have HB := Lib.hid hB
  have hW := Lib.hid hw0
  clear hB hC hw0
  generalize r.little = lt at *
  generalize r.size = s at *
  obtain ⟨bs, hbs⟩ : ∃ bs, bs = encI lt n s := ⟨_, rfl⟩
  rw [← hbs]
  have HBS := Lib.hid hbs
  clear hbs
  go_enter Try.func64, Try.ntmps64
  go_upto_region 1 with fail
  rw [← hW.out]
  clear hW
  cases lt with
  | true =>
    go_wp2_with fail
    refine (le_specO n s _).mono ?_
    rintro e w2 ⟨z, rfl, ho, hb2⟩
    rw [show (beOf n s).reverse = bs from HBS.out.symm] at ho
    have HO := Lib.hid (ho.more HB.out.size)
    replace HB := Lib.hid (HB.out.trans (hb2.mono HB.out.size))
    clear hb2 ho
    go_wp2
    go_ret
    exact ⟨z, rfl, HO.out, HB.out⟩
  | false =>
    go_wp2_with fail
    refine (be_specO n s _).mono ?_
    rintro e w2 ⟨z, rfl, ho, hb2⟩
    rw [show beOf n s = bs from HBS.out.symm] at ho
    have HO := Lib.hid (ho.more HB.out.size)
    replace HB := Lib.hid (HB.out.trans (hb2.mono HB.out.size))
    clear hb2 ho
    go_wp2
    go_ret
    exact ⟨z, rfl, HO.out, HB.out⟩
end Go.Proofs.Ytfmnjclnhppghaa
