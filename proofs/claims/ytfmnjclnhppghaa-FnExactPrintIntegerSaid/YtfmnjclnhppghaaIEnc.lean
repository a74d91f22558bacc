/- The contracts of the program's encodeInteger, encodeTag, firstPart. -/
import Derived.Test.YtfmnjclnhppghaaStartP
import Derived.Test.YtfmnjclnhppghaaIEndian
import Derived.Test.YtfmnjclnhppghaaGDI
import Derived.Test.YtfmnjclnhppghaaRuleOk
import Derived.StillTailTactics
import Derived.Deep.CutRange
namespace Go.Proofs.Ytfmnjclnhppghaa
open Go Go.RowKit
set_option maxRecDepth 100000 in
set_option maxHeartbeats 2000000 in
theorem enci_impl (r : RuleV) (cs : List Value) (n : Int) (w : World) (h : IsRule r cs w) :
    Calls Try.prog 68 #[.agg cs.toArray, .int .i64 n] w (BytesOut (encI r.little n r.size) w) := by
  obtain ⟨a4, c4, a5, c5, a6, c6, a7, c7, rfl, -, -, -, -⟩ := h
  obtain ⟨w0, hw0⟩ : ∃ w0, w0 = w.alloc (.cells #[.string r.name, .int .i64 r.kind, .int .i64 r.size, .bool r.little, .slice a4 r.bytes.length c4, .slice a5 r.names.length c5, .slice a6 r.tags.length c6, .slice a7 r.kids.length c7] 66) := ⟨_, rfl⟩
  have hB : Below w.heap.size w w0 := by subst hw0; exact (Below.refl _ _).alloc (Nat.le_refl _) _
  have hC : CellsAt w.heap.size [.string r.name, .int .i64 r.kind, .int .i64 r.size, .bool r.little, .slice a4 r.bytes.length c4, .slice a5 r.names.length c5, .slice a6 r.tags.length c6, .slice a7 r.kids.length c7] w0 := by subst hw0; exact CellsAt.new w _ _
  have y2 := (hC 2 _ rfl).1
  have y3 := (hC 3 _ rfl).1
  have HB := Lib.hid hB
  have hW := Lib.hid hw0
  clear hB hC hw0
  generalize r.little = lt at *
  generalize r.size = s at *
  obtain ⟨bs, hbs⟩ : ∃ bs, bs = encI lt n s := ⟨_, rfl⟩
  rw [← hbs]
  have HBS := Lib.hid hbs
  clear hbs
  go_enter Try.func68, Try.ntmps68
  go_upto_region 1 with fail
  rw [← hW.out]
  clear hW
  cases lt with
  | true =>
    have HQ : Hid (∀ W, Calls Try.prog 110 #[.int .i64 n, .int .i64 s] W (BytesOut bs W)) := fun W => by rw [HBS.out]; exact le_impl n s W
    go_wp2_with fail
    refine (HQ.out _).mono ?_
    rintro e w2 ⟨az, cz, rfl, hrow, hb2⟩
    have HRW := Lib.hid (hrow.more HB.out.size)
    replace HB := Lib.hid (HB.out.trans (hb2.mono HB.out.size))
    clear hb2 hrow
    go_wp2
    go_ret
    exact ⟨az, cz, rfl, HRW.out, HB.out⟩
  | false =>
    have HQ : Hid (∀ W, Calls Try.prog 111 #[.int .i64 n, .int .i64 s] W (BytesOut bs W)) := fun W => by rw [HBS.out]; exact be_impl n s W
    go_wp2_with fail
    refine (HQ.out _).mono ?_
    rintro e w2 ⟨az, cz, rfl, hrow, hb2⟩
    have HRW := Lib.hid (hrow.more HB.out.size)
    replace HB := Lib.hid (HB.out.trans (hb2.mono HB.out.size))
    clear hb2 hrow
    go_wp2
    go_ret
    exact ⟨az, cz, rfl, HRW.out, HB.out⟩
/-- The rule with which the encodings of a rule begin. -/
def firstR (rs : List RuleV) (m : Nat) : RuleV := ruleAt rs (firstN rs m m : Nat)
theorem firstR_kid {rs : List RuleV} (hall : allV (kindI rs) rs) {k m : Nat} (hk : k < rs.length) (h : rs[k].kind = 4 ∨ rs[k].kind = 5 ∨ rs[k].kind = 6 ∨ rs[k].kind = 9) (hm : rs[k].kids.getD 0 0 = (m : Int)) : firstR rs k = firstR rs m := by
  obtain ⟨q, hq, hqk, _⟩ := kid0 hall hk h
  obtain rfl : q = m := by omega
  unfold firstR
  cases k with
  | zero => omega
  | succ k =>
    rw [firstN, if_pos (by rw [ruleAt_at hk]; exact h), ruleAt_at hk, hq, Int.toNat_natCast, firstN_more hall k q q (by omega) (by omega) (Nat.le_refl _)]
theorem firstR_self {rs : List RuleV} {k : Nat} (hk : k < rs.length) (h : ¬ (rs[k].kind = 4 ∨ rs[k].kind = 5 ∨ rs[k].kind = 6 ∨ rs[k].kind = 9)) : firstR rs k = rs[k] := by
  unfold firstR
  cases k with
  | zero => rw [firstN, ruleAt_at hk]
  | succ k => rw [firstN, if_neg (by rw [ruleAt_at hk]; exact h), ruleAt_at hk]
theorem startB_first (rs : List RuleV) (m b : Nat) : startB rs m b = startR rs (firstR rs m) b := rfl
def FirstOut (r : RuleV) (W0 w : World) (e : Ending) (w' : World) : Prop := ∃ cs, e = .returned (.agg cs.toArray) ∧ IsRule r cs W0 ∧ Below w.heap.size w w'
end Go.Proofs.Ytfmnjclnhppghaa
