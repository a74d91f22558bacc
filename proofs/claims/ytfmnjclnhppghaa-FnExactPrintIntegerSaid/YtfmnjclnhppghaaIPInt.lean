/- The contract of the program's PrintInteger. -/
import Derived.Test.YtfmnjclnhppghaaPIntP
import Derived.Test.YtfmnjclnhppghaaPvE
import Derived.Test.YtfmnjclnhppghaaGVI
import Derived.Test.YtfmnjclnhppghaaGDI
import Derived.Test.YtfmnjclnhppghaaIEnc
import Derived.Test.YtfmnjclnhppghaaCellK
import Derived.Deep.RegionHeld3
namespace Go.Proofs.Ytfmnjclnhppghaa
open Go Go.RowKit
set_option maxRecDepth 100000 in
set_option maxHeartbeats 4000000 in
theorem pint_impl (a : Option Addr) (rs : List RuleV) (cap : Nat) (k n : Int) (w : World) (hl : rs.length ≤ 1048576) (hs : ∀ r ∈ rs, Short r) (hp : ∀ r ∈ rs, Spelt r) (h : RdC a rs w) :
    Calls Try.prog 31 #[.agg #[.slice a rs.length cap], .int .i64 k, .int .i64 n] w (PvE (pintB rs k n) (pintL rs k n) w) := by
  obtain ⟨w0, hw0⟩ : ∃ w0, w0 = w.alloc (.cells #[.slice a rs.length cap] 35) := ⟨_, rfl⟩
  have hB : Below w.heap.size w w0 := by subst hw0; exact (Below.refl _ _).alloc (Nat.le_refl _) _
  have hD : CellsAt w.heap.size [.slice a rs.length cap] w0 := by subst hw0; exact CellsAt.new w _ _
  have HC := Lib.hid (h.below hB)
  have HD := Lib.hid hD
  have HB := Lib.hid hB
  have HS := Lib.hid hs
  have HP := Lib.hid hp
  have HW := Lib.hid hw0
  have bx := (hD 0 _ rfl).1
  obtain ⟨E, hE⟩ : ∃ E, E = pintL rs k n := ⟨_, rfl⟩
  obtain ⟨pb, hpb⟩ : ∃ b, b = pintB rs k n := ⟨_, rfl⟩
  obtain ⟨L, hL⟩ : ∃ L, L = limitAt rs k := ⟨_, rfl⟩
  obtain ⟨ok, hok⟩ : ∃ b, b = descrB (kindI rs) rs := ⟨_, rfl⟩
  have HPB : Hid (pb = (ok && decide (0 ≤ n ∧ n ≤ L))) := by show _ = _; rw [hpb, hok, hL]; exact pint_same rs k n
  rw [← hpb, ← hE]
  have HE := Lib.hid hE
  have HL := Lib.hid hL
  have HO := Lib.hid hok
  have HPB0 := Lib.hid hpb
  clear h hB hD hs hp hw0 hpb hE hL hok
  go_enter Try.func31, Try.ntmps31
  go_upto_region 1 with fail
  rw [← HW.out]
  clear HW
  go_wp2_with fail
  refine (validd_impl a rs cap _ hl HS.out HP.out HC.out).mono ?_
  rintro e w1 ⟨rfl, hb⟩
  rw [← HO.out]
  replace HD := Lib.hid (HD.out.below hb)
  replace HC := Lib.hid (HC.out.below hb)
  replace HB := Lib.hid (HB.out.trans (hb.mono HB.out.size))
  clear hb
  clear bx
  cases ok with
  | false =>
    obtain rfl : pb = false := HPB.out
    go_wp2
    go_ret2
    exact pve_none HB.out
  | true =>
    have bx := (HD.out 0 _ rfl).1
    go_wp2_with fail
    refine (limit_impl a rs cap k _ (by omega) HC.out.rd).mono ?_
    rintro e w2 ⟨rfl, hb⟩
    rw [← HL.out]
    replace HD := Lib.hid (HD.out.below hb)
    replace HC := Lib.hid (HC.out.below hb)
    replace HB := Lib.hid (HB.out.trans (hb.mono HB.out.size))
    clear hb
    clear bx
    obtain ⟨lb, hlb⟩ : ∃ lb, lb = decide (0 ≤ n ∧ n ≤ L) := ⟨_, rfl⟩
    have HLB := Lib.hid hlb
    go_wp2_with fail
    refine (inI_any n 0 L lb _ HLB.out.symm).mono ?_
    rintro e w3 ⟨rfl, rfl⟩
    clear hlb
    cases lb with
    | false =>
      obtain rfl : pb = false := by rw [HPB.out, ← HLB.out]; rfl
      go_wp2
      go_ret2
      exact pve_none HB.out
    | true =>
      obtain rfl : pb = true := by rw [HPB.out, ← HLB.out]; rfl
      have hin : 0 ≤ k ∧ k < (rs.length : Int) := pint_in HPB0.out.symm
      obtain ⟨m, rfl⟩ : ∃ m : Nat, k = (m : Int) := ⟨k.toNat, by omega⟩
      have hm : m < rs.length := by omega
      have m0 : (0 : Int) ≤ (m : Int) := by omega
      have m1 : (m : Int) < (rs.length : Int) := by omega
      clear hin
      obtain ⟨b0, off, a4, c4, a5, c5, a6, c6, a7, c7, hab, ⟨d0, d1, d2, d3, d4, d5, d6, d7⟩, r4, r5, r6, r7⟩ := HC.out.rd.at m hm
      subst hab
      have bx := (HD.out 0 _ rfl).1
      have HR : Hid (IsRule rs[m] [.string rs[m].name, .int .i64 rs[m].kind, .int .i64 rs[m].size, .bool rs[m].little, .slice a4 rs[m].bytes.length c4, .slice a5 rs[m].names.length c5, .slice a6 rs[m].tags.length c6, .slice a7 rs[m].kids.length c7] w2) := ⟨a4, c4, a5, c5, a6, c6, a7, c7, rfl, r4, r5, r6, r7⟩
      have HEV : Hid (E = encI rs[m].little n rs[m].size) := by show _ = _; rw [HE.out, pintL, ruleAt_at hm]
      generalize rs[m] = r at *
      clear r4 r5 r6 r7
      have HQ : Hid (∀ cs W, IsRule r cs W → Calls Try.prog 68 #[.agg cs.toArray, .int .i64 n] W (BytesOut E W)) := fun cs W hc => by rw [HEV.out]; exact enci_impl r cs n W hc
      go_wp2_with fail
      refine (HQ.out _ _ HR.out).mono ?_
      rintro e w4 ⟨az, cz, rfl, hrow, hb⟩
      have HRW := Lib.hid (hrow.more HB.out.size)
      have HF := Lib.hid (HB.out.trans (hb.mono HB.out.size))
      clear hb hrow
      go_wp2
      go_ret2
      exact ⟨az, E, cz, rfl, rfl, HRW.out, HF.out⟩
end Go.Proofs.Ytfmnjclnhppghaa
