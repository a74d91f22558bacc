/- Contracts of DescriptionNames, of the model and of the program. -/
import Derived.Test.YtpeldhediaodjaaDescrImpl
import Derived.Test.YtpeldhediaodjaaStrs
import Derived.Test.YtpeldhediaodjaaPushF
namespace Go.Proofs.Ytpeldhediaodjaa
open Go Go.RowKit
/-- The names of rules. -/
def namesOf (rs : List RuleV) : List ByteArray := rs.map RuleV.name
theorem namesOf_length (rs : List RuleV) : (namesOf rs).length = rs.length := by simp [namesOf]
theorem namesOf_at {rs : List RuleV} {k : Nat} (h : k < rs.length) (h' : k < (namesOf rs).length) : (namesOf rs)[k] = rs[k].name := by simp [namesOf]
theorem namesOf_next {rs : List RuleV} {k : Nat} (h : k < rs.length) : (namesOf rs).take k ++ [rs[k].name] = (namesOf rs).take (k + 1) := by
  rw [List.take_succ_eq_append_getElem (by rw [namesOf_length]; exact h), namesOf_at h]
theorem HalfF.later {α : Type} {f : α → Value} {z : Value} {xs : List α} {k N : Nat} {w W W' : World} (h : HalfF f z xs k N w W) (hb : Below W.heap.size W W') : HalfF f z xs k N w W' :=
  ⟨h.1.trans (hb.mono h.1.size), fun j hj => ⟨(hb.cell (cell_lt (h.2 j hj).1)).trans (h.2 j hj).1, (hb.frozen (p := ⟨N, j, none⟩) (cell_lt (h.2 j hj).1)).trans (h.2 j hj).2⟩⟩
set_option maxRecDepth 100000 in
set_option maxHeartbeats 1000000 in
theorem dn_spec (a : Option Addr) (rs : List RuleV) (cap : Nat) (ns : List ByteArray) (w : World) (hl : rs.length ≤ 1073741824) (hns : ns = namesOf rs) (h : RdR a rs w) :
    Calls Try.prog 21 #[.agg #[.slice a rs.length cap]] w (StrsOut ns w) := by
  obtain ⟨w0, hw0⟩ : ∃ w0, w0 = w.alloc (.cells #[.slice a rs.length cap] 26) := ⟨_, rfl⟩
  have hB0 : Below w.heap.size w w0 := by subst hw0; exact (Below.refl _ _).alloc (Nat.le_refl _) _
  have hX0 : CellsAt w.heap.size [.slice a rs.length cap] w0 := by subst hw0; exact CellsAt.new w _ _
  have HB0 := Lib.hid hB0
  have HX0 := Lib.hid hX0
  have HR := Lib.hid (h.below hB0)
  have hs0 : Hid (w0.heap.size = w.heap.size + 1) := by subst hw0; exact World.size_alloc _ _
  have hW := Lib.hid hw0
  have HNS := Lib.hid hns
  clear h hB0 hX0 hw0 hns
  go_enter Try.func21, Try.ntmps21
  go_wp2
  rw [← hW.out]
  go_loopw [3, 4] (fun v i W => ∃ (k : Nat) (zs : List ByteArray) (v0 : Value), k ≤ rs.length ∧ i = .int .i64 k ∧ v0 = v ∧ Hid (W.ownsRow w0.heap.size 9 1 v0 zs.length (zs.map Value.string)) ∧ Hid (zs = (namesOf rs).take k) ∧ zs.length ≤ k ∧ Hid (Below w0.heap.size w0 W)) (fun _ i _ => rs.length - (intOf i).toNat)
  case atStart =>
    refine ⟨0, [], _, Nat.zero_le _, rfl, rfl, ?_, rfl, Nat.le_refl _, (Below.refl _ _).alloc (Nat.le_refl _) _⟩
    have hz : w0.heap.size = w.heap.size + 1 := hs0.out
    rw [← hz]
    exact World.ownsRow_made w0 #[] 0 (Nat.le_refl _) (Nat.zero_le _) rfl
  case round =>
    obtain ⟨k, zs, v0, hk, rfl, rfl, ho, hin, hlen, hbw⟩ := hrel
    have k0 : (0 : Int) ≤ (k : Int) := by omega
    have bx := (HX0.out.below hbw.out 0 _ rfl).1
    by_cases hlt : k < rs.length
    · have k1 : (k : Int) < (rs.length : Int) := by omega
      obtain ⟨b, off, _, _, _, _, _, _, _, _, rfl, ⟨d0, -⟩, -⟩ := (HR.out.below hbw.out).at k hlt
      have hin2 : Hid (zs ++ [rs[k].name] = (namesOf rs).take (k + 1)) := by show _ = _; rw [hin.out, namesOf_next hlt]
      generalize rs[k].name = y at d0 hin2
      go_wp2_with (at_builtin; refine wp_pushF 32 9 (.string ⟨#[]⟩) 16 Try.underlying32 infoStr rfl rfl (.tmp 13) (.tmp 20) rfl w0.heap.size v0 zs y rfl wr (by simp [Act.eval]) (by simp [Act.eval]) ho.out (by unfold maxLen; omega) (by omega) hbw.out.size ?_)
      intro v' w' hown hgrow _
      have ho2 : Hid (w'.ownsRow w0.heap.size 9 1 v' (zs ++ [y]).length ((zs ++ [y]).map Value.string)) := by show World.ownsRow _ _ _ _ _ _ _; simpa using hown
      have hb2 := Lib.hid (hbw.out.grown hgrow hbw.out.size fun g hg => (World.ownsRow.lt (w := wr) ho.out g hg).1)
      clear hown hgrow
      go_wp2
      go_roundw
      case rel => exact ⟨k + 1, zs ++ [y], v', by omega, by go_num, rfl, ho2, hin2, by simp; omega, hb2⟩
      case measure => simp [intOf]; omega
    · have k1 : ¬ (k : Int) < (rs.length : Int) := by omega
      obtain rfl : k = rs.length := by omega
      obtain ⟨x, c, rfl, hrow⟩ := own_row (f := Value.string) ho.out
      have hzn : zs = ns := by rw [HNS.out, hin.out, ← namesOf_length rs, List.take_length]
      subst hzn
      have HROW := Lib.hid (hrow.more (B' := w.heap.size) (by have := hs0.out; omega))
      have HBW := Lib.hid (HB0.out.trans (hbw.out.mono HB0.out.size))
      clear hrow ho hin
      go_wp2
      go_ret
      exact ⟨x, c, rfl, HROW.out, HBW.out⟩
set_option maxRecDepth 100000 in
set_option maxHeartbeats 1000000 in
theorem dn_impl (a : Option Addr) (rs : List RuleV) (cap : Nat) (ns : List ByteArray) (w : World) (hl : rs.length ≤ 1073741824) (hns : ns = namesOf rs) (h : RdR a rs w) :
    Calls Try.prog 22 #[.agg #[.slice a rs.length cap]] w (StrsOut ns w) := by
  obtain ⟨w0, hw0⟩ : ∃ w0, w0 = w.alloc (.cells #[.slice a rs.length cap] 26) := ⟨_, rfl⟩
  have hB0 : Below w.heap.size w w0 := by subst hw0; exact (Below.refl _ _).alloc (Nat.le_refl _) _
  have HB0 := Lib.hid hB0
  have HR := Lib.hid (h.below hB0)
  have hs0 : Hid (w0.heap.size = w.heap.size + 1) := by subst hw0; exact World.size_alloc _ _
  have hW := Lib.hid hw0
  have HNS := Lib.hid hns
  have hmk := make_strs rs.length (by omega)
  clear h hB0 hw0 hns
  go_enter Try.func22, Try.ntmps22
  go_wp2
  rw [← hW.out]
  clear hmk
  have hz : w0.heap.size = w.heap.size + 1 := hs0.out
  rw [← hz]
  clear hz
  obtain ⟨M, hM0⟩ : ∃ M, M = w0.heap.size := ⟨_, rfl⟩
  rw [← hM0]
  have hM := Lib.hid hM0
  clear hM0
  go_loopw [13] (fun i W => ∃ k : Nat, k ≤ rs.length ∧ i = .int .i64 k ∧ Hid (HalfF Value.string (.string ⟨#[]⟩) (namesOf rs) k M w0 W)) (fun i _ => rs.length - (intOf i).toNat)
  case atStart =>
    refine ⟨0, Nat.zero_le _, rfl, ?_⟩
    have h1 := HalfF.start (f := Value.string) (.string ⟨#[]⟩) (namesOf rs) 9 w0
    rw [namesOf_length, ← hM.out] at h1
    exact h1
  case round =>
    obtain ⟨k, hk, rfl, hh⟩ := hrel
    have k0 : (0 : Int) ≤ (k : Int) := by omega
    by_cases hlt : k < rs.length
    · have k1 : (k : Int) < (rs.length : Int) := by omega
      obtain ⟨b, off, a4, c4, a5, c5, a6, c6, a7, c7, rfl, ⟨d0, d1, d2, d3, d4, d5, d6, d7⟩, -⟩ := (HR.out.below hh.out.1).at k hlt
      have hlt2 : k < (namesOf rs).length := by rw [namesOf_length]; exact hlt
      have hb1 : ∀ o, Below wr.heap.size wr (wr.alloc o) := fun o => (Below.refl _ _).alloc (Nat.le_refl _) _
      have hn := fun o => Lib.hid ((hh.out.next (Nat.le_of_eq hM.out.symm) hlt2).later ((Below.refl _ _).alloc (Nat.le_refl _) o))
      have hcf := fun o => Lib.hid ((hh.out.later (hb1 o)).2 k hlt2)
      have hMlt : M < wr.heap.size := cell_lt (hh.out.2 k hlt2).1
      simp only [namesOf_at hlt] at hn
      generalize rs[k] = r at *
      obtain ⟨hd, hf⟩ := (hcf (.cells #[.string r.name, .int .i64 r.kind, .int .i64 r.size, .bool r.little, .slice a4 r.bytes.length c4, .slice a5 r.names.length c5, .slice a6 r.tags.length c6, .slice a7 r.kids.length c7] 35)).out
      rw [if_neg (by omega)] at hd
      have hnn := hn (.cells #[.string r.name, .int .i64 r.kind, .int .i64 r.size, .bool r.little, .slice a4 r.bytes.length c4, .slice a5 r.names.length c5, .slice a6 r.tags.length c6, .slice a7 r.kids.length c7] 35)
      clear hn hcf hb1
      go_wp2
      go_roundw
      case rel => exact ⟨k + 1, by omega, by go_num, hnn⟩
      case measure => simp [intOf]; omega
    · have k1 : ¬ (k : Int) < (rs.length : Int) := by omega
      obtain rfl : k = rs.length := by omega
      have hh2 := hh.out
      rw [← namesOf_length rs, hM.out, ← HNS.out] at hh2
      have HE := Lib.hid hh2.end
      have HBW := Lib.hid (HB0.out.trans (hh2.1.mono HB0.out.size))
      have hnl : Hid (rs.length = ns.length) := by show _ = _; rw [HNS.out, namesOf_length]
      clear hh2
      go_wp2
      go_ret
      simp only [hnl.out, hM.out]
      exact ⟨_, _, rfl, ⟨HE.out.more (by have := hs0.out; omega), Nat.le_refl _, (fun e => by cases e)⟩, HBW.out⟩
end Go.Proofs.Ytpeldhediaodjaa
