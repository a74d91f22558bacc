/- The contracts of ErrorName, the model's and the program's. -/
import Derived.Test.YtdccjobgfjoflaaGreatDoorEGNam
import Derived.Test.YtdccjobgfjoflaaGreatDoorEGD
import Derived.Test.YtdccjobgfjoflaaGreatDoorEGKG
import Derived.Test.YtdccjobgfjoflaaGreatDoorEGBase
import Derived.Test.YtdccjobgfjoflaaGreatDoorEM2
set_option maxRecDepth 100000
namespace Go.Proofs.YtdccjobgfjoflaaGreatDoor
open Go Go.RowKit
def errNames : List ByteArray := [⟨#[111, 107]⟩, ⟨#[115, 104, 111, 114, 116]⟩, ⟨#[99, 111, 110, 115, 116]⟩, ⟨#[116, 97, 103]⟩, ⟨#[102, 108, 97, 103]⟩, ⟨#[115, 117, 109]⟩, ⟨#[99, 111, 117, 110, 116]⟩, ⟨#[116, 114, 97, 105, 108, 105, 110, 103]⟩, ⟨#[114, 117, 108, 101]⟩]
def errName (k : Int) : ByteArray := if 0 ≤ k ∧ k ≤ 8 then errNames.getD k.toNat ⟨#[]⟩ else ⟨#[]⟩
set_option maxHeartbeats 2000000 in
theorem errname_impl (k : Int) (w : World) :
  Calls Tryz.prog 24 #[.int .i64 k] w fun e w' => e = .returned (.string (errName k)) ∧ Below w.heap.size w w' := by
 have hB : Below w.heap.size w (w.alloc (.cells (errNames.map Value.string).toArray 9)) := (Below.refl _ _).alloc (Nat.le_refl _) _
 by_cases hk : 0 ≤ k ∧ k ≤ 8
 ·obtain ⟨n, rfl⟩ : ∃ n : Nat, k = (n : Int) := ⟨k.toNat, by omega⟩
  have hn : n < 9 := by omega
  have n0 : (0 : Int) ≤ (n : Int) := by omega
  have n1 : (n : Int) < 9 := by omega
  have hr : Hid (errName (n : Int) = errNames.getD n ⟨#[]⟩) := by
   show _ = _
   unfold errName
   rw [if_pos hk, Int.toNat_natCast]
  have hc : (w.alloc (.cells (errNames.map Value.string).toArray 9)).cell? ⟨w.heap.size, n, none⟩ = some (.string (errNames.getD n ⟨#[]⟩)) := by
   rw [cell_new]
   have hl : n < errNames.length := hn
   simp [List.getD, hl]
  obtain ⟨x, hx⟩ : ∃ x, x = errNames.getD n ⟨#[]⟩ := ⟨_, rfl⟩
  rw [← hx] at hc hr
  clear hx
  have HB := kq hB
  clear hB
  simp only [errNames, List.map] at hc
  go_enter Tryz.func24, Tryz.ntmps24
  go_wp2_with fail
  refine (inR_impl (n : Int) 0 8 true _ (by simp; omega)).mono ?_
  rintro e w1 ⟨rfl, rfl⟩
  go_wp2
  go_ret
  exact ⟨ret_str hr.out.symm, HB.out⟩
 ·have hr : Hid (errName k = ⟨#[]⟩) := by
   show _ = _
   unfold errName
   rw [if_neg hk]
  go_enter Tryz.func24, Tryz.ntmps24
  go_wp2_with fail
  refine (inR_impl k 0 8 false _ (by simp; omega)).mono ?_
  rintro e w1 ⟨rfl, rfl⟩
  go_wp2
  go_ret
  exact ⟨ret_str hr.out.symm, hB⟩
end Go.Proofs.YtdccjobgfjoflaaGreatDoor

/- The contract of impl.FormatInt. -/
namespace Go.Proofs.YtdccjobgfjoflaaGreatDoor
open Go Go.RowKit
theorem fmt_impl (n : Int) (w : World) (h0 : -9223372036854775808 ≤ n) (h1 : n ≤ 9223372036854775807) (htab : PowTab w) :
  Calls Tryz.prog 62 #[.int .i64 n] w fun e w' => e = .returned (.string ⟨(Lib.itoa n).toArray⟩) ∧ Below w.heap.size w w' := by
 have H := kq htab
 clear htab
 go_enter Tryz.func62, Tryz.ntmps62
 go_wp2_with fail
 refine (Tryz.strconv_Itoa n h0 h1 _ H.out).mono ?_
 rintro e w' ⟨rfl, k, os, rfl⟩
 have hb := kq (Lib.below_grow w.heap.size w (Nat.le_refl _) k os)
 go_wp2_with fail
 go_ret
 exact ⟨rfl, hb.out⟩
end Go.Proofs.YtdccjobgfjoflaaGreatDoor

/- The contracts of FormatNumberText, the model's and the program's. -/
namespace Go.Proofs.YtdccjobgfjoflaaGreatDoor
open Go Go.RowKit
theorem itoa_max {n : Int} (h0 : -9223372036854775808 ≤ n) (h1 : n ≤ 9223372036854775807) : (⟨(Lib.itoa n).toArray⟩ : ByteArray).size ≤ 21 := by
 have e : (⟨(Lib.itoa n).toArray⟩ : ByteArray).size = (Lib.itoa n).length := by simp [ByteArray.size]
 rw [e]
 by_cases hz : n = 0
 ·subst hz; rw [itoa_zero]; decide
 ·by_cases hp : 0 < n
  ·rw [itoa_pos hp]
   have := digs_length n.natAbs (by omega)
   omega
  ·rw [itoa_neg (by omega)]
   have := digs_length n.natAbs (by omega)
   simp; omega
end Go.Proofs.YtdccjobgfjoflaaGreatDoor

/- The contracts of DescribeError, the model's and the program's. -/
namespace Go.Proofs.YtdccjobgfjoflaaGreatDoor
open Go Go.RowKit
def descErr (p k : Int) : ByteArray := if k = 0 then ⟨#[111, 107]⟩ else errName k ++ ⟨#[32, 97, 116, 32]⟩ ++ ⟨(Lib.itoa p).toArray⟩
theorem errName_size (k : Int) : (errName k).size ≤ 8 := by
 unfold errName
 split
 ·rename_i h
  obtain ⟨n, rfl⟩ : ∃ n : Nat, k = (n : Int) := ⟨k.toNat, by omega⟩
  rw [Int.toNat_natCast]
  have : ∀ n : Fin 9, (errNames.getD n.val ⟨#[]⟩).size ≤ 8 := by decide
  exact this ⟨n, by omega⟩
 ·exact Nat.zero_le _
theorem desce_impl (p k : Int) (w : World) (h0 : -9223372036854775808 ≤ p) (h1 : p ≤ 9223372036854775807) (htab : PowTab w) :
  Calls Tryz.prog 25 #[.int .i64 p, .int .i64 k] w fun e w' => e = .returned (.string (descErr p k)) ∧ Below w.heap.size w w' := by
 by_cases hk : k = 0
 ·have HR : Hid (errName k = descErr p k) := by show _ = _; subst hk; rfl
  have g : (k == 0) = true := by simp [hk]
  clear hk
  go_enter Tryz.func25, Tryz.ntmps25
  go_wp2_with fail
  refine (errname_impl k _).mono ?_
  rintro e w1 ⟨rfl, hb⟩
  have HB := kq hb
  clear hb
  go_wp2_with fail
  go_ret
  exact ⟨ret_str HR.out, HB.out⟩
 ·have HR : Hid (errName k ++ (⟨#[32, 97, 116, 32]⟩ : ByteArray) ++ (⟨(Lib.itoa p).toArray⟩ : ByteArray) = descErr p k) := by show _ = _; unfold descErr; rw [if_neg hk]
  have g : (k == 0) = false := by simp [hk]
  have hz := itoa_max h0 h1
  have he := errName_size k
  have HT := kq htab
  clear hk htab
  go_enter Tryz.func25, Tryz.ntmps25
  go_wp2_with fail
  refine (errname_impl k _).mono ?_
  rintro e w1 ⟨rfl, hb⟩
  have HB := kq hb
  clear hb
  generalize errName k = x at he HR ⊢
  have z1 : (x ++ (⟨#[32, 97, 116, 32]⟩ : ByteArray)).size = x.size + 4 := ByteArray.size_append
  go_wp2_with fail
  refine (fmt_impl p _ h0 h1 (HT.out.below HB.out)).mono ?_
  rintro e w2 ⟨rfl, hb⟩
  have HB2 := kq (HB.out.trans (hb.mono HB.out.size))
  clear hb
  generalize hs : (⟨(Lib.itoa p).toArray⟩ : ByteArray) = s at hz HR ⊢
  have z2 : (x ++ (⟨#[32, 97, 116, 32]⟩ : ByteArray) ++ s).size = x.size + 4 + s.size := by rw [ByteArray.size_append, z1]
  go_wp2_with fail
  go_ret
  exact ⟨ret_str HR.out, HB2.out⟩
end Go.Proofs.YtdccjobgfjoflaaGreatDoor

/- What the card of FnErrors gives a walk: the variable errors.errorType and the table of powers of ten; what a whole file's reading says of place and code. -/
namespace Go.Proofs.YtdccjobgfjoflaaGreatDoor
open Go Go.ChangeShapes Go.WideShapes Go.RowKit
theorem both_of_laid {W : World} (h : laidMetH Tryz.prog [("math/bits.deBruijn32tab", Rows.laid_math_bits_deBruijn32tab), ("math/bits.deBruijn64tab", Rows.laid_math_bits_deBruijn64tab), ("internal/strconv.uint64pow10", Rows.laid_internal_strconv_uint64pow10), ("errors.errorType", Rows.laid_errors_errorType)] W) : PowTab W ∧ HandleAt W := by
 have h' : laidMet Tryz.prog [("math/bits.deBruijn32tab", Rows.laid_math_bits_deBruijn32tab), ("math/bits.deBruijn64tab", Rows.laid_math_bits_deBruijn64tab), ("internal/strconv.uint64pow10", Rows.laid_internal_strconv_uint64pow10)] W ∧ handlesMet Tryz.prog [("errors.errorType", Rows.laid_errors_errorType)] W := h
 exact ⟨powTab_of (laidMet.tail (laidMet.tail h'.1)), handle_of_laid (show laidMet Tryz.prog [] W ∧ handlesMet Tryz.prog [("errors.errorType", Rows.laid_errors_errorType)] W from ⟨laidMet_nil _ _, h'.2⟩)⟩
theorem fe_long {rs : List RuleV} {L : List UInt8} (h : 400 < L.length) : fileG rs L = .bad 0 8 := by
 unfold fileG readG
 rw [if_neg (fun h4 => by have := h4.2.2.2; omega)]
theorem fe_le {rs : List RuleV} {L : List UInt8} : gqOf (fileG rs L) ≤ L.length := by
 have hr : ∀ q, gqOf (readG rs ((rs.length : Int) - 1) L 0) = q → q ≤ L.length := fun q hq => by
  unfold readG at hq
  split at hq
  ·rename_i hall
   obtain ⟨h1, h2, h3, h4⟩ := hall
   obtain ⟨⟨h0, h0'⟩, -, hv⟩ := okAt_yes h1
   have hf := parse_fine hv L rs.length ((rs.length : Int) - 1).toNat (by omega) (by omega) (0 : Int).toNat (by omega)
   rw [show ((((rs.length : Int) - 1).toNat : Nat) : Int) = (rs.length : Int) - 1 from by omega] at hf
   cases hp : parseB rs L rs.length ((rs.length : Int) - 1) (0 : Int).toNat with
   | ok v p => rw [hp] at hf hq; subst hq; exact hf.2
   | bad p c => rw [hp] at hf hq; subst hq; exact hf.1
  ·subst hq; exact Nat.zero_le _
 unfold fileG
 cases hp : readG rs ((rs.length : Int) - 1) L 0 with
 | bad q c => exact hr q (by rw [hp]; rfl)
 | ok v q =>
  simp only
  split
  ·exact hr q (by rw [hp]; rfl)
  ·exact hr q (by rw [hp]; rfl)
theorem fe_code {rs : List RuleV} {L : List UInt8} : gcOf (fileG rs L) ≤ 8 := by
 cases hp : fileG rs L with
 | bad q c => exact (fileG_code hp).2
 | ok v q => exact Nat.zero_le _
theorem fe_name {k : Nat} (h : k ≤ 8) : (errName (k : Int)).toList.isEmpty = false := by
 unfold errName
 rw [if_pos (by omega), Int.toNat_natCast]
 have : ∀ n : Fin 9, (errNames.getD n.val ⟨#[]⟩).toList.isEmpty = false := by decide +kernel
 exact this ⟨k, by omega⟩
theorem fe_descr (p : Int) {k : Nat} (_h : k ≤ 8) : ((descErr p (k : Int)).toList == [111, 107]) = ((k : Int) == 0) := by
 by_cases hk : k = 0
 ·subst hk
  have e1 : descErr p ((0 : Nat) : Int) = ⟨#[111, 107]⟩ := by unfold descErr; exact if_pos rfl
  rw [e1, ByteArray.toList_eq]
  rfl
 ·have e1 : ((k : Int) == 0) = false := by rw [beq_eq_false_iff_ne]; omega
  rw [e1, beq_eq_false_iff_ne]
  intro e
  unfold descErr at e
  rw [if_neg (by omega)] at e
  have h1 := congrArg List.length e
  rw [ByteArray.toList_eq] at h1
  have h2 : ∀ X : ByteArray, X.data.toList.length = X.size := fun X => Array.length_toList
  rw [h2, ByteArray.size_append, ByteArray.size_append] at h1
  have h3 : (⟨#[32, 97, 116, 32]⟩ : ByteArray).size = 4 := rfl
  have h5 : ([111, 107] : List UInt8).length = 2 := rfl
  rw [h3, h5] at h1
  omega
end Go.Proofs.YtdccjobgfjoflaaGreatDoor
