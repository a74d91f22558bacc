/- The contracts of DescribeError, the model's and the program's. -/
import Derived.Test.YtikpbeealeofaaaDoorErrName
import Derived.Test.YtikpbeealeofaaaDoorFnt
namespace Go.Proofs.YtikpbeealeofaaaDoor
open Go Go.RowKit
/-- The text of an error. -/
def descErr (p k : Int) : ByteArray := if k = 0 then ⟨#[111, 107]⟩ else errName k ++ ⟨#[32, 97, 116, 32]⟩ ++ ⟨(Lib.itoa p).toArray⟩
theorem errName_size (k : Int) : (errName k).size ≤ 8 := by
  unfold errName
  split
  · rename_i h
    obtain ⟨n, rfl⟩ : ∃ n : Nat, k = (n : Int) := ⟨k.toNat, by omega⟩
    rw [Int.toNat_natCast]
    have : ∀ n : Fin 9, (errNames.getD n.val ⟨#[]⟩).size ≤ 8 := by decide
    exact this ⟨n, by omega⟩
  · exact Nat.zero_le _
set_option maxRecDepth 100000 in
theorem desce_spec (p k : Int) (w : World) (h0 : -9223372036854775808 ≤ p) (h1 : p ≤ 9223372036854775807) :
    Calls Tryd.prog 4 #[.int .i64 p, .int .i64 k] w fun e w' => e = .returned (.string (descErr p k)) ∧ Below w.heap.size w w' := by
  by_cases hk : k = 0
  · have HR : Hid ((⟨#[111, 107]⟩ : ByteArray) = descErr p k) := by show _ = _; unfold descErr; rw [if_pos hk]
    have g : (k == 0) = true := by simp [hk]
    clear hk
    go_enter Tryd.func4, Tryd.ntmps4
    go_wp2
    go_ret
    exact ⟨ret_str HR.out, Below.refl _ _⟩
  · have HR : Hid (errName k ++ (⟨#[32, 97, 116, 32]⟩ : ByteArray) ++ (⟨(Lib.itoa p).toArray⟩ : ByteArray) = descErr p k) := by show _ = _; unfold descErr; rw [if_neg hk]
    have g : (k == 0) = false := by simp [hk]
    have hz := itoa_max h0 h1
    have he := errName_size k
    clear hk
    go_enter Tryd.func4, Tryd.ntmps4
    go_wp2_with fail
    refine (errname_spec k _).mono ?_
    rintro e w1 ⟨rfl, hb⟩
    have HB := Lib.hid hb
    clear hb
    generalize errName k = x at he HR ⊢
    have z1 : (x ++ (⟨#[32, 97, 116, 32]⟩ : ByteArray)).size = x.size + 4 := ByteArray.size_append
    go_wp2_with fail
    refine (fmt_spec p _ h0 h1).mono ?_
    rintro e w2 ⟨rfl, hb⟩
    have HB2 := Lib.hid (HB.out.trans (hb.mono HB.out.size))
    clear hb
    generalize hs : (⟨(Lib.itoa p).toArray⟩ : ByteArray) = s at hz HR ⊢
    have z2 : (x ++ (⟨#[32, 97, 116, 32]⟩ : ByteArray) ++ s).size = x.size + 4 + s.size := by rw [ByteArray.size_append, z1]
    go_wp2_with fail
    go_ret
    exact ⟨ret_str HR.out, HB2.out⟩
set_option maxRecDepth 100000 in
theorem desce_impl (p k : Int) (w : World) (h0 : -9223372036854775808 ≤ p) (h1 : p ≤ 9223372036854775807) (htab : PowTab w) :
    Calls Tryd.prog 5 #[.int .i64 p, .int .i64 k] w fun e w' => e = .returned (.string (descErr p k)) ∧ Below w.heap.size w w' := by
  by_cases hk : k = 0
  · have HR : Hid (errName k = descErr p k) := by show _ = _; subst hk; rfl
    have g : (k == 0) = true := by simp [hk]
    clear hk
    go_enter Tryd.func5, Tryd.ntmps5
    go_wp2_with fail
    refine (errname_impl k _).mono ?_
    rintro e w1 ⟨rfl, hb⟩
    have HB := Lib.hid hb
    clear hb
    go_wp2_with fail
    go_ret
    exact ⟨ret_str HR.out, HB.out⟩
  · have HR : Hid (errName k ++ (⟨#[32, 97, 116, 32]⟩ : ByteArray) ++ (⟨(Lib.itoa p).toArray⟩ : ByteArray) = descErr p k) := by show _ = _; unfold descErr; rw [if_neg hk]
    have g : (k == 0) = false := by simp [hk]
    have hz := itoa_max h0 h1
    have he := errName_size k
    have HT := Lib.hid htab
    clear hk htab
    go_enter Tryd.func5, Tryd.ntmps5
    go_wp2_with fail
    refine (errname_impl k _).mono ?_
    rintro e w1 ⟨rfl, hb⟩
    have HB := Lib.hid hb
    clear hb
    generalize errName k = x at he HR ⊢
    have z1 : (x ++ (⟨#[32, 97, 116, 32]⟩ : ByteArray)).size = x.size + 4 := ByteArray.size_append
    go_wp2_with fail
    refine (fmt_impl p _ h0 h1 (HT.out.below HB.out)).mono ?_
    rintro e w2 ⟨rfl, hb⟩
    have HB2 := Lib.hid (HB.out.trans (hb.mono HB.out.size))
    clear hb
    generalize hs : (⟨(Lib.itoa p).toArray⟩ : ByteArray) = s at hz HR ⊢
    have z2 : (x ++ (⟨#[32, 97, 116, 32]⟩ : ByteArray) ++ s).size = x.size + 4 + s.size := by rw [ByteArray.size_append, z1]
    go_wp2_with fail
    go_ret
    exact ⟨ret_str HR.out, HB2.out⟩
end Go.Proofs.YtikpbeealeofaaaDoor
