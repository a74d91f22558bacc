/- What every card of this seat needs: the table of powers of ten out of the row's list. Contracts of the laws' comparisons of values, where both are the same. Three closed facts on the whole program, each shown once (every row's proof asks them; together they outgrow the memory of one theorem). What comes back of the two readers, in one form; how many parts it has. What the cards that list errors.errorType give a walk: the variable's one cell. -/
import Derived.Test.YtdccjobgfjoflaaGreatDoorRows
import Derived.Test.YtdccjobgfjoflaaGreatDoorShelf
import Derived.WalkKit
import Derived.ProofKit
import Derived.OpenShut
import Derived.LaidMore
import Derived.Stop.Joined
import Derived.Stop.LaidErr
import Derived.Below
import Derived.ChangeSame
import Derived.Lib.LaidTab
import Derived.Lib.AppendIntMem
import Derived.Lib.AtoiErrMem
import Derived.Test.YtdccjobgfjoflaaGreatDoorGV
import Derived.Deep.RegionHeld3
import Derived.Deep.CutRange
import Derived.Test.YtdccjobgfjoflaaGreatDoorChecked
import Derived.JoinedOf
import Derived.KernelRfl
import Derived.Test.YtdccjobgfjoflaaGreatDoorGSF
import Derived.Test.YtdccjobgfjoflaaGreatDoorGIF
import Derived.Test.YtdccjobgfjoflaaGreatDoorGP
import Derived.Test.YtdccjobgfjoflaaGreatDoorGY
import Derived.LaidLaws
import Derived.LaidHandle
namespace Go.Proofs.YtdccjobgfjoflaaGreatDoor
open Go Go.ChangeShapes Go.WideShapes Go.ChangeAt Go.RowKit
theorem ownL : ownKnob Tryz.prog.godebug = none := by kernel_rfl
/-- The table of powers of ten, as the library's text lays it. -/
def PowTab (w : World) : Prop := Lib.TabIs Tryz.prog w "internal/strconv.uint64pow10" .u64 Lib.pow10Tab
theorem PowTab.below {w w' : World} (h : PowTab w) (hb : Below w.heap.size w w') : PowTab w' := Lib.tabBelow_of_tabIs h w' hb
theorem powTab_of {W : World} {rest : List (String × DataW Unit)} (h : laidMet Tryz.prog (("internal/strconv.uint64pow10", Rows.laid_internal_strconv_uint64pow10) :: rest) W) : PowTab W :=
  Lib.tabIs_of_head (P := Tryz.prog) (k := .u64) (zs := Lib.pow10Tab) (g := 2) (t := 252) (e := 245) (n := 20) (by kernel_rfl) (by kernel_rfl) Tryz.underlying252 Tryz.underlying245 (by kernel_rfl) (by kernel_rfl) h
end Go.Proofs.YtdccjobgfjoflaaGreatDoor
namespace Go.Proofs.YtdccjobgfjoflaaGreatDoor
open Go Go.RowKit
/-- What eqValueS promises of items of a height. -/
def EqLC (n m : Nat) : Prop := ∀ (a b : Option Addr) (vs : List ValueV) (ca cb : Nat) (w : World), ItemsAt n a vs w → ItemsAt m b vs w → vs.length + sizL vs ≤ 1048576 →
  Calls Tryz.prog 65 #[.slice a vs.length ca, .slice b vs.length cb] w fun e w' => e = .returned (.bool true) ∧ Below w.heap.size w w'
def EqVC (n m : Nat) : Prop := ∀ (v : ValueV) (cs cs' : List Value) (w : World), IsVal n v cs w → IsVal m v cs' w → sizV v ≤ 1048576 →
  Calls Tryz.prog 28 #[.agg cs.toArray, .agg cs'.toArray] w fun e w' => e = .returned (.bool true) ∧ Below w.heap.size w w'
set_option maxRecDepth 100000 in
set_option maxHeartbeats 4000000 in
theorem eqv_step (n m : Nat) (ih : EqLC n m) : EqVC (n + 1) (m + 1) := by
  intro v cs cs' w hv hv' hs
  obtain ⟨ab, cb, ai, ci, rfl, hrb, hit⟩ := hv.open
  obtain ⟨ab2, cb2, ai2, ci2, rfl, hrb2, hit2⟩ := hv'.open
  have hsz := sizV_eq v
  obtain ⟨w0, hw0⟩ : ∃ w0, w0 = (w.alloc (.cells #[.int .i64 v.number, .slice ab v.bytes.length cb, .slice ai v.items.length ci] 29)).alloc (.cells #[.int .i64 v.number, .slice ab2 v.bytes.length cb2, .slice ai2 v.items.length ci2] 29) := ⟨_, rfl⟩
  have hB : Below w.heap.size w w0 := by subst hw0; exact ((Below.refl _ w).alloc (Nat.le_refl _) _).alloc (by simp) _
  have hX : CellsAt w.heap.size [.int .i64 v.number, .slice ab v.bytes.length cb, .slice ai v.items.length ci] w0 := by subst hw0; exact (CellsAt.new w _ _).below ((Below.refl _ _).alloc (Nat.le_refl _) _)
  have hY : CellsAt (w.heap.size + 1) [.int .i64 v.number, .slice ab2 v.bytes.length cb2, .slice ai2 v.items.length ci2] w0 := by subst hw0; have h1 := CellsAt.new (w.alloc (.cells #[.int .i64 v.number, .slice ab v.bytes.length cb, .slice ai v.items.length ci] 29)) [.int .i64 v.number, .slice ab2 v.bytes.length cb2, .slice ai2 v.items.length ci2] 29; rw [World.size_alloc] at h1; exact h1
  have HX := Lib.hid hX
  have HY := Lib.hid hY
  have HB := Lib.hid hB
  have HR1 := Lib.hid hrb.1
  have HR2 := Lib.hid hrb2.1
  have HI1 := Lib.hid hit
  have HI2 := Lib.hid hit2
  have HIH := Lib.hid ih
  have hbl : v.bytes.length ≤ 1048576 := by omega
  have HNV : Hid (v.items.length + sizL v.items ≤ 1048576) := by show _ ≤ _; omega
  have hW := Lib.hid hw0
  clear hX hY hB hrb hrb2 hit hit2 ih hv hv' hs hsz hw0
  go_enter Tryz.func28, Tryz.ntmps28
  go_upto_region 1 with fail
  rw [← hW.out]
  clear hW
  have x0 := (HX.out 0 _ rfl).1
  have x1 := (HX.out 1 _ rfl).1
  have y0 := (HY.out 0 _ rfl).1
  have y1 := (HY.out 1 _ rfl).1
  have e0 : (v.number != v.number) = false := by simp
  go_wp2_with fail
  refine (eq_any ab ab2 v.bytes v.bytes cb cb2 _ (by omega) (HR1.out.below HB.out) (HR2.out.below HB.out)).mono ?_
  rintro e w1 ⟨rfl, k1, rfl⟩
  rw [decide_eq_true rfl]
  have hd : Below w0.heap.size w0 (w0.drewN k1) := below_drewN (Below.refl _ _) k1
  have HB1 := Lib.hid (HB.out.trans (hd.mono HB.out.size))
  have HX1 := Lib.hid (HX.out.below hd)
  have HY1 := Lib.hid (HY.out.below hd)
  clear x0 x1 y0 y1 e0
  generalize w0.drewN k1 = w1 at hd HB1 HX1 HY1 ⊢
  have x2 := (HX1.out 2 _ rfl).1
  have y2 := (HY1.out 2 _ rfl).1
  clear hd
  go_wp2_with fail
  refine (HIH.out ai ai2 v.items ci ci2 w1 (HI1.out.below HB1.out) (HI2.out.below HB1.out) HNV.out).mono ?_
  rintro e w2 ⟨rfl, hb2⟩
  have HB2 := Lib.hid (HB1.out.trans (hb2.mono HB1.out.size))
  clear hb2 x2 y2
  go_wp2
  go_ret
  exact ⟨rfl, HB2.out⟩
set_option maxRecDepth 100000 in
set_option maxHeartbeats 4000000 in
theorem eql_step (n m : Nat) (ih : EqVC n m) : EqLC n m := by
  intro a b vs ca cb w ha hb hs
  have HA := Lib.hid ha
  have HB := Lib.hid hb
  have HIH := Lib.hid ih
  have HS := Lib.hid hs
  have hl : vs.length ≤ 1048576 := by omega
  have HB0 := Lib.hid (Below.refl w.heap.size w)
  have e0 : ((vs.length : Int) != (vs.length : Int)) = false := by simp
  clear ha hb ih hs
  go_enter Tryz.func65, Tryz.ntmps65
  go_wp2
  clear e0
  go_loopw [5] (fun i W => ∃ k : Nat, k ≤ vs.length ∧ i = .int .i64 k ∧ Hid (Below w.heap.size w W)) (fun i _ => vs.length - (intOf i).toNat)
  case atStart => exact ⟨0, Nat.zero_le _, rfl, HB0⟩
  case round =>
    clear HB0
    obtain ⟨k, hk, rfl, hbw⟩ := hrel
    have k0 : (0 : Int) ≤ (k : Int) := by omega
    by_cases hlt : k < vs.length
    · have k1 : (k : Int) < (vs.length : Int) := by omega
      obtain ⟨b1, off1, cs1, rfl, hiv1, hc1⟩ := HA.out k hlt
      obtain ⟨b2, off2, cs2, rfl, hiv2, hc2⟩ := HB.out k hlt
      obtain ⟨a1, c1, a2, c2, rfl⟩ := hiv1.three
      obtain ⟨a3, c3, a4, c4, rfl⟩ := hiv2.three
      have H6 : Hid (∀ W, Below w.heap.size w W → W.cell? ⟨b1, off1 + k * 3, none⟩ = some (.int .i64 vs[k].number) ∧ W.cell? ⟨b1, off1 + k * 3 + 1, none⟩ = some (.slice a1 vs[k].bytes.length c1) ∧ W.cell? ⟨b1, off1 + k * 3 + 2, none⟩ = some (.slice a2 vs[k].items.length c2) ∧ W.cell? ⟨b2, off2 + k * 3, none⟩ = some (.int .i64 vs[k].number) ∧ W.cell? ⟨b2, off2 + k * 3 + 1, none⟩ = some (.slice a3 vs[k].bytes.length c3) ∧ W.cell? ⟨b2, off2 + k * 3 + 2, none⟩ = some (.slice a4 vs[k].items.length c4)) :=
        fun W h => ⟨cell_keepV h (hc1 0 _ rfl), cell_keepV h (hc1 1 _ rfl), cell_keepV h (hc1 2 _ rfl), cell_keepV h (hc2 0 _ rfl), cell_keepV h (hc2 1 _ rfl), cell_keepV h (hc2 2 _ rfl)⟩
      have HV1 := Lib.hid hiv1
      have HV2 := Lib.hid hiv2
      have hsz : Hid (sizV vs[k] ≤ 1048576) := by show _ ≤ _; have := sizL_at hlt; have := HS.out; omega
      clear hc1 hc2 hiv1 hiv2
      generalize vs[k] = v at H6 HV1 HV2 hsz
      go_upto_region 6 with fail
      replace hbw := Lib.hid (below_drewN hbw.out 1)
      go_region_held3 (fun W => W.cell? ⟨b1, off1 + k * 3, none⟩ = some (.int .i64 v.number) ∧ W.cell? ⟨b1, off1 + k * 3 + 1, none⟩ = some (.slice a1 v.bytes.length c1) ∧ W.cell? ⟨b1, off1 + k * 3 + 2, none⟩ = some (.slice a2 v.items.length c2) ∧ W.cell? ⟨b2, off2 + k * 3, none⟩ = some (.int .i64 v.number) ∧ W.cell? ⟨b2, off2 + k * 3 + 1, none⟩ = some (.slice a3 v.bytes.length c3) ∧ W.cell? ⟨b2, off2 + k * 3 + 2, none⟩ = some (.slice a4 v.items.length c4)) (exact H6.out _ hbw.out) (first | (go_at_call 28; refine (HIH.out v _ _ _ (HV1.out.below hbw.out) (HV2.out.below hbw.out) hsz.out).mono ?_; rintro e w2 ⟨rfl, hb2⟩; replace hbw := Lib.hid (hbw.out.trans (hb2.mono hbw.out.size)); clear hb2))
      clear H6 HV1 HV2 hsz
      go_wp2
      go_roundw
      case rel => exact ⟨k + 1, by omega, by go_num, hbw⟩
      case measure => simp [intOf]; omega
    · have k1 : ¬ (k : Int) < (vs.length : Int) := by omega
      go_wp2
      go_ret
      exact ⟨rfl, hbw.out⟩
theorem eqv_all : ∀ n m, EqVC n m
  | 0, _ => fun _ _ _ _ h => h.elim
  | _ + 1, 0 => fun _ _ _ _ _ h => h.elim
  | n + 1, m + 1 => eqv_step n m (eql_step n m (eqv_all n m))
/-- eqValue of two that hold the same. -/
theorem eq_value (n m : Nat) (v : ValueV) (cs cs' : List Value) (w : World) (h : IsVal n v cs w) (h' : IsVal m v cs' w) (hs : sizV v ≤ 1048576) :
    Calls Tryz.prog 28 #[.agg cs.toArray, .agg cs'.toArray] w fun e w' => e = .returned (.bool true) ∧ Below w.heap.size w w' := eqv_all n m v cs cs' w h h' hs
end Go.Proofs.YtdccjobgfjoflaaGreatDoor
namespace Go.Proofs.YtdccjobgfjoflaaGreatDoor
open Go
theorem may_enter : Tryz.prog.mayEnter = true := by kernel_rfl
theorem lifts_final : Tryz.prog.liftsFinal = ({ program := "", sum := "", func := "", spec := "" } : OpenClaim).lifted := by kernel_rfl
theorem make_is : Tryz.prog.make = some ({ program := "", sum := "", func := "", spec := "" } : OpenClaim).make := by kernel_rfl
end Go.Proofs.YtdccjobgfjoflaaGreatDoor
namespace Go.Proofs.YtdccjobgfjoflaaGreatDoor
open Go Go.RowKit
/-- What comes back of a reading: the value, the place, the code. -/
def gvOf : Got ValueV → ValueV
  | .ok v _ => v
  | .bad _ _ => .mk 0 [] []
def gqOf : Got ValueV → Nat
  | .ok _ q => q
  | .bad q _ => q
def gcOf : Got ValueV → Nat
  | .ok _ _ => 0
  | .bad _ c => c
theorem ownT_zero (n : Nat) (w : World) : OwnT (n + 1) [] (.mk 0 [] []) [.int .i64 0, .slice none 0 0, .slice none 0 0] w := by
  refine ⟨none, 0, none, 0, [], [], [], rfl, ⟨by simp [ValueV.bytes], fun _ => rfl⟩, ?_, ?_⟩
  · exact .inl ⟨rfl, rfl⟩
  · refine ⟨rfl, by simp, by simp [ValueV.items], by simp [ValueV.items], fun j h => by simp [ValueV.items] at h⟩
theorem ko_res {h : Nat} {g : Got ValueV} {w w' : World} {e : Ending} (hr : ResAt h g w e w') : ∃ bl cs, e = .returned (.tuple #[.agg cs.toArray, .int .i64 (gqOf g : Int), .int .i64 (gcOf g : Int)]) ∧ OwnT (h + 1) bl (gvOf g) cs w' ∧ (∀ b ∈ bl, w.heap.size ≤ b) ∧ Below w.heap.size w w' := by
  cases g with
  | ok v q =>
    obtain ⟨⟨bl, cs, e1, h1, h2⟩, hb⟩ := hr
    exact ⟨bl, cs, e1, h1.up (by omega), h2, hb⟩
  | bad q c =>
    obtain ⟨e1, hb⟩ := hr
    exact ⟨[], _, e1, ownT_zero h w', fun b hb => by simp at hb, hb⟩
theorem ko_got {h : Nat} {g : Got ValueV} {w w' : World} {e : Ending} (hr : SGot h g w e w') : ∃ cs, e = .returned (.tuple #[.agg cs.toArray, .int .i64 (gqOf g : Int), .int .i64 (gcOf g : Int)]) ∧ OwnV (fun b => w.heap.size ≤ b) (h + 1) (gvOf g) cs w' ∧ Below w.heap.size w w' := by
  cases g with
  | ok v q =>
    obtain ⟨⟨cs, e1, h1⟩, hb⟩ := hr
    exact ⟨cs, e1, h1.up (by omega), hb⟩
  | bad q c =>
    obtain ⟨e1, hb⟩ := hr
    exact ⟨_, e1, OwnV.leaf (RdN.nil0 _) (fun b off e => by cases e), hb⟩
theorem readG_siz (rs : List RuleV) (k x : Int) (L : List UInt8) : sizV (gvOf (readG rs k L x)) ≤ 1048576 := by
  unfold readG
  split
  · rename_i hall
    obtain ⟨h1, h2, h3, h4⟩ := hall
    obtain ⟨⟨h0, h0'⟩, ⟨-, h24⟩, hv⟩ := okAt_yes h1
    cases hp : parseB rs L rs.length k x.toNat with
    | bad q c => show sizV (.mk 0 [] []) ≤ _; rw [sizV_eq]; simp [ValueV.bytes, ValueV.items, sizL]
    | ok v q =>
      show sizV v ≤ _
      rw [show k = ((k.toNat : Nat) : Int) from by omega] at hp
      have hs := (parse_siz hv L rs.length k.toNat (by omega) (by omega) x.toNat (by omega) v q hp).2
      have hf := parse_fine hv L rs.length k.toNat (by omega) (by omega) x.toNat (by omega)
      rw [hp] at hf
      have hq : q ≤ L.length := hf.2
      have h5 : (k.toNat + 1) * (q - x.toNat) ≤ 24 * 400 := Nat.mul_le_mul (by omega) (by omega)
      omega
  · show sizV (.mk 0 [] []) ≤ _
    rw [sizV_eq]
    simp [ValueV.bytes, ValueV.items, sizL]
theorem fileG_siz (rs : List RuleV) (L : List UInt8) : sizV (gvOf (fileG rs L)) ≤ 1048576 := by
  have h := readG_siz rs ((rs.length : Int) - 1) 0 L
  unfold fileG
  cases hr : readG rs ((rs.length : Int) - 1) L 0 with
  | bad q c => rw [hr] at h; exact h
  | ok v q =>
    rw [hr] at h
    simp only
    split
    · show sizV (.mk 0 [] []) ≤ _
      rw [sizV_eq]
      simp [ValueV.bytes, ValueV.items, sizL]
    · exact h
end Go.Proofs.YtdccjobgfjoflaaGreatDoor
namespace Go.Proofs.YtdccjobgfjoflaaGreatDoor
open Go Go.ChangeShapes Go.WideShapes Go.RowKit
theorem hl_et : Tryz.prog.globalNamed "errors.errorType" = some 0 := by kernel_rfl
theorem hl_rt : (Tryz.prog.cutTypes.find? (·.1 == "internal/reflectlite.rtype")).map (·.2) = some 223 := by kernel_rfl
theorem hl_one : ((List.range Tryz.prog.types.size).filter fun t => Tryz.prog.rowNamed t [101, 114, 114, 111, 114]) = [89] := by kernel_rfl
theorem handle_of_laid {W : World} (h : laidMetH Tryz.prog [("errors.errorType", Rows.laid_errors_errorType)] W) : HandleAt W := by
  have h' : laidMet Tryz.prog [] W ∧ handlesMet Tryz.prog [("errors.errorType", Rows.laid_errors_errorType)] W := h
  obtain ⟨name, u, ty, e1, e2, e3, e4, e5⟩ := h'.2 _ (List.mem_singleton.2 rfl)
  have en : name = [101, 114, 114, 111, 114] := (Option.some.inj e1).symm
  subst en
  obtain rfl := Option.some.inj (hl_rt.symm.trans e2)
  have hm : ty ∈ (List.range Tryz.prog.types.size).filter fun t => Tryz.prog.rowNamed t [101, 114, 114, 111, 114] := List.mem_filter.2 ⟨List.mem_range.2 e3, e4⟩
  rw [hl_one] at hm
  obtain rfl := List.mem_singleton.1 hm
  have hh : typeHandle Tryz.prog 89 = .pointer (some ⟨5, 89, none⟩) := by kernel_rfl
  rw [hh] at e5
  simpa [HandleAt] using World.var?_cell hl_et e5 0
theorem handle_met (os : Os) (args : Array Value) : laidMetH Tryz.prog [("errors.errorType", Rows.laid_errors_errorType)] ((World.doorLaid Tryz.prog 400 os).forCall (fun _ _ => 0) ⟨#[], args, []⟩).memory :=
  laidMetH_of_parts3 (fuel := 8) (laidMet_nil _ _) (by kernel_rfl) (by kernel_rfl)
end Go.Proofs.YtdccjobgfjoflaaGreatDoor
