/- What comes back of the two readers, in one form; how many parts it has. -/
import Derived.Test.YtefkhknfjohnaaaGreatDoorEGSF
import Derived.Test.YtefkhknfjohnaaaGreatDoorEGIF
import Derived.Test.YtefkhknfjohnaaaGreatDoorEGP
import Derived.Test.YtefkhknfjohnaaaGreatDoorRows
import Derived.Test.YtefkhknfjohnaaaGreatDoorEShelf
import Derived.WalkKit
import Derived.ProofKit
import Derived.OpenShut
import Derived.LaidMore
import Derived.Stop.Joined
import Derived.Stop.LaidErr
import Derived.Below
import Derived.ChangeSame
import Derived.Lib.LaidTab
import Derived.Lib.AppendIntMem
import Derived.Lib.AtoiErrMem
import Derived.Test.YtefkhknfjohnaaaGreatDoorEGY
import Derived.LaidLaws
import Derived.LaidHandle
import Derived.Test.YtefkhknfjohnaaaGreatDoorChecked
import Derived.JoinedOf
import Derived.KernelRfl
import Derived.Test.YtefkhknfjohnaaaGreatDoorEGV
import Derived.Deep.RegionHeld3
import Derived.Deep.CutRange
namespace Go.Proofs.YtefkhknfjohnaaaGreatDoor
open Go Go.RowKit
def gvOf : Got ValueV → ValueV
 | .ok v _ => v
 | .bad _ _ => .mk 0 [] []
theorem readG_siz (rs : List RuleV) (k x : Int) (L : List UInt8) : sizV (gvOf (readG rs k L x)) ≤ 1048576 := by
 unfold readG
 split
 ·rename_i hall
  obtain ⟨h1, h2, h3, h4⟩ := hall
  obtain ⟨⟨h0, h0'⟩, ⟨-, h24⟩, hv⟩ := okAt_yes h1
  cases hp : parseB rs L rs.length k x.toNat with
  | bad q c => show sizV (.mk 0 [] []) ≤ _; rw [sizV_eq]; simp [ValueV.bytes, ValueV.items, sizL]
  | ok v q =>
   show sizV v ≤ _
   rw [show k = ((k.toNat : Nat) : Int) from by omega] at hp
   have hs := (parse_siz hv L rs.length k.toNat (by omega) (by omega) x.toNat (by omega) v q hp).2
   have hf := parse_fine hv L rs.length k.toNat (by omega) (by omega) x.toNat (by omega)
   rw [hp] at hf
   have hq : q ≤ L.length := hf.2
   have h5 : (k.toNat + 1) * (q - x.toNat) ≤ 24 * 400 := Nat.mul_le_mul (by omega) (by omega)
   omega
 ·show sizV (.mk 0 [] []) ≤ _
  rw [sizV_eq]
  simp [ValueV.bytes, ValueV.items, sizL]
theorem fileG_siz (rs : List RuleV) (L : List UInt8) : sizV (gvOf (fileG rs L)) ≤ 1048576 := by
 have h := readG_siz rs ((rs.length : Int) - 1) 0 L
 unfold fileG
 cases hr : readG rs ((rs.length : Int) - 1) L 0 with
 | bad q c => rw [hr] at h; exact h
 | ok v q =>
  rw [hr] at h
  simp only
  split
  ·show sizV (.mk 0 [] []) ≤ _
   rw [sizV_eq]
   simp [ValueV.bytes, ValueV.items, sizL]
  ·exact h
end Go.Proofs.YtefkhknfjohnaaaGreatDoor
namespace Go.Proofs.YtefkhknfjohnaaaGreatDoor
open Go Go.ChangeShapes Go.WideShapes Go.ChangeAt Go.RowKit
theorem ownL : ownKnob Tryz.prog.godebug = none := by kernel_rfl
end Go.Proofs.YtefkhknfjohnaaaGreatDoor
namespace Go.Proofs.YtefkhknfjohnaaaGreatDoor
open Go Go.ChangeShapes Go.WideShapes Go.RowKit
theorem hl_et : Tryz.prog.globalNamed "errors.errorType" = some 0 := by kernel_rfl
theorem hl_rt : (Tryz.prog.cutTypes.find? (·.1 == "internal/reflectlite.rtype")).map (·.2) = some 234 := by kernel_rfl
theorem hl_one : ((List.range Tryz.prog.types.size).filter fun t => Tryz.prog.rowNamed t [101, 114, 114, 111, 114]) = [94] := by kernel_rfl
theorem handle_of_laid {W : World} (h : laidMetH Tryz.prog [("errors.errorType", Rows.laid_errors_errorType)] W) : HandleAt W := by
 have h' : laidMet Tryz.prog [] W ∧ handlesMet Tryz.prog [("errors.errorType", Rows.laid_errors_errorType)] W := h
 obtain ⟨name, u, ty, e1, e2, e3, e4, e5⟩ := h'.2 _ (List.mem_singleton.2 rfl)
 have en : name = [101, 114, 114, 111, 114] := (Option.some.inj e1).symm
 subst en
 obtain rfl := Option.some.inj (hl_rt.symm.trans e2)
 have hm : ty ∈ (List.range Tryz.prog.types.size).filter fun t => Tryz.prog.rowNamed t [101, 114, 114, 111, 114] := List.mem_filter.2 ⟨List.mem_range.2 e3, e4⟩
 rw [hl_one] at hm
 obtain rfl := List.mem_singleton.1 hm
 have hh : typeHandle Tryz.prog 94 = .pointer (some ⟨5, 94, none⟩) := by kernel_rfl
 rw [hh] at e5
 simpa [HandleAt] using World.var?_cell hl_et e5 0
theorem handle_met (os : Os) (args : Array Value) : laidMetH Tryz.prog [("errors.errorType", Rows.laid_errors_errorType)] ((World.doorLaid Tryz.prog 400 os).forCall (fun _ _ => 0) ⟨#[], args, []⟩).memory :=
 laidMetH_of_parts3 (fuel := 8) (laidMet_nil _ _) (by kernel_rfl) (by kernel_rfl)
end Go.Proofs.YtefkhknfjohnaaaGreatDoor
namespace Go.Proofs.YtefkhknfjohnaaaGreatDoor
open Go
end Go.Proofs.YtefkhknfjohnaaaGreatDoor
namespace Go.Proofs.YtefkhknfjohnaaaGreatDoor
open Go Go.RowKit
end Go.Proofs.YtefkhknfjohnaaaGreatDoor
