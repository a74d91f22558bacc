/- The canonical form of bytes, as data. -/
import Derived.Test.YtefkhknfjohnaaaGreatDoorEGKG
import Derived.Test.YtefkhknfjohnaaaGreatDoorEPW
import Derived.Test.YtefkhknfjohnaaaGreatDoorEPE
namespace Go.Proofs.YtefkhknfjohnaaaGreatDoor
open Go Go.RowKit
noncomputable def canoB (rs : List RuleV) (L : List UInt8) : Bool:=match fileG rs L with | .ok v _ => printB rs ((rs.length : Int) - 1) v | .bad _ _ => false
noncomputable def canoL (rs : List RuleV) (L : List UInt8) : List UInt8:=match fileG rs L with | .ok v _ => encV rs ((rs.length : Int) - 1) v | .bad _ _ => []
noncomputable def canoS (rs : List RuleV) (L : List UInt8) : List UInt8:=if canoB rs L = true then canoL rs L else []
noncomputable def iscB (rs : List RuleV) (L : List UInt8) : Bool:=canoB rs L && decide (canoL rs L = L)
noncomputable def redN (rs : List RuleV) (L : List UInt8) : Int:=if canoB rs L = true then (L.length : Int) - ((canoL rs L).length : Int) else 0
theorem cano_le {rs : List RuleV} {L : List UInt8} (h : canoB rs L = true) : (canoL rs L).length ≤ 400:=by
 unfold canoB at h
 unfold canoL
 cases hf : fileG rs L with
 | bad q c => exact Nat.zero_le _
 | ok v q =>
  rw [hf] at h
  simp only at h
  unfold printB fitsV at h
  rw [Bool.and_eq_true,Bool.and_eq_true] at h
  obtain ⟨⟨k0,k1⟩,-,hav⟩:=okAt_yes h.1.1
  obtain ⟨m,hm⟩ : ∃ m : Nat,(rs.length : Int) - 1 = (m : Int):=⟨((rs.length : Int) - 1).toNat,by omega⟩
  have h2:=of_decide_eq_true h.2
  have h1:=h.1.2
  rw [hm] at h1 h2 ⊢
  show (encV rs (m : Int) v).length ≤ 400
  rw [encV_length hav m (by omega) v h1]
  exact h2
theorem canoS_le (rs : List RuleV) (L : List UInt8) : (canoS rs L).length ≤ 400:=by
 unfold canoS
 split
 ·rename_i h; exact cano_le h
 ·exact Nat.zero_le _
end Go.Proofs.YtefkhknfjohnaaaGreatDoor
