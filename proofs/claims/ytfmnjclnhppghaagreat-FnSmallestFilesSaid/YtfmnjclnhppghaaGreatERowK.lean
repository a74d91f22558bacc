/- Drawn rules, as the program's functions of. -/
import Derived.Test.YtfmnjclnhppghaaGreatEArr
import Derived.Test.YtfmnjclnhppghaaGreatEGPu
namespace Go.Proofs.YtfmnjclnhppghaaGreat
open Go Go.RowKit
theorem RowR.rdk {base : Nat} {ad : Option Addr} {rs : List RuleV} {capd : Nat} {w : World} (h : RowR base (.slice ad rs.length capd) rs w) : RdK ad rs w:=by
 obtain ⟨css,hl,ho,hr⟩:=h
 have h8 : ∀ cs ∈ css,cs.length = 8:=fun cs hc => by
  obtain ⟨j,hj,rfl⟩:=List.getElem_of_mem hc
  exact (hr j (by omega) hj).1.length
 have h0:=ho
 rcases ho.2 with ⟨e,hn⟩ | ⟨g,cap,cur,e,hb,hg,hnc,hcm,hcs,ht⟩
 ·have : rs = []:=List.eq_nil_of_length_eq_zero hn
  subst this
  exact fun j hj => by simp at hj
 ·injection e with e1 e2 e3
  subst e1
  refine fun j hj => ?_
  have hj' : j < css.length:=by omega
  refine ⟨g,0,css[j],rfl,(hr j hj hj').1,(hr j hj hj').2.1.1,(hr j hj hj').2.1.2,fun i u hu => ?_⟩
  have hi : i < 8:=by
   have:=h8 _ (List.getElem_mem hj')
   rcases Nat.lt_or_ge i 8 with h | h
   ·exact h
   ·rw [List.getElem?_eq_none (by omega)] at hu; cases hu
  rw [Nat.zero_add,h0.cellAt (j * 8 + i) (by
   have : (j + 1) * 8 ≤ rs.length * 8:=Nat.mul_le_mul_right 8 (by omega)
   omega),flat_at h8 j i hj' hi]
  exact hu
end Go.Proofs.YtfmnjclnhppghaaGreat
