/- The program's allItems with the printer's writePart, out of writePart at a height. -/
import Derived.Test.YtefkhknfjohnaaaGreatDoorEK
import Derived.Test.YtefkhknfjohnaaaGreatDoorEPR
import Derived.Test.YtefkhknfjohnaaaGreatDoorEGK
import Derived.Test.YtefkhknfjohnaaaGreatDoorEPE
import Derived.Test.YtefkhknfjohnaaaGreatDoorEGV
import Derived.Test.YtefkhknfjohnaaaGreatDoorEGD
import Derived.Deep.RegionHeld3
import Derived.Deep.CutRange
import Derived.Test.YtefkhknfjohnaaaGreatDoorEGH
import Derived.Test.YtefkhknfjohnaaaGreatDoorEGPu
import Derived.Test.YtefkhknfjohnaaaGreatDoorEPW
import Derived.Test.YtefkhknfjohnaaaGreatDoorEGX
import Derived.Test.YtefkhknfjohnaaaGreatDoorEGDI
set_option maxRecDepth 100000
set_option maxHeartbeats 16000000
namespace Go.Proofs.YtefkhknfjohnaaaGreatDoor
open Go Go.RowKit
def WpC (wb : World) (a : Option Addr) (rs : List RuleV) (cap n : Nat) : Prop :=
 ∀ (v : ValueV) (vs : List Value) (k b o : Nat) (ov : Value) (out : List UInt8) (w : World),k < rs.length → IsVal n v vs wb → (∀ i u,vs[i]? = some u → wb.cell? ⟨b,o + i,none⟩ = some u) → Below wb.heap.size wb w → PrAt wb.heap.size a rs.length cap ov out w → out.length ≤ 400 →
  Calls Tryz.prog 126 #[.pointer (some ⟨wb.heap.size,0,none⟩),.int .i64 (k : Int),.pointer (some ⟨b,o,none⟩)] w (Wrote wb.heap.size a rs.length cap ov (validV rs (k : Int) v && decide ((out ++ encV rs (k : Int) v).length ≤ 400)) (out ++ encV rs (k : Int) v) w)
noncomputable def allB (rs : List RuleV) (r : RuleV) (v : ValueV) (out : List UInt8) : Bool:=(ownB rs r v && validL rs r v.number 0 v.items) && decide ((out ++ encs rs r v.number 0 v.items).length ≤ 400)
theorem alli_impl (wb : World) (a : Option Addr) (rs : List RuleV) (cap n : Nat) (ih : WpC wb a rs cap n) (r : RuleV) (cs : List Value) (v : ValueV) (b o : Nat) (ai : Option Addr) (ci : Nat) (ov : Value) (out : List UInt8) (w : World)
  (hki : kindI rs r = true) (hkr : ∀ x ∈ r.kids,∃ m : Nat,x = (m : Int) ∧ m < rs.length) (hi : IsRule r cs wb) (hfit : fitB (bndV rs r) v = true) (x0 : wb.cell? ⟨b,o,none⟩ = some (.int .i64 v.number)) (x2 : wb.cell? ⟨b,o + 2,none⟩ = some (.slice ai v.items.length ci)) (hit : ItemsAt n ai v.items wb)
  (hb : Below wb.heap.size wb w) (hp : PrAt wb.heap.size a rs.length cap ov out w) (hol : out.length ≤ 400) :
  Calls Tryz.prog 104 #[.agg cs.toArray,.pointer (some ⟨b,o,none⟩),.func (.func 126) #[.pointer (some ⟨wb.heap.size,0,none⟩)] #[]] w (Wrote wb.heap.size a rs.length cap ov (allB rs r v out) (out ++ encs rs r v.number 0 v.items) w):=by
 have hi0:=hi
 obtain ⟨a4,c4,a5,c5,a6,c6,a7,c7,rfl,-,-,-,-⟩:=hi
 obtain ⟨w0,hw0⟩ : ∃ w0,w0 = w.alloc (.cells #[.string r.name,.int .i64 r.kind,.int .i64 r.size,.bool r.little,.slice a4 r.bytes.length c4,.slice a5 r.names.length c5,.slice a6 r.tags.length c6,.slice a7 r.kids.length c7] 63):=⟨_,rfl⟩
 have hB:=zb1 hw0
 have hR:=zk1 hw0
 obtain ⟨pb,hpb⟩ : ∃ pb,pb = wb.heap.size:=⟨_,rfl⟩
 have HPB:=kq hpb
 have hpl:=hp.lt
 have hnew:=hp.new (Nat.le_refl w.heap.size)
 have hil:=fit_len hki hfit
 obtain ⟨RB,hRB⟩ : ∃ RB,RB = allB rs r v out:=⟨_,rfl⟩
 obtain ⟨O,hO⟩ : ∃ O,O = out ++ encs rs r v.number 0 v.items:=⟨_,rfl⟩
 have HRB : Hid (RB = ((ownB rs r v && validL rs r v.number 0 v.items) && decide (O.length ≤ 400))):=by show _ = _; rw [hRB,hO]; rfl
 rw [← hRB,← hO]
 have HST : Hid ((ownB rs r v && validL rs r v.number 0 v.items) = (ownB rs r v && validL rs r v.number 0 (v.items.drop 0))):=by show _ = _; rw [List.drop_zero]
 have HEN : Hid (out ++ encs rs r v.number 0 (v.items.drop 0) = O):=by show _ = _; rw [hO,List.drop_zero]
 have HKI:=kq hki
 have HKR:=kq hkr
 have HKS : Hid (∀ x ∈ r.kids,0 ≤ x):=fun x hx => by obtain ⟨m,h1,h2⟩:=hkr x hx; omega
 have HFIT:=kq hfit
 have HIS:=kq hi0
 have HIT:=kq hit
 have HIH:=kq ih
 have HC : Hid (∀ W,Below wb.heap.size wb W → W.cell? ⟨b,o,none⟩ = some (.int .i64 v.number) ∧ W.cell? ⟨b,o + 2,none⟩ = some (.slice ai v.items.length ci)):=fun W hW => ⟨cellK hW (Nat.le_refl _) x0,cellK hW (Nat.le_refl _) x2⟩
 have HB:=kq (hb.trans (hB.mono hb.size))
 have HP:=kq (hp.below hB)
 have HR:=kq hR
 have HM : Hid (Moved wb.heap.size ov w ov w0):=Moved.of_below hB
 have HNE : Hid (w.heap.size ≠ wb.heap.size):=by show _ ≠ _; omega
 have HW:=kq hw0
 have HOL:=kq hol
 have HNEW:=kq hnew
 rw [← hpb] at HP HM HNE ⊢
 clear hki hkr hi0 hfit hit ih hb hp hol hB hR hpb hpl hnew hRB hO hw0 x0 x2
 go_enter Tryz.func104,Tryz.ntmps104
 go_upto_region 1 with fail
 rw [← HW.out]
 clear HW
 have z2:=(HC.out _ HB.out).2
 go_wp2
 clear z2
 go_loopw [14] (fun i W => ∃ (q : Nat) (ov2 : Value) (out2 : List UInt8),q ≤ v.items.length ∧ i = .int .i64 q ∧ Hid ((ownB rs r v && validL rs r v.number 0 v.items) = (ownB rs r v && validL rs r v.number q (v.items.drop q))) ∧ Hid (q = 0 ∨ ownB rs r v = true) ∧ Hid (out2 ++ encs rs r v.number q (v.items.drop q) = O) ∧ Hid (out2.length ≤ 400) ∧ Hid (PrAt pb a rs.length cap ov2 out2 W) ∧ Hid (Moved pb ov w ov2 W) ∧ Hid (ov2.ownBlock ≠ some w.heap.size) ∧ Hid (CellsAt w.heap.size [.string r.name,.int .i64 r.kind,.int .i64 r.size,.bool r.little,.slice a4 r.bytes.length c4,.slice a5 r.names.length c5,.slice a6 r.tags.length c6,.slice a7 r.kids.length c7] W) ∧ Hid (Below wb.heap.size wb W)) (fun i _ => v.items.length - (intOf i).toNat)
 case atStart => exact ⟨0,ov,out,Nat.zero_le _,rfl,HST,Or.inl rfl,HEN,HOL,HP,HM,HNEW,HR,HB⟩
 case round =>
  clear HST HEN HOL HP HM HNEW HR HB
  obtain ⟨q,ov2,out2,hql,rfl,HVQ,HOWN,HENQ,HOL,HP,HM,HNEW,HR,HB⟩:=hrel
  have q0 : (0 : Int) ≤ (q : Int):=by omega
  by_cases hlt : q < v.items.length
  ·have q1 : (q : Int) < (v.items.length : Int):=by omega
   obtain ⟨f1,f2,f3⟩:=fit_kid HKI.out HKS.out HFIT.out hlt
   have hmem : 0 ≤ itemR r v.number q → itemR r v.number q ∈ r.kids:=fun h => item_kid HKI.out (f3 h) hlt
   have hnx:=kq (validL_next (rs:=rs) (r:=r) (x:=v.number) hlt)
   have hne:=kq (encs_next (rs:=rs) (r:=r) (x:=v.number) hlt)
   obtain ⟨K,hK⟩ : ∃ K,K = kidI r v.number q:=⟨_,rfl⟩
   rw [← f1,← hK] at f2 f3 hmem hnx hne
   have HK:=kq hK
   have HF2:=kq f2
   have HF3:=kq f3
   have HMEM:=kq hmem
   clear hK f1 f2 f3 hmem
   obtain ⟨bi,oi,cs',hai,hiv,hcc⟩:=HIT.out q hlt
   subst hai
   obtain ⟨it,hitt⟩ : ∃ it,it = v.items[q]:=⟨_,rfl⟩
   rw [← hitt] at hnx hne hiv
   have HIV:=kq hiv
   have HCC:=kq hcc
   clear hiv hcc hitt
   have hb5 : Below wr.heap.size wr wr.drew:=below_drewN (Below.refl _ wr) 1
   replace HR:=kq (HR.out.below hb5)
   replace HP:=kq (HP.out.below hb5)
   replace HM:=kq (HM.out.trans (Moved.of_below hb5))
   replace HB:=kq (HB.out.trans (hb5.mono HB.out.size))
   clear hb5
   go_upto_region 4 with fail
   go_region_held3 (fun W => W.cell? ⟨w.heap.size,0,none⟩ = some (.string r.name) ∧ W.cell? ⟨w.heap.size,1,none⟩ = some (.int .i64 r.kind) ∧ W.cell? ⟨w.heap.size,2,none⟩ = some (.int .i64 r.size) ∧ W.cell? ⟨w.heap.size,3,none⟩ = some (.bool r.little) ∧ W.cell? ⟨w.heap.size,4,none⟩ = some (.slice a4 r.bytes.length c4) ∧ W.cell? ⟨w.heap.size,5,none⟩ = some (.slice a5 r.names.length c5) ∧ W.cell? ⟨w.heap.size,6,none⟩ = some (.slice a6 r.tags.length c6) ∧ W.cell? ⟨w.heap.size,7,none⟩ = some (.slice a7 r.kids.length c7) ∧ W.cell? ⟨b,o,none⟩ = some (.int .i64 v.number)) (exact ⟨(HR.out 0 _ rfl).1,(HR.out 1 _ rfl).1,(HR.out 2 _ rfl).1,(HR.out 3 _ rfl).1,(HR.out 4 _ rfl).1,(HR.out 5 _ rfl).1,(HR.out 6 _ rfl).1,(HR.out 7 _ rfl).1,(HC.out _ HB.out).1⟩) (first | (go_at_call 118; refine (kidof_impl rs r _ v.number q _ (by omega) HKI.out (HIS.out.below HB.out)).mono ?_; rintro e w5 ⟨rfl,hb5⟩; rw [← HK.out]; replace HR:=kq (HR.out.below hb5); replace HP:=kq (HP.out.below hb5); replace HM:=kq (HM.out.trans (Moved.of_below hb5)); replace HB:=kq (HB.out.trans (hb5.mono HB.out.size)); clear hb5))
   by_cases hk0 : K < 0
   ·have hd : decide (K < 0) = true:=decide_eq_true hk0
    have hr : RB = false:=by rw [HRB.out,HVQ.out,HF2.out hk0]; rfl
    subst hr
    go_wp2
    go_ret
    exact ⟨rfl,ov2,out2,HM.out,HP.out,fun h => by cases h⟩
   ·obtain ⟨m,rfl,hm⟩:=HKR.out _ (HMEM.out (by omega))
    have hd : decide ((m : Int) < 0) = false:=decide_eq_false hk0
    have HOW : Hid (ownB rs r v = true):=HF3.out (by omega)
    obtain ⟨E,hE⟩ : ∃ E,E = encV rs (m : Int) it:=⟨_,rfl⟩
    obtain ⟨vb,hvb⟩ : ∃ vb,vb = (validV rs (m : Int) it && decide ((out2 ++ E).length ≤ 400)):=⟨_,rfl⟩
    rw [← hE] at hne
    have HCL : Hid (∀ W,Below w5.heap.size w5 W → Calls Tryz.prog 126 #[.pointer (some ⟨pb,0,none⟩),.int .i64 (m : Int),.pointer (some ⟨bi,oi + q * 3,none⟩)] W (Wrote pb a rs.length cap ov2 vb (out2 ++ E) W)):=fun W hW => by rw [hvb,hE,HPB.out]; exact HIH.out it cs' m bi (oi + q * 3) ov2 out2 W hm HIV.out HCC.out (HB.out.trans (hW.mono HB.out.size)) (by rw [← HPB.out]; exact HP.out.below hW) HOL.out
    have HVB:=kq hvb
    clear hvb hE hm
    have y2:=(HC.out _ HB.out).2
    go_wp2_with fail
    refine (HCL.out _ (Below.refl _ _)).mono ?_
    rintro e w6 ⟨rfl,ov3,out3,hm6,hp6,ho6⟩
    have HB6 : Hid (Below wb.heap.size wb w6):=hm6.below HB.out HB.out.size (by rw [HPB.out]; exact Nat.le_refl _) HP.out.2
    have HR6:=kq (hm6.cells HR.out HNE.out HNEW.out)
    have HM6:=kq (HM.out.trans hm6)
    have HNEW6:=kq (hm6.new (cell_lt (HR.out 0 _ rfl).1) HNEW.out)
    have HP6:=kq hp6
    have HO6:=kq ho6
    clear hm6 hp6 ho6 y2
    cases vb with
    | false =>
     have hr : RB = false:=by
      rw [HRB.out,HVQ.out,hnx.out]
      have h1:=HVB.out.symm
      rw [Bool.and_eq_false_iff] at h1
      rcases h1 with h1 | h1
      ·rw [h1,Bool.false_and,Bool.and_false,Bool.false_and]
      ·have h2:=of_decide_eq_false h1
       have h3 : decide (O.length ≤ 400) = false:=by
        refine decide_eq_false fun h4 => h2 ?_
        have h5:=HENQ.out
        rw [hne.out] at h5
        rw [← h5,List.length_append,List.length_append] at h4
        rw [List.length_append]
        omega
       rw [h3,Bool.and_false]
     subst hr
     go_wp2
     go_ret
     exact ⟨rfl,ov3,out3,HM6.out,HP6.out,fun h => by cases h⟩
    | true =>
     obtain rfl:=HO6.out rfl
     have h1:=HVB.out.symm
     rw [Bool.and_eq_true] at h1
     have HV2 : Hid ((ownB rs r v && validL rs r v.number 0 v.items) = (ownB rs r v && validL rs r v.number (q + 1) (v.items.drop (q + 1)))):=by show _ = _; rw [HVQ.out,hnx.out,h1.1,Bool.true_and]
     have HOL2 : Hid ((out2 ++ E).length ≤ 400):=by show _ ≤ _; exact of_decide_eq_true h1.2
     have HEN2 : Hid ((out2 ++ E) ++ encs rs r v.number (q + 1) (v.items.drop (q + 1)) = O):=by show _ = _; rw [List.append_assoc,← hne.out]; exact HENQ.out
     clear h1
     go_wp2
     go_roundw
     case rel => exact ⟨q + 1,ov3,_,by omega,by go_num,HV2,Or.inr HOW.out,HEN2,HOL2,HP6,HM6,HNEW6,HR6,HB6⟩
     case measure => simp [intOf]; omega
  ·have q1 : ¬ (q : Int) < (v.items.length : Int):=by omega
   have HOW : Hid (ownB rs r v = true):=by rcases HOWN.out with h | h; exact fit_end HKI.out HFIT.out (by omega); exact h
   have HOE : Hid (out2 = O):=by show _ = _; have h1:=HENQ.out; rw [List.drop_of_length_le (by omega),encs,List.append_nil] at h1; exact h1
   have hr : RB = true:=by rw [HRB.out,HVQ.out,HOW.out,List.drop_of_length_le (by omega),validL,← HOE.out]; simp; exact HOL.out
   subst hr
   go_wp2
   go_ret
   exact ⟨rfl,ov2,out2,HM.out,HP.out,fun _ => HOE.out⟩
theorem fit_none {rs : List RuleV} {r : RuleV} {v : ValueV} (h : fitB (bndV rs r) v = true) (hk : r.kind = 1 ∨ r.kind = 2 ∨ r.kind = 3 ∨ r.kind = 4 ∨ r.kind = 10) : v.items.length = 0:=by
 rcases hk with e | e | e | e | e
 all_goals
  simp only [fitB,bndV,e,Int.reduceEq,reduceIte,Bool.and_eq_true,decide_eq_true_eq] at h
  omega
theorem fit_bytes {rs : List RuleV} {r : RuleV} {v : ValueV} (hki : kindI rs r = true) (h : fitB (bndV rs r) v = true) : v.bytes.length ≤ 400:=by
 have hkn:=kindI_known hki
 rcases (by omega : r.kind = 1 ∨ r.kind = 2 ∨ r.kind = 3 ∨ r.kind = 4 ∨ r.kind = 5 ∨ r.kind = 6 ∨ r.kind = 7 ∨ r.kind = 8 ∨ r.kind = 9 ∨ r.kind = 10) with e | e | e | e | e | e | e | e | e | e
 all_goals
  simp only [fitB,bndV,e,Int.reduceEq,reduceIte,Bool.and_eq_true,decide_eq_true_eq] at h
  try have:=kindI_3 hki e
  omega
theorem encI_flag {n : Nat} (h : n ≤ 1) : encI flagR.little ((n : Nat) : Int) flagR.size = [UInt8.ofNat n]:=by
 rcases (by omega : n = 0 ∨ n = 1) with rfl | rfl
 ·rfl
 ·rfl
theorem valid_none {rs : List RuleV} {r : RuleV} {v : ValueV} (hki : kindI rs r = true) (h : fitB (bndV rs r) v = true) (hk : r.kind = 1 ∨ r.kind = 2 ∨ r.kind = 3 ∨ r.kind = 4 ∨ r.kind = 10) : (ownB rs r v && validL rs r v.number 0 v.items) = true:=by
 have h0:=fit_none h hk
 rw [fit_end hki h h0,List.eq_nil_of_length_eq_zero h0,validL]
 rfl
theorem encs_none {rs : List RuleV} {r : RuleV} {v : ValueV} (h : fitB (bndV rs r) v = true) (hk : r.kind = 1 ∨ r.kind = 2 ∨ r.kind = 3 ∨ r.kind = 4 ∨ r.kind = 10) : encs rs r v.number 0 v.items = []:=by
 rw [List.eq_nil_of_length_eq_zero (fit_none h hk),encs]
theorem headAt_kid {rs : List RuleV} (hall : allV (kindI rs) rs) {k : Nat} (hk : k < rs.length) (h : rs[k].kind = 4 ∨ rs[k].kind = 5 ∨ rs[k].kind = 7) : ∃ m : Nat,∃ hm : m < rs.length,rs[k].kids.getD 0 0 = (m : Int) ∧ HeadAt rs rs[k] rs[m]:=by
 obtain ⟨h1,m,hm,hmk⟩:=kid_int hall hk h
 have hml : m < rs.length:=by omega
 have hkl : 0 < rs[k].kids.length:=by
  have hki:=allV_kind hall hk
  rcases h with e | e | e
  ·have:=kindI_4 hki e; omega
  ·have:=kindI_5 hki e; omega
  ·have:=kindI_7 hki e; omega
 exact ⟨m,hml,hm,.inr ⟨by omega,hkl,m,hm,hml,rfl⟩⟩
theorem encs_pos {rs : List RuleV} (hall : allV (kindI rs) rs) {k : Nat} (hk : k < rs.length) (h9 : rs[k].kind = 9) {v : ValueV} (hv : (ownB rs rs[k] v && validL rs rs[k] v.number 0 v.items) = true) : 0 < (encs rs rs[k] v.number 0 v.items).length:=by
 rw [Bool.and_eq_true] at hv
 have hki:=allV_kind hall hk
 have ho:=hv.1
 have h1 : v.items.length = 1:=by
  have h2:=hv.1
  simp only [ownB,h9,Int.reduceEq,reduceIte,Bool.and_eq_true,decide_eq_true_eq] at h2
  exact h2.2.2
 have h3:=allV_kids hall hk _ (item_kid hki ho (q:=0) (by omega))
 obtain ⟨m,hm⟩ : ∃ m : Nat,itemR rs[k] v.number 0 = (m : Int):=⟨(itemR rs[k] v.number 0).toNat,by omega⟩
 have hml : m < rs.length:=by omega
 have h4:=validL_next (rs:=rs) (r:=rs[k]) (x:=v.number) (l:=v.items) (q:=0) (by omega)
 rw [List.drop_zero,hv.2] at h4
 have h5:=h4.symm
 rw [Bool.and_eq_true,hm] at h5
 have h6:=encs_next (rs:=rs) (r:=rs[k]) (x:=v.number) (l:=v.items) (q:=0) (by omega)
 rw [List.drop_zero,hm] at h6
 have h7:=encV_length hall m hml _ h5.1
 have h8:=plen_low hall m hml _ h5.1
 have h9:=low_pos hall m hml
 rw [h6,List.length_append,h7]
 omega
theorem over_len {A B : List UInt8} (h : ¬ A.length ≤ 400) : decide ((A ++ B).length ≤ 400) = false:=decide_eq_false fun h2 => h (by rw [List.length_append] at h2; omega)
theorem writei_impl (wb : World) (a : Option Addr) (rs : List RuleV) (cap n : Nat) (ih : WpC wb a rs cap n) (r : RuleV) (cs : List Value) (v : ValueV) (b o : Nat) (ai : Option Addr) (ci : Nat) (ov : Value) (out : List UInt8) (w : World)
  (hki : kindI rs r = true) (hkr : ∀ x ∈ r.kids,∃ m : Nat,x = (m : Int) ∧ m < rs.length) (hi : IsRule r cs wb) (hfit : fitB (bndV rs r) v = true) (x0 : wb.cell? ⟨b,o,none⟩ = some (.int .i64 v.number)) (x2 : wb.cell? ⟨b,o + 2,none⟩ = some (.slice ai v.items.length ci)) (hit : ItemsAt n ai v.items wb)
  (hb : Below wb.heap.size wb w) (hp : PrAt wb.heap.size a rs.length cap ov out w) (hol : out.length ≤ 400) :
  Calls Tryz.prog 176 #[.pointer (some ⟨wb.heap.size,0,none⟩),.agg cs.toArray,.pointer (some ⟨b,o,none⟩)] w (Wrote wb.heap.size a rs.length cap ov (allB rs r v out) (out ++ encs rs r v.number 0 v.items) w):=by
 have hi0:=hi
 obtain ⟨a4,c4,a5,c5,a6,c6,a7,c7,rfl,-,-,-,-⟩:=hi
 obtain ⟨w0,hw0⟩ : ∃ w0,w0 = w.alloc (.cells #[.string r.name,.int .i64 r.kind,.int .i64 r.size,.bool r.little,.slice a4 r.bytes.length c4,.slice a5 r.names.length c5,.slice a6 r.tags.length c6,.slice a7 r.kids.length c7] 63):=⟨_,rfl⟩
 have hB:=zb1 hw0
 have hR:=zk1 hw0
 obtain ⟨RB,hRB⟩ : ∃ RB,RB = allB rs r v out:=⟨_,rfl⟩
 obtain ⟨O,hO⟩ : ∃ O,O = out ++ encs rs r v.number 0 v.items:=⟨_,rfl⟩
 obtain ⟨pb,hpb⟩ : ∃ pb,pb = wb.heap.size:=⟨_,rfl⟩
 have HAL : Hid (∀ W,Below w.heap.size w W → Calls Tryz.prog 104 #[.agg #[.string r.name,.int .i64 r.kind,.int .i64 r.size,.bool r.little,.slice a4 r.bytes.length c4,.slice a5 r.names.length c5,.slice a6 r.tags.length c6,.slice a7 r.kids.length c7],.pointer (some ⟨b,o,none⟩),.func (.func 126) #[.pointer (some ⟨pb,0,none⟩)] #[]] W (Wrote pb a rs.length cap ov RB O W)):=fun W hW => by rw [hpb,hRB,hO]; exact alli_impl wb a rs cap n ih r _ v b o ai ci ov out W hki hkr hi0 hfit x0 x2 hit (hb.trans (hW.mono hb.size)) (hp.below hW) hol
 rw [← hRB,← hO,← hpb]
 have HB:=kq hB
 have HW:=kq hw0
 have y0:=(hR 0 _ rfl).1
 have y1:=(hR 1 _ rfl).1
 have y2:=(hR 2 _ rfl).1
 have y3:=(hR 3 _ rfl).1
 have y4:=(hR 4 _ rfl).1
 have y5:=(hR 5 _ rfl).1
 have y6:=(hR 6 _ rfl).1
 have y7:=(hR 7 _ rfl).1
 clear hki hkr hi0 hfit hit ih hb hp hol hB hR hpb hRB hO hw0 x0 x2
 go_enter Tryz.func176,Tryz.ntmps176
 go_upto_region 1 with fail
 rw [← HW.out]
 clear HW
 go_wp2_with fail
 refine (HAL.out _ HB.out).mono ?_
 rintro e w6 ⟨rfl,ov3,out3,hm6,hp6,ho6⟩
 have HM:=kq ((Moved.of_below HB.out).trans hm6)
 have HP:=kq hp6
 have HO:=kq ho6
 clear hm6 hp6 ho6 y0 y1 y2 y3 y4 y5 y6 y7
 go_wp2
 go_ret
 exact ⟨rfl,ov3,out3,HM.out,HP.out,HO.out⟩
theorem esc_impl (a : Option Addr) (bs : List UInt8) (cap : Nat) (t : UInt8) (w : World) (hl : bs.length ≤ 1048576) (h : Rd a bs w) :
  Calls Tryz.prog 178 #[.slice a bs.length cap,.int .u8 (t.toNat : Int)] w (BytesOut (escB t bs ++ [t]) w):=by
 obtain ⟨tn,htn⟩ : ∃ tn : Int,tn = (t.toNat : Int):=⟨_,rfl⟩
 rw [← htn]
 have HTN:=kq htn
 have HTV : Hid (Value.int .u8 tn = bv t):=by show _ = _; rw [htn]; rfl
 have HR:=kq h
 have H0:=kq (OwnB.start w)
 have HX0 : Hid (([] : List UInt8) ++ escB t (bs.drop 0) = escB t bs):=rfl
 have HL0 : Hid (([] : List UInt8).length + escLen t (bs.drop 0) = escLen t bs):=by show _ = _; simp
 have HSZ : Hid (escLen t bs ≤ 2097152):=by show _ ≤ _; have:=escLen_le t bs; omega
 clear htn h
 go_enter Tryz.func178,Tryz.ntmps178
 go_wp2
 go_loopw [5,11] (fun z i W => ∃ (j : Nat) (ac : List UInt8),j ≤ bs.length ∧ i = .int .i64 j ∧ Hid (OwnB w.heap.size z ac W) ∧ Hid (ac.length + escLen t (bs.drop j) = escLen t bs) ∧ Hid (ac ++ escB t (bs.drop j) = escB t bs) ∧ Hid (Below w.heap.size w W)) (fun _ i _ => bs.length - (intOf i).toNat)
 case atStart => exact ⟨0,[],Nat.zero_le _,rfl,H0.out,HL0.out,HX0.out,(Below.refl _ _).alloc (Nat.le_refl _) _⟩
 case round =>
  obtain ⟨j,ac,hjl,rfl,ho,hlen,hesc,hb⟩:=hrel
  have j0 : (0 : Int) ≤ (j : Int):=by omega
  by_cases hjt : j < bs.length
  ·have j1 : (j : Int) < (bs.length : Int):=by omega
   obtain ⟨bb,ob,hab,hcb⟩:=HR.out j hjt
   subst hab
   have HNX:=kq (esc_next (t:=t) hjt)
   have HNB:=kq (escB_next (t:=t) hjt)
   generalize bs[j] = xb at hcb HNX HNB
   obtain ⟨xn,hxn⟩ : ∃ xn : Int,xn = (xb.toNat : Int):=⟨_,rfl⟩
   rw [← hxn] at hcb
   have HXN : Hid (Value.int .u8 xn = bv xb):=by show _ = _; rw [hxn]; rfl
   have HXV:=kq hxn
   have HCB:=kq hcb
   clear hcb hxn
   by_cases hx1 : xn = tn
   ·have HEQ : Hid (xb = t):=byte_inj (by rw [← HXV.out,← HTN.out]; exact hx1)
    replace HNX : Hid (escLen t (bs.drop j) = 2 + escLen t (bs.drop (j + 1))):=by show _ = _; rw [HNX.out,if_pos (.inl HEQ.out)]
    replace HNB : Hid (escB t (bs.drop j) = [92,xb] ++ escB t (bs.drop (j + 1))):=by show _ = _; rw [HNB.out,if_pos (.inl HEQ.out)]
    subst hx1
    have HLB : Hid ((ac ++ [xb] ++ [xb]).length ≤ 1099511627776):=by show _ ≤ _; have h1:=hlen.out; have h2:=HNX.out; have h3:=HSZ.out; simp only [List.length_append,List.length_singleton]; omega
    have HCW:=kq (cellK hb.out (Nat.le_refl _) HCB.out)
    have cw:=HCW.out
    have HBA:=kq ((Below.refl wr.heap.size wr).alloc (Nat.le_refl _) (.cells #[.int .u8 92] 5))
    have HSR : Hid (Src1 (some ⟨wr.heap.size,0,none⟩) [92] 1 (wr.alloc (.cells #[.int .u8 92] 5))):=by obtain ⟨a',c',e,h⟩:=(own_one wr _ 92 rfl).row; cases e; exact h.src
    have HOD:=kq (own_below ho.out HBA.out)
    have HBD:=kq (hb.out.trans (HBA.out.mono hb.out.size))
    go_wp2_with (at_builtin; refine wp_app rfl _ _ rfl w.heap.size u5 ac [92] (some ⟨wr.heap.size,0,none⟩) 1 _ rfl rfl HOD.out HSR.out (by have:=HLB.out; simp only [List.length_append,List.length_singleton] at this ⊢; omega) HBD.out.size ?_)
    intro v5 w5 ho5 hg5
    have HB_w5:=kq (app_frame HBD.out HBD.out.size HOD.out hg5)
    have HO_w5:=kq ho5
    clear ho5 hg5 HBA HSR HOD HBD
    have HBA:=kq ((Below.refl w5.heap.size w5).alloc (Nat.le_refl _) (.cells #[.int .u8 xn] 5))
    have HSR : Hid (Src1 (some ⟨w5.heap.size,0,none⟩) [xb] 1 (w5.alloc (.cells #[.int .u8 xn] 5))):=by obtain ⟨a',c',e,h⟩:=(own_one w5 _ xb HXN.out).row; cases e; exact h.src
    have HOD:=kq (own_below HO_w5.out HBA.out)
    have HBD:=kq (HB_w5.out.trans (HBA.out.mono HB_w5.out.size))
    go_wp2_with (at_builtin; refine wp_app rfl _ _ rfl w.heap.size v5 (ac ++ [92]) [xb] (some ⟨w5.heap.size,0,none⟩) 1 _ rfl rfl HOD.out HSR.out (by have:=HLB.out; simp only [List.length_append,List.length_singleton] at this ⊢; omega) HBD.out.size ?_)
    intro v6 w6 ho5 hg5
    have HB_w6:=kq (app_frame HBD.out HBD.out.size HOD.out hg5)
    have HO_w6:=kq ho5
    clear ho5 hg5 HBA HSR HOD HBD
    go_wp2
    go_roundw
    case rel => exact ⟨j + 1,_,by omega,by go_num,HO_w6.out,by show _ = _; have h1:=HNX.out; have h2:=hlen.out; simp only [List.length_append,List.length_cons,List.length_nil]; omega,by show _ = _; have h1:=hesc.out; rw [HNB.out] at h1; rw [← h1]; simp,HB_w6.out⟩
    case measure => simp [intOf]; omega
   ·have e1 : (xn == tn) = false:=by simpa using hx1
    have HNE : Hid (¬ xb = t):=fun h => hx1 (by rw [HXV.out,HTN.out,h])
    by_cases hx2 : xn = 92
    ·have HEQ : Hid (xb = 92):=byte_inj (by rw [← HXV.out]; exact hx2)
     replace HNX : Hid (escLen t (bs.drop j) = 2 + escLen t (bs.drop (j + 1))):=by show _ = _; rw [HNX.out,if_pos (.inr HEQ.out)]
     replace HNB : Hid (escB t (bs.drop j) = [92,xb] ++ escB t (bs.drop (j + 1))):=by show _ = _; rw [HNB.out,if_pos (.inr HEQ.out)]
     subst hx2
     have HLB : Hid ((ac ++ [xb] ++ [xb]).length ≤ 1099511627776):=by show _ ≤ _; have h1:=hlen.out; have h2:=HNX.out; have h3:=HSZ.out; simp only [List.length_append,List.length_singleton]; omega
     have HCW:=kq (cellK hb.out (Nat.le_refl _) HCB.out)
     have cw:=HCW.out
     have HBA:=kq ((Below.refl wr.heap.size wr).alloc (Nat.le_refl _) (.cells #[.int .u8 92] 5))
     have HSR : Hid (Src1 (some ⟨wr.heap.size,0,none⟩) [92] 1 (wr.alloc (.cells #[.int .u8 92] 5))):=by obtain ⟨a',c',e,h⟩:=(own_one wr _ 92 rfl).row; cases e; exact h.src
     have HOD:=kq (own_below ho.out HBA.out)
     have HBD:=kq (hb.out.trans (HBA.out.mono hb.out.size))
     go_wp2_with (at_builtin; refine wp_app rfl _ _ rfl w.heap.size u5 ac [92] (some ⟨wr.heap.size,0,none⟩) 1 _ rfl rfl HOD.out HSR.out (by have:=HLB.out; simp only [List.length_append,List.length_singleton] at this ⊢; omega) HBD.out.size ?_)
     intro v5 w5 ho5 hg5
     have HB_w5:=kq (app_frame HBD.out HBD.out.size HOD.out hg5)
     have HO_w5:=kq ho5
     clear ho5 hg5 HBA HSR HOD HBD
     have HBA:=kq ((Below.refl w5.heap.size w5).alloc (Nat.le_refl _) (.cells #[.int .u8 92] 5))
     have HSR : Hid (Src1 (some ⟨w5.heap.size,0,none⟩) [xb] 1 (w5.alloc (.cells #[.int .u8 92] 5))):=by obtain ⟨a',c',e,h⟩:=(own_one w5 _ xb HXN.out).row; cases e; exact h.src
     have HOD:=kq (own_below HO_w5.out HBA.out)
     have HBD:=kq (HB_w5.out.trans (HBA.out.mono HB_w5.out.size))
     go_wp2_with (at_builtin; refine wp_app rfl _ _ rfl w.heap.size v5 (ac ++ [92]) [xb] (some ⟨w5.heap.size,0,none⟩) 1 _ rfl rfl HOD.out HSR.out (by have:=HLB.out; simp only [List.length_append,List.length_singleton] at this ⊢; omega) HBD.out.size ?_)
     intro v6 w6 ho5 hg5
     have HB_w6:=kq (app_frame HBD.out HBD.out.size HOD.out hg5)
     have HO_w6:=kq ho5
     clear ho5 hg5 HBA HSR HOD HBD
     go_wp2
     go_roundw
     case rel => exact ⟨j + 1,_,by omega,by go_num,HO_w6.out,by show _ = _; have h1:=HNX.out; have h2:=hlen.out; simp only [List.length_append,List.length_cons,List.length_nil]; omega,by show _ = _; have h1:=hesc.out; rw [HNB.out] at h1; rw [← h1]; simp,HB_w6.out⟩
     case measure => simp [intOf]; omega
    ·have e2 : (xn == 92) = false:=by simpa using hx2
     replace HNX : Hid (escLen t (bs.drop j) = 1 + escLen t (bs.drop (j + 1))):=by show _ = _; rw [HNX.out,if_neg (fun h => h.elim HNE.out (fun h => hx2 (by rw [HXV.out,h]; rfl)))]
     replace HNB : Hid (escB t (bs.drop j) = [xb] ++ escB t (bs.drop (j + 1))):=by show _ = _; rw [HNB.out,if_neg (fun h => h.elim HNE.out (fun h => hx2 (by rw [HXV.out,h]; rfl)))]
     have HLB : Hid ((ac ++ [xb]).length ≤ 1099511627776):=by show _ ≤ _; have h1:=hlen.out; have h2:=HNX.out; have h3:=HSZ.out; simp only [List.length_append,List.length_singleton]; omega
     have HCW:=kq (cellK hb.out (Nat.le_refl _) HCB.out)
     have cw:=HCW.out
     have HBA:=kq ((Below.refl wr.heap.size wr).alloc (Nat.le_refl _) (.cells #[.int .u8 xn] 5))
     have HSR : Hid (Src1 (some ⟨wr.heap.size,0,none⟩) [xb] 1 (wr.alloc (.cells #[.int .u8 xn] 5))):=by obtain ⟨a',c',e,h⟩:=(own_one wr _ xb HXN.out).row; cases e; exact h.src
     have HOD:=kq (own_below ho.out HBA.out)
     have HBD:=kq (hb.out.trans (HBA.out.mono hb.out.size))
     go_wp2_with (at_builtin; refine wp_app rfl _ _ rfl w.heap.size u5 ac [xb] (some ⟨wr.heap.size,0,none⟩) 1 _ rfl rfl HOD.out HSR.out (by have:=HLB.out; simp only [List.length_append,List.length_singleton] at this ⊢; omega) HBD.out.size ?_)
     intro v6 w6 ho5 hg5
     have HB_w6:=kq (app_frame HBD.out HBD.out.size HOD.out hg5)
     have HO_w6:=kq ho5
     clear ho5 hg5 HBA HSR HOD HBD
     go_wp2
     go_roundw
     case rel => exact ⟨j + 1,_,by omega,by go_num,HO_w6.out,by show _ = _; have h1:=HNX.out; have h2:=hlen.out; simp only [List.length_append,List.length_cons,List.length_nil]; omega,by show _ = _; have h1:=hesc.out; rw [HNB.out] at h1; rw [← h1]; simp,HB_w6.out⟩
     case measure => simp [intOf]; omega
  ·have j1 : ¬ (j : Int) < (bs.length : Int):=by omega
   have HLX : Hid (ac ++ [t] = escB t bs ++ [t]):=by show _ = _; have h1:=hesc.out; rw [List.drop_of_length_le (by omega),escB,List.append_nil] at h1; rw [h1]
   have HLB : Hid ((ac ++ [t]).length ≤ 1099511627776):=by show _ ≤ _; have h1:=hlen.out; have h3:=HSZ.out; simp only [List.length_append,List.length_singleton]; omega
   have HBA:=kq ((Below.refl wr.heap.size wr).alloc (Nat.le_refl _) (.cells #[.int .u8 tn] 5))
   have HSR : Hid (Src1 (some ⟨wr.heap.size,0,none⟩) [t] 1 (wr.alloc (.cells #[.int .u8 tn] 5))):=by obtain ⟨a',c',e,h⟩:=(own_one wr _ t HTV.out).row; cases e; exact h.src
   have HOD:=kq (own_below ho.out HBA.out)
   have HBD:=kq (hb.out.trans (HBA.out.mono hb.out.size))
   go_wp2_with (at_builtin; refine wp_app rfl _ _ rfl w.heap.size u5 ac [t] (some ⟨wr.heap.size,0,none⟩) 1 _ rfl rfl HOD.out HSR.out (by have:=HLB.out; simp only [List.length_append,List.length_singleton] at this ⊢; omega) HBD.out.size ?_)
   intro v5 w5 ho5 hg5
   have HB_w5:=kq (app_frame HBD.out HBD.out.size HOD.out hg5)
   have HO_w5:=kq ho5
   clear ho5 hg5 HBA HSR HOD HBD
   obtain ⟨az,cz,rfl,hrow⟩:=HO_w5.out.row
   have HRW:=kq hrow
   clear hrow
   go_wp2
   go_ret
   rw [← HLX.out]
   exact ⟨az,cz,rfl,HRW.out,HB_w5.out⟩
theorem writep_step (wb : World) (a : Option Addr) (rs : List RuleV) (cap n : Nat) (hl : rs.length ≤ 1048576) (hall : allV (kindI rs) rs) (hrd : RdR a rs wb) (ih : WpC wb a rs cap n) : WpC wb a rs cap (n + 1):=by
 intro v vs k b o ov out w hk hv hc hb hp hol
 obtain ⟨ab,cb,ai,ci,rfl,hrb,hit⟩:=hv
 have x0:=hc 0 _ rfl
 have x1:=hc 1 _ rfl
 have x2:=hc 2 _ rfl
 simp only [Nat.add_zero] at x0
 obtain ⟨b0,off,a4,c4,a5,c5,a6,c6,a7,c7,hab,⟨d0,d1,d2,d3,d4,d5,d6,d7⟩,r4,r5,r6,r7⟩:=hrd.at k hk
 subst hab
 have HKI:=kq (allV_kind hall hk)
 have HR4 : Hid (Rd a4 rs[k].bytes wb):=r4
 have HKR : Hid (∀ x ∈ rs[k].kids,∃ m : Nat,x = (m : Int) ∧ m < rs.length):=fun x hx => by have h1:=allV_kids hall hk x hx; exact ⟨x.toNat,by omega,by omega⟩
 have HVE : Hid (validV rs (k : Int) v = (ownB rs rs[k] v && validL rs rs[k] v.number 0 v.items)):=by show _ = _; rw [validV_eq,ruleAt_at hk]
 have HEE : Hid (encV rs (k : Int) v = wrapE rs rs[k] v.number v.bytes v.items.length (encs rs rs[k] v.number 0 v.items)):=by show _ = _; rw [encV_eq,ruleAt_at hk]
 have HHD : Hid (rs[k].kind = 4 ∨ rs[k].kind = 5 ∨ rs[k].kind = 7 → ∃ m : Nat,∃ hm : m < rs.length,rs[k].kids.getD 0 0 = (m : Int) ∧ HeadAt rs rs[k] rs[m]):=fun h => headAt_kid hall hk h
 have HPOS : Hid (rs[k].kind = 9 → (ownB rs rs[k] v && validL rs rs[k] v.number 0 v.items) = true → 0 < (encs rs rs[k] v.number 0 v.items).length):=fun h h2 => encs_pos hall hk h h2
 obtain ⟨r,hr⟩ : ∃ r,r = rs[k]:=⟨_,rfl⟩
 rw [← hr] at d0 d1 d2 d3 d4 d5 d6 d7 r4 r5 r6 r7 HKI HKR HVE HEE HHD HPOS HR4
 have HRE:=kq hr
 clear hr
 obtain ⟨R,hR⟩ : ∃ R,R = (validV rs (k : Int) v && decide ((out ++ encV rs (k : Int) v).length ≤ 400)):=⟨_,rfl⟩
 obtain ⟨O,hO⟩ : ∃ O,O = out ++ encV rs (k : Int) v:=⟨_,rfl⟩
 rw [← hO] at hR ⊢
 rw [← hR]
 have HR:=kq hR
 have HO:=kq hO
 have HIS : Hid (IsRule r [.string r.name,.int .i64 r.kind,.int .i64 r.size,.bool r.little,.slice a4 r.bytes.length c4,.slice a5 r.names.length c5,.slice a6 r.tags.length c6,.slice a7 r.kids.length c7] wb):=⟨a4,c4,a5,c5,a6,c6,a7,c7,rfl,r4,r5,r6,r7⟩
 have HC : Hid (∀ W,Below wb.heap.size wb W → (W.cell? ⟨b0,off + k * 8,none⟩ = some (.string r.name) ∧ W.cell? ⟨b0,off + k * 8 + 1,none⟩ = some (.int .i64 r.kind) ∧ W.cell? ⟨b0,off + k * 8 + 2,none⟩ = some (.int .i64 r.size) ∧ W.cell? ⟨b0,off + k * 8 + 3,none⟩ = some (.bool r.little) ∧ W.cell? ⟨b0,off + k * 8 + 4,none⟩ = some (.slice a4 r.bytes.length c4) ∧ W.cell? ⟨b0,off + k * 8 + 5,none⟩ = some (.slice a5 r.names.length c5) ∧ W.cell? ⟨b0,off + k * 8 + 6,none⟩ = some (.slice a6 r.tags.length c6) ∧ W.cell? ⟨b0,off + k * 8 + 7,none⟩ = some (.slice a7 r.kids.length c7)) ∧ W.cell? ⟨b,o,none⟩ = some (.int .i64 v.number) ∧ W.cell? ⟨b,o + 1,none⟩ = some (.slice ab v.bytes.length cb) ∧ W.cell? ⟨b,o + 2,none⟩ = some (.slice ai v.items.length ci)):=fun W hW => ⟨⟨cellK hW (Nat.le_refl _) d0,cellK hW (Nat.le_refl _) d1,cellK hW (Nat.le_refl _) d2,cellK hW (Nat.le_refl _) d3,cellK hW (Nat.le_refl _) d4,cellK hW (Nat.le_refl _) d5,cellK hW (Nat.le_refl _) d6,cellK hW (Nat.le_refl _) d7⟩,cellK hW (Nat.le_refl _) x0,cellK hW (Nat.le_refl _) x1,cellK hW (Nat.le_refl _) x2⟩
 have HX0:=kq x0
 have HX2:=kq x2
 have HIT : Hid (ItemsAt n ai v.items wb):=hit
 have HRB:=kq hrb
 have HRD:=kq hrd
 have HIH:=kq ih
 have HB:=kq hb
 have HOL:=kq hol
 have HHK:=kq hk
 have HM : Hid (Moved wb.heap.size ov w ov w):=Moved.refl _ _ _
 obtain ⟨pb,hpb⟩ : ∃ pb,pb = wb.heap.size:=⟨_,rfl⟩
 have HPB:=kq hpb
 have HP:=kq hp
 rw [← hpb] at HP HM ⊢
 have k0 : (0 : Int) ≤ (k : Int):=by omega
 have k1 : (k : Int) < (rs.length : Int):=by omega
 clear hc hb hp hol hrd ih hall hit hrb hR hO hpb r4 r5 r6 r7 d0 d1 d2 d3 d4 d5 d6 d7 x0 x1 x2
 go_enter Tryz.func126,Tryz.ntmps126
 have bx:=(HP.out.1 0 _ rfl).1
 go_wp2_with fail
 refine (bnd_impl (some ⟨b0,off,none⟩) rs cap k r _ hl HHK.out HRE.out HKI.out (HRD.out.below HB.out)).mono ?_
 rintro e w1 ⟨rfl,hb5⟩
 replace HP:=kq (HP.out.below hb5)
 replace HM:=kq (HM.out.trans (Moved.of_below hb5))
 replace HB:=kq (HB.out.trans (hb5.mono HB.out.size))
 clear hb5 bx
 obtain ⟨B,hB⟩ : ∃ B,B = bndV rs r:=⟨_,rfl⟩
 rw [← hB]
 have HBD:=kq hB
 clear hB
 obtain ⟨-,x0,x1,x2⟩:=HC.out _ HB.out
 go_wp2_with fail
 refine (fit_impl B v b o ab cb ai ci _ x0 x1 x2).mono ?_
 rintro e w2 ⟨rfl,hb5⟩
 replace HP:=kq (HP.out.below hb5)
 replace HM:=kq (HM.out.trans (Moved.of_below hb5))
 replace HB:=kq (HB.out.trans (hb5.mono HB.out.size))
 clear hb5 x0 x1 x2
 have HFT : Hid (fitB B v = fitB (bndV rs r) v):=by show _ = _; rw [HBD.out]
 cases hfit : fitB B v with
 | false =>
  have hr : R = false:=by rw [HR.out,HVE.out,fit_no HKI.out (by rw [← HFT.out,hfit])]; rfl
  subst hr
  go_wp2
  go_ret
  exact ⟨rfl,ov,out,HM.out,HP.out,fun h => by cases h⟩
 | true =>
  have HFIT : Hid (fitB (bndV rs r) v = true):=by show _ = _; rw [← HFT.out,hfit]
  clear hfit HFT HBD
  obtain ⟨w3,hw3⟩ : ∃ w3,w3 = w2.alloc (.cells #[.string r.name,.int .i64 r.kind,.int .i64 r.size,.bool r.little,.slice a4 r.bytes.length c4,.slice a5 r.names.length c5,.slice a6 r.tags.length c6,.slice a7 r.kids.length c7] 63):=⟨_,rfl⟩
  have hb5:=zb1 hw3
  have HRC:=kq (zk1 hw3)
  have HPL:=kq HP.out.lt
  have HNEW:=kq (HP.out.new (Nat.le_refl w2.heap.size))
  have bx:=(HP.out.1 0 _ rfl).1
  obtain ⟨⟨d0,d1,d2,d3,d4,d5,d6,d7⟩,-,-,-⟩:=HC.out _ HB.out
  have HW3:=kq hw3
  clear hw3
  replace HP:=kq (HP.out.below hb5)
  replace HM:=kq (HM.out.trans (Moved.of_below hb5))
  replace HB:=kq (HB.out.trans (hb5.mono HB.out.size))
  clear hb5
  go_upto_region 4 with fail
  rw [← HW3.out]
  clear HW3 bx d0 d1 d2 d3 d4 d5 d6 d7
  obtain ⟨N,hN⟩ : ∃ N,N = w2.heap.size:=⟨_,rfl⟩
  rw [← hN] at HRC HNEW HPL ⊢
  have HNP : Hid (N ≠ pb):=by show _ ≠ _; have:=HPL.out; omega
  clear hN HPL
  have y1:=(HRC.out 1 _ rfl).1
  have hkn:=kindI_known HKI.out
  rcases (by omega : r.kind = 1 ∨ r.kind = 2 ∨ r.kind = 3 ∨ r.kind = 4 ∨ r.kind = 5 ∨ r.kind = 6 ∨ r.kind = 7 ∨ r.kind = 8 ∨ r.kind = 9 ∨ r.kind = 10) with hkd | hkd | hkd | hkd | hkd | hkd | hkd | hkd | hkd | hkd
  ·have HK:=kq hkd
   rw [hkd] at y1
   clear hkd hkn
   have HRR : Hid (R = decide (O.length ≤ 400)):=by show _ = _; rw [HR.out,HVE.out,valid_none HKI.out HFIT.out (by rw [HK.out]; omega),Bool.true_and]
   have HOO : Hid (O = out ++ encI r.little v.number r.size):=by show _ = _; rw [HO.out,HEE.out,encs_none HFIT.out (by rw [HK.out]; omega),wrap_1 HK.out]
   obtain ⟨E,hE⟩ : ∃ E,E = encI r.little v.number r.size:=⟨_,rfl⟩
   rw [← hE] at HOO
   have HLEN : Hid (E.length ≤ 1048576):=by show _ ≤ _; have:=encI_le4 r.little v.number r.size; rw [← hE] at this; omega
   have HENC : Hid (∀ cs W,IsRule r cs W → Calls Tryz.prog 174 #[.agg cs.toArray,.int .i64 v.number] W (BytesOut E W)):=fun cs W hW => by rw [hE]; exact enci_impl r cs v.number W hW
   have HWR : Hid (∀ W az cz,Below w3.heap.size w3 W → Src1 az E cz W → Calls Tryz.prog 173 #[.pointer (some ⟨pb,0,none⟩),.slice az E.length cz] W (Wrote pb (some ⟨b0,off,none⟩) rs.length cap ov R O W)):=fun W az cz hW hs => by rw [HRR.out,HOO.out]; exact writeb_impl pb _ rs.length cap ov out E az cz W (HP.out.below hW) hs (by have:=HOL.out; have:=HLEN.out; omega)
   clear hE
   have HD : Hid (Below w3.heap.size w3 w3.drew):=below_drewN (Below.refl _ w3) 1
   replace HRC:=kq (HRC.out.below HD.out)
   replace HP:=kq (HP.out.below HD.out)
   replace HM:=kq (HM.out.trans (Moved.of_below HD.out))
   replace HB:=kq (HB.out.trans (HD.out.mono HB.out.size))
   have HISK : Hid (IsRule r [.string r.name,.int .i64 1,.int .i64 r.size,.bool r.little,.slice a4 r.bytes.length c4,.slice a5 r.names.length c5,.slice a6 r.tags.length c6,.slice a7 r.kids.length c7] wb):=by have h:=HIS.out; rw [HK.out] at h; exact h
   go_upto_region 6 with fail
   clear y1
   go_region_held3 (fun W => W.cell? ⟨N,0,none⟩ = some (.string r.name) ∧ W.cell? ⟨N,1,none⟩ = some (.int .i64 1) ∧ W.cell? ⟨N,2,none⟩ = some (.int .i64 r.size) ∧ W.cell? ⟨N,3,none⟩ = some (.bool r.little) ∧ W.cell? ⟨N,4,none⟩ = some (.slice a4 r.bytes.length c4) ∧ W.cell? ⟨N,5,none⟩ = some (.slice a5 r.names.length c5) ∧ W.cell? ⟨N,6,none⟩ = some (.slice a6 r.tags.length c6) ∧ W.cell? ⟨N,7,none⟩ = some (.slice a7 r.kids.length c7) ∧ W.cell? ⟨b,o,none⟩ = some (.int .i64 v.number)) (exact ⟨(HRC.out 0 _ rfl).1,(by rw [← HK.out]; exact (HRC.out 1 _ rfl).1),(HRC.out 2 _ rfl).1,(HRC.out 3 _ rfl).1,(HRC.out 4 _ rfl).1,(HRC.out 5 _ rfl).1,(HRC.out 6 _ rfl).1,(HRC.out 7 _ rfl).1,(HC.out _ HB.out).2.1⟩) (first | (go_at_call 174; refine (HENC.out _ _ (HISK.out.below HB.out)).mono ?_; rintro e w4 ⟨az,cz,rfl,hrow,hb5⟩; have HRW:=kq hrow.src; replace HRC:=kq (HRC.out.below hb5); replace HP:=kq (HP.out.below hb5); replace HM:=kq (HM.out.trans (Moved.of_below hb5)); replace HB:=kq (HB.out.trans (hb5.mono HB.out.size)); replace HD:=kq (HD.out.trans (hb5.mono HD.out.size)); clear hb5 hrow) | (go_at_call 173; refine (HWR.out _ _ _ HD.out HRW.out).mono ?_; rintro e w6 ⟨rfl,ov6,out6,hm6,hp6,ho6⟩; have HM6:=kq (HM.out.trans hm6); replace HRC:=kq (hm6.cells HRC.out HNP.out HNEW.out); have HP6:=kq hp6; have HO6:=kq ho6; replace HB:=kq (hm6.below HB.out HB.out.size (by rw [HPB.out]; exact Nat.le_refl _) HP.out.2); clear hm6 hp6 ho6))
   all_goals (go_wp2; go_ret; exact ⟨rfl,ov6,out6,HM6.out,HP6.out,HO6.out⟩)
  ·have HK:=kq hkd
   rw [hkd] at y1
   clear hkd hkn
   have HRR : Hid (R = decide (O.length ≤ 400)):=by show _ = _; rw [HR.out,HVE.out,valid_none HKI.out HFIT.out (by rw [HK.out]; omega),Bool.true_and]
   have HOO : Hid (O = out ++ r.bytes):=by show _ = _; rw [HO.out,HEE.out,encs_none HFIT.out (by rw [HK.out]; omega),wrap_2 HK.out]
   have HLEN : Hid (r.bytes.length ≤ 1048576):=by show _ ≤ _; have:=kindI_2 HKI.out HK.out; omega
   have HWR : Hid (∀ W az cz,Below w3.heap.size w3 W → Src1 az r.bytes cz W → Calls Tryz.prog 173 #[.pointer (some ⟨pb,0,none⟩),.slice az r.bytes.length cz] W (Wrote pb (some ⟨b0,off,none⟩) rs.length cap ov R O W)):=fun W az cz hW hs => by rw [HRR.out,HOO.out]; exact writeb_impl pb _ rs.length cap ov out r.bytes az cz W (HP.out.below hW) hs (by have:=HOL.out; have:=HLEN.out; omega)
   have y4:=(HRC.out 4 _ rfl).1
   go_wp2_with fail
   refine (HWR.out _ _ _ (Below.refl _ _) ((src_of HR4.out (by have:=kindI_2 HKI.out HK.out; omega)).below HB.out)).mono ?_
   rintro e w6 ⟨rfl,ov6,out6,hm6,hp6,ho6⟩
   have HM6:=kq (HM.out.trans hm6)
   have HP6:=kq hp6
   have HO6:=kq ho6
   clear hm6 hp6 ho6
   go_wp2
   go_ret
   exact ⟨rfl,ov6,out6,HM6.out,HP6.out,HO6.out⟩
  ·have HK:=kq hkd
   rw [hkd] at y1
   clear hkd hkn
   have HRR : Hid (R = decide (O.length ≤ 400)):=by show _ = _; rw [HR.out,HVE.out,valid_none HKI.out HFIT.out (by rw [HK.out]; omega),Bool.true_and]
   have HOO : Hid (O = out ++ v.bytes):=by show _ = _; rw [HO.out,HEE.out,encs_none HFIT.out (by rw [HK.out]; omega),wrap_3 HK.out]
   have HLEN : Hid (v.bytes.length ≤ 1048576):=by show _ ≤ _; have:=fit_bytes HKI.out HFIT.out; omega
   have HWR : Hid (∀ W az cz,Below w3.heap.size w3 W → Src1 az v.bytes cz W → Calls Tryz.prog 173 #[.pointer (some ⟨pb,0,none⟩),.slice az v.bytes.length cz] W (Wrote pb (some ⟨b0,off,none⟩) rs.length cap ov R O W)):=fun W az cz hW hs => by rw [HRR.out,HOO.out]; exact writeb_impl pb _ rs.length cap ov out v.bytes az cz W (HP.out.below hW) hs (by have:=HOL.out; have:=HLEN.out; omega)
   have z1:=(HC.out _ HB.out).2.2.1
   go_wp2_with fail
   refine (HWR.out _ _ _ (Below.refl _ _) (HRB.out.below HB.out)).mono ?_
   rintro e w6 ⟨rfl,ov6,out6,hm6,hp6,ho6⟩
   have HM6:=kq (HM.out.trans hm6)
   have HP6:=kq hp6
   have HO6:=kq ho6
   clear hm6 hp6 ho6
   go_wp2
   go_ret
   exact ⟨rfl,ov6,out6,HM6.out,HP6.out,HO6.out⟩
  ·have HK:=kq hkd
   rw [hkd] at y1
   clear hkd hkn
   obtain ⟨m,hmr,hmk,hh⟩:=HHD.out (by rw [HK.out]; omega)
   have HISK : Hid (IsRule r [.string r.name,.int .i64 4,.int .i64 r.size,.bool r.little,.slice a4 r.bytes.length c4,.slice a5 r.names.length c5,.slice a6 r.tags.length c6,.slice a7 r.kids.length c7] wb):=by have h:=HIS.out; rw [HK.out] at h; exact h
   have HRR : Hid (R = decide (O.length ≤ 400)):=by show _ = _; rw [HR.out,HVE.out,valid_none HKI.out HFIT.out (by rw [HK.out]; omega),Bool.true_and]
   obtain ⟨H,hH⟩ : ∃ H,H = encI rs[m].little ((v.bytes.length : Nat) : Int) rs[m].size:=⟨_,rfl⟩
   have hH4 : H.length ≤ 4:=by rw [hH]; exact encI_le4 _ _ _
   have HHD2 : Hid (∀ cs W,Below w3.heap.size w3 W → IsRule r cs W → Calls Tryz.prog 175 #[.pointer (some ⟨pb,0,none⟩),.agg cs.toArray,.int .i64 ((v.bytes.length : Nat) : Int)] W (Wrote pb (some ⟨b0,off,none⟩) rs.length cap ov (decide ((out ++ H).length ≤ 400)) (out ++ H) W)):=fun cs W hW hi => by rw [hH]; exact writeh_impl pb _ rs cap ov out r rs[m] cs ((v.bytes.length : Nat) : Int) W (HP.out.below hW) hi (HRD.out.below (HB.out.trans (hW.mono HB.out.size))) hh (by have:=HOL.out; omega)
   have HHE:=kq hH
   have HH4:=kq hH4
   have HOO : Hid (O = (out ++ H) ++ v.bytes):=by show _ = _; rw [HO.out,HEE.out,wrap_4 hmr hmk HK.out,← HHE.out,List.append_assoc]
   clear hH hH4
   have HD : Hid (Below w3.heap.size w3 w3.drew):=below_drewN (Below.refl _ w3) 1
   replace HRC:=kq (HRC.out.below HD.out)
   replace HP:=kq (HP.out.below HD.out)
   replace HM:=kq (HM.out.trans (Moved.of_below HD.out))
   replace HB:=kq (HB.out.trans (HD.out.mono HB.out.size))
   have HRC0:=kq HRC.out
   by_cases hle : (out ++ H).length ≤ 400
   ·have HHL:=kq hle
    have HHD3 : Hid (∀ cs W,Below w3.heap.size w3 W → IsRule r cs W → Calls Tryz.prog 175 #[.pointer (some ⟨pb,0,none⟩),.agg cs.toArray,.int .i64 ((v.bytes.length : Nat) : Int)] W (Wrote pb (some ⟨b0,off,none⟩) rs.length cap ov true (out ++ H) W)):=fun cs W h1 h2 => by have h3:=HHD2.out cs W h1 h2; rw [decide_eq_true HHL.out] at h3; exact h3
    have HSEC : Hid (∀ W ov,Below wb.heap.size wb W → PrAt pb (some ⟨b0,off,none⟩) rs.length cap ov (out ++ H) W → Calls Tryz.prog 173 #[.pointer (some ⟨pb,0,none⟩),.slice ab v.bytes.length cb] W (Wrote pb (some ⟨b0,off,none⟩) rs.length cap ov R O W)):=fun W ov hW hp => by rw [HRR.out,HOO.out]; exact writeb_impl pb _ rs.length cap ov (out ++ H) v.bytes ab cb W hp (HRB.out.below hW) (by have:=HHL.out; have:=fit_bytes HKI.out HFIT.out; omega)
    clear hle
    go_upto_region 12 with fail
    clear y1
    go_region_held3 (fun W => W.cell? ⟨N,0,none⟩ = some (.string r.name) ∧ W.cell? ⟨N,1,none⟩ = some (.int .i64 4) ∧ W.cell? ⟨N,2,none⟩ = some (.int .i64 r.size) ∧ W.cell? ⟨N,3,none⟩ = some (.bool r.little) ∧ W.cell? ⟨N,4,none⟩ = some (.slice a4 r.bytes.length c4) ∧ W.cell? ⟨N,5,none⟩ = some (.slice a5 r.names.length c5) ∧ W.cell? ⟨N,6,none⟩ = some (.slice a6 r.tags.length c6) ∧ W.cell? ⟨N,7,none⟩ = some (.slice a7 r.kids.length c7) ∧ W.cell? ⟨b,o + 1,none⟩ = some (.slice ab v.bytes.length cb)) (exact ⟨(HRC.out 0 _ rfl).1,(by rw [← HK.out]; exact (HRC.out 1 _ rfl).1),(HRC.out 2 _ rfl).1,(HRC.out 3 _ rfl).1,(HRC.out 4 _ rfl).1,(HRC.out 5 _ rfl).1,(HRC.out 6 _ rfl).1,(HRC.out 7 _ rfl).1,(HC.out _ HB.out).2.2.1⟩) (first | (go_at_call 175; refine (HHD3.out _ _ HD.out (HISK.out.below HB.out)).mono ?_; rintro e w5 ⟨rfl,ov5,out5,hm6,hp6,ho6⟩; obtain rfl:=ho6 rfl; replace HB:=kq (hm6.below HB.out HB.out.size (by rw [HPB.out]; exact Nat.le_refl _) HP.out.2); replace HM:=kq (HM.out.trans hm6); replace HRC:=kq (hm6.cells HRC.out HNP.out HNEW.out); replace HNEW:=kq (hm6.new (cell_lt (HRC0.out 0 _ rfl).1) HNEW.out); replace HP:=kq hp6; clear hm6 hp6) | (go_at_call 173; refine (HSEC.out _ _ HB.out HP.out).mono ?_; rintro e w6 ⟨rfl,ov6,out6,hm6,hp6,ho6⟩; have HM6:=kq (HM.out.trans hm6); replace HRC:=kq (hm6.cells HRC.out HNP.out HNEW.out); have HP6:=kq hp6; have HO6:=kq ho6; replace HB:=kq (hm6.below HB.out HB.out.size (by rw [HPB.out]; exact Nat.le_refl _) HP.out.2); clear hm6 hp6 ho6))
    all_goals (go_wp2; go_ret; exact ⟨rfl,ov6,out6,HM6.out,HP6.out,HO6.out⟩)
   ·have hr : R = false:=by rw [HRR.out,HOO.out,over_len hle]
    subst hr
    have HHD3 : Hid (∀ cs W,Below w3.heap.size w3 W → IsRule r cs W → Calls Tryz.prog 175 #[.pointer (some ⟨pb,0,none⟩),.agg cs.toArray,.int .i64 ((v.bytes.length : Nat) : Int)] W (Wrote pb (some ⟨b0,off,none⟩) rs.length cap ov false (out ++ H) W)):=fun cs W h1 h2 => by have h3:=HHD2.out cs W h1 h2; rw [decide_eq_false hle] at h3; exact h3
    clear hle
    go_upto_region 12 with fail
    clear y1
    refine wp_region_held_drew (S:=(fun W => W.cell? ⟨N,0,none⟩ = some (.string r.name) ∧ W.cell? ⟨N,1,none⟩ = some (.int .i64 4) ∧ W.cell? ⟨N,2,none⟩ = some (.int .i64 r.size) ∧ W.cell? ⟨N,3,none⟩ = some (.bool r.little) ∧ W.cell? ⟨N,4,none⟩ = some (.slice a4 r.bytes.length c4) ∧ W.cell? ⟨N,5,none⟩ = some (.slice a5 r.names.length c5) ∧ W.cell? ⟨N,6,none⟩ = some (.slice a6 r.tags.length c6) ∧ W.cell? ⟨N,7,none⟩ = some (.slice a7 r.kids.length c7) ∧ W.cell? ⟨b,o + 1,none⟩ = some (.slice ab v.bytes.length cb))) (by kernel_rfl) ?_ (fun hHeld => ?_)
    ·(try dsimp only); exact ⟨(HRC.out 0 _ rfl).1,(by rw [← HK.out]; exact (HRC.out 1 _ rfl).1),(HRC.out 2 _ rfl).1,(HRC.out 3 _ rfl).1,(HRC.out 4 _ rfl).1,(HRC.out 5 _ rfl).1,(HRC.out 6 _ rfl).1,(HRC.out 7 _ rfl).1,(HC.out _ HB.out).2.2.1⟩
    refine tq 0 (h:=?_)
    refine tq 1 (h:=?_)
    refine tq 2 (h:=?_)
    refine tq 3 (h:=?_)
    refine tq 4 (h:=?_)
    refine tq 5 (h:=?_)
    refine tq 6 (h:=?_)
    refine wpAnyH_ready (rs:=[7]) (by kernel_rfl) (by simp) ?_
    refine ac (h:=fun K hK => ?_)
    go_simp
    (go_at_call 175; refine (HHD3.out _ _ HD.out (HISK.out.below HB.out)).mono ?_; rintro e w5 ⟨rfl,ov5,out5,hm6,hp6,ho6⟩;  replace HB:=kq (hm6.below HB.out HB.out.size (by rw [HPB.out]; exact Nat.le_refl _) HP.out.2); replace HM:=kq (HM.out.trans hm6); replace HRC:=kq (hm6.cells HRC.out HNP.out HNEW.out); replace HNEW:=kq (hm6.new (cell_lt (HRC0.out 0 _ rfl).1) HNEW.out); replace HP:=kq hp6; clear hm6 hp6 ho6)
    go_wp2_with fail
    refine hK.out _ _ ?_ (fun hHeld => ?_)
    ·(try dsimp only); exact ⟨(HRC.out 0 _ rfl).1,(by rw [← HK.out]; exact (HRC.out 1 _ rfl).1),(HRC.out 2 _ rfl).1,(HRC.out 3 _ rfl).1,(HRC.out 4 _ rfl).1,(HRC.out 5 _ rfl).1,(HRC.out 6 _ rfl).1,(HRC.out 7 _ rfl).1,(HC.out _ HB.out).2.2.1⟩
    clear hK K
    refine tq 8 (h:=?_)
    refine tq 9 (v:=undef) (hy:=Or.inr ⟨by rfl,rfl⟩) (h:=?_)
    refine tq 10 (v:=undef) (hy:=Or.inr ⟨by rfl,rfl⟩) (h:=?_)
    refine tq 11 (v:=undef) (hy:=Or.inr ⟨by rfl,rfl⟩) (h:=?_)
    refine tq 12 (v:=undef) (hy:=Or.inr ⟨by rfl,rfl⟩) (h:=?_)
    refine tq 13 (v:=undef) (hy:=Or.inr ⟨by rfl,rfl⟩) (h:=?_)
    refine tq 14 (v:=undef) (hy:=Or.inr ⟨by rfl,rfl⟩) (h:=?_)
    refine tq 15 (h:=?_)
    refine tq 16 (h:=?_)
    refine wpAnyH_done (by kernel_rfl) ?_ _
    go_wp2
    go_ret
    exact ⟨rfl,ov5,out5,HM.out,HP.out,fun h => by cases h⟩
  ·have HK:=kq hkd
   rw [hkd] at y1
   clear hkd hkn
   obtain ⟨m,hmr,hmk,hh⟩:=HHD.out (by rw [HK.out]; omega)
   have HISK : Hid (IsRule r [.string r.name,.int .i64 5,.int .i64 r.size,.bool r.little,.slice a4 r.bytes.length c4,.slice a5 r.names.length c5,.slice a6 r.tags.length c6,.slice a7 r.kids.length c7] wb):=by have h:=HIS.out; rw [HK.out] at h; exact h
   have HRR : Hid (R = ((ownB rs r v && validL rs r v.number 0 v.items) && decide (O.length ≤ 400))):=by show _ = _; rw [HR.out,HVE.out]
   obtain ⟨H,hH⟩ : ∃ H,H = encI rs[m].little ((v.items.length : Nat) : Int) rs[m].size:=⟨_,rfl⟩
   have hH4 : H.length ≤ 4:=by rw [hH]; exact encI_le4 _ _ _
   have HHD2 : Hid (∀ cs W,Below w3.heap.size w3 W → IsRule r cs W → Calls Tryz.prog 175 #[.pointer (some ⟨pb,0,none⟩),.agg cs.toArray,.int .i64 ((v.items.length : Nat) : Int)] W (Wrote pb (some ⟨b0,off,none⟩) rs.length cap ov (decide ((out ++ H).length ≤ 400)) (out ++ H) W)):=fun cs W hW hi => by rw [hH]; exact writeh_impl pb _ rs cap ov out r rs[m] cs ((v.items.length : Nat) : Int) W (HP.out.below hW) hi (HRD.out.below (HB.out.trans (hW.mono HB.out.size))) hh (by have:=HOL.out; omega)
   have HHE:=kq hH
   have HH4:=kq hH4
   have HOO : Hid (O = (out ++ H) ++ encs rs r v.number 0 v.items):=by show _ = _; rw [HO.out,HEE.out,wrap_5 hmr hmk HK.out,← HHE.out,List.append_assoc]
   clear hH hH4
   have HD : Hid (Below w3.heap.size w3 w3.drew):=below_drewN (Below.refl _ w3) 1
   replace HRC:=kq (HRC.out.below HD.out)
   replace HP:=kq (HP.out.below HD.out)
   replace HM:=kq (HM.out.trans (Moved.of_below HD.out))
   replace HB:=kq (HB.out.trans (HD.out.mono HB.out.size))
   have HRC0:=kq HRC.out
   by_cases hle : (out ++ H).length ≤ 400
   ·have HHL:=kq hle
    have HHD3 : Hid (∀ cs W,Below w3.heap.size w3 W → IsRule r cs W → Calls Tryz.prog 175 #[.pointer (some ⟨pb,0,none⟩),.agg cs.toArray,.int .i64 ((v.items.length : Nat) : Int)] W (Wrote pb (some ⟨b0,off,none⟩) rs.length cap ov true (out ++ H) W)):=fun cs W h1 h2 => by have h3:=HHD2.out cs W h1 h2; rw [decide_eq_true HHL.out] at h3; exact h3
    have HSEC : Hid (∀ W ov,Below wb.heap.size wb W → PrAt pb (some ⟨b0,off,none⟩) rs.length cap ov (out ++ H) W → Calls Tryz.prog 176 #[.pointer (some ⟨pb,0,none⟩),.agg #[.string r.name,.int .i64 5,.int .i64 r.size,.bool r.little,.slice a4 r.bytes.length c4,.slice a5 r.names.length c5,.slice a6 r.tags.length c6,.slice a7 r.kids.length c7],.pointer (some ⟨b,o,none⟩)] W (Wrote pb (some ⟨b0,off,none⟩) rs.length cap ov R O W)):=fun W ov hW hp => by rw [HRR.out,HPB.out]; rw [HPB.out] at hp; rw [show decide (O.length ≤ 400) = decide (((out ++ H) ++ encs rs r v.number 0 v.items).length ≤ 400) from by rw [HOO.out],HOO.out]; exact writei_impl wb _ rs cap n HIH.out r _ v b o ai ci ov (out ++ H) W HKI.out HKR.out HISK.out HFIT.out HX0.out HX2.out HIT.out hW hp HHL.out
    clear hle
    go_upto_region 15 with fail
    clear y1
    go_region_held3 (fun W => W.cell? ⟨N,0,none⟩ = some (.string r.name) ∧ W.cell? ⟨N,1,none⟩ = some (.int .i64 5) ∧ W.cell? ⟨N,2,none⟩ = some (.int .i64 r.size) ∧ W.cell? ⟨N,3,none⟩ = some (.bool r.little) ∧ W.cell? ⟨N,4,none⟩ = some (.slice a4 r.bytes.length c4) ∧ W.cell? ⟨N,5,none⟩ = some (.slice a5 r.names.length c5) ∧ W.cell? ⟨N,6,none⟩ = some (.slice a6 r.tags.length c6) ∧ W.cell? ⟨N,7,none⟩ = some (.slice a7 r.kids.length c7) ∧ W.cell? ⟨b,o + 2,none⟩ = some (.slice ai v.items.length ci)) (exact ⟨(HRC.out 0 _ rfl).1,(by rw [← HK.out]; exact (HRC.out 1 _ rfl).1),(HRC.out 2 _ rfl).1,(HRC.out 3 _ rfl).1,(HRC.out 4 _ rfl).1,(HRC.out 5 _ rfl).1,(HRC.out 6 _ rfl).1,(HRC.out 7 _ rfl).1,(HC.out _ HB.out).2.2.2⟩) (first | (go_at_call 175; refine (HHD3.out _ _ HD.out (HISK.out.below HB.out)).mono ?_; rintro e w5 ⟨rfl,ov5,out5,hm6,hp6,ho6⟩; obtain rfl:=ho6 rfl; replace HB:=kq (hm6.below HB.out HB.out.size (by rw [HPB.out]; exact Nat.le_refl _) HP.out.2); replace HM:=kq (HM.out.trans hm6); replace HRC:=kq (hm6.cells HRC.out HNP.out HNEW.out); replace HNEW:=kq (hm6.new (cell_lt (HRC0.out 0 _ rfl).1) HNEW.out); replace HP:=kq hp6; clear hm6 hp6) | (go_at_call 176; refine (HSEC.out _ _ HB.out HP.out).mono ?_; rintro e w6 ⟨rfl,ov6,out6,hm6,hp6,ho6⟩; have HM6:=kq (HM.out.trans hm6); replace HRC:=kq (hm6.cells HRC.out HNP.out HNEW.out); have HP6:=kq hp6; have HO6:=kq ho6; replace HB:=kq (hm6.below HB.out HB.out.size (by rw [HPB.out]; exact Nat.le_refl _) HP.out.2); clear hm6 hp6 ho6))
    all_goals (go_wp2; go_ret; exact ⟨rfl,ov6,out6,HM6.out,HP6.out,HO6.out⟩)
   ·have hr : R = false:=by rw [HRR.out,HOO.out,over_len hle,Bool.and_false]
    subst hr
    have HHD3 : Hid (∀ cs W,Below w3.heap.size w3 W → IsRule r cs W → Calls Tryz.prog 175 #[.pointer (some ⟨pb,0,none⟩),.agg cs.toArray,.int .i64 ((v.items.length : Nat) : Int)] W (Wrote pb (some ⟨b0,off,none⟩) rs.length cap ov false (out ++ H) W)):=fun cs W h1 h2 => by have h3:=HHD2.out cs W h1 h2; rw [decide_eq_false hle] at h3; exact h3
    clear hle
    go_upto_region 15 with fail
    clear y1
    refine wp_region_held_drew (S:=(fun W => W.cell? ⟨N,0,none⟩ = some (.string r.name) ∧ W.cell? ⟨N,1,none⟩ = some (.int .i64 5) ∧ W.cell? ⟨N,2,none⟩ = some (.int .i64 r.size) ∧ W.cell? ⟨N,3,none⟩ = some (.bool r.little) ∧ W.cell? ⟨N,4,none⟩ = some (.slice a4 r.bytes.length c4) ∧ W.cell? ⟨N,5,none⟩ = some (.slice a5 r.names.length c5) ∧ W.cell? ⟨N,6,none⟩ = some (.slice a6 r.tags.length c6) ∧ W.cell? ⟨N,7,none⟩ = some (.slice a7 r.kids.length c7) ∧ W.cell? ⟨b,o + 2,none⟩ = some (.slice ai v.items.length ci))) (by kernel_rfl) ?_ (fun hHeld => ?_)
    ·(try dsimp only); exact ⟨(HRC.out 0 _ rfl).1,(by rw [← HK.out]; exact (HRC.out 1 _ rfl).1),(HRC.out 2 _ rfl).1,(HRC.out 3 _ rfl).1,(HRC.out 4 _ rfl).1,(HRC.out 5 _ rfl).1,(HRC.out 6 _ rfl).1,(HRC.out 7 _ rfl).1,(HC.out _ HB.out).2.2.2⟩
    refine tq 0 (h:=?_)
    refine tq 1 (h:=?_)
    refine tq 2 (h:=?_)
    refine tq 3 (h:=?_)
    refine tq 4 (h:=?_)
    refine tq 5 (h:=?_)
    refine tq 6 (h:=?_)
    refine wpAnyH_ready (rs:=[7]) (by kernel_rfl) (by simp) ?_
    refine ac (h:=fun K hK => ?_)
    go_simp
    (go_at_call 175; refine (HHD3.out _ _ HD.out (HISK.out.below HB.out)).mono ?_; rintro e w5 ⟨rfl,ov5,out5,hm6,hp6,ho6⟩;  replace HB:=kq (hm6.below HB.out HB.out.size (by rw [HPB.out]; exact Nat.le_refl _) HP.out.2); replace HM:=kq (HM.out.trans hm6); replace HRC:=kq (hm6.cells HRC.out HNP.out HNEW.out); replace HNEW:=kq (hm6.new (cell_lt (HRC0.out 0 _ rfl).1) HNEW.out); replace HP:=kq hp6; clear hm6 hp6 ho6)
    go_wp2_with fail
    refine hK.out _ _ ?_ (fun hHeld => ?_)
    ·(try dsimp only); exact ⟨(HRC.out 0 _ rfl).1,(by rw [← HK.out]; exact (HRC.out 1 _ rfl).1),(HRC.out 2 _ rfl).1,(HRC.out 3 _ rfl).1,(HRC.out 4 _ rfl).1,(HRC.out 5 _ rfl).1,(HRC.out 6 _ rfl).1,(HRC.out 7 _ rfl).1,(HC.out _ HB.out).2.2.2⟩
    clear hK K
    refine tq 8 (h:=?_)
    refine tq 9 (v:=undef) (hy:=Or.inr ⟨by rfl,rfl⟩) (h:=?_)
    refine tq 10 (v:=undef) (hy:=Or.inr ⟨by rfl,rfl⟩) (h:=?_)
    refine tq 11 (v:=undef) (hy:=Or.inr ⟨by rfl,rfl⟩) (h:=?_)
    refine tq 12 (v:=undef) (hy:=Or.inr ⟨by rfl,rfl⟩) (h:=?_)
    refine tq 13 (h:=?_)
    refine tq 14 (h:=?_)
    refine wpAnyH_done (by kernel_rfl) ?_ _
    go_wp2
    go_ret
    exact ⟨rfl,ov5,out5,HM.out,HP.out,fun h => by cases h⟩
  ·have HK:=kq hkd
   rw [hkd] at y1
   clear hkd hkn
   have HISK : Hid (IsRule r [.string r.name,.int .i64 6,.int .i64 r.size,.bool r.little,.slice a4 r.bytes.length c4,.slice a5 r.names.length c5,.slice a6 r.tags.length c6,.slice a7 r.kids.length c7] wb):=by have h:=HIS.out; rw [HK.out] at h; exact h
   have HAL : Hid (∀ W,Below w3.heap.size w3 W → Calls Tryz.prog 176 #[.pointer (some ⟨pb,0,none⟩),.agg #[.string r.name,.int .i64 6,.int .i64 r.size,.bool r.little,.slice a4 r.bytes.length c4,.slice a5 r.names.length c5,.slice a6 r.tags.length c6,.slice a7 r.kids.length c7],.pointer (some ⟨b,o,none⟩)] W (Wrote pb (some ⟨b0,off,none⟩) rs.length cap ov (allB rs r v out) (out ++ encs rs r v.number 0 v.items) W)):=fun W hW => by rw [HPB.out]; have hp:=HP.out.below hW; rw [HPB.out] at hp; exact writei_impl wb _ rs cap n HIH.out r _ v b o ai ci ov out W HKI.out HKR.out HISK.out HFIT.out HX0.out HX2.out HIT.out (HB.out.trans (hW.mono HB.out.size)) hp HOL.out
   have HOO : Hid (out ++ encs rs r v.number 0 v.items = O):=by show _ = _; rw [HO.out,HEE.out,wrap_6 HK.out]
   have HRR : Hid (allB rs r v out = R):=by show _ = _; rw [HR.out,HVE.out,← HOO.out]; rfl
   rw [HOO.out,HRR.out] at HAL
   have y0:=(HRC.out 0 _ rfl).1
   have y2:=(HRC.out 2 _ rfl).1
   have y3:=(HRC.out 3 _ rfl).1
   have y4:=(HRC.out 4 _ rfl).1
   have y5:=(HRC.out 5 _ rfl).1
   have y6:=(HRC.out 6 _ rfl).1
   have y7:=(HRC.out 7 _ rfl).1
   go_wp2_with fail
   refine (HAL.out _ (Below.refl _ _)).mono ?_
   rintro e w6 ⟨rfl,ov6,out6,hm6,hp6,ho6⟩
   have HM6:=kq (HM.out.trans hm6)
   have HP6:=kq hp6
   have HO6:=kq ho6
   clear hm6 hp6 ho6
   go_wp2
   go_ret
   exact ⟨rfl,ov6,out6,HM6.out,HP6.out,HO6.out⟩
  ·have HK:=kq hkd
   rw [hkd] at y1
   clear hkd hkn
   obtain ⟨m,hmr,hmk,hh⟩:=HHD.out (by rw [HK.out]; omega)
   have HISK : Hid (IsRule r [.string r.name,.int .i64 7,.int .i64 r.size,.bool r.little,.slice a4 r.bytes.length c4,.slice a5 r.names.length c5,.slice a6 r.tags.length c6,.slice a7 r.kids.length c7] wb):=by have h:=HIS.out; rw [HK.out] at h; exact h
   have HRR : Hid (R = ((ownB rs r v && validL rs r v.number 0 v.items) && decide (O.length ≤ 400))):=by show _ = _; rw [HR.out,HVE.out]
   obtain ⟨H,hH⟩ : ∃ H,H = encI rs[m].little v.number rs[m].size:=⟨_,rfl⟩
   have hH4 : H.length ≤ 4:=by rw [hH]; exact encI_le4 _ _ _
   have HHD2 : Hid (∀ cs W,Below w3.heap.size w3 W → IsRule r cs W → Calls Tryz.prog 175 #[.pointer (some ⟨pb,0,none⟩),.agg cs.toArray,.int .i64 v.number] W (Wrote pb (some ⟨b0,off,none⟩) rs.length cap ov (decide ((out ++ H).length ≤ 400)) (out ++ H) W)):=fun cs W hW hi => by rw [hH]; exact writeh_impl pb _ rs cap ov out r rs[m] cs v.number W (HP.out.below hW) hi (HRD.out.below (HB.out.trans (hW.mono HB.out.size))) hh (by have:=HOL.out; omega)
   have HHE:=kq hH
   have HH4:=kq hH4
   have HOO : Hid (O = (out ++ H) ++ encs rs r v.number 0 v.items):=by show _ = _; rw [HO.out,HEE.out,wrap_7 hmr hmk HK.out,← HHE.out,List.append_assoc]
   clear hH hH4
   have HD : Hid (Below w3.heap.size w3 w3.drew):=below_drewN (Below.refl _ w3) 1
   replace HRC:=kq (HRC.out.below HD.out)
   replace HP:=kq (HP.out.below HD.out)
   replace HM:=kq (HM.out.trans (Moved.of_below HD.out))
   replace HB:=kq (HB.out.trans (HD.out.mono HB.out.size))
   have HRC0:=kq HRC.out
   by_cases hle : (out ++ H).length ≤ 400
   ·have HHL:=kq hle
    have HHD3 : Hid (∀ cs W,Below w3.heap.size w3 W → IsRule r cs W → Calls Tryz.prog 175 #[.pointer (some ⟨pb,0,none⟩),.agg cs.toArray,.int .i64 v.number] W (Wrote pb (some ⟨b0,off,none⟩) rs.length cap ov true (out ++ H) W)):=fun cs W h1 h2 => by have h3:=HHD2.out cs W h1 h2; rw [decide_eq_true HHL.out] at h3; exact h3
    have HSEC : Hid (∀ W ov,Below wb.heap.size wb W → PrAt pb (some ⟨b0,off,none⟩) rs.length cap ov (out ++ H) W → Calls Tryz.prog 176 #[.pointer (some ⟨pb,0,none⟩),.agg #[.string r.name,.int .i64 7,.int .i64 r.size,.bool r.little,.slice a4 r.bytes.length c4,.slice a5 r.names.length c5,.slice a6 r.tags.length c6,.slice a7 r.kids.length c7],.pointer (some ⟨b,o,none⟩)] W (Wrote pb (some ⟨b0,off,none⟩) rs.length cap ov R O W)):=fun W ov hW hp => by rw [HRR.out,HPB.out]; rw [HPB.out] at hp; rw [show decide (O.length ≤ 400) = decide (((out ++ H) ++ encs rs r v.number 0 v.items).length ≤ 400) from by rw [HOO.out],HOO.out]; exact writei_impl wb _ rs cap n HIH.out r _ v b o ai ci ov (out ++ H) W HKI.out HKR.out HISK.out HFIT.out HX0.out HX2.out HIT.out hW hp HHL.out
    clear hle
    go_upto_region 17 with fail
    clear y1
    go_region_held3 (fun W => W.cell? ⟨N,0,none⟩ = some (.string r.name) ∧ W.cell? ⟨N,1,none⟩ = some (.int .i64 7) ∧ W.cell? ⟨N,2,none⟩ = some (.int .i64 r.size) ∧ W.cell? ⟨N,3,none⟩ = some (.bool r.little) ∧ W.cell? ⟨N,4,none⟩ = some (.slice a4 r.bytes.length c4) ∧ W.cell? ⟨N,5,none⟩ = some (.slice a5 r.names.length c5) ∧ W.cell? ⟨N,6,none⟩ = some (.slice a6 r.tags.length c6) ∧ W.cell? ⟨N,7,none⟩ = some (.slice a7 r.kids.length c7) ∧ W.cell? ⟨b,o,none⟩ = some (.int .i64 v.number)) (exact ⟨(HRC.out 0 _ rfl).1,(by rw [← HK.out]; exact (HRC.out 1 _ rfl).1),(HRC.out 2 _ rfl).1,(HRC.out 3 _ rfl).1,(HRC.out 4 _ rfl).1,(HRC.out 5 _ rfl).1,(HRC.out 6 _ rfl).1,(HRC.out 7 _ rfl).1,(HC.out _ HB.out).2.1⟩) (first | (go_at_call 175; refine (HHD3.out _ _ HD.out (HISK.out.below HB.out)).mono ?_; rintro e w5 ⟨rfl,ov5,out5,hm6,hp6,ho6⟩; obtain rfl:=ho6 rfl; replace HB:=kq (hm6.below HB.out HB.out.size (by rw [HPB.out]; exact Nat.le_refl _) HP.out.2); replace HM:=kq (HM.out.trans hm6); replace HRC:=kq (hm6.cells HRC.out HNP.out HNEW.out); replace HNEW:=kq (hm6.new (cell_lt (HRC0.out 0 _ rfl).1) HNEW.out); replace HP:=kq hp6; clear hm6 hp6) | (go_at_call 176; refine (HSEC.out _ _ HB.out HP.out).mono ?_; rintro e w6 ⟨rfl,ov6,out6,hm6,hp6,ho6⟩; have HM6:=kq (HM.out.trans hm6); replace HRC:=kq (hm6.cells HRC.out HNP.out HNEW.out); have HP6:=kq hp6; have HO6:=kq ho6; replace HB:=kq (hm6.below HB.out HB.out.size (by rw [HPB.out]; exact Nat.le_refl _) HP.out.2); clear hm6 hp6 ho6))
    all_goals (go_wp2; go_ret; exact ⟨rfl,ov6,out6,HM6.out,HP6.out,HO6.out⟩)
   ·have hr : R = false:=by rw [HRR.out,HOO.out,over_len hle,Bool.and_false]
    subst hr
    have HHD3 : Hid (∀ cs W,Below w3.heap.size w3 W → IsRule r cs W → Calls Tryz.prog 175 #[.pointer (some ⟨pb,0,none⟩),.agg cs.toArray,.int .i64 v.number] W (Wrote pb (some ⟨b0,off,none⟩) rs.length cap ov false (out ++ H) W)):=fun cs W h1 h2 => by have h3:=HHD2.out cs W h1 h2; rw [decide_eq_false hle] at h3; exact h3
    clear hle
    go_upto_region 17 with fail
    clear y1
    refine wp_region_held_drew (S:=(fun W => W.cell? ⟨N,0,none⟩ = some (.string r.name) ∧ W.cell? ⟨N,1,none⟩ = some (.int .i64 7) ∧ W.cell? ⟨N,2,none⟩ = some (.int .i64 r.size) ∧ W.cell? ⟨N,3,none⟩ = some (.bool r.little) ∧ W.cell? ⟨N,4,none⟩ = some (.slice a4 r.bytes.length c4) ∧ W.cell? ⟨N,5,none⟩ = some (.slice a5 r.names.length c5) ∧ W.cell? ⟨N,6,none⟩ = some (.slice a6 r.tags.length c6) ∧ W.cell? ⟨N,7,none⟩ = some (.slice a7 r.kids.length c7) ∧ W.cell? ⟨b,o,none⟩ = some (.int .i64 v.number))) (by kernel_rfl) ?_ (fun hHeld => ?_)
    ·(try dsimp only); exact ⟨(HRC.out 0 _ rfl).1,(by rw [← HK.out]; exact (HRC.out 1 _ rfl).1),(HRC.out 2 _ rfl).1,(HRC.out 3 _ rfl).1,(HRC.out 4 _ rfl).1,(HRC.out 5 _ rfl).1,(HRC.out 6 _ rfl).1,(HRC.out 7 _ rfl).1,(HC.out _ HB.out).2.1⟩
    refine tq 0 (h:=?_)
    refine tq 1 (h:=?_)
    refine tq 2 (h:=?_)
    refine tq 3 (h:=?_)
    refine tq 4 (h:=?_)
    refine tq 5 (h:=?_)
    refine wpAnyH_ready (rs:=[6]) (by kernel_rfl) (by simp) ?_
    refine ac (h:=fun K hK => ?_)
    go_simp
    (go_at_call 175; refine (HHD3.out _ _ HD.out (HISK.out.below HB.out)).mono ?_; rintro e w5 ⟨rfl,ov5,out5,hm6,hp6,ho6⟩;  replace HB:=kq (hm6.below HB.out HB.out.size (by rw [HPB.out]; exact Nat.le_refl _) HP.out.2); replace HM:=kq (HM.out.trans hm6); replace HRC:=kq (hm6.cells HRC.out HNP.out HNEW.out); replace HNEW:=kq (hm6.new (cell_lt (HRC0.out 0 _ rfl).1) HNEW.out); replace HP:=kq hp6; clear hm6 hp6 ho6)
    go_wp2_with fail
    refine hK.out _ _ ?_ (fun hHeld => ?_)
    ·(try dsimp only); exact ⟨(HRC.out 0 _ rfl).1,(by rw [← HK.out]; exact (HRC.out 1 _ rfl).1),(HRC.out 2 _ rfl).1,(HRC.out 3 _ rfl).1,(HRC.out 4 _ rfl).1,(HRC.out 5 _ rfl).1,(HRC.out 6 _ rfl).1,(HRC.out 7 _ rfl).1,(HC.out _ HB.out).2.1⟩
    clear hK K
    refine tq 7 (h:=?_)
    refine tq 8 (v:=undef) (hy:=Or.inr ⟨by rfl,rfl⟩) (h:=?_)
    refine tq 9 (v:=undef) (hy:=Or.inr ⟨by rfl,rfl⟩) (h:=?_)
    refine tq 10 (v:=undef) (hy:=Or.inr ⟨by rfl,rfl⟩) (h:=?_)
    refine tq 11 (v:=undef) (hy:=Or.inr ⟨by rfl,rfl⟩) (h:=?_)
    refine tq 12 (h:=?_)
    refine tq 13 (h:=?_)
    refine wpAnyH_done (by kernel_rfl) ?_ _
    go_wp2
    go_ret
    exact ⟨rfl,ov5,out5,HM.out,HP.out,fun h => by cases h⟩
  ·have HK:=kq hkd
   rw [hkd] at y1
   clear hkd hkn
   have HI1 : Hid (v.items.length ≤ 1):=by show _ ≤ _; have h:=HFIT.out; simp only [fitB,bndV,HK.out,Int.reduceEq,reduceIte,Bool.and_eq_true,decide_eq_true_eq] at h; omega
   have hh : HeadAt rs r flagR:=.inl ⟨HK.out,rfl⟩
   have HISK : Hid (IsRule r [.string r.name,.int .i64 8,.int .i64 r.size,.bool r.little,.slice a4 r.bytes.length c4,.slice a5 r.names.length c5,.slice a6 r.tags.length c6,.slice a7 r.kids.length c7] wb):=by have h:=HIS.out; rw [HK.out] at h; exact h
   have HRR : Hid (R = ((ownB rs r v && validL rs r v.number 0 v.items) && decide (O.length ≤ 400))):=by show _ = _; rw [HR.out,HVE.out]
   obtain ⟨H,hH⟩ : ∃ H,H = encI flagR.little ((v.items.length : Nat) : Int) flagR.size:=⟨_,rfl⟩
   have hH4 : H.length ≤ 4:=by rw [hH]; exact encI_le4 _ _ _
   have HHD2 : Hid (∀ cs W,Below w3.heap.size w3 W → IsRule r cs W → Calls Tryz.prog 175 #[.pointer (some ⟨pb,0,none⟩),.agg cs.toArray,.int .i64 ((v.items.length : Nat) : Int)] W (Wrote pb (some ⟨b0,off,none⟩) rs.length cap ov (decide ((out ++ H).length ≤ 400)) (out ++ H) W)):=fun cs W hW hi => by rw [hH]; exact writeh_impl pb _ rs cap ov out r flagR cs ((v.items.length : Nat) : Int) W (HP.out.below hW) hi (HRD.out.below (HB.out.trans (hW.mono HB.out.size))) hh (by have:=HOL.out; omega)
   have HHE:=kq hH
   have HH4:=kq hH4
   have HOO : Hid (O = (out ++ H) ++ encs rs r v.number 0 v.items):=by show _ = _; rw [HO.out,HEE.out,wrap_8 HK.out,← encI_flag HI1.out,← HHE.out,List.append_assoc]
   clear hH hH4
   have HD : Hid (Below w3.heap.size w3 w3.drew):=below_drewN (Below.refl _ w3) 1
   replace HRC:=kq (HRC.out.below HD.out)
   replace HP:=kq (HP.out.below HD.out)
   replace HM:=kq (HM.out.trans (Moved.of_below HD.out))
   replace HB:=kq (HB.out.trans (HD.out.mono HB.out.size))
   have HRC0:=kq HRC.out
   by_cases hle : (out ++ H).length ≤ 400
   ·have HHL:=kq hle
    have HHD3 : Hid (∀ cs W,Below w3.heap.size w3 W → IsRule r cs W → Calls Tryz.prog 175 #[.pointer (some ⟨pb,0,none⟩),.agg cs.toArray,.int .i64 ((v.items.length : Nat) : Int)] W (Wrote pb (some ⟨b0,off,none⟩) rs.length cap ov true (out ++ H) W)):=fun cs W h1 h2 => by have h3:=HHD2.out cs W h1 h2; rw [decide_eq_true HHL.out] at h3; exact h3
    have HSEC : Hid (∀ W ov,Below wb.heap.size wb W → PrAt pb (some ⟨b0,off,none⟩) rs.length cap ov (out ++ H) W → Calls Tryz.prog 176 #[.pointer (some ⟨pb,0,none⟩),.agg #[.string r.name,.int .i64 8,.int .i64 r.size,.bool r.little,.slice a4 r.bytes.length c4,.slice a5 r.names.length c5,.slice a6 r.tags.length c6,.slice a7 r.kids.length c7],.pointer (some ⟨b,o,none⟩)] W (Wrote pb (some ⟨b0,off,none⟩) rs.length cap ov R O W)):=fun W ov hW hp => by rw [HRR.out,HPB.out]; rw [HPB.out] at hp; rw [show decide (O.length ≤ 400) = decide (((out ++ H) ++ encs rs r v.number 0 v.items).length ≤ 400) from by rw [HOO.out],HOO.out]; exact writei_impl wb _ rs cap n HIH.out r _ v b o ai ci ov (out ++ H) W HKI.out HKR.out HISK.out HFIT.out HX0.out HX2.out HIT.out hW hp HHL.out
    clear hle
    go_upto_region 15 with fail
    clear y1
    go_region_held3 (fun W => W.cell? ⟨N,0,none⟩ = some (.string r.name) ∧ W.cell? ⟨N,1,none⟩ = some (.int .i64 8) ∧ W.cell? ⟨N,2,none⟩ = some (.int .i64 r.size) ∧ W.cell? ⟨N,3,none⟩ = some (.bool r.little) ∧ W.cell? ⟨N,4,none⟩ = some (.slice a4 r.bytes.length c4) ∧ W.cell? ⟨N,5,none⟩ = some (.slice a5 r.names.length c5) ∧ W.cell? ⟨N,6,none⟩ = some (.slice a6 r.tags.length c6) ∧ W.cell? ⟨N,7,none⟩ = some (.slice a7 r.kids.length c7) ∧ W.cell? ⟨b,o + 2,none⟩ = some (.slice ai v.items.length ci)) (exact ⟨(HRC.out 0 _ rfl).1,(by rw [← HK.out]; exact (HRC.out 1 _ rfl).1),(HRC.out 2 _ rfl).1,(HRC.out 3 _ rfl).1,(HRC.out 4 _ rfl).1,(HRC.out 5 _ rfl).1,(HRC.out 6 _ rfl).1,(HRC.out 7 _ rfl).1,(HC.out _ HB.out).2.2.2⟩) (first | (go_at_call 175; refine (HHD3.out _ _ HD.out (HISK.out.below HB.out)).mono ?_; rintro e w5 ⟨rfl,ov5,out5,hm6,hp6,ho6⟩; obtain rfl:=ho6 rfl; replace HB:=kq (hm6.below HB.out HB.out.size (by rw [HPB.out]; exact Nat.le_refl _) HP.out.2); replace HM:=kq (HM.out.trans hm6); replace HRC:=kq (hm6.cells HRC.out HNP.out HNEW.out); replace HNEW:=kq (hm6.new (cell_lt (HRC0.out 0 _ rfl).1) HNEW.out); replace HP:=kq hp6; clear hm6 hp6) | (go_at_call 176; refine (HSEC.out _ _ HB.out HP.out).mono ?_; rintro e w6 ⟨rfl,ov6,out6,hm6,hp6,ho6⟩; have HM6:=kq (HM.out.trans hm6); replace HRC:=kq (hm6.cells HRC.out HNP.out HNEW.out); have HP6:=kq hp6; have HO6:=kq ho6; replace HB:=kq (hm6.below HB.out HB.out.size (by rw [HPB.out]; exact Nat.le_refl _) HP.out.2); clear hm6 hp6 ho6))
    all_goals (go_wp2; go_ret; exact ⟨rfl,ov6,out6,HM6.out,HP6.out,HO6.out⟩)
   ·have hr : R = false:=by rw [HRR.out,HOO.out,over_len hle,Bool.and_false]
    subst hr
    have HHD3 : Hid (∀ cs W,Below w3.heap.size w3 W → IsRule r cs W → Calls Tryz.prog 175 #[.pointer (some ⟨pb,0,none⟩),.agg cs.toArray,.int .i64 ((v.items.length : Nat) : Int)] W (Wrote pb (some ⟨b0,off,none⟩) rs.length cap ov false (out ++ H) W)):=fun cs W h1 h2 => by have h3:=HHD2.out cs W h1 h2; rw [decide_eq_false hle] at h3; exact h3
    clear hle
    go_upto_region 15 with fail
    clear y1
    refine wp_region_held_drew (S:=(fun W => W.cell? ⟨N,0,none⟩ = some (.string r.name) ∧ W.cell? ⟨N,1,none⟩ = some (.int .i64 8) ∧ W.cell? ⟨N,2,none⟩ = some (.int .i64 r.size) ∧ W.cell? ⟨N,3,none⟩ = some (.bool r.little) ∧ W.cell? ⟨N,4,none⟩ = some (.slice a4 r.bytes.length c4) ∧ W.cell? ⟨N,5,none⟩ = some (.slice a5 r.names.length c5) ∧ W.cell? ⟨N,6,none⟩ = some (.slice a6 r.tags.length c6) ∧ W.cell? ⟨N,7,none⟩ = some (.slice a7 r.kids.length c7) ∧ W.cell? ⟨b,o + 2,none⟩ = some (.slice ai v.items.length ci))) (by kernel_rfl) ?_ (fun hHeld => ?_)
    ·(try dsimp only); exact ⟨(HRC.out 0 _ rfl).1,(by rw [← HK.out]; exact (HRC.out 1 _ rfl).1),(HRC.out 2 _ rfl).1,(HRC.out 3 _ rfl).1,(HRC.out 4 _ rfl).1,(HRC.out 5 _ rfl).1,(HRC.out 6 _ rfl).1,(HRC.out 7 _ rfl).1,(HC.out _ HB.out).2.2.2⟩
    refine tq 0 (h:=?_)
    refine tq 1 (h:=?_)
    refine tq 2 (h:=?_)
    refine tq 3 (h:=?_)
    refine tq 4 (h:=?_)
    refine tq 5 (h:=?_)
    refine tq 6 (h:=?_)
    refine wpAnyH_ready (rs:=[7]) (by kernel_rfl) (by simp) ?_
    refine ac (h:=fun K hK => ?_)
    go_simp
    (go_at_call 175; refine (HHD3.out _ _ HD.out (HISK.out.below HB.out)).mono ?_; rintro e w5 ⟨rfl,ov5,out5,hm6,hp6,ho6⟩;  replace HB:=kq (hm6.below HB.out HB.out.size (by rw [HPB.out]; exact Nat.le_refl _) HP.out.2); replace HM:=kq (HM.out.trans hm6); replace HRC:=kq (hm6.cells HRC.out HNP.out HNEW.out); replace HNEW:=kq (hm6.new (cell_lt (HRC0.out 0 _ rfl).1) HNEW.out); replace HP:=kq hp6; clear hm6 hp6 ho6)
    go_wp2_with fail
    refine hK.out _ _ ?_ (fun hHeld => ?_)
    ·(try dsimp only); exact ⟨(HRC.out 0 _ rfl).1,(by rw [← HK.out]; exact (HRC.out 1 _ rfl).1),(HRC.out 2 _ rfl).1,(HRC.out 3 _ rfl).1,(HRC.out 4 _ rfl).1,(HRC.out 5 _ rfl).1,(HRC.out 6 _ rfl).1,(HRC.out 7 _ rfl).1,(HC.out _ HB.out).2.2.2⟩
    clear hK K
    refine tq 8 (h:=?_)
    refine tq 9 (v:=undef) (hy:=Or.inr ⟨by rfl,rfl⟩) (h:=?_)
    refine tq 10 (v:=undef) (hy:=Or.inr ⟨by rfl,rfl⟩) (h:=?_)
    refine tq 11 (v:=undef) (hy:=Or.inr ⟨by rfl,rfl⟩) (h:=?_)
    refine tq 12 (v:=undef) (hy:=Or.inr ⟨by rfl,rfl⟩) (h:=?_)
    refine tq 13 (h:=?_)
    refine tq 14 (h:=?_)
    refine wpAnyH_done (by kernel_rfl) ?_ _
    go_wp2
    go_ret
    exact ⟨rfl,ov5,out5,HM.out,HP.out,fun h => by cases h⟩
  ·have HK:=kq hkd
   rw [hkd] at y1
   clear hkd hkn
   have HISK : Hid (IsRule r [.string r.name,.int .i64 9,.int .i64 r.size,.bool r.little,.slice a4 r.bytes.length c4,.slice a5 r.names.length c5,.slice a6 r.tags.length c6,.slice a7 r.kids.length c7] wb):=by have h:=HIS.out; rw [HK.out] at h; exact h
   have HAL : Hid (∀ W,Below w3.heap.size w3 W → Calls Tryz.prog 176 #[.pointer (some ⟨pb,0,none⟩),.agg #[.string r.name,.int .i64 9,.int .i64 r.size,.bool r.little,.slice a4 r.bytes.length c4,.slice a5 r.names.length c5,.slice a6 r.tags.length c6,.slice a7 r.kids.length c7],.pointer (some ⟨b,o,none⟩)] W (Wrote pb (some ⟨b0,off,none⟩) rs.length cap ov (allB rs r v out) (out ++ encs rs r v.number 0 v.items) W)):=fun W hW => by rw [HPB.out]; have hp:=HP.out.below hW; rw [HPB.out] at hp; exact writei_impl wb _ rs cap n HIH.out r _ v b o ai ci ov out W HKI.out HKR.out HISK.out HFIT.out HX0.out HX2.out HIT.out (HB.out.trans (hW.mono HB.out.size)) hp HOL.out
   obtain ⟨I,hI⟩ : ∃ I,I = encs rs r v.number 0 v.items:=⟨_,rfl⟩
   have HRR : Hid (R = ((ownB rs r v && validL rs r v.number 0 v.items) && decide (O.length ≤ 400))):=by show _ = _; rw [HR.out,HVE.out]
   have HOO : Hid (O = out ++ I ++ [UInt8.ofNat (sumB I 0)]):=by show _ = _; rw [HO.out,HEE.out,wrap_9 HK.out,← hI,List.append_assoc]
   have HAB : Hid (allB rs r v out = ((ownB rs r v && validL rs r v.number 0 v.items) && decide ((out ++ I).length ≤ 400))):=by show _ = _; rw [hI]; rfl
   have HPO : Hid ((ownB rs r v && validL rs r v.number 0 v.items) = true → 0 < I.length):=fun h => by rw [hI]; exact HPOS.out HK.out h
   rw [← hI] at HAL
   clear hI
   obtain ⟨az,cz,hov,-⟩:=HP.out.2.row
   have bx:=(HP.out.1 1 _ rfl).1
   rw [hov] at bx
   obtain ⟨s,hs⟩ : ∃ s,s = out.length:=⟨_,rfl⟩
   rw [← hs] at bx
   have HSL:=kq hs
   clear hov hs
   have y0:=(HRC.out 0 _ rfl).1
   have y2:=(HRC.out 2 _ rfl).1
   have y3:=(HRC.out 3 _ rfl).1
   have y4:=(HRC.out 4 _ rfl).1
   have y5:=(HRC.out 5 _ rfl).1
   have y6:=(HRC.out 6 _ rfl).1
   have y7:=(HRC.out 7 _ rfl).1
   cases hab : allB rs r v out with
   | false =>
    have hr : R = false:=by
     have h1:=HAB.out.symm.trans hab
     rw [Bool.and_eq_false_iff] at h1
     rw [HRR.out,HOO.out]
     rcases h1 with h1 | h1
     ·rw [h1,Bool.false_and]
     ·rw [over_len (of_decide_eq_false h1),Bool.and_false]
    subst hr
    rw [hab] at HAL
    clear hab
    go_wp2_with fail
    refine (HAL.out _ (Below.refl _ _)).mono ?_
    rintro e w6 ⟨rfl,ov6,out6,hm6,hp6,ho6⟩
    have HM6:=kq (HM.out.trans hm6)
    have HP6:=kq hp6
    have HO6:=kq ho6
    clear hm6 hp6 ho6
    clear y0 y1 y2 y3 y4 y5 y6 y7 bx
    go_wp2
    go_ret
    exact ⟨rfl,ov6,out6,HM6.out,HP6.out,fun h => by cases h⟩
   | true =>
    have h1:=HAB.out.symm.trans hab
    rw [Bool.and_eq_true] at h1
    have HRS : Hid (R = decide ((out ++ I ++ [UInt8.ofNat (sumB I 0)]).length ≤ 400)):=by show _ = _; rw [HRR.out,h1.1,Bool.true_and,HOO.out]
    have HI0:=kq (HPO.out h1.1)
    have HIL : Hid ((out ++ I).length ≤ 400):=by show _ ≤ _; exact of_decide_eq_true h1.2
    rw [hab] at HAL
    clear hab h1
    go_wp2_with fail
    refine (HAL.out _ (Below.refl _ _)).mono ?_
    rintro e w6 ⟨rfl,ov5,out5,hm6,hp6,ho6⟩
    obtain rfl:=ho6 rfl
    have HM5:=kq (HM.out.trans hm6)
    have HP5:=kq hp6
    clear hm6 hp6 ho6 y0 y1 y2 y3 y4 y5 y6 y7 bx
    have HSU : Hid (Calls Tryz.prog 177 #[.pointer (some ⟨pb,0,none⟩),.int .i64 (s : Int)] w6 (Wrote pb (some ⟨b0,off,none⟩) rs.length cap ov5 R O w6)):=by show Calls _ _ _ _ _; rw [HSL.out,HRS.out,HOO.out]; exact writes_impl pb _ rs.length cap ov5 out I w6 HP5.out HI0.out (by have:=HIL.out; omega)
    go_wp2_with fail
    refine HSU.out.mono ?_
    rintro e w7 ⟨rfl,ov6,out6,hm6,hp6,ho6⟩
    have HM6:=kq (HM5.out.trans hm6)
    have HP6:=kq hp6
    have HO6:=kq ho6
    clear hm6 hp6 ho6
    go_wp2
    go_ret
    exact ⟨rfl,ov6,out6,HM6.out,HP6.out,HO6.out⟩
  ·have HK:=kq hkd
   rw [hkd] at y1
   clear hkd hkn
   have HRR : Hid (R = decide (O.length ≤ 400)):=by show _ = _; rw [HR.out,HVE.out,valid_none HKI.out HFIT.out (by rw [HK.out]; omega),Bool.true_and]
   have hrl:=kindI_10 HKI.out HK.out
   obtain ⟨b4,o4,h4,hc4⟩:=HR4.out 0 (by omega)
   subst h4
   simp only [Nat.add_zero] at hc4
   have HTB : Hid (r.bytes.getD 0 0 = r.bytes[0]):=by show _ = _; simp [List.getD,List.getElem?_eq_getElem (show 0 < r.bytes.length by omega)]
   obtain ⟨E,hE⟩ : ∃ E,E = escB r.bytes[0] v.bytes ++ [r.bytes[0]]:=⟨_,rfl⟩
   have HOO : Hid (O = out ++ E):=by show _ = _; rw [HO.out,HEE.out,encs_none HFIT.out (by rw [HK.out]; omega),wrap_10 HK.out,HTB.out,hE,List.nil_append]
   have hbl:=fit_bytes HKI.out HFIT.out
   have HLEN : Hid (E.length ≤ 1048576):=by show _ ≤ _; rw [hE,List.length_append,escB_length,List.length_singleton]; have:=escLen_le r.bytes[0] v.bytes; omega
   have HESC : Hid (∀ W,Below wb.heap.size wb W → Calls Tryz.prog 178 #[.slice ab v.bytes.length cb,.int .u8 (r.bytes[0].toNat : Int)] W (BytesOut E W)):=fun W hW => by rw [hE]; exact esc_impl ab v.bytes cb r.bytes[0] W (by omega) (HRB.out.below hW).1
   have HWR : Hid (∀ W az cz,Below w3.heap.size w3 W → Src1 az E cz W → Calls Tryz.prog 173 #[.pointer (some ⟨pb,0,none⟩),.slice az E.length cz] W (Wrote pb (some ⟨b0,off,none⟩) rs.length cap ov R O W)):=fun W az cz hW hs => by rw [HRR.out,HOO.out]; exact writeb_impl pb _ rs.length cap ov out E az cz W (HP.out.below hW) hs (by have:=HOL.out; have:=HLEN.out; omega)
   have rl0 : (0 : Int) < (r.bytes.length : Int):=by omega
   have rl1 : 0 < r.bytes.length:=by omega
   generalize r.bytes[0] = tb at hc4 HESC hE HTB
   obtain ⟨tn,htn⟩ : ∃ tn : Int,tn = (tb.toNat : Int):=⟨_,rfl⟩
   rw [← htn] at hc4 HESC
   have HC4:=kq hc4
   clear hE htn hc4 hrl hbl
   have HD : Hid (Below w3.heap.size w3 w3.drew):=below_drewN (Below.refl _ w3) 1
   replace HRC:=kq (HRC.out.below HD.out)
   replace HP:=kq (HP.out.below HD.out)
   replace HM:=kq (HM.out.trans (Moved.of_below HD.out))
   replace HB:=kq (HB.out.trans (HD.out.mono HB.out.size))
   have HS4 : Hid (CellsAt N [.string r.name,.int .i64 r.kind,.int .i64 r.size,.bool r.little,.slice (some ⟨b4,o4,none⟩) r.bytes.length c4,.slice a5 r.names.length c5,.slice a6 r.tags.length c6,.slice a7 r.kids.length c7] w3.drew):=HRC.out
   go_upto_region 22 with fail
   clear y1
   go_region_held3 (fun W => W.cell? ⟨N,4,none⟩ = some (.slice (some ⟨b4,o4,none⟩) r.bytes.length c4) ∧ W.cell? ⟨b4,o4,none⟩ = some (.int .u8 tn) ∧ W.cell? ⟨b,o + 1,none⟩ = some (.slice ab v.bytes.length cb)) (exact ⟨(HRC.out 4 _ rfl).1,cellK HB.out (Nat.le_refl _) HC4.out,(HC.out _ HB.out).2.2.1⟩) (first | (go_at_call 178; refine (HESC.out _ HB.out).mono ?_; rintro e w4 ⟨az,cz,rfl,hrow,hb5⟩; have HRW:=kq hrow.src; replace HRC:=kq (HRC.out.below hb5); replace HP:=kq (HP.out.below hb5); replace HM:=kq (HM.out.trans (Moved.of_below hb5)); replace HB:=kq (HB.out.trans (hb5.mono HB.out.size)); replace HD:=kq (HD.out.trans (hb5.mono HD.out.size)); clear hb5 hrow) | (go_at_call 173; refine (HWR.out _ _ _ HD.out HRW.out).mono ?_; rintro e w6 ⟨rfl,ov6,out6,hm6,hp6,ho6⟩; have HM6:=kq (HM.out.trans hm6); replace HRC:=kq (hm6.cells HRC.out HNP.out HNEW.out); have HP6:=kq hp6; have HO6:=kq ho6; replace HB:=kq (hm6.below HB.out HB.out.size (by rw [HPB.out]; exact Nat.le_refl _) HP.out.2); clear hm6 hp6 ho6))
   all_goals (go_wp2; go_ret; exact ⟨rfl,ov6,out6,HM6.out,HP6.out,HO6.out⟩)
theorem writep_of (wb : World) (a : Option Addr) (rs : List RuleV) (cap : Nat) (hl : rs.length ≤ 1048576) (hall : allV (kindI rs) rs) (hrd : RdR a rs wb) : ∀ n,WpC wb a rs cap n
 | 0 => fun _ _ _ _ _ _ _ _ _ h => h.elim
 | n + 1 => writep_step wb a rs cap n hl hall hrd (writep_of wb a rs cap hl hall hrd n)
theorem printve_impl (a : Option Addr) (rs : List RuleV) (cap n : Nat) (k : Int) (v : ValueV) (vs : List Value) (w : World) (hl : rs.length ≤ 1048576) (hs : ∀ r ∈ rs,Short r) (hp : ∀ r ∈ rs,Spelt r) (h : RdC a rs w) (hv : IsVal n v vs w) :
  Calls Tryz.prog 76 #[.agg #[.slice a rs.length cap],.int .i64 k,.agg vs.toArray] w (PvE (printB rs k v) (encV rs k v) w):=by
 obtain ⟨ab,cb,ai,ci,rfl⟩:=hv.cells
 obtain ⟨wb,hwb⟩ : ∃ wb,wb = (w.alloc (.cells #[.slice a rs.length cap] 26)).alloc (.cells #[.int .i64 v.number,.slice ab v.bytes.length cb,.slice ai v.items.length ci] 48):=⟨_,rfl⟩
 have hB:=zb2 hwb
 have hD:=zk2 hwb
 have hVC:=zk3 hwb
 obtain ⟨w1,hw1⟩ : ∃ w1,w1 = wb.alloc (.cells #[.slice a rs.length cap,.slice none 0 0] 160):=⟨_,rfl⟩
 have hb1:=zb1 hw1
 have hpr : PrAt wb.heap.size a rs.length cap (.slice none 0 0) [] w1:=by subst hw1; exact ⟨CellsAt.new wb _ _,World.ownsRow_nil _ _ _ _⟩
 have HP:=kq hpr
 have HB1:=kq hb1
 have HB:=kq hB
 have HC:=kq (h.below hB)
 have HV:=kq (hv.below hB)
 have HVC:=kq hVC
 have HS:=kq hs
 have HSP:=kq hp
 have HW:=kq hwb
 have HW1:=kq hw1
 have HD:=kq hD
 have bx:=(hD 0 _ rfl).1
 obtain ⟨ok,hok⟩ : ∃ b,b = okAt rs k:=⟨_,rfl⟩
 have HO:=kq hok
 obtain ⟨pv,hpv⟩ : ∃ b,b = printB rs k v:=⟨_,rfl⟩
 obtain ⟨E,hE⟩ : ∃ E,E = encV rs k v:=⟨_,rfl⟩
 rw [← hpv,← hE]
 have HPV:=kq hpv
 have HE:=kq hE
 obtain ⟨pb,hpb⟩ : ∃ pb,pb = wb.heap.size:=⟨_,rfl⟩
 have HPB:=kq hpb
 rw [← hpb] at HP
 clear h hv hB hD hVC hs hp hwb hok hpv hE hpr hb1 hpb hw1
 go_enter Tryz.func76,Tryz.ntmps76
 go_upto_region 1 with fail
 rw [← HW.out]
 go_upto_region 2 with fail
 rw [← HW1.out,← HPB.out]
 clear HW HW1 bx
 have bx:=(HD.out.below HB1.out 0 _ rfl).1
 go_wp2_with fail
 refine (isdescr_impl a rs cap k _ hl HS.out HSP.out (HC.out.below HB1.out)).mono ?_
 rintro e w2 ⟨rfl,hb2⟩
 rw [← HO.out]
 replace HP:=kq (HP.out.below hb2)
 have HB2:=kq (HB1.out.trans (hb2.mono HB1.out.size))
 have HBW:=kq (HB.out.trans (HB2.out.mono HB.out.size))
 clear hb2 bx
 cases ok with
 | false =>
  obtain rfl : pv = false:=by rw [HPV.out,printB,fitsV,← HO.out]; rfl
  go_wp2
  go_ret2
  exact pve_none HBW.out
 | true =>
  obtain ⟨⟨k0,k1⟩,hn,hall⟩:=okAt_yes HO.out.symm
  obtain ⟨m,rfl⟩ : ∃ m : Nat,k = (m : Int):=⟨k.toNat,by omega⟩
  have hm : m < rs.length:=by omega
  obtain ⟨R,hR⟩ : ∃ R,R = (validV rs (m : Int) v && decide ((([] : List UInt8) ++ encV rs (m : Int) v).length ≤ 400)):=⟨_,rfl⟩
  have hRP : R = pv:=by
   rw [hR,HPV.out,printB,fitsV,← HO.out,Bool.true_and,List.nil_append]
   cases hvv : validV rs (m : Int) v with
   | false => rfl
   | true => rw [encV_length hall m hm v hvv]
  have HCL : Hid (Calls Tryz.prog 126 #[.pointer (some ⟨pb,0,none⟩),.int .i64 (m : Int),.pointer (some ⟨w.heap.size + 1,0,none⟩)] w2 (Wrote pb a rs.length cap (.slice none 0 0) R E w2)):=by
   show Calls _ _ _ _ _
   have h1:=writep_of wb a rs cap hl hall HC.out.rd n v _ m (w.heap.size + 1) 0 (.slice none 0 0) [] w2 hm HV.out (fun i u hu => by simpa using (HVC.out i u hu).1) HB2.out (by rw [← HPB.out]; exact HP.out) (by simp)
   rw [← hR,List.nil_append,← HE.out,← HPB.out] at h1
   exact h1
  subst hRP
  have HPW : Hid (w.heap.size ≤ pb + 1):=by show _ ≤ _; rw [HPB.out]; have:=HB.out.size; omega
  clear hR hall hn
  go_wp2_with fail
  refine HCL.out.mono ?_
  rintro e w3 ⟨rfl,ov3,out3,hm3,hp3,ho3⟩
  have HB3 : Hid (Below w.heap.size w w3):=hm3.below HBW.out HBW.out.size (by rw [HPB.out]; exact HB.out.size) HP.out.2
  cases R with
  | false =>
   clear hm3 hp3 ho3
   go_wp2
   go_ret2
   exact pve_none HB3.out
  | true =>
   obtain rfl:=ho3 rfl
   obtain ⟨az,cz,rfl,hrow⟩:=hp3.2.row
   have HRW:=kq (hrow.more HPW.out)
   have z1:=(hp3.1 1 _ rfl).1
   clear hm3 hp3 ho3 hrow
   go_wp2
   go_ret2
   exact ⟨az,_,cz,rfl,rfl,HRW.out,HB3.out⟩
theorem printf_impl (a : Option Addr) (rs : List RuleV) (cap n : Nat) (v : ValueV) (vs : List Value) (w : World) (hl : rs.length ≤ 1048576) (hs : ∀ r ∈ rs,Short r) (hp : ∀ r ∈ rs,Spelt r) (h : RdC a rs w) (hv : IsVal n v vs w) :
  Calls Tryz.prog 42 #[.agg #[.slice a rs.length cap],.agg vs.toArray] w (PvE (printB rs ((rs.length : Int) - 1) v) (encV rs ((rs.length : Int) - 1) v) w):=by
 have hiv:=hv
 obtain ⟨ab,cb,ai,ci,rfl⟩:=hv.cells
 obtain ⟨w0,hw0⟩ : ∃ w0,w0 = (w.alloc (.cells #[.slice a rs.length cap] 26)).alloc (.cells #[.int .i64 v.number,.slice ab v.bytes.length cb,.slice ai v.items.length ci] 48):=⟨_,rfl⟩
 have hB:=zb2 hw0
 have hD:=zk2 hw0
 have hVC:=zk3 hw0
 have hbd : Below w0.heap.size w0 w0.drew:=below_drewN (Below.refl _ _) 1
 have HD:=kq (hD.below hbd)
 have HVC:=kq (hVC.below hbd)
 have HB:=kq (hB.trans (hbd.mono hB.size))
 have HCW:=kq h
 have hW:=kq hw0
 obtain ⟨k,hk⟩ : ∃ k,k = (rs.length : Int) - 1:=⟨_,rfl⟩
 obtain ⟨E,hE⟩ : ∃ E,E = encV rs k v:=⟨_,rfl⟩
 obtain ⟨pb,hpb⟩ : ∃ b,b = printB rs k v:=⟨_,rfl⟩
 have HCL : Hid (∀ W,Below w.heap.size w W → Calls Tryz.prog 76 #[.agg #[.slice a rs.length cap],.int .i64 k,.agg #[.int .i64 v.number,.slice ab v.bytes.length cb,.slice ai v.items.length ci]] W (PvE pb E W)):=fun W hW => by rw [hE,hpb]; exact printve_impl a rs cap n k v _ W hl hs hp (h.below hW) (hiv.below hW)
 have HRO : Hid (∀ W,Below w.heap.size w W → Calls Tryz.prog 74 #[.agg #[.slice a rs.length cap]] W fun e w' => e = .returned (.int .i64 k) ∧ Below W.heap.size W w'):=fun W hW => by rw [hk]; exact root_impl a rs cap W (by omega) (h.below hW).rd
 rw [← hk,← hE,← hpb]
 clear h hv hiv hB hD hVC hbd hs hp hw0 hE hpb hk
 go_enter Tryz.func42,Tryz.ntmps42
 go_upto_region 1 with fail
 rw [← hW.out]
 clear hW
 go_region_held3 (fun W => W.cell? ⟨w.heap.size,0,none⟩ = some (.slice a rs.length cap) ∧ W.cell? ⟨w.heap.size + 1,0,none⟩ = some (.int .i64 v.number) ∧ W.cell? ⟨w.heap.size + 1,1,none⟩ = some (.slice ab v.bytes.length cb) ∧ W.cell? ⟨w.heap.size + 1,2,none⟩ = some (.slice ai v.items.length ci)) (exact ⟨(HD.out 0 _ rfl).1,(HVC.out 0 _ rfl).1,(HVC.out 1 _ rfl).1,(HVC.out 2 _ rfl).1⟩) (first | (go_at_call 74; refine (HRO.out _ HB.out).mono ?_; rintro e w3 ⟨rfl,hb3⟩; replace HD:=kq (HD.out.below hb3); replace HVC:=kq (HVC.out.below hb3); replace HB:=kq (HB.out.trans (hb3.mono HB.out.size)); clear hb3) | (go_at_call 76; refine (HCL.out _ HB.out).mono ?_; rintro e w4 ⟨az,bs,cz,rfl,hbs,hrow,hb4⟩; have HRW:=kq (hrow.more HB.out.size); have HBS:=kq hbs; replace HD:=kq (HD.out.below hb4); replace HVC:=kq (HVC.out.below hb4); replace HB:=kq (HB.out.trans (hb4.mono HB.out.size)); clear hb4 hrow hbs))
 all_goals (go_wp2; go_ret2; exact ⟨az,bs,cz,rfl,HBS.out,HRW.out,HB.out⟩)
end Go.Proofs.YtefkhknfjohnaaaGreatDoor
