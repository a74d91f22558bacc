/- Drawing whole descriptions: -/
import Derived.Test.YtfmnjclnhppghaaGreatEK
import Derived.Test.YtfmnjclnhppghaaGreatEM4
import Derived.Test.YtfmnjclnhppghaaGreatEM5
set_option maxRecDepth 100000
namespace Go.Proofs.YtfmnjclnhppghaaGreat
open Go Go.RowKit
theorem make_any (a : Option Addr) (len cap c base : Nat) (ad : Option Addr) (rs : List RuleV) (capd : Nat) (k : Int) (w : World) (hl : len ≤ 140737488355328) (hk : 1 ≤ k ∧ k ≤ 10) (hrs : rs.length ≤ 9) (h0 : 0 < rs.length) (hk0 : rs[0].kind = 1) (hint : ∀ r ∈ rs,r.kind = 1 → 1 ≤ r.size ∧ r.size ≤ 4) (hrow : RowR base (.slice ad rs.length capd) rs w) (hcb : c < base) (hbw : base ≤ w.heap.size) (hc : Cur a len cap c w) :
  Calls Tryz.prog 103 #[.pointer (some ⟨c,0,none⟩),.agg #[.slice ad rs.length capd],.int .i64 k] w (MakeOut a len cap c rs k w):=by
 rcases (by omega : k = 1 ∨ k = 2 ∨ k = 3 ∨ k = 4 ∨ k = 5 ∨ k = 6 ∨ k = 7 ∨ k = 8 ∨ k = 9 ∨ k = 10) with rfl | rfl | rfl | rfl | rfl | rfl | rfl | rfl | rfl | rfl
 ·exact make_1 a len cap c base ad rs capd w hl hrs hrow hcb hbw hc
 ·exact make_2 a len cap c base ad rs capd w hl hrs h0 hk0 hrow hcb hbw hc
 ·exact make_3 a len cap c base ad rs capd w hl hrs hrow hcb hbw hc
 ·exact make_4 a len cap c base ad rs capd w hl hrs h0 hk0 hrow hcb hbw hc
 ·exact make_5 a len cap c base ad rs capd w hl hrs h0 hk0 hrow hcb hbw hc
 ·exact make_6 a len cap c base ad rs capd w hl hrs h0 hk0 hrow hcb hbw hc
 ·exact make_7 a len cap c base ad rs capd w hl hrs h0 hk0 hint hrow hcb hbw hc
 ·exact make_8 a len cap c base ad rs capd w hl hrs h0 hk0 hrow hcb hbw hc
 ·exact make_9 a len cap c base ad rs capd w hl hrs h0 hk0 hrow hcb hbw hc
 ·exact make_10 a len cap c base ad rs capd w hl hrs h0 hk0 hrow hcb hbw hc
def MadeAll (rs : List RuleV) : Prop:=∀ j (h : j < rs.length),MadeR (rs.take j) rs[j]
theorem MadeAll.nil : MadeAll []:=fun j h => by simp at h
theorem MadeAll.push {rs : List RuleV} {r : RuleV} (h : MadeAll rs) (hr : MadeR rs r) : MadeAll (rs ++ [r]):=fun j hj => by
 by_cases e : j < rs.length
 ·rw [List.getElem_append_left e,List.take_append_of_le_length (by omega)]
  exact h j e
 ·simp at hj
  obtain rfl : j = rs.length:=by omega
  rw [List.getElem_append_right (Nat.le_refl _),List.take_append_of_le_length (Nat.le_refl _),List.take_length]
  simpa using hr
theorem MadeAll.int {rs : List RuleV} (h : MadeAll rs) : ∀ r ∈ rs,r.kind = 1 → 1 ≤ r.size ∧ r.size ≤ 4:=fun r hr hk => by
 obtain ⟨j,hj,rfl⟩:=List.getElem_of_mem hr
 exact kindI_size (h j hj).2.2 hk
theorem RowR.more {base base' : Nat} {v : Value} {rs : List RuleV} {w : World} (h : RowR base v rs w) (hb : base' ≤ base) : RowR base' v rs w:=by
 obtain ⟨css,hl,ho,hr⟩:=h
 refine ⟨css,hl,⟨ho.1,?_⟩,fun j h1 h2 => ⟨(hr j h1 h2).1,(hr j h1 h2).2.1,fun b hbb => ⟨Nat.le_trans hb ((hr j h1 h2).2.2 b hbb).1,((hr j h1 h2).2.2 b hbb).2⟩⟩⟩
 rcases ho.2 with h | ⟨g,cap,cur,e,hg,rest⟩
 ·exact .inl h
 ·exact .inr ⟨g,cap,cur,e,Nat.le_trans hb hg,rest⟩
def DescrSt (a : Option Addr) (len cap c : Nat) (rs : List RuleV) (v : Value) (w W : World) : Prop :=
 MadeAll rs ∧ CellsAt w.heap.size [.slice none 0 0] W ∧ CellsAt (w.heap.size + 1) [v] W ∧ RowO (w.heap.size + 2) W.heap.size v rs W ∧ Cur a len cap c W ∧ w.grownBy W (some c) ∧ w.heap.size + 2 ≤ W.heap.size
theorem DescrSt.push {a : Option Addr} {len cap c hi : Nat} {rs : List RuleV} {r : RuleV} {v v' : Value} {w w6 w7 : World} (hcw : c < w.heap.size) (hold : ∀ b off,a = some ⟨b,off,none⟩ → 0 < len → b < w.heap.size)
  (hm : MadeAll rs) (hr : MadeR rs r) (hX : CellsAt w.heap.size [.slice none 0 0] w6) (hD : CellsAt (w.heap.size + 1) [v] w6) (hR : RowO (w.heap.size + 2) hi v rs w6) (hC : Cur a len cap c w6) (hG : w.grownBy w6 (some c)) (hBW : w.heap.size + 2 ≤ w6.heap.size)
  (hrow : RowO (w.heap.size + 2) w7.heap.size v' (rs ++ [r]) w7) (hg : w6.grownBy w7 v.ownBlock) :
  DescrSt a len cap c (rs ++ [r]) v' w (w7.setCell ⟨w.heap.size + 1,0,none⟩ v'):=by
 have hlt : ∀ k,v.ownBlock = some k → w.heap.size + 2 ≤ k:=fun k e => (hR.row.own k e).1
 have hX7:=hX.grown hg (by intro e; have:=hlt _ e.symm; omega)
 have hD7:=(hD.grown hg (by intro e; have:=hlt _ e.symm; omega)).set 0 v' (by simp)
 have hC7:=hC.grown hg (by intro e; have:=hlt _ e.symm; omega) (fun b off ha hl => by intro e; have:=hlt _ e.symm; have:=hold b off ha hl; omega)
 simp only [List.set] at hD7
 refine ⟨hm.push hr,hX7.far (by omega),hD7,(hrow.grown (grown_set (grown_refl _ _) 0 _) (by omega)).wide (by simp),hC7.put (by omega) (fun b off ha hl => by have:=hold b off ha hl; omega),grown_put (grown_far hG hg (fun k e => by have:=hlt _ e; omega)) (by omega),?_⟩
 have:=hg.size
 simp
 omega
def DescrMadeO (a : Option Addr) (len cap c : Nat) (w : World) (e : Ending) (w' : World) : Prop :=
 ∃ (rs : List RuleV) (x : Option Addr) (cp : Nat),e = .returned (.agg #[.slice x rs.length cp]) ∧ MadeAll rs ∧ (1 ≤ rs.length ∧ rs.length ≤ 6) ∧ (∀ h : 0 < rs.length,rs[0].kind = 1) ∧ RowO (w.heap.size + 2) w'.heap.size (.slice x rs.length cp) rs w' ∧ Cur a len cap c w' ∧ w.grownBy w' (some c)
set_option maxHeartbeats 4000000 in
theorem descr_drawO (a : Option Addr) (len cap c : Nat) (w : World) (hl : len ≤ 140737488355328) (hc : Cur a len cap c w) :
  Calls Tryz.prog 57 #[.pointer (some ⟨c,0,none⟩)] w (DescrMadeO a len cap c w):=by
 have hcw : c < w.heap.size:=hc.lt
 have hold:=kq hc.old
 obtain ⟨w0,hw0⟩ : ∃ w0,w0 = (w.alloc (.cells #[.slice none 0 0] 26)).alloc (.cells #[.slice none 0 0] 26):=⟨_,rfl⟩
 have hB:=zb2 hw0
 have hX:=zk2 hw0
 have hD : CellsAt (w.heap.size + 1) [.slice none 0 0] w0:=by
  subst hw0
  have h1:=CellsAt.new (w.alloc (.cells #[.slice none 0 0] 26)) [.slice none 0 0] 26
  simpa using h1
 have hs0 : w.heap.size + 2 ≤ w0.heap.size:=by subst hw0; simp
 have bo : w0.cell? ⟨w.heap.size + 1,0,none⟩ = some (.slice none 0 0):=(hD 0 _ rfl).1
 have hbd : Below w0.heap.size w0 w0.drew:=below_drewN (Below.refl _ _) 1
 have HX:=kq (hX.below hbd)
 have HD:=kq (hD.below hbd)
 have HC:=kq ((hc.below hB).below hbd)
 have HG : Hid (w.grownBy w0.drew (some c)):=grown_below (grown_of hB) hbd
 have HR : Hid (RowO (w.heap.size + 2) w0.drew.heap.size (.slice none 0 0) [] w0.drew):=RowO.start _ _ _
 have HBW : Hid (w.heap.size + 2 ≤ w0.drew.heap.size):=hs0
 have hW:=kq hw0
 clear hc hB hX hD hw0 hbd hs0
 go_enter Tryz.func57,Tryz.ntmps57
 go_upto_region 2 with fail
 rw [← hW.out]
 clear hW
 go_cut [] from 6 to 13 (fun W => ∃ (r : RuleV) (v : Value),Hid (DescrSt a len cap c [r] v w W) ∧ Hid (r.kind = 1))
 case first =>
  go_region_law (first | (go_simp; go_at_call 103; refine (make_1 a len cap c (w.heap.size + 2) none [] 0 w0.drew hl (by simp) HR.out.row (by omega) HBW.out HC.out).mono ?_; rintro e w6 ⟨r,cs,rfl,⟨hmd,hkd⟩,hcp,hblk,hI,hc1,hg⟩; have HNE : Hid (∀ b ∈ cs.flatMap blkO,w0.drew.heap.size ≤ b):=(fun b hb => by have h1:=(hI.lt b hb).1; omega); have HMD:=kq hmd; have HKD:=kq hkd; have HCP:=kq hcp; have HI:=kq (hI.mono (lo':=w.heap.size + 2) (by have:=HBW.out; omega)); replace HX:=kq (HX.out.grown hg (by intro e; injection e with e; omega)); replace HD:=kq (HD.out.grown hg (by intro e; injection e with e; omega)); replace HR:=kq (HR.out.grown hg (by omega)); replace HG:=kq (Lib.grownBy_trans HG.out hg); replace HBW:=kq (Nat.le_trans HBW.out hg.size); replace HC:=kq hc1; have bo6:=(HD.out 0 _ rfl).1; clear hmd hkd hcp hblk hc1 hg; obtain ⟨x4,y4,x5,y5,x6,y6,x7,y7,rfl,-⟩:=hI.is.1; have bo7:=(HD.out.below ((Below.refl w6.heap.size w6).alloc (Nat.le_refl _) (.cells #[.string r.name,.int .i64 r.kind,.int .i64 r.size,.bool r.little,.slice x4 r.bytes.length y4,.slice x5 r.names.length y5,.slice x6 r.tags.length y6,.slice x7 r.kids.length y7] 47)) 0 _ rfl).1) | (refine step_pushO rfl (.tmp 7) (.tmp 11) rfl (w.heap.size + 2) w0.drew.heap.size (.slice none 0 0) [] r _ w6 (by simp [Act.eval]) (by simp [Act.eval]) HR.out HI.out HNE.out (by simp) HBW.out ?_; intro v' w7 hrow hg; have HR7:=kq hrow; have HG7:=kq hg; obtain ⟨bo8,bf8⟩:=HD.out.grown hg (by intro e; have:=(HR.out.row.own _ e.symm).1; omega) 0 _ rfl; obtain ⟨x',c',rfl,-⟩:=hrow.row.rdc; clear hrow hg))
  all_goals (go_wp2_with fail; go_meet; exact ⟨r,_,DescrSt.push hcw hold.out MadeAll.nil HMD.out HX.out HD.out HR.out HC.out HG.out HBW.out HR7.out HG7.out,HKD⟩)
 case rest =>
  clear HX HD HC HG HR HBW bo
  obtain ⟨r0,v0,hst,hk0⟩:=hcut
  obtain ⟨hm,hX,hD,hR,hC,hG,hBW⟩:=hst.out
  clear hst
  go_wp2_with fail
  refine (below_draw a len cap c 6 _ hl (by omega) (by omega) hC).mono ?_
  rintro e w5 ⟨x,⟨x0,x1⟩,rfl,hc1,hg⟩
  have hst : Hid (DescrSt a len cap c [r0] v0 w w5):=⟨hm,hX.grown hg (by intro e; injection e with e; omega),hD.grown hg (by intro e; injection e with e; omega),(hR.grown hg (by omega)).wide hg.size,hc1,Lib.grownBy_trans hG hg,Nat.le_trans hBW hg.size⟩
  clear hm hX hD hR hC hG hBW hc1 hg
  obtain ⟨m,rfl⟩ : ∃ m : Nat,x = (m : Int):=⟨x.toNat,by omega⟩
  have m5 : m ≤ 5:=by omega
  have hkk : Hid (∀ h : 0 < [r0].length,[r0][0].kind = 1):=fun _ => hk0.out
  go_wp2
  go_loopw [4] (fun i W => ∃ (j : Nat) (rs : List RuleV) (v : Value),j ≤ 5 ∧ i = .int .i64 j ∧ rs.length + j ≤ 6 ∧ 1 ≤ rs.length ∧ Hid (∀ h : 0 < rs.length,rs[0].kind = 1) ∧ Hid (DescrSt a len cap c rs v w W)) (fun i _ => (intOf i).toNat)
  case atStart => exact ⟨m,[r0],v0,m5,rfl,by simp; omega,by simp,hkk,hst⟩
  case round =>
   clear hst hkk hk0 x0 x1 m5
   obtain ⟨j,rs,v,hj,rfl,hlen,hlen1,hk,hst⟩:=hrel
   obtain ⟨hm,hX,hD,hR,hC,hG,hBW⟩:=hst.out
   clear hst
   obtain ⟨ad,capd,rfl,-⟩:=hR.row.rdc
   have HM:=kq hm
   by_cases hj0 : j = 0
   case pos =>
    subst hj0
    obtain ⟨z0,t0⟩:=hX 0 _ rfl
    obtain ⟨d0,-⟩:=hD 0 _ rfl
    have HRF : Hid (RowO (w.heap.size + 2) (wr.setCell ⟨w.heap.size,0,none⟩ (.slice ad rs.length capd)).heap.size (.slice ad rs.length capd) rs (wr.setCell ⟨w.heap.size,0,none⟩ (.slice ad rs.length capd))):=(hR.grown (grown_set (grown_refl wr w.heap.size) 0 (.slice ad rs.length capd)) (by omega)).wide (by simp)
    have HCF:=kq (hC.put (q:=w.heap.size) (i:=0) (v:=.slice ad rs.length capd) (by omega) (fun b off ha hl => by have:=hold.out b off ha hl; omega))
    have HGF:=kq (grown_put (q:=w.heap.size) (i:=0) (v:=.slice ad rs.length capd) hG (Nat.le_refl _))
    clear hX hD hR hC hG hBW hm
    go_wp2
    (try simp only [Exit.inBlock,Exit.then])
    refine bodyPost_ret (v:=.agg #[.slice ad rs.length capd]) ?_ rfl ?_
    ·simp [results,Tryz.results57,go_sem,z0]
    ·exact ⟨rs,ad,capd,rfl,HM.out,⟨hlen1,by omega⟩,hk.out,HRF.out,HCF.out,HGF.out⟩
   have j1 : (0 : Int) < (j : Int):=by omega
   have bo : wr.cell? ⟨w.heap.size + 1,0,none⟩ = some (.slice ad rs.length capd):=(hD 0 _ rfl).1
   have hbd : Below wr.heap.size wr wr.drew:=below_drewN (Below.refl _ _) 1
   have HX:=kq (hX.below hbd)
   have HD:=kq (hD.below hbd)
   have HC:=kq (hC.below hbd)
   have HG:=kq (grown_below hG hbd)
   have HR:=kq (hR.below hbd)
   have HBW : Hid (w.heap.size + 2 ≤ wr.drew.heap.size):=hBW
   have hrs9 : rs.length ≤ 9:=by omega
   clear hbd hX hD hR hC hG hBW hm
   go_upto_region 6 with fail
   go_region_law (first | (go_simp; go_at_call 48; refine (below_draw a len cap c 10 wr.drew hl (by omega) (by omega) HC.out).mono ?_; rintro e w5 ⟨y,⟨y0,y1⟩,rfl,hc1,hg⟩; have hw : IntKind.i64.wrap (1 + y) = 1 + y:=IntWalk.i64_in _ (by omega); replace HX:=kq (HX.out.grown hg (by intro e; injection e with e; omega)); replace HD:=kq (HD.out.grown hg (by intro e; injection e with e; omega)); replace HR:=kq (HR.out.grown hg (by omega)); replace HG:=kq (Lib.grownBy_trans HG.out hg); replace HBW:=kq (Nat.le_trans HBW.out hg.size); replace HC:=kq hc1; have bo5:=(HD.out 0 _ rfl).1; have HSZ:=kq (show wr.heap.size ≤ w5.heap.size from hg.size); clear hc1 hg) | (go_simp; go_at_call 103; refine (make_any a len cap c (w.heap.size + 2) ad rs capd (1 + y) w5 hl (by omega) hrs9 (by omega) (hk.out _) HM.out.int HR.out.row (by omega) HBW.out HC.out).mono ?_; rintro e w6 ⟨r,cs,rfl,⟨hmd,hkd⟩,hcp,hblk,hI,hc1,hg⟩; have HNE : Hid (∀ b ∈ cs.flatMap blkO,wr.heap.size ≤ b):=(fun b hb => by have h1:=(hI.lt b hb).1; have h2:=HSZ.out; omega); have HMD:=kq hmd; have HKD:=kq hkd; have HCP:=kq hcp; have HI:=kq (hI.mono (lo':=w.heap.size + 2) (by have:=HBW.out; omega)); replace HX:=kq (HX.out.grown hg (by intro e; injection e with e; omega)); replace HD:=kq (HD.out.grown hg (by intro e; injection e with e; omega)); replace HR:=kq (HR.out.grown hg (by omega)); replace HG:=kq (Lib.grownBy_trans HG.out hg); replace HBW:=kq (Nat.le_trans HBW.out hg.size); replace HC:=kq hc1; have bo6:=(HD.out 0 _ rfl).1; clear hmd hkd hcp hblk hc1 hg; obtain ⟨x4,y4,x5,y5,x6,y6,x7,y7,rfl,-⟩:=hI.is.1; have bo7:=(HD.out.below ((Below.refl w6.heap.size w6).alloc (Nat.le_refl _) (.cells #[.string r.name,.int .i64 r.kind,.int .i64 r.size,.bool r.little,.slice x4 r.bytes.length y4,.slice x5 r.names.length y5,.slice x6 r.tags.length y6,.slice x7 r.kids.length y7] 47)) 0 _ rfl).1) | (refine step_pushO rfl (.tmp 21) (.tmp 28) rfl (w.heap.size + 2) wr.heap.size (.slice ad rs.length capd) rs r _ w6 (by simp [Act.eval]) (by simp [Act.eval]) HR.out HI.out HNE.out (by omega) HBW.out ?_; intro v' w7 hrow hg; have HR7:=kq hrow; have HG7:=kq hg; obtain ⟨bo8,bf8⟩:=HD.out.grown hg (by intro e; have:=(HR.out.row.own _ e.symm).1; omega) 0 _ rfl; obtain ⟨x',c',rfl,-⟩:=hrow.row.rdc; clear hrow hg))
   all_goals (have hfin:=kq (DescrSt.push hcw hold.out HM.out HMD.out HX.out HD.out HR.out HC.out HG.out HBW.out HR7.out HG7.out); rw [show (rs ++ [r]).length = rs.length + 1 from by simp] at hfin; have hkf : Hid (∀ h : 0 < (rs ++ [r]).length,(rs ++ [r])[0].kind = 1):=(fun _ => by rw [List.getElem_append_left (by omega)]; exact hk.out _); clear HMD HKD HX HD HR HC HG HBW HR7 HG7 HI HCP HNE)
   all_goals go_wp2
   all_goals go_roundw
   all_goals first | exact ⟨j - 1,rs ++ [r],_,by omega,by congr 1; omega,by simp; omega,by simp,hkf,hfin⟩ | exact ⟨j - 1,rs ++ [r],_,by omega,by rw [show ((j : Int) - 1) = ((j - 1 : Nat) : Int) from by omega],by simp; omega,by simp,hkf,hfin⟩ | (simp [intOf]; omega)
def DescrMade (a : Option Addr) (len cap c : Nat) (w : World) (e : Ending) (w' : World) : Prop :=
 ∃ (rs : List RuleV) (x : Option Addr) (cp : Nat),e = .returned (.agg #[.slice x rs.length cp]) ∧ MadeAll rs ∧ (1 ≤ rs.length ∧ rs.length ≤ 6) ∧ (∀ h : 0 < rs.length,rs[0].kind = 1) ∧ RowR (w.heap.size + 2) (.slice x rs.length cp) rs w' ∧ Cur a len cap c w' ∧ w.grownBy w' (some c)
theorem descr_draw (a : Option Addr) (len cap c : Nat) (w : World) (hl : len ≤ 140737488355328) (hc : Cur a len cap c w) :
  Calls Tryz.prog 57 #[.pointer (some ⟨c,0,none⟩)] w (DescrMade a len cap c w):=by
 refine (descr_drawO a len cap c w hl hc).mono ?_
 rintro e w' ⟨rs,x,cp,he,hm,hl,hk,hr,h⟩
 exact ⟨rs,x,cp,he,hm,hl,hk,hr.row,h⟩
end Go.Proofs.YtfmnjclnhppghaaGreat
/- Drawn descriptions are valid; the contract of DrawDescription. -/
namespace Go.Proofs.YtfmnjclnhppghaaGreat
open Go Go.RowKit
theorem kindAt_more {rs : List RuleV} {i : Nat} {k : Int} (hi : i ≤ rs.length) (h0 : 0 ≤ k) (h1 : k < (i : Int)) : kindAtB (rs.take i) k = kindAtB rs k:=by
 unfold kindAtB
 rw [dif_pos (by rw [List.length_take]; omega),dif_pos (by omega)]
 rw [List.getElem_take]
theorem limitAt_more {rs : List RuleV} {i : Nat} {k : Int} (hi : i ≤ rs.length) (h0 : 0 ≤ k) (h1 : k < (i : Int)) : limitAt (rs.take i) k = limitAt rs k:=by
 unfold limitAt
 rw [dif_pos (by rw [List.length_take]; omega),dif_pos (by omega)]
 simp only [List.getElem_take]
theorem kindI_more {rs : List RuleV} {r : RuleV} {i : Nat} (hi : i ≤ rs.length) (hk : kidsB r.kids (i : Int) = true) (h : kindI (rs.take i) r = true) : kindI rs r = true:=by
 obtain ⟨nm,kd,sz,lt,bs,ns,ts,ks⟩:=r
 dsimp only at hk
 cases ks with
 | nil =>
  unfold kindI at h ⊢
  rw [Bool.and_eq_true] at h ⊢
  refine ⟨?_,h.2⟩
  have h1:=h.1
  unfold meetsB tagsB at h1 ⊢
  simpa using h1
 | cons k ks =>
  unfold kidsB at hk
  rw [List.all_eq_true] at hk
  have hk1:=of_decide_eq_true (hk k (by simp))
  have e1:=kindAt_more hi hk1.1 (by omega : k < (i : Int))
  have e2:=limitAt_more hi hk1.1 (by omega : k < (i : Int))
  unfold kindI at h ⊢
  unfold meetsB tagsB at h ⊢
  simp only [List.headD_cons,e1,e2] at h ⊢
  exact h
theorem find_at {rs : List RuleV} {i : Nat} (hi : i < rs.length) (hne : ∀ j (hj : j < i),rs[j].name ≠ rs[i].name) : findFrom rs[i].name rs 0 = (i : Int):=by
 have hall : ∀ d k,k + d = i → findFrom rs[i].name (rs.drop k) k = (i : Int):=by
  intro d
  induction d with
  | zero =>
   intro k e
   obtain rfl : k = i:=by omega
   exact findFrom_yes hi rfl
  | succ d ih =>
   intro k e
   rw [findFrom_no (by omega) (hne k (by omega))]
   exact ih (k + 1) (by omega)
 have:=hall i 0 (by omega)
 simpa using this
theorem made_valid {rs : List RuleV} (h : MadeAll rs) (hl : rs.length ≤ 9) : allV (kindI rs) rs:=fun i hi => by
 have hl2 : ∀ j,j < rs.length → (rs.take j).length = j:=fun j hj => by rw [List.length_take]; omega
 obtain ⟨⟨s,hs,hn⟩,hk,hv⟩:=h i hi
 rw [hl2 i hi] at hn hk
 rw [validAt_in hi]
 simp only [Bool.and_eq_true]
 refine ⟨decide_eq_true (find_at hi fun j hj => ?_),hk,?_,kindI_more (by omega) hk hv⟩
 ·obtain ⟨⟨t,ht,hn2⟩,-,-⟩:=h j (by omega)
  rw [hl2 j (by omega)] at hn2
  rw [hn,hn2]
  exact made_ne (List.mem_append_left _ ht) (List.mem_append_left _ hs) (by omega) (by omega) (by omega)
 ·rw [hn]
  exact name_made (List.mem_append_left _ hs) (by omega)
open Classical in
theorem kindI_lens64 {rs : List RuleV} {r : RuleV} (h : kindI rs r = true) : r.bytes.length ≤ 64 ∧ r.names.length ≤ 64 ∧ r.tags.length ≤ 64 ∧ r.kids.length ≤ 64:=by
 unfold kindI at h
 rw [Bool.and_eq_true] at h
 have hsame : r = onlyR r:=(sameR_iff _ _).1 h.2
 have h1:=h.1
 rcases kind_cases r.kind with hk | hk | hk | hk | hk | hk | hk | hk | hk | hk | hk
 ·have e : onlyR r = ⟨r.name,r.kind,r.size,r.little,[],[],[],[]⟩:=by unfold onlyR; simp [hk]
  rw [e] at hsame
  rw [hsame]; simp
 ·have e : onlyR r = ⟨r.name,r.kind,0,false,r.bytes,[],[],[]⟩:=by unfold onlyR; simp [hk]
  rw [e] at hsame
  have h2 : r.bytes.length ≤ 16:=by simp [meetsB,hk] at h1; omega
  rw [hsame]; simp; omega
 ·have e : onlyR r = ⟨r.name,r.kind,r.size,false,[],[],[],[]⟩:=by unfold onlyR; simp [hk]
  rw [e] at hsame
  rw [hsame]; simp
 ·have e : onlyR r = ⟨r.name,r.kind,0,false,[],[],[],r.kids⟩:=by unfold onlyR; simp [hk]
  rw [e] at hsame
  have h2 : r.kids.length ≤ 2:=by simp [meetsB,hk] at h1; omega
  rw [hsame]; simp; omega
 ·have e : onlyR r = ⟨r.name,r.kind,0,false,[],[],[],r.kids⟩:=by unfold onlyR; simp [hk]
  rw [e] at hsame
  have h2 : r.kids.length ≤ 2:=by simp [meetsB,hk] at h1; omega
  rw [hsame]; simp; omega
 ·have e : onlyR r = ⟨r.name,r.kind,0,false,[],r.names,[],r.kids⟩:=by unfold onlyR; simp [hk]
  rw [e] at hsame
  have h2 : r.names.length = r.kids.length ∧ namesB r.names = true:=by simpa [meetsB,hk] using h1
  have h3 : r.names.length ≤ 8:=by
   have h4:=h2.2
   unfold namesB at h4
   exact (of_decide_eq_true h4).2.2
  rw [hsame]; simp; omega
 ·have e : onlyR r = ⟨r.name,r.kind,0,false,[],[],r.tags,r.kids⟩:=by unfold onlyR; simp [hk]
  rw [e] at hsame
  have h2 : tagsB rs r = true:=by simpa [meetsB,hk] using h1
  unfold tagsB at h2
  rw [Bool.and_eq_true] at h2
  have h3:=of_decide_eq_true h2.1
  rw [hsame]; simp; omega
 ·have e : onlyR r = ⟨r.name,r.kind,0,false,[],[],[],r.kids⟩:=by unfold onlyR; simp [hk]
  rw [e] at hsame
  have h2 : r.kids.length = 1:=by simpa [meetsB,hk] using h1
  rw [hsame]; simp; omega
 ·have e : onlyR r = ⟨r.name,r.kind,0,false,[],[],[],r.kids⟩:=by unfold onlyR; simp [hk]
  rw [e] at hsame
  have h2 : r.kids.length = 1:=by simpa [meetsB,hk] using h1
  rw [hsame]; simp; omega
 ·have e : onlyR r = ⟨r.name,r.kind,0,false,r.bytes,[],[],[]⟩:=by unfold onlyR; simp [hk]
  rw [e] at hsame
  have h2 : r.bytes.length = 1:=by simp [meetsB,hk,termB] at h1; exact h1.1
  rw [hsame]; simp; omega
 ·obtain ⟨k1,k2,k3,k4,k5,k6,k7,k8,k9,k10⟩:=hk
  simp [meetsB,k1,k2,k3,k4,k5,k6,k7,k8,k9,k10] at h1
theorem kindI_lens {rs : List RuleV} {r : RuleV} (h : kindI rs r = true) : Short r:=by
 have:=kindI_lens64 h
 unfold Short
 omega
theorem made_short {rs : List RuleV} (h : MadeAll rs) : ∀ r ∈ rs,Short r:=fun r hr => by
 obtain ⟨j,hj,rfl⟩:=List.getElem_of_mem hr
 exact kindI_lens (h j hj).2.2
theorem nameB_le {s : ByteArray} (h : nameB s = true) : s.size ≤ 12:=by
 by_cases hs : 1 ≤ s.size ∧ s.size ≤ 12
 ·exact hs.2
 ·rw [nameB_size hs] at h; cases h
open Classical in
theorem kindI_spelt {rs : List RuleV} {r : RuleV} (h : kindI rs r = true) : ∀ s ∈ r.names,s.size ≤ 12:=by
 unfold kindI at h
 rw [Bool.and_eq_true] at h
 have hsame : r = onlyR r:=(sameR_iff _ _).1 h.2
 by_cases hk : r.kind = 6
 ·have h2 : r.names.length = r.kids.length ∧ namesB r.names = true:=by simpa [meetsB,hk] using h.1
  have h4:=h2.2
  unfold namesB at h4
  have h5:=of_decide_eq_true h4
  intro s hs
  obtain ⟨j,hj,rfl⟩:=List.getElem_of_mem hs
  exact nameB_le (h5.1 j hj hj).1
 ·have e : r.names = []:=by
   rw [hsame]
   unfold onlyR
   split
   ·rfl
   ·split
    ·rfl
    ·split
     ·rfl
     ·split
      ·rfl
      ·split <;> rfl
  rw [e]
  intro s hs
  simp at hs
theorem made_spelt {rs : List RuleV} (h : MadeAll rs) (hl : rs.length ≤ 9) : ∀ r ∈ rs,Spelt r:=fun r hr => by
 obtain ⟨j,hj,rfl⟩:=List.getElem_of_mem hr
 have h1:=made_valid h hl j hj
 rw [validAt_in hj] at h1
 simp only [Bool.and_eq_true] at h1
 exact ⟨by have:=nameB_le h1.2.2.1; omega,fun s hs => by have:=kindI_spelt (h j hj).2.2 s hs; omega⟩
def DrawnD (w : World) (e : Ending) (w' : World) : Prop :=
 ∃ (rs : List RuleV) (x : Option Addr) (cp : Nat),e = .returned (.agg #[.slice x rs.length cp]) ∧ MadeAll rs ∧ (1 ≤ rs.length ∧ rs.length ≤ 6) ∧ (∀ h : 0 < rs.length,rs[0].kind = 1) ∧ RowR w.heap.size (.slice x rs.length cp) rs w' ∧ Below w.heap.size w w'
theorem drawd (a : Option Addr) (len cap : Nat) (w : World) (hl : len ≤ 140737488355328) (hs : Code a len w) :
  Calls Tryz.prog 19 #[.slice a len cap] w (DrawnD w):=by
 obtain ⟨w0,hw0⟩ : ∃ w0,w0 = w.alloc (.cells #[.slice none 0 0] 26):=⟨_,rfl⟩
 have hB:=zb1 hw0
 have hX:=zk1 hw0
 have hz : Hid (w0.heap.size = w.heap.size + 1):=by subst hw0; exact World.size_alloc _ _
 have HS:=kq (hs.below hB)
 have HB:=kq hB
 have HX:=kq hX
 have hW:=kq hw0
 clear hs hB hX hw0
 go_enter Tryz.func19,Tryz.ntmps19
 go_wp2_with fail
 rw [← hW.out]
 clear hW
 refine (new_draw a len cap _ hl HS.out).mono ?_
 rintro e w1 ⟨rfl,hc1,hb1,hz1⟩
 have HC1:=kq hc1
 have HB1:=kq (HB.out.trans (hb1.mono HB.out.size))
 have HX1:=kq (HX.out.below hb1)
 have hz2 : Hid (w1.heap.size = w.heap.size + 2):=by show _ = _; rw [hz1,hz.out]
 clear hc1 hb1 hz1 HX HB HS
 go_wp2_with fail
 refine (descr_draw a len cap w0.heap.size _ hl HC1.out).mono ?_
 rintro e w2 ⟨rs,x,cp,rfl,hm,hln,hk,hrow,hc2,hg2⟩
 have hcne : w.heap.size ≠ w0.heap.size:=by have:=hz.out; omega
 have HX2:=kq (HX1.out.grown hg2 (by intro e; injection e with e; omega))
 have HB2:=kq (HB1.out.grown hg2 HB1.out.size (fun k e => by injection e with e; have:=hz.out; omega))
 obtain ⟨z0,t0⟩:=HX2.out 0 _ rfl
 have HM:=kq hm
 have HK:=kq hk
 have HR:=kq ((hrow.grown (grown_set (grown_refl w2 w.heap.size) 0 (.slice x rs.length cp)) (by have:=hz2.out; omega)).more (base':=w.heap.size) (by have:=hz2.out; omega))
 have HL:=kq hln
 have HBF:=kq (HB2.out.setCell (p:=⟨w.heap.size,0,none⟩) (Nat.le_refl _) (.slice x rs.length cp))
 clear hm hk hrow hc2 hg2 hln HX1 HB1 HX2 HB2 HC1 hcne
 go_wp2
 (try simp only [Exit.inBlock,Exit.then])
 refine bodyPost_ret (v:=.agg #[.slice x rs.length cp]) ?_ rfl ?_
 ·simp [results,Tryz.results19,go_sem,z0]
 ·exact ⟨rs,x,cp,rfl,HM.out,HL.out,HK.out,HR.out,HBF.out⟩
end Go.Proofs.YtfmnjclnhppghaaGreat
