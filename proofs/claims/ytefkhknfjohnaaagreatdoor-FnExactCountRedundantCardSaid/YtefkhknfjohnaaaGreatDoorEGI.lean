/- The contract of the model's l9Item. -/
import Derived.Test.YtefkhknfjohnaaaGreatDoorEK
import Derived.Test.YtefkhknfjohnaaaGreatDoorEGV
import Derived.Test.YtefkhknfjohnaaaGreatDoorEGP
import Derived.Deep.CutRange
import Derived.Test.YtefkhknfjohnaaaGreatDoorEGD
set_option maxRecDepth 100000
set_option maxHeartbeats 8000000
namespace Go.Proofs.YtefkhknfjohnaaaGreatDoor
open Go Go.RowKit
theorem tagKid_yes {ts ks : List Int} {x : Int} {q : Nat} (h : q < ts.length) (h2 : q < ks.length) (e : ts[q] = x) : tagKid (ts.drop q) (ks.drop q) x = ks[q]:=by
 rw [List.drop_eq_getElem_cons h,List.drop_eq_getElem_cons h2,tagKid,if_pos e]
theorem tagKid_no {ts ks : List Int} {x : Int} {q : Nat} (h : q < ts.length) (h2 : q < ks.length) (e : ts[q] ≠ x) : tagKid (ts.drop q) (ks.drop q) x = tagKid (ts.drop (q + 1)) (ks.drop (q + 1)) x:=by
 rw [List.drop_eq_getElem_cons h,List.drop_eq_getElem_cons h2,tagKid,if_neg e]
theorem item_spec (rs : List RuleV) (r : RuleV) (cs : List Value) (x : Int) (i : Nat) (w : World) (hi : i ≤ 1048576) (hki : kindI rs r = true) (h : IsRule r cs w) :
  Calls Tryz.prog 138 #[.agg cs.toArray,.int .i64 x,.int .i64 (i : Int)] w fun e w' => e = .returned (.int .i64 (itemR r x i)) ∧ Below w.heap.size w w':=by
 obtain ⟨a4,c4,a5,c5,a6,c6,a7,c7,rfl,h4,h5,h6,h7⟩:=h
 obtain ⟨w0,hw0⟩ : ∃ w0,w0 = w.alloc (.cells #[.string r.name,.int .i64 r.kind,.int .i64 r.size,.bool r.little,.slice a4 r.bytes.length c4,.slice a5 r.names.length c5,.slice a6 r.tags.length c6,.slice a7 r.kids.length c7] 63):=⟨_,rfl⟩
 have hB:=zb1 hw0
 have HC:=kq (zk1 hw0)
 have HR6:=kq (h6.below hB)
 have HR7:=kq (h7.below hB)
 have HB:=kq hB
 have HKI:=kq hki
 have hW:=kq hw0
 have y1:=(HC.out 1 _ rfl).1
 have y7:=(HC.out 7 _ rfl).1
 have i0 : (0 : Int) ≤ (i : Int):=by omega
 clear hB hki hw0 h4 h5 h6 h7
 have hkn:=kindI_known HKI.out
 have hlast : r.kind ≠ 5 → r.kind ≠ 6 → r.kind ≠ 7 → r.kind ≠ 8 → r.kind ≠ 9 → itemR r x i = -1:=fun k5 k6 k7 k8 k9 => by
  unfold itemR
  rw [if_neg k5,if_neg k6,if_neg k7,if_neg (by omega)]
 have HLAST:=kq hlast
 clear hlast
 rcases (by omega : r.kind = 5 ∨ r.kind = 6 ∨ r.kind = 7 ∨ r.kind = 8 ∨ r.kind = 9 ∨ r.kind = 1 ∨ r.kind = 2 ∨ r.kind = 3 ∨ r.kind = 4 ∨ r.kind = 10) with hk | hk | hk | hk | hk | hk | hk | hk | hk | hk
 case inl =>
  have h5:=kindI_5 HKI.out hk
  have g1 : (1 : Int) < (r.kids.length : Int):=by omega
  obtain ⟨b7,o7,ha7,hc7⟩:=HR7.out.cellAt (j:=1) (by omega)
  subst ha7
  have hr : Hid (itemR r x i = r.kids[1]'(by omega)):=by show _ = _; unfold itemR; rw [if_pos hk,getD_at (by omega)]
  generalize r.kids[1]'(by omega) = y at hc7 hr
  rw [hk] at y1
  have HKK:=kq hk
  clear hk h5
  go_enter Tryz.func138,Tryz.ntmps138
  go_upto_region 1 with fail
  rw [← hW.out]
  clear hW
  go_wp2
  go_ret
  exact ⟨ret_int hr.out.symm,HB.out⟩
 case inr.inl =>
  have h6:=kindI_6 HKI.out hk
  have hk8 : r.kids.length ≤ 8:=by omega
  rw [hk] at y1
  by_cases hik : i < r.kids.length
  ·have g1 : (i : Int) < (r.kids.length : Int):=by omega
   obtain ⟨b7,o7,ha7,hc7⟩:=HR7.out.cellAt (j:=i) hik
   subst ha7
   have hr : Hid (itemR r x i = r.kids[i]):=by show _ = _; unfold itemR; rw [if_neg (by omega),if_pos hk,if_pos hik,getD_at hik]
   generalize r.kids[i] = y at hc7 hr
   have HKK:=kq hk
   clear hk h6
   go_enter Tryz.func138,Tryz.ntmps138
   go_upto_region 1 with fail
   rw [← hW.out]
   clear hW
   go_wp2
   go_ret
   exact ⟨ret_int hr.out.symm,HB.out⟩
  ·have g1 : ¬ (i : Int) < (r.kids.length : Int):=by omega
   have hr : Hid (itemR r x i = -1):=by show _ = _; unfold itemR; rw [if_neg (by omega),if_pos hk,if_neg hik]
   have HKK:=kq hk
   clear hk h6
   go_enter Tryz.func138,Tryz.ntmps138
   go_upto_region 1 with fail
   rw [← hW.out]
   clear hW
   go_wp2
   go_ret
   exact ⟨ret_int hr.out.symm,HB.out⟩
 case inr.inr.inl =>
  have h7:=kindI_7 HKI.out hk
  have hk9 : r.kids.length ≤ 9:=by omega
  have ht8 : r.tags.length ≤ 8:=by omega
  have HL : Hid (r.kids.length = r.tags.length + 1):=h7.1
  have y6:=(HC.out 6 _ rfl).1
  rw [hk] at y1
  have hr : Hid (itemR r x i = tagKid r.tags (r.kids.drop 1) x):=by show _ = _; unfold itemR; rw [if_neg (by omega),if_neg (by omega),if_pos hk]
  have HKK:=kq hk
  clear hk h7
  go_enter Tryz.func138,Tryz.ntmps138
  go_upto_region 1 with fail
  rw [← hW.out]
  clear hW
  go_wp2
  go_loop [7] (fun j => ∃ q : Nat,q ≤ r.tags.length ∧ j = .int .i64 q ∧ Hid (tagKid r.tags (r.kids.drop 1) x = tagKid (r.tags.drop q) ((r.kids.drop 1).drop q) x)) (fun j => r.tags.length - (intOf j).toNat)
  case atStart => exact ⟨0,Nat.zero_le _,rfl,rfl⟩
  case round =>
   obtain ⟨q,hql,rfl,hq⟩:=hrel
   have q0 : (0 : Int) ≤ (q : Int):=by omega
   by_cases hlt : q < r.tags.length
   ·have q1 : (q : Int) < (r.tags.length : Int):=by omega
    have hq2 : q < (r.kids.drop 1).length:=by have:=HL.out; rw [List.length_drop]; omega
    have hq3 : q + 1 < r.kids.length:=by have:=HL.out; omega
    have q2 : (q : Int) + 1 < (r.kids.length : Int):=by omega
    obtain ⟨b6,o6,ha6,hc6⟩:=HR6.out.cellAt (j:=q) hlt
    subst ha6
    obtain ⟨b7,o7,ha7,hc7⟩:=HR7.out.cellAt (j:=q + 1) hq3
    subst ha7
    have hyes:=fun h => kq (tagKid_yes (x:=x) hlt hq2 h)
    have hno:=fun h => kq (tagKid_no (x:=x) hlt hq2 h)
    have hdr : Hid ((r.kids.drop 1)[q] = r.kids[q + 1]):=by show _ = _; rw [List.getElem_drop]; congr 1; omega
    rw [hdr.out] at hyes
    generalize r.kids[q + 1] = y at hc7 hyes
    generalize r.tags[q] = t at hc6 hyes hno
    clear hdr
    cases htx : (t == x) with
    | true =>
     have hrr : Hid (itemR r x i = y):=by show _ = _; rw [hr.out,hq.out,(hyes (eq_of_beq htx)).out]
     clear hyes hno
     go_wp2
     go_ret
     exact ⟨ret_int hrr.out.symm,HB.out⟩
    | false =>
     have hnx : Hid (tagKid r.tags (r.kids.drop 1) x = tagKid (r.tags.drop (q + 1)) ((r.kids.drop 1).drop (q + 1)) x):=by show _ = _; rw [hq.out,(hno (by simpa using htx)).out]
     clear hyes hno
     go_wp2
     go_round
     case rel => exact ⟨q + 1,by omega,by go_num,hnx⟩
     case measure => simp [intOf]; omega
   ·have q1 : ¬ (q : Int) < (r.tags.length : Int):=by omega
    have hrr : Hid (itemR r x i = -1):=by show _ = _; rw [hr.out,hq.out,List.drop_of_length_le (by omega)]; cases (r.kids.drop 1).drop q <;> rfl
    go_wp2
    go_ret
    exact ⟨ret_int hrr.out.symm,HB.out⟩
 case inr.inr.inr.inl =>
  have h8:=kindI_8 HKI.out hk
  have g1 : (0 : Int) < (r.kids.length : Int):=by omega
  obtain ⟨b7,o7,ha7,hc7⟩:=HR7.out.cellAt (j:=0) (by omega)
  subst ha7
  simp only [Nat.add_zero] at hc7
  have hr : Hid (itemR r x i = r.kids[0]'(by omega)):=by show _ = _; unfold itemR; rw [if_neg (by omega),if_neg (by omega),if_neg (by omega),if_pos (by omega),getD_at (by omega)]
  generalize r.kids[0]'(by omega) = y at hc7 hr
  rw [hk] at y1
  have HKK:=kq hk
  clear hk h8
  go_enter Tryz.func138,Tryz.ntmps138
  go_upto_region 1 with fail
  rw [← hW.out]
  clear hW
  go_wp2
  go_ret
  exact ⟨ret_int hr.out.symm,HB.out⟩
 case inr.inr.inr.inr.inl =>
  have h8:=kindI_9 HKI.out hk
  have g1 : (0 : Int) < (r.kids.length : Int):=by omega
  obtain ⟨b7,o7,ha7,hc7⟩:=HR7.out.cellAt (j:=0) (by omega)
  subst ha7
  simp only [Nat.add_zero] at hc7
  have hr : Hid (itemR r x i = r.kids[0]'(by omega)):=by show _ = _; unfold itemR; rw [if_neg (by omega),if_neg (by omega),if_neg (by omega),if_pos (by omega),getD_at (by omega)]
  generalize r.kids[0]'(by omega) = y at hc7 hr
  rw [hk] at y1
  have HKK:=kq hk
  clear hk h8
  go_enter Tryz.func138,Tryz.ntmps138
  go_upto_region 1 with fail
  rw [← hW.out]
  clear hW
  go_wp2
  go_ret
  exact ⟨ret_int hr.out.symm,HB.out⟩
 all_goals
  have hr:=kq (HLAST.out (by omega) (by omega) (by omega) (by omega) (by omega))
  rw [hk] at y1
  have HKK:=kq hk
  clear hk
  go_enter Tryz.func138,Tryz.ntmps138
  go_upto_region 1 with fail
  rw [← hW.out]
  clear hW
  go_wp2
  go_ret
  exact ⟨ret_int hr.out.symm,HB.out⟩
theorem wp_pushW {ops : Array Oper} {rest : List Oper} {o : Oper} {A : Act} {Q : Exit → Act → World → Prop} (hgd : o.guard = none) (s x : Operand)
  (ho : o.op = .call { callee:=.builtin .append,args:=#[s,x],argTypes:=#[46,46] })
  (n base : Nat) (v : Value) (vs : List ValueV) (y : ValueV) (cs : List Value) (w : World) (hsv : A.eval s = v) (hxv : A.eval x = .slice (some ⟨w.heap.size,0,none⟩) 1 1)
  (hrow : RowV n base v vs w) (hy : OwnV (fun b => base ≤ b ∧ some b ≠ v.ownBlock) n y cs w) (hl : vs.length ≤ 1048576) (hbase : base ≤ w.heap.size)
  (h : ∀ v' w',RowV n base v' (vs ++ [y]) w' → w.grownBy w' v.ownBlock → wpList Tryz.prog ops Q rest (A.put o.dst v') w') :
  wpList Tryz.prog ops Q (o :: rest) A (w.alloc (.cells cs.toArray 48)):=by
 refine wpList_plain hgd fun K hK => ?_
 obtain ⟨v',w',hrun,h2,h3,_⟩:=run_pushV o.type n base v vs y cs w hrow hy hl hbase
 unfold Oper.wp
 simp [execOp,ho,resolve,invoke,builtin,hsv,hxv,hrun,Result.andThen]
 exact hK _ _ (h v' w' h2 h3)
def SReadC11 (a ab : Option Addr) (rs : List RuleV) (cap cb : Nat) (L : List UInt8) (n : Nat) : Prop :=
 ∀ (k p : Nat) (w : World),k < rs.length → k < n → p ≤ L.length → RdR a rs w → SrcB ab L cb w →
  Calls Tryz.prog 127 #[.agg #[.slice a rs.length cap],.int .i64 (k : Int),.slice ab L.length cb,.int .i64 (p : Int)] w (SGot n (parseB rs L n (k : Int) p) w)
def SItemsC11 (a ab : Option Addr) (rs : List RuleV) (cap cb : Nat) (L : List UInt8) (n : Nat) : Prop :=
 ∀ (r : RuleV) (cs : List Value) (x : Int) (count p : Nat) (w : World),kindI rs r = true → count ≤ 40 → (∀ i,i < count → ∃ m : Nat,itemR r x i = (m : Int) ∧ m < rs.length ∧ m < n) → p ≤ L.length → RdR a rs w → SrcB ab L cb w → IsRule r cs w →
  Calls Tryz.prog 183 #[.agg #[.slice a rs.length cap],.agg cs.toArray,.int .i64 x,.int .i64 (count : Int),.slice ab L.length cb,.int .i64 (p : Int)] w (SGot (n + 1) ((gotItems (parseB rs L n) r x count [] p).to fun l => .mk 0 [] l) w)
structure LiSt (n : Nat) (dc rc : List Value) (V : Value) (acc : List ValueV) (w : World) (N1 N2 N3 B : Nat) (W : World) : Prop where
 d : CellsAt w.heap.size dc W
 r : CellsAt N1 rc W
 z : CellsAt N2 [.int .i64 0,.slice none 0 0,.slice none 0 0] W
 v : CellsAt N3 [.int .i64 0,.slice none 0 0,V] W
 row : RowV n B V acc W
 below : Below w.heap.size w W
 n1 : w.heap.size < N1
 n2 : N1 < N2
 n3 : N2 < N3
 n4 : N3 < B
 le : B ≤ W.heap.size
theorem LiSt.later {n : Nat} {dc rc : List Value} {V : Value} {acc : List ValueV} {w W W' : World} {N1 N2 N3 B : Nat} (h : LiSt n dc rc V acc w N1 N2 N3 B W) (hb : Below W.heap.size W W') : LiSt n dc rc V acc w N1 N2 N3 B W' :=
 ⟨h.d.below hb,h.r.below hb,h.z.below hb,h.v.below hb,h.row.below hb,h.below.trans (hb.mono h.below.size),h.n1,h.n2,h.n3,h.n4,Nat.le_trans h.le hb.size⟩
theorem LiSt.vcell {n : Nat} {dc rc : List Value} {V : Value} {acc : List ValueV} {w W W' : World} {N1 N2 N3 B : Nat} (h : LiSt n dc rc V acc w N1 N2 N3 B W) (hg : W.grownBy W' V.ownBlock) : CellsAt N3 [.int .i64 0,.slice none 0 0,V] W' :=
 h.v.grown hg fun e => by have:=(h.row.own _ e.symm).1; have:=h.n4; omega
theorem LiSt.push {n : Nat} {dc rc : List Value} {V V' : Value} {acc acc' : List ValueV} {w W W' : World} {N1 N2 N3 B : Nat} (h : LiSt n dc rc V acc w N1 N2 N3 B W) (hg : W.grownBy W' V.ownBlock) (hrow : RowV n B V' acc' W') :
  LiSt n dc rc V' acc' w N1 N2 N3 B (W'.setCell ⟨N3,2,none⟩ V'):=by
 have hown:=fun g e => (h.row.own g e).1
 have h1:=h.n1
 have h2:=h.n2
 have h3:=h.n3
 have h4:=h.n4
 have hq:=(h.vcell hg).set 2 V' (by simp)
 simp only [List.set] at hq
 have hs:=hg.size
 have hle:=h.le
 have hgs : W'.grownBy (W'.setCell ⟨N3,2,none⟩ V') (some N3):=grown_set (grown_refl W' N3) 2 V'
 refine ⟨(h.d.grown hg fun e => ?_).far (by omega),(h.r.grown hg fun e => ?_).far (by omega),(h.z.grown hg fun e => ?_).far (by omega),hq,?_,?_,h1,h2,h3,h4,by simp; omega⟩
 ·have:=hown _ e.symm; omega
 ·have:=hown _ e.symm; omega
 ·have:=hown _ e.symm; omega
 ·exact hrow.grown hgs fun k e => by injection e with e; omega
 ·exact (h.below.grown hg h.below.size fun k e => by have:=hown k e; omega).setCell (p:=⟨N3,2,none⟩) (by show w.heap.size ≤ N3; omega) _
theorem LiSt.fin {n : Nat} {dc rc : List Value} {V : Value} {acc : List ValueV} {w W : World} {N1 N2 N3 B : Nat} (h : LiSt n dc rc V acc w N1 N2 N3 B W) (u0 u1 u2 : Value) :
  let W':=((W.setCell ⟨N2,0,none⟩ u0).setCell ⟨N2,1,none⟩ u1).setCell ⟨N2,2,none⟩ u2
  OwnV (fun b => w.heap.size ≤ b) (n + 1) (.mk 0 [] acc) [.int .i64 0,.slice none 0 0,V] W' ∧ Below w.heap.size w W':=by
 have hgs : W.grownBy (((W.setCell ⟨N2,0,none⟩ u0).setCell ⟨N2,1,none⟩ u1).setCell ⟨N2,2,none⟩ u2) (some N2):=grown_set (grown_set (grown_set (grown_refl W _) 0 _) 1 _) 2 _
 obtain ⟨a,cap,rfl,hit⟩:=h.row.items
 have h1:=h.n1
 have h2:=h.n2
 have h3:=h.n3
 have h4:=h.n4
 have ho : OwnV (fun b => B ≤ b) (n + 1) (.mk 0 [] acc) [.int .i64 0,.slice none 0 0,.slice a acc.length cap] W:=by
  refine ⟨none,0,a,cap,rfl,RdN.nil0 _,fun b off e hn => (by cases e),fun j hj => ?_⟩
  obtain ⟨b,off,cs',e,hB,ho,hc⟩:=hit j hj
  exact ⟨b,off,cs',e,by omega,ho.mono fun b _ h => by omega,hc⟩
 exact ⟨ho.grown hgs fun b _ hb => ⟨by omega,fun e => by injection e with e; omega⟩,below3 h.below (by omega) _ _ _⟩
def XAt (n : Nat) (wr : World) (v : ValueV) (cs : List Value) (N : Nat) (W : World) : Prop:=wr.heap.size ≤ N ∧ CellsAt N cs W ∧ Below wr.heap.size wr W ∧ OwnV (fun b => wr.heap.size ≤ b ∧ b ≠ N) n v cs W
theorem xat_new {n : Nat} {wr w6 : World} {v : ValueV} {cs : List Value} {X : Nat} (hown : OwnV (fun b => X ≤ b) n v cs w6) (hX : wr.heap.size ≤ X) (hb : Below wr.heap.size wr w6) (t : TypeId) : XAt n wr v cs w6.heap.size (w6.alloc (.cells cs.toArray t)):=by
 have hb2 : Below w6.heap.size w6 (w6.alloc (.cells cs.toArray t)):=(Below.refl _ _).alloc (Nat.le_refl _) _
 exact ⟨hb.size,CellsAt.new w6 cs t,hb.trans (hb2.mono hb.size),hown.below hb2 fun b hb1 hb2 => ⟨by omega,by omega⟩⟩
theorem xat_set {n N X : Nat} {wr w6 : World} {v : ValueV} {c0 c1 c2 : Value} (hown : OwnV (fun b => X ≤ b) n v [c0,c1,c2] w6) (hN : N < X) (hNw : wr.heap.size ≤ N) (hz : CellsAt N [.int .i64 0,.slice none 0 0,.slice none 0 0] w6) (hb : Below wr.heap.size wr w6) :
  XAt n wr v [c0,c1,c2] N (((w6.setCell ⟨N,0,none⟩ c0).setCell ⟨N,1,none⟩ c1).setCell ⟨N,2,none⟩ c2):=by
 have hc:=((hz.set 0 c0 (by simp)).set 1 c1 (by simp)).set 2 c2 (by simp)
 simp only [List.set] at hc
 exact ⟨hNw,hc,below3 hb hNw _ _ _,OwnV.set3 (hown.mono (g:=fun b => X ≤ b ∧ b ≠ N) fun b _ h => ⟨h,by omega⟩) (fun b h => h.2) _ _ _ |>.mono fun b _ h => ⟨by omega,h.2⟩⟩
theorem sitems11_step (a ab : Option Addr) (rs : List RuleV) (cap cb : Nat) (L : List UInt8) (n : Nat) (hall : allV (kindI rs) rs) (ih : SReadC11 a ab rs cap cb L n) : SItemsC11 a ab rs cap cb L n:=by
  intro r cs x count p w hki hcount hit hp hrd hs hir
  have hir2:=hir
  obtain ⟨a4,c4,a5,c5,a6,c6,a7,c7,rfl,-⟩:=hir2
  obtain ⟨w0,hw0⟩ : ∃ w0,w0 = ((w.alloc (.cells #[.slice a rs.length cap] 26)).alloc (.cells #[.string r.name,.int .i64 r.kind,.int .i64 r.size,.bool r.little,.slice a4 r.bytes.length c4,.slice a5 r.names.length c5,.slice a6 r.tags.length c6,.slice a7 r.kids.length c7] 63)).alloc (.cells #[.int .i64 0,.slice none 0 0,.slice none 0 0] 48):=⟨_,rfl⟩
  obtain ⟨w1,hw1⟩ : ∃ w1,w1 = w0.alloc (.cells #[.int .i64 0,.slice none 0 0,.slice none 0 0] 48):=⟨_,rfl⟩
  have hB : Below w.heap.size w w1:=by subst hw1 hw0; exact ((((Below.refl _ _).alloc (Nat.le_refl _) _).alloc (by simp) _).alloc (by simp; omega) _).alloc (by simp; omega) _
  have hz0 : w0.heap.size = w.heap.size + 3:=by subst hw0; simp
  have hz1 : w1.heap.size = w.heap.size + 4:=by subst hw1; simp [hz0]
  have hst : LiSt n [.slice a rs.length cap] [.string r.name,.int .i64 r.kind,.int .i64 r.size,.bool r.little,.slice a4 r.bytes.length c4,.slice a5 r.names.length c5,.slice a6 r.tags.length c6,.slice a7 r.kids.length c7] (.slice none 0 0) [] w (w.heap.size + 1) (w.heap.size + 2) w0.heap.size w1.heap.size w1:=by
    subst hw1 hw0
    refine ⟨?_,?_,?_,CellsAt.new _ _ _,RowV.start _ _ _,hB,by omega,by omega,by rw [hz0]; omega,by omega,Nat.le_refl _⟩
    · exact (((CellsAt.new w _ _).below ((Below.refl _ _).alloc (Nat.le_refl _) _)).below ((Below.refl _ _).alloc (Nat.le_refl _) _)).below ((Below.refl _ _).alloc (Nat.le_refl _) _)
    · have h1:=CellsAt.new (w.alloc (.cells #[.slice a rs.length cap] 26)) [.string r.name,.int .i64 r.kind,.int .i64 r.size,.bool r.little,.slice a4 r.bytes.length c4,.slice a5 r.names.length c5,.slice a6 r.tags.length c6,.slice a7 r.kids.length c7] 63
      rw [World.size_alloc] at h1
      exact (h1.below ((Below.refl _ _).alloc (Nat.le_refl _) _)).below ((Below.refl _ _).alloc (Nat.le_refl _) _)
    · have h1:=CellsAt.new ((w.alloc (.cells #[.slice a rs.length cap] 26)).alloc (.cells #[.string r.name,.int .i64 r.kind,.int .i64 r.size,.bool r.little,.slice a4 r.bytes.length c4,.slice a5 r.names.length c5,.slice a6 r.tags.length c6,.slice a7 r.kids.length c7] 63)) [.int .i64 0,.slice none 0 0,.slice none 0 0] 48
      rw [World.size_alloc,World.size_alloc] at h1
      exact h1.below ((Below.refl _ _).alloc (Nat.le_refl _) _)
  obtain ⟨N1,hN1⟩ : ∃ N1,N1 = w.heap.size + 1:=⟨_,rfl⟩
  obtain ⟨N2,hN2⟩ : ∃ N2,N2 = w.heap.size + 2:=⟨_,rfl⟩
  obtain ⟨N3,hN3⟩ : ∃ N3,N3 = w0.heap.size:=⟨_,rfl⟩
  obtain ⟨B,hB4⟩ : ∃ B,B = w1.heap.size:=⟨_,rfl⟩
  rw [← hN1,← hN2,← hN3,← hB4] at hst
  obtain ⟨F,hF⟩ : ∃ F,F = gotItems (parseB rs L n) r x count [] p:=⟨_,rfl⟩
  rw [← hF]
  have HF : Hid (F = gotItems (parseB rs L n) r x (count - ([] : List ValueV).length) [] p):=hF
  have HST:=kq hst
  have HN1:=kq hN1.symm
  have HN2 : Hid (N1 + 1 = N2):=by show _ = _; omega
  have HN3:=kq hN3.symm
  have HRD:=kq hrd
  have HS:=kq hs
  have HIR:=kq hir
  have HKI:=kq hki
  have HIT:=kq hit
  have HIH:=kq ih
  have HALL:=kq hall
  have HW0:=kq hw0
  have HW1:=kq hw1
  clear hst hN1 hN2 hN3 hB4 hrd hs hir hki hit ih hall hw0 hw1 hz0 hz1 hB hF
  go_enter Tryz.func183,Tryz.ntmps183
  go_upto_region 1 with fail
  rw [← HW0.out,HN1.out]
  try rw [HN2.out]
  go_upto_region 2 with fail
  rw [← HW1.out,HN3.out]
  clear HW0 HW1
  go_wp2
  go_loopw [5,16] (fun pv iv W => ∃ (q k : Nat) (V : Value) (acc : List ValueV),pv = .int .i64 (q : Int) ∧ iv = .int .i64 (k : Int) ∧ k ≤ count ∧ q ≤ L.length ∧ Hid (acc.length = k) ∧ Hid (LiSt n [.slice a rs.length cap] [.string r.name,.int .i64 r.kind,.int .i64 r.size,.bool r.little,.slice a4 r.bytes.length c4,.slice a5 r.names.length c5,.slice a6 r.tags.length c6,.slice a7 r.kids.length c7] V acc w N1 N2 N3 B W) ∧ Hid (F = gotItems (parseB rs L n) r x (count - k) acc q)) (fun _ iv _ => count - (intOf iv).toNat)
  case atStart => exact ⟨p,0,_,[],rfl,rfl,Nat.zero_le _,hp,rfl,HST,HF⟩
  case round =>
    clear HST HF
    obtain ⟨q,k,V,acc,rfl,rfl,hkc,hq,HL,HST,HF⟩:=hrel
    have k0 : (0 : Int) ≤ (k : Int):=by omega
    by_cases hlt : k < count
    · have k1 : (k : Int) < (count : Int):=by omega
      obtain ⟨m,hm,hmr,hmn⟩:=HIT.out k hlt
      have HM:=kq hm
      have hstep:=HF.out
      rw [show count - k = (count - (k + 1)) + 1 from by omega,gotItems,HL.out,hm] at hstep
      have hfine:=parse_fine HALL.out L n m hmr hmn q hq
      have HBW:=kq HST.out.below
      have HSW : Hid (∀ W,Below wr.heap.size wr W → W.cell? ⟨w.heap.size,0,none⟩ = some (.slice a rs.length cap) ∧ W.cell? ⟨N1,0,none⟩ = some (.string r.name) ∧ W.cell? ⟨N1,1,none⟩ = some (.int .i64 r.kind) ∧ W.cell? ⟨N1,2,none⟩ = some (.int .i64 r.size) ∧ W.cell? ⟨N1,3,none⟩ = some (.bool r.little) ∧ W.cell? ⟨N1,4,none⟩ = some (.slice a4 r.bytes.length c4) ∧ W.cell? ⟨N1,5,none⟩ = some (.slice a5 r.names.length c5) ∧ W.cell? ⟨N1,6,none⟩ = some (.slice a6 r.tags.length c6) ∧ W.cell? ⟨N1,7,none⟩ = some (.slice a7 r.kids.length c7)):=fun W hb => by
        have hd:=HST.out.d.below hb
        have hr:=HST.out.r.below hb
        exact ⟨(hd 0 _ rfl).1,(hr 0 _ rfl).1,(hr 1 _ rfl).1,(hr 2 _ rfl).1,(hr 3 _ rfl).1,(hr 4 _ rfl).1,(hr 5 _ rfl).1,(hr 6 _ rfl).1,(hr 7 _ rfl).1⟩
      have HZC:=kq HST.out.z
      obtain ⟨g,hg⟩ : ∃ g,g = parseB rs L n (m : Int) q:=⟨_,rfl⟩
      have HIHM : Hid (∀ W,Below w.heap.size w W → Calls Tryz.prog 127 #[.agg #[.slice a rs.length cap],.int .i64 (m : Int),.slice ab L.length cb,.int .i64 (q : Int)] W (SGot n g W)):=fun W hb => by rw [hg]; exact HIH.out m q W hmr hmn hq (HRD.out.below hb) (HS.out.below hb)
      have HIT5 : Hid (∀ W,Below w.heap.size w W → Calls Tryz.prog 138 #[.agg #[.string r.name,.int .i64 r.kind,.int .i64 r.size,.bool r.little,.slice a4 r.bytes.length c4,.slice a5 r.names.length c5,.slice a6 r.tags.length c6,.slice a7 r.kids.length c7],.int .i64 x,.int .i64 (k : Int)] W fun e w' => e = .returned (.int .i64 (m : Int)) ∧ Below W.heap.size W w'):=fun W hb => by rw [← HM.out]; exact item_spec rs r _ x k W (by omega) HKI.out (HIR.out.below hb)
      rw [← hg] at hstep hfine
      have HW0 : Hid (Below wr.heap.size wr wr.drew):=below_drewN (Below.refl _ _) 1
      clear hg hm
      cases g with
      | bad q' c' =>
        have HE:=kq hstep
        obtain ⟨hq2,hc1,hc2⟩:=hfine
        clear hstep HF
        go_upto_region 5 with fail
        go_cut [17,18,19] from 21 to 49 (fun px nx cx W => nx = .int .i64 (q' : Int) ∧ cx = .int .i64 (c' : Int) ∧ Hid (Below wr.heap.size wr W))
        case first =>
          go_region_held3 (fun W => W.cell? ⟨w.heap.size,0,none⟩ = some (.slice a rs.length cap) ∧ W.cell? ⟨N1,0,none⟩ = some (.string r.name) ∧ W.cell? ⟨N1,1,none⟩ = some (.int .i64 r.kind) ∧ W.cell? ⟨N1,2,none⟩ = some (.int .i64 r.size) ∧ W.cell? ⟨N1,3,none⟩ = some (.bool r.little) ∧ W.cell? ⟨N1,4,none⟩ = some (.slice a4 r.bytes.length c4) ∧ W.cell? ⟨N1,5,none⟩ = some (.slice a5 r.names.length c5) ∧ W.cell? ⟨N1,6,none⟩ = some (.slice a6 r.tags.length c6) ∧ W.cell? ⟨N1,7,none⟩ = some (.slice a7 r.kids.length c7)) (exact HSW.out _ (by first | exact HW0.out | exact HW0.out.alloc HW0.out.size _ | exact below3 HW0.out (by assumption) _ _ _)) (first
            | (go_at_call 138
               refine (HIT5.out _ (HBW.out.trans (Below.mono (by first | exact HW0.out | exact HW0.out.alloc HW0.out.size _) HBW.out.size))).mono ?_
               rintro e w5 ⟨rfl,hb5⟩
               first
                 | (have hb5':=HW0.out.trans (hb5.mono HW0.out.size); clear hb5; replace HW0:=kq hb5')
                 | (have hb5':=(HW0.out.alloc HW0.out.size _).trans (hb5.mono (HW0.out.alloc HW0.out.size _).size); have HNB : Hid (CellsAt wr.heap.size [.int .i64 0,.slice none 0 0,.slice none 0 0] w5):=(CellsAt.new wr.drew [.int .i64 0,.slice none 0 0,.slice none 0 0] 48).below hb5; have hnb:=Nat.le_refl wr.heap.size; clear hb5; replace HW0:=kq hb5'))
            | (go_at_call 127
               refine (HIHM.out _ (HBW.out.trans (Below.mono (by first | exact HW0.out | exact HW0.out.alloc HW0.out.size _) HBW.out.size))).mono ?_
               rintro e w6 ⟨rfl,hb6⟩
               first
                 | (have HNB6:=kq (HNB.out.below hb6); have hb6':=HW0.out.trans (hb6.mono HW0.out.size); clear hb6 HNB; obtain ⟨z0,f0⟩:=HNB6.out 0 _ rfl; obtain ⟨z1,f1⟩:=HNB6.out 1 _ rfl; obtain ⟨z2,f2⟩:=HNB6.out 2 _ rfl; replace HW0:=kq hb6')
                 | (have hb6':=HW0.out.trans (hb6.mono HW0.out.size); clear hb6; replace HW0:=kq hb6')
                 | (have hb6':=(HW0.out.alloc HW0.out.size _).trans (hb6.mono (HW0.out.alloc HW0.out.size _).size); have HNB6 : Hid (CellsAt w5.heap.size [.int .i64 0,.slice none 0 0,.slice none 0 0] w6):=(CellsAt.new w5 [.int .i64 0,.slice none 0 0,.slice none 0 0] 48).below hb6; have hnb:=HW0.out.size; clear hb6; obtain ⟨z0,f0⟩:=HNB6.out 0 _ rfl; obtain ⟨z1,f1⟩:=HNB6.out 1 _ rfl; obtain ⟨z2,f2⟩:=HNB6.out 2 _ rfl; replace HW0:=kq hb6')))
          all_goals go_wp2_with fail
          all_goals go_meet
          all_goals exact ⟨rfl,rfl,(by first | exact HW0.out | exact HW0.out.alloc HW0.out.size _ | exact below3 HW0.out (by assumption) _ _ _)⟩
        case rest =>
          obtain ⟨rfl,rfl,HBC⟩:=hcut
          have HZ9:=kq (HZC.out.below HBC.out)
          obtain ⟨z0,f0⟩:=HZ9.out 0 _ rfl
          obtain ⟨z1,f1⟩:=HZ9.out 1 _ rfl
          obtain ⟨z2,f2⟩:=HZ9.out 2 _ rfl
          have hc0 : ¬ (c' : Int) = 0:=by omega
          have HNW:=kq (show w.heap.size ≤ N2 from by have h1:=HST.out.n1; have h2:=HST.out.n2; omega)
          have HFB:=kq (HBW.out.trans (HBC.out.mono HBW.out.size))
          clear HST HSW HIHM HIT5 HW0 HBC HZ9
          go_wp2
          (try simp only [Exit.inBlock,Exit.then])
          refine bodyPost_ret (v:=.tuple #[.agg #[.int .i64 0,.slice none 0 0,.slice none 0 0],.int .i64 (q' : Int),.int .i64 (c' : Int)]) ?_ rfl ?_
          · simp [results,Tryz.results183,go_sem,z0,z1,z2]
          · rw [HE.out]
            exact sgot_bad rfl (below3 HFB.out HNW.out _ _ _)
      | ok v q' =>
        obtain ⟨hq1,hq2⟩:=hfine
        have HE:=kq hstep
        have HOW:=kq HST.out.row.own
        clear hstep HF
        go_upto_region 5 with fail
        go_cut [17,18,19] from 21 to 49 (fun px nx cx W => ∃ (N : Nat) (ab' : Option Addr) (cb' : Nat) (ai' : Option Addr) (ci' : Nat),px = .pointer (some ⟨N,0,none⟩) ∧ nx = .int .i64 (q' : Int) ∧ cx = .int .i64 0 ∧ Hid (XAt n wr v [.int .i64 v.number,.slice ab' v.bytes.length cb',.slice ai' v.items.length ci'] N W))
        case first =>
          go_region_held3 (fun W => W.cell? ⟨w.heap.size,0,none⟩ = some (.slice a rs.length cap) ∧ W.cell? ⟨N1,0,none⟩ = some (.string r.name) ∧ W.cell? ⟨N1,1,none⟩ = some (.int .i64 r.kind) ∧ W.cell? ⟨N1,2,none⟩ = some (.int .i64 r.size) ∧ W.cell? ⟨N1,3,none⟩ = some (.bool r.little) ∧ W.cell? ⟨N1,4,none⟩ = some (.slice a4 r.bytes.length c4) ∧ W.cell? ⟨N1,5,none⟩ = some (.slice a5 r.names.length c5) ∧ W.cell? ⟨N1,6,none⟩ = some (.slice a6 r.tags.length c6) ∧ W.cell? ⟨N1,7,none⟩ = some (.slice a7 r.kids.length c7)) (exact HSW.out _ (by first | exact HW0.out | exact HW0.out.alloc HW0.out.size _ | exact below3 HW0.out (by assumption) _ _ _)) (first
            | (go_at_call 138
               refine (HIT5.out _ (HBW.out.trans (Below.mono (by first | exact HW0.out | exact HW0.out.alloc HW0.out.size _) HBW.out.size))).mono ?_
               rintro e w5 ⟨rfl,hb5⟩
               first
                 | (have hb5':=HW0.out.trans (hb5.mono HW0.out.size); clear hb5; replace HW0:=kq hb5')
                 | (have hb5':=(HW0.out.alloc HW0.out.size _).trans (hb5.mono (HW0.out.alloc HW0.out.size _).size); have HNB : Hid (CellsAt wr.heap.size [.int .i64 0,.slice none 0 0,.slice none 0 0] w5):=(CellsAt.new wr.drew [.int .i64 0,.slice none 0 0,.slice none 0 0] 48).below hb5; have hnb:=Nat.le_refl wr.heap.size; clear hb5; replace HW0:=kq hb5'))
            | (go_at_call 127
               refine (HIHM.out _ (HBW.out.trans (Below.mono (by first | exact HW0.out | exact HW0.out.alloc HW0.out.size _) HBW.out.size))).mono ?_
               rintro e w6 ⟨⟨cs',rfl,hown⟩,hb6⟩
               obtain ⟨ab',cb',ai',ci',rfl⟩:=hown.cells
               first
                 | (have HNB6:=kq (HNB.out.below hb6); have HOS:=kq hown; have HNX:=kq (cell_lt (HNB.out 0 _ rfl).1); clear hown; have hb6':=HW0.out.trans (hb6.mono HW0.out.size); clear hb6 HNB; obtain ⟨z0,f0⟩:=HNB6.out 0 _ rfl; obtain ⟨z1,f1⟩:=HNB6.out 1 _ rfl; obtain ⟨z2,f2⟩:=HNB6.out 2 _ rfl; replace HW0:=kq hb6')
                 | (have hb6':=HW0.out.trans (hb6.mono HW0.out.size); have HOC:=kq hown; have HXC:=kq HW0.out.size; clear hb6 hown; replace HW0:=kq hb6')
                 | (have hb6':=(HW0.out.alloc HW0.out.size _).trans (hb6.mono (HW0.out.alloc HW0.out.size _).size); have HNB6 : Hid (CellsAt w5.heap.size [.int .i64 0,.slice none 0 0,.slice none 0 0] w6):=(CellsAt.new w5 [.int .i64 0,.slice none 0 0,.slice none 0 0] 48).below hb6; have hnb:=HW0.out.size; have HOS:=kq hown; have HNX : Hid (w5.heap.size < (w5.alloc (.cells #[.int .i64 0,.slice none 0 0,.slice none 0 0] 48)).heap.size):=(by show _ < _; simp); clear hb6 hown; obtain ⟨z0,f0⟩:=HNB6.out 0 _ rfl; obtain ⟨z1,f1⟩:=HNB6.out 1 _ rfl; obtain ⟨z2,f2⟩:=HNB6.out 2 _ rfl; replace HW0:=kq hb6')))
          all_goals go_wp2_with fail
          all_goals go_meet
          all_goals first
            | exact ⟨_,ab',cb',ai',ci',rfl,rfl,rfl,xat_set HOS.out HNX.out (by assumption) HNB6.out HW0.out⟩
            | exact ⟨_,ab',cb',ai',ci',rfl,rfl,rfl,xat_new HOC.out HXC.out HW0.out _⟩
        case rest =>
          obtain ⟨N,ab',cb',ai',ci',rfl,rfl,rfl,HX⟩:=hcut
          obtain ⟨hN,hxc,hbc,hxo⟩:=HX.out
          have HSC:=kq (HST.out.later hbc)
          have HXO : Hid (OwnV (fun b => B ≤ b ∧ some b ≠ V.ownBlock) n v [.int .i64 v.number,.slice ab' v.bytes.length cb',.slice ai' v.items.length ci'] wc):=hxo.mono fun b _ h => ⟨by have:=HST.out.le; omega,fun e => by have:=(HOW.out b e.symm).2; omega⟩
          obtain ⟨xv,cv,rfl⟩:=HST.out.row.slice
          obtain ⟨x0,-⟩:=hxc 0 _ rfl
          obtain ⟨x1,-⟩:=hxc 1 _ rfl
          obtain ⟨x2,-⟩:=hxc 2 _ rfl
          obtain ⟨o2,-⟩:=HSC.out.v 2 _ rfl
          clear hN hxc hbc hxo HX HST HSW HIHM HIT5 HW0 HZC HBW HOW
          rw [HL.out] at o2
          go_upto_region 8 with fail
          go_wp2_with (at_builtin; refine wp_pushW rfl (.tmp 44) (.tmp 46) rfl n B (.slice xv acc.length cv) acc v [.int .i64 v.number,.slice ab' v.bytes.length cb',.slice ai' v.items.length ci'] wc (by simp [Act.eval,HL.out]) (by simp [Act.eval]) HSC.out.row HXO.out (by rw [HL.out]; omega) HSC.out.le ?_)
          intro v' w8 hrow hg
          obtain ⟨xn,cn,rfl⟩:=hrow.slice
          rw [show (acc ++ [v]).length = k + 1 from by rw [List.length_append,HL.out,List.length_singleton]] at hrow ⊢
          have HS8:=kq (HSC.out.push hg hrow)
          obtain ⟨p2,f2⟩:=HSC.out.vcell hg 2 _ rfl
          have HLN : Hid ((acc ++ [v]).length = k + 1):=by show _ = _; rw [List.length_append,HL.out,List.length_singleton]
          have HFN : Hid (F = gotItems (parseB rs L n) r x (count - (k + 1)) (acc ++ [v]) q'):=HE.out
          have hmeas : count - (k + 1) < count - k:=by omega
          clear HSC HXO hrow hg x0 x1 x2 o2 HL HE
          go_wp2
          go_roundw
          case rel => exact ⟨q',k + 1,.slice xn (k + 1) cn,acc ++ [v],rfl,by go_num,by omega,hq2,HLN,HS8,HFN⟩
          case measure => simp [intOf]; omega
    · have k1 : ¬ (k : Int) < (count : Int):=by omega
      obtain rfl : k = count:=by omega
      have HE : Hid (F = .ok acc q):=by show _ = _; rw [HF.out,Nat.sub_self,gotItems]
      obtain ⟨xv,cv,rfl⟩:=HST.out.row.slice
      obtain ⟨z0,f0⟩:=HST.out.z 0 _ rfl
      obtain ⟨z1,f1⟩:=HST.out.z 1 _ rfl
      obtain ⟨z2,f2⟩:=HST.out.z 2 _ rfl
      have o0:=(HST.out.v 0 _ rfl).1
      have o1:=(HST.out.v 1 _ rfl).1
      have o2:=(HST.out.v 2 _ rfl).1
      have HFI : Hid (∀ u0 u1 u2 : Value,_):=HST.out.fin
      clear HST HF
      go_wp2
      (try simp only [Exit.inBlock,Exit.then])
      refine bodyPost_ret (v:=.tuple #[.agg #[.int .i64 0,.slice none 0 0,.slice xv acc.length cv],.int .i64 (q : Int),.int .i64 0]) ?_ rfl ?_
      · simp [results,Tryz.results183,go_sem,z0,z1,z2]
      · obtain ⟨h1,h2⟩:=HFI.out _ _ _
        rw [HE.out]
        show SGot (n + 1) (.ok (.mk 0 [] acc) q) _ _ _
        exact sgot_ok (cs:=[.int .i64 0,.slice none 0 0,.slice xv acc.length cv]) rfl h1 h2
theorem sreadI_small (B : List UInt8) (l : Bool) (k : Nat) (h : B.length ≤ k) (hk : k ≤ 4) : readI B l < 256 ^ k:=by
 unfold readI
 rw [if_neg (by omega)]
 have e : (orderB B l).length = B.length:=by unfold orderB; split <;> simp
 have h3:=readB_lt (orderB B l) 0
 rw [e] at h3
 have h4 : 256 ^ B.length ≤ 256 ^ k:=Nat.pow_le_pow_right (by omega) h
 omega
theorem sint_nat {r : RuleV} {L : List UInt8} {p q : Nat} {x : Int} (h4 : r.size ≤ 4) (h : gotInt r L p = .ok x q) : ∃ xn : Nat,x = (xn : Int) ∧ xn ≤ 4294967295:=by
 unfold gotInt at h
 split at h
 ·cases h
 ·injection h with h1 h2
  have hl : ((L.drop p).take r.size.toNat).length ≤ r.size.toNat:=by rw [List.length_take]; omega
  have:=sreadI_small _ r.little 4 (Nat.le_trans hl (by omega)) (by omega)
  exact ⟨_,h1.symm,by omega⟩
theorem sint_bad {r : RuleV} {L : List UInt8} {p q c : Nat} (h : gotInt r L p = .bad q c) : q = p ∧ c = 1:=by
 unfold gotInt at h
 split at h
 ·injection h with h1 h2; exact ⟨h1.symm,h2.symm⟩
 ·cases h
theorem OwnV.renum {f : Nat → Prop} {n : Nat} {x : Int} {bs : List UInt8} {l : List ValueV} {u s1 s2 : Value} {w : World} (h : OwnV f (n + 1) (.mk 0 bs l) [u,s1,s2] w) : OwnV f (n + 1) (.mk x bs l) [.int .i64 x,s1,s2] w:=by
 obtain ⟨a1,c1,a2,c2,e,h1,h2,h3⟩:=h
 injection e with e0 e
 injection e with e1 e
 injection e with e2 e
 exact ⟨a1,c1,a2,c2,by rw [e1,e2]; rfl,h1,h2,h3⟩
theorem sret_ok {h q Z X : Nat} {v : ValueV} {cs : List Value} {w W : World} {x : Int} (hx : x = (q : Int)) (hb : Below w.heap.size w W) (ho : OwnV (fun b => X ≤ b) h v cs W) (hX : Z < X) (hZ : w.heap.size ≤ Z) (u0 u1 u2 : Value) :
  SGot h (.ok v q) w (.returned (.tuple #[.agg cs.toArray,.int .i64 x,.int .i64 0])) (((W.setCell ⟨Z,0,none⟩ u0).setCell ⟨Z,1,none⟩ u1).setCell ⟨Z,2,none⟩ u2) :=
 sgot_ok hx (OwnV.set3 ho (fun b hb => by omega) _ _ _ |>.mono fun b _ (hb : X ≤ b) => by show w.heap.size ≤ b; omega) (below3 hb hZ _ _ _)
structure Beg (dc rc : List Value) (w : World) (N1 N2 : Nat) (W : World) : Prop where
 d : CellsAt w.heap.size dc W
 r : CellsAt N1 rc W
 z : CellsAt N2 [.int .i64 0,.slice none 0 0,.slice none 0 0] W
 below : Below w.heap.size w W
 n1 : w.heap.size < N1
 n2 : N1 < N2
 le : N2 < W.heap.size
theorem Beg.later {dc rc : List Value} {w W W' : World} {N1 N2 : Nat} (h : Beg dc rc w N1 N2 W) (hb : Below W.heap.size W W') : Beg dc rc w N1 N2 W' :=
 ⟨h.d.below hb,h.r.below hb,h.z.below hb,h.below.trans (hb.mono h.below.size),h.n1,h.n2,Nat.lt_of_lt_of_le h.le hb.size⟩
theorem beg_new (d0 r0 r1 r2 r3 r4 r5 r6 r7 : Value) (w : World) : Beg [d0] [r0,r1,r2,r3,r4,r5,r6,r7] w (w.heap.size + 1) (w.heap.size + 2) (((w.alloc (.cells #[d0] 26)).alloc (.cells #[r0,r1,r2,r3,r4,r5,r6,r7] 63)).alloc (.cells #[.int .i64 0,.slice none 0 0,.slice none 0 0] 48)):=by
 refine ⟨?_,?_,?_,(((Below.refl _ _).alloc (Nat.le_refl _) _).alloc (by simp) _).alloc (by simp; omega) _,by omega,by omega,by simp⟩
 ·exact ((CellsAt.new w _ _).below ((Below.refl _ _).alloc (Nat.le_refl _) _)).below ((Below.refl _ _).alloc (Nat.le_refl _) _)
 ·have h1:=CellsAt.new (w.alloc (.cells #[d0] 26)) [r0,r1,r2,r3,r4,r5,r6,r7] 63
  rw [World.size_alloc] at h1
  exact h1.below ((Below.refl _ _).alloc (Nat.le_refl _) _)
 ·have h1:=CellsAt.new ((w.alloc (.cells #[d0] 26)).alloc (.cells #[r0,r1,r2,r3,r4,r5,r6,r7] 63)) [.int .i64 0,.slice none 0 0,.slice none 0 0] 48
  rw [World.size_alloc,World.size_alloc] at h1
  exact h1
theorem schoice_spec (a ab : Option Addr) (rs : List RuleV) (cap cb : Nat) (L : List UInt8) (n k p : Nat) (cs : List Value) (w : World) (hall : allV (kindI rs) rs) (hits : SItemsC11 a ab rs cap cb L n) (hk : k < rs.length) (hkn : k < n + 1) (hkd : rs[k].kind = 7) (hl : L.length ≤ 1048576) (hp : p ≤ L.length) (hrd : RdR a rs w) (hs : SrcB ab L cb w) (hir : IsRule rs[k] cs w) :
  Calls Tryz.prog 184 #[.agg #[.slice a rs.length cap],.agg cs.toArray,.slice ab L.length cb,.int .i64 (p : Int)] w (SGot (n + 1) (parseB rs L (n + 1) (k : Int) p) w):=by
 have hki:=allV_kind hall hk
 have hitk : ∀ (x : Int) (c : Nat),(rs[k].kind = 7 → 0 ≤ itemR rs[k] x 0) → ∀ i,i < c → ∃ m : Nat,itemR rs[k] x i = (m : Int) ∧ m < rs.length ∧ m < n:=fun x c h7 i hi => by
  have h0 : 0 ≤ itemR rs[k] x i:=items_there hall hk (m:=c) hi (by rcases (by omega : rs[k].kind = 7 ∨ rs[k].kind = 8 ∨ rs[k].kind = 9) with h | h | h; exact .inr (.inr (.inl ⟨h,h7 h⟩)); exact .inr (.inr (.inr (.inl h))); exact .inr (.inr (.inr (.inr h))))
  obtain ⟨q,hq,hqk⟩:=items_kid hall hk h0
  exact ⟨q,hq,by omega,by omega⟩
 rw [parseB,ruleAt_at hk]
 obtain ⟨hm1,m,hm,hmk⟩:=kid_int hall hk (by omega)
 have hmr : m < rs.length:=by omega
 have hkl : 0 < rs[k].kids.length:=by have:=(kindI_7 hki hkd).1; omega
 rw [if_neg (by omega),if_neg (by omega),if_neg (by omega),if_neg (by omega),if_neg (by omega),if_neg (by omega),if_neg (by omega)]
 rw [hm] at hm1 ⊢
 rw [ruleAt_at hmr] at hm1 ⊢
 have hsz:=kindI_size (allV_kind hall hmr) hm1
 obtain ⟨hd,hhd⟩ : ∃ hd,hd = rs[m]:=⟨_,rfl⟩
 rw [← hhd] at hsz ⊢
 obtain ⟨r,hr⟩ : ∃ r,r = rs[k]:=⟨_,rfl⟩
 have HFINE : Hid (∀ (x : Int) (c q : Nat),(rs[k].kind = 7 → 0 ≤ itemR rs[k] x 0) → q ≤ L.length → Fine L q (gotItems (parseB rs L n) rs[k] x c [] q)):=fun x c q h7 hq => gotItems_fine c [] q (fun i hi p hp => by
  obtain ⟨m,hm,hmr,hmn⟩:=hitk x c h7 i hi
  rw [List.length_nil,Nat.zero_add,hm]
  exact parse_fine hall L n m hmr hmn p hp) hq
 rw [← hr] at HFINE hki hitk hkd hir ⊢
 have hir2:=hir
 obtain ⟨a4,c4,a5,c5,a6,c6,a7,c7,rfl,-,-,-,r7⟩:=hir2
 obtain ⟨w0,hw0⟩ : ∃ w0,w0 = ((w.alloc (.cells #[.slice a rs.length cap] 26)).alloc (.cells #[.string r.name,.int .i64 r.kind,.int .i64 r.size,.bool r.little,.slice a4 r.bytes.length c4,.slice a5 r.names.length c5,.slice a6 r.tags.length c6,.slice a7 r.kids.length c7] 63)).alloc (.cells #[.int .i64 0,.slice none 0 0,.slice none 0 0] 48):=⟨_,rfl⟩
 have hbeg : Beg [.slice a rs.length cap] [.string r.name,.int .i64 r.kind,.int .i64 r.size,.bool r.little,.slice a4 r.bytes.length c4,.slice a5 r.names.length c5,.slice a6 r.tags.length c6,.slice a7 r.kids.length c7] w (w.heap.size + 1) (w.heap.size + 2) w0:=by subst hw0; exact beg_new _ _ _ _ _ _ _ _ _ w
 obtain ⟨N1,hN1⟩ : ∃ N1,N1 = w.heap.size + 1:=⟨_,rfl⟩
 obtain ⟨N2,hN2⟩ : ∃ N2,N2 = w.heap.size + 2:=⟨_,rfl⟩
 rw [← hN1,← hN2] at hbeg
 have HBE:=kq hbeg
 have HN1:=kq hN1.symm
 have HN2 : Hid (N1 + 1 = N2):=by show _ = _; omega
 have HIR:=kq hir
 have HKI:=kq hki
 have HRD:=kq hrd
 have HS:=kq hs
 have HW0:=kq hw0
 have HITS : Hid (∀ (x : Int) (c q : Nat) (W : World),c ≤ 40 → (r.kind = 7 → 0 ≤ itemR r x 0) → q ≤ L.length → Below w.heap.size w W → Calls Tryz.prog 183 #[.agg #[.slice a rs.length cap],.agg #[.string r.name,.int .i64 r.kind,.int .i64 r.size,.bool r.little,.slice a4 r.bytes.length c4,.slice a5 r.names.length c5,.slice a6 r.tags.length c6,.slice a7 r.kids.length c7],.int .i64 x,.int .i64 (c : Int),.slice ab L.length cb,.int .i64 (q : Int)] W (SGot (n + 1) ((gotItems (parseB rs L n) r x c [] q).to fun l => .mk 0 [] l) W)):=fun x c q W hc h7 hq hb => hits r _ x c q W HKI.out hc (hitk x c h7) hq (HRD.out.below hb) (HS.out.below hb) (HIR.out.below hb)
 rw [← hr] at hm hkl
 obtain ⟨b7,o7,rfl,hc7⟩:=r7.cellAt hkl
 have hm0 : r.kids[0] = (m : Int):=by rw [← hm,getD_at hkl]
 rw [hm0,Nat.add_zero] at hc7
 have HKC : Hid (w.cell? ⟨b7,o7,none⟩ = some (.int .i64 (m : Int))):=hc7
 have HSW : Hid (∀ W,Below w0.heap.size w0 W → W.cell? ⟨w.heap.size,0,none⟩ = some (.slice a rs.length cap) ∧ W.cell? ⟨N1,7,none⟩ = some (.slice (some ⟨b7,o7,none⟩) r.kids.length c7) ∧ W.cell? ⟨b7,o7,none⟩ = some (.int .i64 (m : Int))):=fun W hb => ⟨((HBE.out.later hb).d 0 _ rfl).1,((HBE.out.later hb).r 7 _ rfl).1,cellK ((HBE.out.later hb).below) (Nat.le_refl _) HKC.out⟩
 have HINT : Hid (∀ W,Below w0.heap.size w0 W → Calls Tryz.prog 179 #[.agg #[.slice a rs.length cap],.int .i64 (m : Int),.slice ab L.length cb,.int .i64 (p : Int)] W (SIntAt (gotInt hd L p) p W)):=fun W hb => by
  have h1:=sint_spec a ab rs cap cb m p L W hmr (by rw [← hhd]; omega) (by rw [← hhd]; omega) hl hp (HRD.out.below (HBE.out.later hb).below) (HS.out.below (HBE.out.later hb).below)
  rw [← hhd] at h1
  exact h1
 have hfine:=gotInt_fine hd L p hp
 have HKD:=kq hkd
 have HB0 : Hid (Below w0.heap.size w0 w0.drew):=below_drewN (Below.refl _ _) 1
 have hkl1 : (0 : Int) < (r.kids.length : Int):=by omega
 cases hg : gotInt hd L p with
 | bad q c =>
  obtain ⟨rfl,rfl⟩:=sint_bad hg
  rw [hg] at HINT
  simp only
  clear hbeg hN1 hN2 hir hki hrd hs hw0 hits hitk hall hr r7 hg hhd hsz hm hm0 hmr hmk hm1 hc7 hkd hfine
  go_enter Tryz.func184,Tryz.ntmps184
  go_upto_region 1 with fail
  rw [← HW0.out,HN1.out]
  try rw [HN2.out]
  clear HW0
  go_region_held3 (fun W => W.cell? ⟨w.heap.size,0,none⟩ = some (.slice a rs.length cap) ∧ W.cell? ⟨N1,7,none⟩ = some (.slice (some ⟨b7,o7,none⟩) r.kids.length c7) ∧ W.cell? ⟨b7,o7,none⟩ = some (.int .i64 (m : Int))) (exact HSW.out _ HB0.out) (first | (go_at_call 179; refine (HINT.out _ HB0.out).mono ?_; rintro e w5 ⟨rfl,hb5⟩; have hb5':=HB0.out.trans (hb5.mono HB0.out.size); clear hb5; replace HB0:=kq hb5'))
  have HB5:=kq (HBE.out.later HB0.out)
  obtain ⟨z0,f0⟩:=HB5.out.z 0 _ rfl
  obtain ⟨z1,f1⟩:=HB5.out.z 1 _ rfl
  obtain ⟨z2,f2⟩:=HB5.out.z 2 _ rfl
  clear HSW HINT HB0 HBE
  go_wp2
  (try simp only [Exit.inBlock,Exit.then])
  refine bodyPost_ret (v:=.tuple #[.agg #[.int .i64 0,.slice none 0 0,.slice none 0 0],.int .i64 (q : Int),.int .i64 1]) ?_ rfl ?_
  ·simp [results,Tryz.results184,go_sem,z0,z1,z2]
  ·exact sgot_bad (c:=1) rfl (below3 HB5.out.below (by have h1:=HB5.out.n1; have h2:=HB5.out.n2; omega) _ _ _)
 | ok x q =>
  obtain ⟨xn,rfl,hxb⟩:=sint_nat hsz.2 hg
  rw [hg] at HINT hfine
  obtain ⟨hq1,hq⟩:=hfine
  simp only
  rw [if_pos hkd]
  have HIT5 : Hid (∀ W,Below w.heap.size w W → Calls Tryz.prog 138 #[.agg #[.string r.name,.int .i64 r.kind,.int .i64 r.size,.bool r.little,.slice a4 r.bytes.length c4,.slice a5 r.names.length c5,.slice a6 r.tags.length c6,.slice (some ⟨b7,o7,none⟩) r.kids.length c7],.int .i64 (xn : Int),.int .i64 0] W fun e w' => e = .returned (.int .i64 (itemR r (xn : Int) 0)) ∧ Below W.heap.size W w'):=fun W hb => item_spec rs r _ xn 0 W (by omega) HKI.out (HIR.out.below hb)
  have HITN : Hid (∀ W,Below w.heap.size w W → 0 ≤ itemR r (xn : Int) 0 → Calls Tryz.prog 183 #[.agg #[.slice a rs.length cap],.agg #[.string r.name,.int .i64 r.kind,.int .i64 r.size,.bool r.little,.slice a4 r.bytes.length c4,.slice a5 r.names.length c5,.slice a6 r.tags.length c6,.slice (some ⟨b7,o7,none⟩) r.kids.length c7],.int .i64 (xn : Int),.int .i64 1,.slice ab L.length cb,.int .i64 (q : Int)] W (SGot (n + 1) ((gotItems (parseB rs L n) r (xn : Int) 1 [] q).to fun l => .mk 0 [] l) W)):=fun W hb h0 => HITS.out (xn : Int) 1 q W (by omega) (fun _ => h0) hq hb
  have x0 : (0 : Int) ≤ (xn : Int):=by omega
  obtain ⟨K,hK⟩ : ∃ K,K = itemR r (xn : Int) 0:=⟨_,rfl⟩
  have HK:=kq hK
  rw [← hK] at HIT5 HITN ⊢
  clear hbeg hN1 hN2 hir hki hrd hs hw0 hits hitk hall hr r7 hg hhd hsz hm hm0 hmr hmk hm1 hc7 hkd hK HITS
  go_enter Tryz.func184,Tryz.ntmps184
  go_upto_region 1 with fail
  rw [← HW0.out,HN1.out]
  try rw [HN2.out]
  clear HW0
  go_region_held3 (fun W => W.cell? ⟨w.heap.size,0,none⟩ = some (.slice a rs.length cap) ∧ W.cell? ⟨N1,7,none⟩ = some (.slice (some ⟨b7,o7,none⟩) r.kids.length c7) ∧ W.cell? ⟨b7,o7,none⟩ = some (.int .i64 (m : Int))) (exact HSW.out _ HB0.out) (first | (go_at_call 179; refine (HINT.out _ HB0.out).mono ?_; rintro e w5 ⟨rfl,hb5⟩; have hb5':=HB0.out.trans (hb5.mono HB0.out.size); clear hb5; replace HB0:=kq hb5'))
  have HB5:=kq (HBE.out.later HB0.out)
  clear HSW HINT HB0 HBE
  go_upto_region 4 with fail
  obtain ⟨y0,-⟩:=HB5.out.r 0 _ rfl
  obtain ⟨y1,-⟩:=HB5.out.r 1 _ rfl
  obtain ⟨y2,-⟩:=HB5.out.r 2 _ rfl
  obtain ⟨y3,-⟩:=HB5.out.r 3 _ rfl
  obtain ⟨y4,-⟩:=HB5.out.r 4 _ rfl
  obtain ⟨y5,-⟩:=HB5.out.r 5 _ rfl
  obtain ⟨y6,-⟩:=HB5.out.r 6 _ rfl
  obtain ⟨y7,-⟩:=HB5.out.r 7 _ rfl
  by_cases hk0 : K < 0
  ·go_upto_region 5 with (go_at_call 138; refine (HIT5.out _ HB5.out.below).mono ?_; rintro e w6 ⟨rfl,hb6⟩)
   have HB6:=kq (HB5.out.later hb6)
   obtain ⟨z0,f0⟩:=HB6.out.z 0 _ rfl
   obtain ⟨z1,f1⟩:=HB6.out.z 1 _ rfl
   obtain ⟨z2,f2⟩:=HB6.out.z 2 _ rfl
   clear HB5 hb6 y0 y1 y2 y3 y4 y5 y6 y7
   go_wp2
   (try simp only [Exit.inBlock,Exit.then])
   refine bodyPost_ret (v:=.tuple #[.agg #[.int .i64 0,.slice none 0 0,.slice none 0 0],.int .i64 (p : Int),.int .i64 3]) ?_ rfl ?_
   ·simp [results,Tryz.results184,go_sem,z0,z1,z2]
   ·exact sgot_bad (c:=3) rfl (below3 HB6.out.below (by have h1:=HB6.out.n1; have h2:=HB6.out.n2; omega) _ _ _)
  ·go_upto_region 6 with (go_at_call 138; refine (HIT5.out _ HB5.out.below).mono ?_; rintro e w6 ⟨rfl,hb6⟩)
   have HB6:=kq (HB5.out.later hb6)
   clear HB5 hb6 y0 y1 y2 y3 y4 y5 y6 y7
   obtain ⟨d0,-⟩:=HB6.out.d 0 _ rfl
   obtain ⟨y0,-⟩:=HB6.out.r 0 _ rfl
   obtain ⟨y1,-⟩:=HB6.out.r 1 _ rfl
   obtain ⟨y2,-⟩:=HB6.out.r 2 _ rfl
   obtain ⟨y3,-⟩:=HB6.out.r 3 _ rfl
   obtain ⟨y4,-⟩:=HB6.out.r 4 _ rfl
   obtain ⟨y5,-⟩:=HB6.out.r 5 _ rfl
   obtain ⟨y6,-⟩:=HB6.out.r 6 _ rfl
   obtain ⟨y7,-⟩:=HB6.out.r 7 _ rfl
   have HIN : Hid (Calls _ _ _ _ _):=HITN.out _ HB6.out.below (by omega)
   have hfi:=HFINE.out (xn : Int) 1 q (fun _ => by rw [← HK.out]; omega) hq
   have hZ2 : w.heap.size ≤ N2:=by have h1:=HB6.out.n1; have h2:=HB6.out.n2; omega
   cases hgi : gotItems (parseB rs L n) r (xn : Int) 1 [] q with
   | bad q' c' =>
    have HGI:=kq hgi
    rw [hgi] at HIN hfi
    obtain ⟨_,hc1,hc2⟩:=hfi
    have hc0 : ¬ (c' : Int) = 0:=by omega
    clear hgi HITN HIT5 HFINE
    go_upto_region 7 with (go_at_call 183; refine HIN.out.mono ?_; rintro e w7 ⟨rfl,hb7⟩; have HB7:=kq (HB6.out.later hb7); clear hb7)
    have zA0 : ∀ o,(w7.alloc o).cell? ⟨N2,0,none⟩ = some (.int .i64 0):=fun o => (HB7.out.z.below ((Below.refl _ _).alloc (Nat.le_refl _) o) 0 _ rfl).1
    have fA0 : ∀ o,(w7.alloc o).frozen? ⟨N2,0,none⟩ = false:=fun o => (HB7.out.z.below ((Below.refl _ _).alloc (Nat.le_refl _) o) 0 _ rfl).2
    have zA1 : ∀ o,(w7.alloc o).cell? ⟨N2,1,none⟩ = some (.slice none 0 0):=fun o => (HB7.out.z.below ((Below.refl _ _).alloc (Nat.le_refl _) o) 1 _ rfl).1
    have fA1 : ∀ o,(w7.alloc o).frozen? ⟨N2,1,none⟩ = false:=fun o => (HB7.out.z.below ((Below.refl _ _).alloc (Nat.le_refl _) o) 1 _ rfl).2
    have zA2 : ∀ o,(w7.alloc o).cell? ⟨N2,2,none⟩ = some (.slice none 0 0):=fun o => (HB7.out.z.below ((Below.refl _ _).alloc (Nat.le_refl _) o) 2 _ rfl).1
    have fA2 : ∀ o,(w7.alloc o).frozen? ⟨N2,2,none⟩ = false:=fun o => (HB7.out.z.below ((Below.refl _ _).alloc (Nat.le_refl _) o) 2 _ rfl).2
    clear HIN d0 y0 y1 y2 y3 y4 y5 y6 y7
    go_wp2
    (try simp only [Exit.inBlock,Exit.then])
    refine bodyPost_ret (v:=.tuple #[.agg #[.int .i64 0,.slice none 0 0,.slice none 0 0],.int .i64 (q' : Int),.int .i64 (c' : Int)]) ?_ rfl ?_
    ·simp [results,Tryz.results184,go_sem,zA0,zA1,zA2]
    ·rw [HGI.out]; exact sgot_bad rfl (below3 (HB7.out.later ((Below.refl _ _).alloc (Nat.le_refl _) _)).below hZ2 _ _ _)
   | ok l q' =>
    have HGI:=kq hgi
    rw [hgi] at HIN hfi
    clear hgi HITN HIT5 HFINE
    go_upto_region 7 with (go_at_call 183; refine HIN.out.mono ?_; rintro e w7 ⟨⟨cs',rfl,hown⟩,hb7⟩; obtain ⟨ab',cb',ai',ci',rfl⟩:=hown.cells; have HB7:=kq (HB6.out.later hb7); have HOW:=kq hown; clear hown hb7)
    simp only [ValueV.number,ValueV.bytes,ValueV.items,List.length_nil] at HOW ⊢
    have zA0 : ∀ o,(w7.alloc o).cell? ⟨N2,0,none⟩ = some (.int .i64 0):=fun o => (HB7.out.z.below ((Below.refl _ _).alloc (Nat.le_refl _) o) 0 _ rfl).1
    have fA0 : ∀ o,(w7.alloc o).frozen? ⟨N2,0,none⟩ = false:=fun o => (HB7.out.z.below ((Below.refl _ _).alloc (Nat.le_refl _) o) 0 _ rfl).2
    have zA1 : ∀ o,(w7.alloc o).cell? ⟨N2,1,none⟩ = some (.slice none 0 0):=fun o => (HB7.out.z.below ((Below.refl _ _).alloc (Nat.le_refl _) o) 1 _ rfl).1
    have fA1 : ∀ o,(w7.alloc o).frozen? ⟨N2,1,none⟩ = false:=fun o => (HB7.out.z.below ((Below.refl _ _).alloc (Nat.le_refl _) o) 1 _ rfl).2
    have zA2 : ∀ o,(w7.alloc o).cell? ⟨N2,2,none⟩ = some (.slice none 0 0):=fun o => (HB7.out.z.below ((Below.refl _ _).alloc (Nat.le_refl _) o) 2 _ rfl).1
    have fA2 : ∀ o,(w7.alloc o).frozen? ⟨N2,2,none⟩ = false:=fun o => (HB7.out.z.below ((Below.refl _ _).alloc (Nat.le_refl _) o) 2 _ rfl).2
    clear HIN d0 y0 y1 y2 y3 y4 y5 y6 y7
    go_wp2
    (try simp only [Exit.inBlock,Exit.then])
    refine bodyPost_ret (v:=.tuple #[.agg #[.int .i64 (xn : Int),.slice ab' 0 cb',.slice ai' l.length ci'],.int .i64 (q' : Int),.int .i64 0]) ?_ rfl ?_
    ·simp [results,Tryz.results184,go_sem,zA0,zA1,zA2]
    ·have hbA : Below w7.heap.size w7 (w7.alloc (.cells #[.int .i64 (xn : Int),.slice ab' 0 cb',.slice ai' l.length ci'] 48)):=(Below.refl _ _).alloc (Nat.le_refl _) _
     rw [HGI.out]
     exact sret_ok (X:=w6.heap.size) (v:=.mk (xn : Int) [] l) (cs:=[.int .i64 (xn : Int),.slice ab' 0 cb',.slice ai' l.length ci']) rfl (HB7.out.later hbA).below (HOW.out.renum.below hbA fun b _ hb => hb) HB6.out.le hZ2 _ _ _
theorem soption_spec (a ab : Option Addr) (rs : List RuleV) (cap cb : Nat) (L : List UInt8) (n k p : Nat) (cs : List Value) (w : World) (hall : allV (kindI rs) rs) (hits : SItemsC11 a ab rs cap cb L n) (hk : k < rs.length) (hkn : k < n + 1) (hkd : rs[k].kind = 8) (hl : L.length ≤ 1048576) (hp : p ≤ L.length) (hrd : RdR a rs w) (hs : SrcB ab L cb w) (hir : IsRule rs[k] cs w) :
  Calls Tryz.prog 185 #[.agg #[.slice a rs.length cap],.agg cs.toArray,.slice ab L.length cb,.int .i64 (p : Int)] w (SGot (n + 1) (parseB rs L (n + 1) (k : Int) p) w):=by
 have hki:=allV_kind hall hk
 have hitk : ∀ (x : Int) (c : Nat),(rs[k].kind = 7 → 0 ≤ itemR rs[k] x 0) → ∀ i,i < c → ∃ m : Nat,itemR rs[k] x i = (m : Int) ∧ m < rs.length ∧ m < n:=fun x c h7 i hi => by
  have h0 : 0 ≤ itemR rs[k] x i:=items_there hall hk (m:=c) hi (by rcases (by omega : rs[k].kind = 7 ∨ rs[k].kind = 8 ∨ rs[k].kind = 9) with h | h | h; exact .inr (.inr (.inl ⟨h,h7 h⟩)); exact .inr (.inr (.inr (.inl h))); exact .inr (.inr (.inr (.inr h))))
  obtain ⟨q,hq,hqk⟩:=items_kid hall hk h0
  exact ⟨q,hq,by omega,by omega⟩
 rw [parseB,ruleAt_at hk]
 rw [if_neg (by omega),if_neg (by omega),if_neg (by omega),if_neg (by omega),if_neg (by omega),if_pos hkd]
 obtain ⟨r,hr⟩ : ∃ r,r = rs[k]:=⟨_,rfl⟩
 have HFINE : Hid (∀ (x : Int) (c q : Nat),(rs[k].kind = 7 → 0 ≤ itemR rs[k] x 0) → q ≤ L.length → Fine L q (gotItems (parseB rs L n) rs[k] x c [] q)):=fun x c q h7 hq => gotItems_fine c [] q (fun i hi p hp => by
  obtain ⟨m,hm,hmr,hmn⟩:=hitk x c h7 i hi
  rw [List.length_nil,Nat.zero_add,hm]
  exact parse_fine hall L n m hmr hmn p hp) hq
 rw [← hr] at HFINE hki hitk hkd hir ⊢
 have hir2:=hir
 obtain ⟨a4,c4,a5,c5,a6,c6,a7,c7,rfl,-,-,-,r7⟩:=hir2
 obtain ⟨w0,hw0⟩ : ∃ w0,w0 = ((w.alloc (.cells #[.slice a rs.length cap] 26)).alloc (.cells #[.string r.name,.int .i64 r.kind,.int .i64 r.size,.bool r.little,.slice a4 r.bytes.length c4,.slice a5 r.names.length c5,.slice a6 r.tags.length c6,.slice a7 r.kids.length c7] 63)).alloc (.cells #[.int .i64 0,.slice none 0 0,.slice none 0 0] 48):=⟨_,rfl⟩
 have hbeg : Beg [.slice a rs.length cap] [.string r.name,.int .i64 r.kind,.int .i64 r.size,.bool r.little,.slice a4 r.bytes.length c4,.slice a5 r.names.length c5,.slice a6 r.tags.length c6,.slice a7 r.kids.length c7] w (w.heap.size + 1) (w.heap.size + 2) w0:=by subst hw0; exact beg_new _ _ _ _ _ _ _ _ _ w
 obtain ⟨N1,hN1⟩ : ∃ N1,N1 = w.heap.size + 1:=⟨_,rfl⟩
 obtain ⟨N2,hN2⟩ : ∃ N2,N2 = w.heap.size + 2:=⟨_,rfl⟩
 rw [← hN1,← hN2] at hbeg
 have HBE:=kq hbeg
 have HN1:=kq hN1.symm
 have HN2 : Hid (N1 + 1 = N2):=by show _ = _; omega
 have HIR:=kq hir
 have HKI:=kq hki
 have HRD:=kq hrd
 have HS:=kq hs
 have HW0:=kq hw0
 have HITS : Hid (∀ (x : Int) (c q : Nat) (W : World),c ≤ 40 → (r.kind = 7 → 0 ≤ itemR r x 0) → q ≤ L.length → Below w.heap.size w W → Calls Tryz.prog 183 #[.agg #[.slice a rs.length cap],.agg #[.string r.name,.int .i64 r.kind,.int .i64 r.size,.bool r.little,.slice a4 r.bytes.length c4,.slice a5 r.names.length c5,.slice a6 r.tags.length c6,.slice a7 r.kids.length c7],.int .i64 x,.int .i64 (c : Int),.slice ab L.length cb,.int .i64 (q : Int)] W (SGot (n + 1) ((gotItems (parseB rs L n) r x c [] q).to fun l => .mk 0 [] l) W)):=fun x c q W hc h7 hq hb => hits r _ x c q W HKI.out hc (hitk x c h7) hq (HRD.out.below hb) (HS.out.below hb) (HIR.out.below hb)
 have p0 : (0 : Int) ≤ (p : Int):=by omega
 have hZ2 : w.heap.size ≤ N2:=by omega
 by_cases hlt : p < L.length
 ·obtain ⟨bm,om,rfl,hcm0⟩:=HS.out.1 p hlt
  obtain ⟨c,hc⟩ : ∃ c,c = L[p]:=⟨_,rfl⟩
  rw [← hc] at hcm0
  have hcm:=cellK HBE.out.below (Nat.le_refl _) hcm0
  rw [List.getElem?_eq_getElem hlt,← hc]
  simp only
  have k1 : ¬ (p : Int) ≥ (L.length : Int):=by omega
  have k2 : (p : Int) < (L.length : Int):=by omega
  have HKD:=kq hkd
  by_cases hf : 1 < c.toNat
  ·rw [if_pos hf]
   have k3 : (c.toNat : Int) > 1:=by omega
   clear hbeg hN1 hN2 hir hki hrd hs hw0 hits hitk hall hr r7 hkd hc hcm0 HITS HFINE
   go_enter Tryz.func185,Tryz.ntmps185
   go_upto_region 1 with fail
   rw [← HW0.out,HN1.out]
   try rw [HN2.out]
   clear HW0
   obtain ⟨z0,f0⟩:=HBE.out.z 0 _ rfl
   obtain ⟨z1,f1⟩:=HBE.out.z 1 _ rfl
   obtain ⟨z2,f2⟩:=HBE.out.z 2 _ rfl
   go_wp2
   (try simp only [Exit.inBlock,Exit.then])
   refine bodyPost_ret (v:=.tuple #[.agg #[.int .i64 0,.slice none 0 0,.slice none 0 0],.int .i64 (p : Int),.int .i64 4]) ?_ rfl ?_
   ·simp [results,Tryz.results185,go_sem,z0,z1,z2]
   ·exact sgot_bad (c:=4) rfl (below3 HBE.out.below hZ2 _ _ _)
  ·rw [if_neg hf]
   have k3 : ¬ (c.toNat : Int) > 1:=by omega
   have hwr : IntKind.i64.wrap ((p : Int) + 1) = (p : Int) + 1:=by rw [IntKind.wrap_i64]; omega
   have hwc : IntKind.i64.wrap (c.toNat : Int) = (c.toNat : Int):=by rw [IntKind.wrap_i64]; omega
   have HITN : Hid (∀ W,Below w.heap.size w W → Calls Tryz.prog 183 #[.agg #[.slice a rs.length cap],.agg #[.string r.name,.int .i64 r.kind,.int .i64 r.size,.bool r.little,.slice a4 r.bytes.length c4,.slice a5 r.names.length c5,.slice a6 r.tags.length c6,.slice a7 r.kids.length c7],.int .i64 0,.int .i64 (c.toNat : Int),.slice (some ⟨bm,om,none⟩) L.length cb,.int .i64 ((p : Int) + 1)] W (SGot (n + 1) ((gotItems (parseB rs L n) r 0 c.toNat [] (p + 1)).to fun l => .mk 0 [] l) W)):=fun W hb => HITS.out 0 c.toNat (p + 1) W (by omega) (fun h => absurd h (by omega)) (by omega) hb
   have hfi:=HFINE.out 0 c.toNat (p + 1) (fun h => absurd h (by omega)) (by omega)
   have HSW : Hid (∀ W,CellsAt w.heap.size [.slice a rs.length cap] W → CellsAt N1 [.string r.name,.int .i64 r.kind,.int .i64 r.size,.bool r.little,.slice a4 r.bytes.length c4,.slice a5 r.names.length c5,.slice a6 r.tags.length c6,.slice a7 r.kids.length c7] W → W.cell? ⟨bm,om + p,none⟩ = some (.int .u8 (c.toNat : Int)) → W.cell? ⟨w.heap.size,0,none⟩ = some (.slice a rs.length cap) ∧ W.cell? ⟨N1,0,none⟩ = some (.string r.name) ∧ W.cell? ⟨N1,1,none⟩ = some (.int .i64 r.kind) ∧ W.cell? ⟨N1,2,none⟩ = some (.int .i64 r.size) ∧ W.cell? ⟨N1,3,none⟩ = some (.bool r.little) ∧ W.cell? ⟨N1,4,none⟩ = some (.slice a4 r.bytes.length c4) ∧ W.cell? ⟨N1,5,none⟩ = some (.slice a5 r.names.length c5) ∧ W.cell? ⟨N1,6,none⟩ = some (.slice a6 r.tags.length c6) ∧ W.cell? ⟨N1,7,none⟩ = some (.slice a7 r.kids.length c7) ∧ W.cell? ⟨bm,om + p,none⟩ = some (.int .u8 (c.toNat : Int))):=fun W hd hr hc => ⟨(hd 0 _ rfl).1,(hr 0 _ rfl).1,(hr 1 _ rfl).1,(hr 2 _ rfl).1,(hr 3 _ rfl).1,(hr 4 _ rfl).1,(hr 5 _ rfl).1,(hr 6 _ rfl).1,(hr 7 _ rfl).1,hc⟩
   have HCM : Hid (w.cell? ⟨bm,om + p,none⟩ = some (.int .u8 (c.toNat : Int))):=hcm0
   have hbl:=cell_lt hcm0
   have HSB : Hid (∀ W,Beg [.slice a rs.length cap] [.string r.name,.int .i64 r.kind,.int .i64 r.size,.bool r.little,.slice a4 r.bytes.length c4,.slice a5 r.names.length c5,.slice a6 r.tags.length c6,.slice a7 r.kids.length c7] w N1 N2 W → W.cell? ⟨w.heap.size,0,none⟩ = some (.slice a rs.length cap) ∧ W.cell? ⟨N1,0,none⟩ = some (.string r.name) ∧ W.cell? ⟨N1,1,none⟩ = some (.int .i64 r.kind) ∧ W.cell? ⟨N1,2,none⟩ = some (.int .i64 r.size) ∧ W.cell? ⟨N1,3,none⟩ = some (.bool r.little) ∧ W.cell? ⟨N1,4,none⟩ = some (.slice a4 r.bytes.length c4) ∧ W.cell? ⟨N1,5,none⟩ = some (.slice a5 r.names.length c5) ∧ W.cell? ⟨N1,6,none⟩ = some (.slice a6 r.tags.length c6) ∧ W.cell? ⟨N1,7,none⟩ = some (.slice a7 r.kids.length c7) ∧ W.cell? ⟨bm,om + p,none⟩ = some (.int .u8 (c.toNat : Int))):=fun W hb => HSW.out W hb.d hb.r (cellK hb.below (Nat.le_refl _) HCM.out)
   have HSZ : Hid (∀ W,Beg [.slice a rs.length cap] [.string r.name,.int .i64 r.kind,.int .i64 r.size,.bool r.little,.slice a4 r.bytes.length c4,.slice a5 r.names.length c5,.slice a6 r.tags.length c6,.slice a7 r.kids.length c7] w N1 N2 W → ∀ u0 u1 u2 : Value,(fun W => W.cell? ⟨w.heap.size,0,none⟩ = some (.slice a rs.length cap) ∧ W.cell? ⟨N1,0,none⟩ = some (.string r.name) ∧ W.cell? ⟨N1,1,none⟩ = some (.int .i64 r.kind) ∧ W.cell? ⟨N1,2,none⟩ = some (.int .i64 r.size) ∧ W.cell? ⟨N1,3,none⟩ = some (.bool r.little) ∧ W.cell? ⟨N1,4,none⟩ = some (.slice a4 r.bytes.length c4) ∧ W.cell? ⟨N1,5,none⟩ = some (.slice a5 r.names.length c5) ∧ W.cell? ⟨N1,6,none⟩ = some (.slice a6 r.tags.length c6) ∧ W.cell? ⟨N1,7,none⟩ = some (.slice a7 r.kids.length c7) ∧ W.cell? ⟨bm,om + p,none⟩ = some (.int .u8 (c.toNat : Int))) (((W.setCell ⟨N2,0,none⟩ u0).setCell ⟨N2,1,none⟩ u1).setCell ⟨N2,2,none⟩ u2)):=fun W hb u0 u1 u2 => by
    have hg : W.grownBy (((W.setCell ⟨N2,0,none⟩ u0).setCell ⟨N2,1,none⟩ u1).setCell ⟨N2,2,none⟩ u2) (some N2):=grown_set (grown_set (grown_set (grown_refl W _) 0 _) 1 _) 2 _
    have h1:=hb.n1
    have h2:=hb.n2
    exact HSW.out _ (hb.d.grown hg fun e => by injection e with e; omega) (hb.r.grown hg fun e => by injection e with e; omega) (cellK (below3 hb.below (by omega) _ _ _) (Nat.le_refl _) HCM.out)
   have HBB : Hid (Beg [.slice a rs.length cap] [.string r.name,.int .i64 r.kind,.int .i64 r.size,.bool r.little,.slice a4 r.bytes.length c4,.slice a5 r.names.length c5,.slice a6 r.tags.length c6,.slice a7 r.kids.length c7] w N1 N2 w0.drew):=HBE.out.later (below_drewN (Below.refl _ _) 1)
   cases hgi : gotItems (parseB rs L n) r 0 c.toNat [] (p + 1) with
   | bad q' c' =>
    rw [hgi] at HITN hfi
    clear hbeg hN1 hN2 hir hki hrd hs hw0 hits hitk hall hr r7 hkd hc hcm0 hcm HITS HFINE hgi hfi hf
    go_enter Tryz.func185,Tryz.ntmps185
    go_upto_region 1 with fail
    rw [← HW0.out,HN1.out]
    try rw [HN2.out]
    clear HW0
    obtain ⟨_,_,_,_,_,_,_,_,_,hcm⟩:=HSB.out _ HBE.out
    go_upto_region 5 with fail
    clear hcm
    go_region_held3 (fun W => W.cell? ⟨w.heap.size,0,none⟩ = some (.slice a rs.length cap) ∧ W.cell? ⟨N1,0,none⟩ = some (.string r.name) ∧ W.cell? ⟨N1,1,none⟩ = some (.int .i64 r.kind) ∧ W.cell? ⟨N1,2,none⟩ = some (.int .i64 r.size) ∧ W.cell? ⟨N1,3,none⟩ = some (.bool r.little) ∧ W.cell? ⟨N1,4,none⟩ = some (.slice a4 r.bytes.length c4) ∧ W.cell? ⟨N1,5,none⟩ = some (.slice a5 r.names.length c5) ∧ W.cell? ⟨N1,6,none⟩ = some (.slice a6 r.tags.length c6) ∧ W.cell? ⟨N1,7,none⟩ = some (.slice a7 r.kids.length c7) ∧ W.cell? ⟨bm,om + p,none⟩ = some (.int .u8 (c.toNat : Int))) (first | exact HSB.out _ HBB.out | exact HSZ.out _ HBB.out _ _ _) (first | (go_at_call 183; refine (HITN.out _ HBB.out.below).mono ?_; rintro e w7 ⟨rfl,hb7⟩; have hb7':=HBB.out.later hb7; clear hb7; replace HBB:=kq hb7'; obtain ⟨z0,f0⟩:=HBB.out.z 0 _ rfl; obtain ⟨z1,f1⟩:=HBB.out.z 1 _ rfl; obtain ⟨z2,f2⟩:=HBB.out.z 2 _ rfl))
    all_goals go_wp2
    (try simp only [Exit.inBlock,Exit.then])
    refine bodyPost_ret (v:=.tuple #[.agg #[.int .i64 0,.slice none 0 0,.slice none 0 0],.int .i64 (q' : Int),.int .i64 (c' : Int)]) ?_ rfl ?_
    ·simp [results,Tryz.results185,go_sem,z0,z1,z2]
    ·exact sgot_bad rfl (below3 HBB.out.below hZ2 _ _ _)
   | ok l q' =>
    rw [hgi] at HITN hfi
    clear hbeg hN1 hN2 hir hki hrd hs hw0 hits hitk hall hr r7 hkd hc hcm0 hcm HITS HFINE hgi hfi hf
    go_enter Tryz.func185,Tryz.ntmps185
    go_upto_region 1 with fail
    rw [← HW0.out,HN1.out]
    try rw [HN2.out]
    clear HW0
    obtain ⟨_,_,_,_,_,_,_,_,_,hcm⟩:=HSB.out _ HBE.out
    go_upto_region 5 with fail
    clear hcm
    go_region_held3 (fun W => W.cell? ⟨w.heap.size,0,none⟩ = some (.slice a rs.length cap) ∧ W.cell? ⟨N1,0,none⟩ = some (.string r.name) ∧ W.cell? ⟨N1,1,none⟩ = some (.int .i64 r.kind) ∧ W.cell? ⟨N1,2,none⟩ = some (.int .i64 r.size) ∧ W.cell? ⟨N1,3,none⟩ = some (.bool r.little) ∧ W.cell? ⟨N1,4,none⟩ = some (.slice a4 r.bytes.length c4) ∧ W.cell? ⟨N1,5,none⟩ = some (.slice a5 r.names.length c5) ∧ W.cell? ⟨N1,6,none⟩ = some (.slice a6 r.tags.length c6) ∧ W.cell? ⟨N1,7,none⟩ = some (.slice a7 r.kids.length c7) ∧ W.cell? ⟨bm,om + p,none⟩ = some (.int .u8 (c.toNat : Int))) (first | exact HSB.out _ HBB.out | exact HSZ.out _ HBB.out _ _ _) (first | (go_at_call 183; refine (HITN.out _ HBB.out.below).mono ?_; rintro e w7 ⟨⟨cs',rfl,hown⟩,hb7⟩; obtain ⟨ab',cb',ai',ci',rfl⟩:=hown.cells; have hb7':=HBB.out.later hb7; have HOW:=kq hown; have HLE:=kq HBB.out.le; clear hb7 hown; replace HBB:=kq hb7'; obtain ⟨z0,f0⟩:=HBB.out.z 0 _ rfl; obtain ⟨z1,f1⟩:=HBB.out.z 1 _ rfl; obtain ⟨z2,f2⟩:=HBB.out.z 2 _ rfl))
    simp only [ValueV.number,ValueV.bytes,ValueV.items,List.length_nil] at HOW ⊢
    go_wp2
    (try simp only [Exit.inBlock,Exit.then])
    refine bodyPost_ret (v:=.tuple #[.agg #[.int .i64 0,.slice ab' 0 cb',.slice ai' l.length ci'],.int .i64 (q' : Int),.int .i64 0]) ?_ rfl ?_
    ·simp [results,Tryz.results185,go_sem,z0,z1,z2]
    ·exact sret_ok (X:=w0.heap.size) (v:=.mk 0 [] l) (cs:=[.int .i64 0,.slice ab' 0 cb',.slice ai' l.length ci']) rfl HBB.out.below HOW.out HLE.out hZ2 _ _ _
 ·rw [List.getElem?_eq_none (by omega)]
  simp only
  have k1 : (p : Int) ≥ (L.length : Int):=by omega
  clear hbeg hN1 hN2 hir hki hrd hs hw0 hits hitk hall hr r7 hkd HITS HFINE
  go_enter Tryz.func185,Tryz.ntmps185
  go_upto_region 1 with fail
  rw [← HW0.out,HN1.out]
  try rw [HN2.out]
  clear HW0
  obtain ⟨z0,f0⟩:=HBE.out.z 0 _ rfl
  obtain ⟨z1,f1⟩:=HBE.out.z 1 _ rfl
  obtain ⟨z2,f2⟩:=HBE.out.z 2 _ rfl
  go_wp2
  (try simp only [Exit.inBlock,Exit.then])
  refine bodyPost_ret (v:=.tuple #[.agg #[.int .i64 0,.slice none 0 0,.slice none 0 0],.int .i64 (p : Int),.int .i64 1]) ?_ rfl ?_
  ·simp [results,Tryz.results185,go_sem,z0,z1,z2]
  ·exact sgot_bad (c:=1) rfl (below3 HBE.out.below hZ2 _ _ _)

theorem schecked_spec (a ab : Option Addr) (rs : List RuleV) (cap cb : Nat) (L : List UInt8) (n k p : Nat) (cs : List Value) (w : World) (hall : allV (kindI rs) rs) (hits : SItemsC11 a ab rs cap cb L n) (hk : k < rs.length) (hkn : k < n + 1) (hkd : rs[k].kind = 9) (hl : L.length ≤ 1048576) (hp : p ≤ L.length) (hrd : RdR a rs w) (hs : SrcB ab L cb w) (hir : IsRule rs[k] cs w) :
  Calls Tryz.prog 186 #[.agg #[.slice a rs.length cap],.agg cs.toArray,.slice ab L.length cb,.int .i64 (p : Int)] w (SGot (n + 1) (parseB rs L (n + 1) (k : Int) p) w):=by
 have hki:=allV_kind hall hk
 have hitk : ∀ (x : Int) (c : Nat),(rs[k].kind = 7 → 0 ≤ itemR rs[k] x 0) → ∀ i,i < c → ∃ m : Nat,itemR rs[k] x i = (m : Int) ∧ m < rs.length ∧ m < n:=fun x c h7 i hi => by
  have h0 : 0 ≤ itemR rs[k] x i:=items_there hall hk (m:=c) hi (by rcases (by omega : rs[k].kind = 7 ∨ rs[k].kind = 8 ∨ rs[k].kind = 9) with h | h | h; exact .inr (.inr (.inl ⟨h,h7 h⟩)); exact .inr (.inr (.inr (.inl h))); exact .inr (.inr (.inr (.inr h))))
  obtain ⟨q,hq,hqk⟩:=items_kid hall hk h0
  exact ⟨q,hq,by omega,by omega⟩
 rw [parseB,ruleAt_at hk]
 rw [if_neg (by omega),if_neg (by omega),if_neg (by omega),if_neg (by omega),if_neg (by omega),if_neg (by omega),if_pos hkd]
 obtain ⟨r,hr⟩ : ∃ r,r = rs[k]:=⟨_,rfl⟩
 have HFINE : Hid (∀ (x : Int) (c q : Nat),(rs[k].kind = 7 → 0 ≤ itemR rs[k] x 0) → q ≤ L.length → Fine L q (gotItems (parseB rs L n) rs[k] x c [] q)):=fun x c q h7 hq => gotItems_fine c [] q (fun i hi p hp => by
  obtain ⟨m,hm,hmr,hmn⟩:=hitk x c h7 i hi
  rw [List.length_nil,Nat.zero_add,hm]
  exact parse_fine hall L n m hmr hmn p hp) hq
 rw [← hr] at HFINE hki hitk hkd hir ⊢
 have hir2:=hir
 obtain ⟨a4,c4,a5,c5,a6,c6,a7,c7,rfl,-,-,-,r7⟩:=hir2
 obtain ⟨w0,hw0⟩ : ∃ w0,w0 = ((w.alloc (.cells #[.slice a rs.length cap] 26)).alloc (.cells #[.string r.name,.int .i64 r.kind,.int .i64 r.size,.bool r.little,.slice a4 r.bytes.length c4,.slice a5 r.names.length c5,.slice a6 r.tags.length c6,.slice a7 r.kids.length c7] 63)).alloc (.cells #[.int .i64 0,.slice none 0 0,.slice none 0 0] 48):=⟨_,rfl⟩
 have hbeg : Beg [.slice a rs.length cap] [.string r.name,.int .i64 r.kind,.int .i64 r.size,.bool r.little,.slice a4 r.bytes.length c4,.slice a5 r.names.length c5,.slice a6 r.tags.length c6,.slice a7 r.kids.length c7] w (w.heap.size + 1) (w.heap.size + 2) w0:=by subst hw0; exact beg_new _ _ _ _ _ _ _ _ _ w
 obtain ⟨N1,hN1⟩ : ∃ N1,N1 = w.heap.size + 1:=⟨_,rfl⟩
 obtain ⟨N2,hN2⟩ : ∃ N2,N2 = w.heap.size + 2:=⟨_,rfl⟩
 rw [← hN1,← hN2] at hbeg
 have HBE:=kq hbeg
 have HN1:=kq hN1.symm
 have HN2 : Hid (N1 + 1 = N2):=by show _ = _; omega
 have HIR:=kq hir
 have HKI:=kq hki
 have HRD:=kq hrd
 have HS:=kq hs
 have HW0:=kq hw0
 have HITS : Hid (∀ (x : Int) (c q : Nat) (W : World),c ≤ 40 → (r.kind = 7 → 0 ≤ itemR r x 0) → q ≤ L.length → Below w.heap.size w W → Calls Tryz.prog 183 #[.agg #[.slice a rs.length cap],.agg #[.string r.name,.int .i64 r.kind,.int .i64 r.size,.bool r.little,.slice a4 r.bytes.length c4,.slice a5 r.names.length c5,.slice a6 r.tags.length c6,.slice a7 r.kids.length c7],.int .i64 x,.int .i64 (c : Int),.slice ab L.length cb,.int .i64 (q : Int)] W (SGot (n + 1) ((gotItems (parseB rs L n) r x c [] q).to fun l => .mk 0 [] l) W)):=fun x c q W hc h7 hq hb => hits r _ x c q W HKI.out hc (hitk x c h7) hq (HRD.out.below hb) (HS.out.below hb) (HIR.out.below hb)
 have p0 : (0 : Int) ≤ (p : Int):=by omega
 have hZ2 : w.heap.size ≤ N2:=by omega
 have HITN : Hid (∀ W,Below w.heap.size w W → Calls Tryz.prog 183 #[.agg #[.slice a rs.length cap],.agg #[.string r.name,.int .i64 r.kind,.int .i64 r.size,.bool r.little,.slice a4 r.bytes.length c4,.slice a5 r.names.length c5,.slice a6 r.tags.length c6,.slice a7 r.kids.length c7],.int .i64 0,.int .i64 1,.slice ab L.length cb,.int .i64 (p : Int)] W (SGot (n + 1) ((gotItems (parseB rs L n) r 0 1 [] p).to fun l => .mk 0 [] l) W)):=fun W hb => HITS.out 0 1 p W (by omega) (fun h => absurd h (by omega)) hp hb
 have hfi:=HFINE.out 0 1 p (fun h => absurd h (by omega)) hp
 obtain ⟨d0,-⟩:=HBE.out.d 0 _ rfl
 obtain ⟨y0,-⟩:=HBE.out.r 0 _ rfl
 obtain ⟨y1,-⟩:=HBE.out.r 1 _ rfl
 obtain ⟨y2,-⟩:=HBE.out.r 2 _ rfl
 obtain ⟨y3,-⟩:=HBE.out.r 3 _ rfl
 obtain ⟨y4,-⟩:=HBE.out.r 4 _ rfl
 obtain ⟨y5,-⟩:=HBE.out.r 5 _ rfl
 obtain ⟨y6,-⟩:=HBE.out.r 6 _ rfl
 obtain ⟨y7,-⟩:=HBE.out.r 7 _ rfl
 cases hgi : gotItems (parseB rs L n) r 0 1 [] p with
 | bad q' c' =>
  rw [hgi] at HITN hfi
  obtain ⟨_,hc1,hc2⟩:=hfi
  have hc0 : ¬ (c' : Int) = 0:=by omega
  have HGS : Hid (gotSum L p (.bad q' c') = .bad q' c'):=rfl
  clear hbeg hN1 hN2 hir hki hrd hs hw0 hits hitk hall hr r7 hkd HITS HFINE hgi
  go_enter Tryz.func186,Tryz.ntmps186
  go_upto_region 1 with fail
  rw [← HW0.out,HN1.out]
  try rw [HN2.out]
  clear HW0
  go_upto_region 2 with (go_at_call 183; refine (HITN.out _ HBE.out.below).mono ?_; rintro e w7 ⟨rfl,hb7⟩; have HB7:=kq (HBE.out.later hb7); clear hb7)
  have zA0 : ∀ o,(w7.alloc o).cell? ⟨N2,0,none⟩ = some (.int .i64 0):=fun o => (HB7.out.z.below ((Below.refl _ _).alloc (Nat.le_refl _) o) 0 _ rfl).1
  have fA0 : ∀ o,(w7.alloc o).frozen? ⟨N2,0,none⟩ = false:=fun o => (HB7.out.z.below ((Below.refl _ _).alloc (Nat.le_refl _) o) 0 _ rfl).2
  have zA1 : ∀ o,(w7.alloc o).cell? ⟨N2,1,none⟩ = some (.slice none 0 0):=fun o => (HB7.out.z.below ((Below.refl _ _).alloc (Nat.le_refl _) o) 1 _ rfl).1
  have fA1 : ∀ o,(w7.alloc o).frozen? ⟨N2,1,none⟩ = false:=fun o => (HB7.out.z.below ((Below.refl _ _).alloc (Nat.le_refl _) o) 1 _ rfl).2
  have zA2 : ∀ o,(w7.alloc o).cell? ⟨N2,2,none⟩ = some (.slice none 0 0):=fun o => (HB7.out.z.below ((Below.refl _ _).alloc (Nat.le_refl _) o) 2 _ rfl).1
  have fA2 : ∀ o,(w7.alloc o).frozen? ⟨N2,2,none⟩ = false:=fun o => (HB7.out.z.below ((Below.refl _ _).alloc (Nat.le_refl _) o) 2 _ rfl).2
  clear HITN HBE d0 y0 y1 y2 y3 y4 y5 y6 y7
  go_wp2
  (try simp only [Exit.inBlock,Exit.then])
  refine bodyPost_ret (v:=.tuple #[.agg #[.int .i64 0,.slice none 0 0,.slice none 0 0],.int .i64 (q' : Int),.int .i64 (c' : Int)]) ?_ rfl ?_
  ·simp [results,Tryz.results186,go_sem,zA0,zA1,zA2]
  ·exact sgot_bad rfl (below3 (HB7.out.later ((Below.refl _ _).alloc (Nat.le_refl _) _)).below hZ2 _ _ _)
 | ok l q' =>
  rw [hgi] at HITN hfi
  obtain ⟨hq1,hq2⟩:=hfi
  by_cases hlt : q' < L.length
  ·obtain ⟨bm,om,rfl,hcm0⟩:=HS.out.1 q' hlt
   obtain ⟨c,hc⟩ : ∃ c,c = L[q']:=⟨_,rfl⟩
   rw [← hc] at hcm0
   have HCM : Hid (w.cell? ⟨bm,om + q',none⟩ = some (.int .u8 (c.toNat : Int))):=hcm0
   have hge : L[q']? = some c:=by rw [List.getElem?_eq_getElem hlt,← hc]
   rw [gotSum_some hge]
   obtain ⟨A,C,hsl,hA⟩:=cut_two (some ⟨bm,om,none⟩) L cb p q' w hq1 (by omega) HS.out
   have hlen : ((L.drop p).take (q' - p)).length = q' - p:=by rw [List.length_take,List.length_drop]; omega
   obtain ⟨bs,hbs⟩ : ∃ bs,bs = (L.drop p).take (q' - p):=⟨_,rfl⟩
   rw [← hbs] at hlen hA ⊢
   have HSUM : Hid (∀ W,Below w.heap.size w W → Calls Tryz.prog 188 #[.slice A (q' - p : Nat) C] W fun e w' => e = .returned (.int .i64 (sumB bs 0 : Nat)) ∧ W = w'):=fun W hb => by
    have h1:=sum_spec A bs C W (by omega) (hA _ (HS.out.below hb)).1
    rw [hlen] at h1
    exact h1
   have k1 : ¬ (q' : Int) ≥ (L.length : Int):=by omega
   have k2 : (q' : Int) < (L.length : Int):=by omega
   have k3 : (0 : Int) ≤ (q' : Int):=by omega
   have k4 : (p : Int) ≤ (q' : Int):=by omega
   have hwc : IntKind.i64.wrap (c.toNat : Int) = (c.toNat : Int):=by have:=c.toNat_lt; rw [IntKind.wrap_i64]; omega
   have hwr : IntKind.i64.wrap ((q' : Int) + 1) = (q' : Int) + 1:=by rw [IntKind.wrap_i64]; omega
   obtain ⟨S,hS⟩ : ∃ S,S = sumB bs 0:=⟨_,rfl⟩
   rw [← hS] at HSUM ⊢
   by_cases hsum : c.toNat = S
   ·rw [if_pos hsum]
    have e3 : ((c.toNat : Int) != (S : Int)) = false:=by rw [hsum]; simp
    clear hbeg hN1 hN2 hir hki hrd hs hw0 hits hitk hall hr r7 hkd HITS HFINE hgi hcm0 hc hge hA hlen hbs hsum hS
    go_enter Tryz.func186,Tryz.ntmps186
    go_upto_region 1 with fail
    rw [← HW0.out,HN1.out]
    try rw [HN2.out]
    clear HW0
    go_upto_region 2 with (go_at_call 183; refine (HITN.out _ HBE.out.below).mono ?_; rintro e w7 ⟨⟨cs',rfl,hown⟩,hb7⟩; obtain ⟨ab',cb',ai',ci',rfl⟩:=hown.cells; have HB7:=kq (HBE.out.later hb7); have HOW:=kq hown; have HLE:=kq HBE.out.le; clear hown hb7)
    simp only [ValueV.number,ValueV.bytes,ValueV.items,List.length_nil] at HOW ⊢
    obtain ⟨w8,hw8⟩ : ∃ w8,w8 = w7.alloc (.cells #[.int .i64 0,.slice ab' 0 cb',.slice ai' l.length ci'] 48):=⟨_,rfl⟩
    have hbA:=zb1 hw8
    have hvc:=zk1 hw8
    have HB8:=kq (HB7.out.later hbA)
    have HOW8 : Hid (OwnV (fun b => w0.heap.size ≤ b) (n + 1) (.mk 0 [] l) [.int .i64 0,.slice ab' 0 cb',.slice ai' l.length ci'] w8):=HOW.out.below hbA fun b _ hb => hb
    obtain ⟨v0,-⟩:=hvc 0 _ rfl
    obtain ⟨v1,-⟩:=hvc 1 _ rfl
    obtain ⟨v2,-⟩:=hvc 2 _ rfl
    rw [← hw8]
    obtain ⟨z0,f0⟩:=HB8.out.z 0 _ rfl
    obtain ⟨z1,f1⟩:=HB8.out.z 1 _ rfl
    obtain ⟨z2,f2⟩:=HB8.out.z 2 _ rfl
    have hcm:=cellK HB8.out.below (Nat.le_refl _) HCM.out
    clear HITN HBE HB7 HOW hw8 hbA hvc d0 y0 y1 y2 y3 y4 y5 y6 y7
    go_upto_region 6 with fail
    go_quiet ((go_at_call 188; with_reducible exact quiet_base (HSUM.out _ (below_drewN HB8.out.below _))))
    go_wp2
    (try simp only [Exit.inBlock,Exit.then])
    refine bodyPost_ret (v:=.tuple #[.agg #[.int .i64 0,.slice ab' 0 cb',.slice ai' l.length ci'],.int .i64 ((q' : Int) + 1),.int .i64 0]) ?_ rfl ?_
    ·simp [results,Tryz.results186,go_sem,z0,z1,z2]
    ·exact sret_ok (X:=w0.heap.size) (v:=.mk 0 [] l) (cs:=[.int .i64 0,.slice ab' 0 cb',.slice ai' l.length ci']) (Int.natCast_add q' 1).symm (below_drewN HB8.out.below _) (HOW8.out.below (below_drewN (Below.refl _ _) _) fun b _ hb => hb) HLE.out hZ2 _ _ _
   ·rw [if_neg hsum]
    have e3 : ((c.toNat : Int) != (S : Int)) = true:=by rw [bne_iff_ne]; omega
    clear hbeg hN1 hN2 hir hki hrd hs hw0 hits hitk hall hr r7 hkd HITS HFINE hgi hcm0 hc hge hA hlen hbs hsum hS
    go_enter Tryz.func186,Tryz.ntmps186
    go_upto_region 1 with fail
    rw [← HW0.out,HN1.out]
    try rw [HN2.out]
    clear HW0
    go_upto_region 2 with (go_at_call 183; refine (HITN.out _ HBE.out.below).mono ?_; rintro e w7 ⟨⟨cs',rfl,hown⟩,hb7⟩; obtain ⟨ab',cb',ai',ci',rfl⟩:=hown.cells; have HB7:=kq (HBE.out.later hb7); have HOW:=kq hown; have HLE:=kq HBE.out.le; clear hown hb7)
    simp only [ValueV.number,ValueV.bytes,ValueV.items,List.length_nil] at HOW ⊢
    obtain ⟨w8,hw8⟩ : ∃ w8,w8 = w7.alloc (.cells #[.int .i64 0,.slice ab' 0 cb',.slice ai' l.length ci'] 48):=⟨_,rfl⟩
    have hbA:=zb1 hw8
    have hvc:=zk1 hw8
    have HB8:=kq (HB7.out.later hbA)
    have HOW8 : Hid (OwnV (fun b => w0.heap.size ≤ b) (n + 1) (.mk 0 [] l) [.int .i64 0,.slice ab' 0 cb',.slice ai' l.length ci'] w8):=HOW.out.below hbA fun b _ hb => hb
    obtain ⟨v0,-⟩:=hvc 0 _ rfl
    obtain ⟨v1,-⟩:=hvc 1 _ rfl
    obtain ⟨v2,-⟩:=hvc 2 _ rfl
    rw [← hw8]
    obtain ⟨z0,f0⟩:=HB8.out.z 0 _ rfl
    obtain ⟨z1,f1⟩:=HB8.out.z 1 _ rfl
    obtain ⟨z2,f2⟩:=HB8.out.z 2 _ rfl
    have hcm:=cellK HB8.out.below (Nat.le_refl _) HCM.out
    clear HITN HBE HB7 HOW hw8 hbA hvc d0 y0 y1 y2 y3 y4 y5 y6 y7
    go_upto_region 6 with fail
    go_quiet ((go_at_call 188; with_reducible exact quiet_base (HSUM.out _ (below_drewN HB8.out.below _))))
    go_wp2
    (try simp only [Exit.inBlock,Exit.then])
    refine bodyPost_ret (v:=.tuple #[.agg #[.int .i64 0,.slice none 0 0,.slice none 0 0],.int .i64 (q' : Int),.int .i64 5]) ?_ rfl ?_
    ·simp [results,Tryz.results186,go_sem,z0,z1,z2]
    ·exact sgot_bad (c:=5) rfl (below3 (below_drewN HB8.out.below _) hZ2 _ _ _)
  ·have hge : L[q']? = none:=List.getElem?_eq_none (by omega)
   rw [gotSum_none hge]
   have k1 : (q' : Int) ≥ (L.length : Int):=by omega
   clear hbeg hN1 hN2 hir hki hrd hs hw0 hits hitk hall hr r7 hkd HITS HFINE hgi hge
   go_enter Tryz.func186,Tryz.ntmps186
   go_upto_region 1 with fail
   rw [← HW0.out,HN1.out]
   try rw [HN2.out]
   clear HW0
   go_upto_region 2 with (go_at_call 183; refine (HITN.out _ HBE.out.below).mono ?_; rintro e w7 ⟨⟨cs',rfl,hown⟩,hb7⟩; obtain ⟨ab',cb',ai',ci',rfl⟩:=hown.cells; have HB7:=kq (HBE.out.later hb7); clear hown hb7)
   simp only [ValueV.number,ValueV.bytes,ValueV.items,List.length_nil]
   have zA0 : ∀ o,(w7.alloc o).cell? ⟨N2,0,none⟩ = some (.int .i64 0):=fun o => (HB7.out.z.below ((Below.refl _ _).alloc (Nat.le_refl _) o) 0 _ rfl).1
   have fA0 : ∀ o,(w7.alloc o).frozen? ⟨N2,0,none⟩ = false:=fun o => (HB7.out.z.below ((Below.refl _ _).alloc (Nat.le_refl _) o) 0 _ rfl).2
   have zA1 : ∀ o,(w7.alloc o).cell? ⟨N2,1,none⟩ = some (.slice none 0 0):=fun o => (HB7.out.z.below ((Below.refl _ _).alloc (Nat.le_refl _) o) 1 _ rfl).1
   have fA1 : ∀ o,(w7.alloc o).frozen? ⟨N2,1,none⟩ = false:=fun o => (HB7.out.z.below ((Below.refl _ _).alloc (Nat.le_refl _) o) 1 _ rfl).2
   have zA2 : ∀ o,(w7.alloc o).cell? ⟨N2,2,none⟩ = some (.slice none 0 0):=fun o => (HB7.out.z.below ((Below.refl _ _).alloc (Nat.le_refl _) o) 2 _ rfl).1
   have fA2 : ∀ o,(w7.alloc o).frozen? ⟨N2,2,none⟩ = false:=fun o => (HB7.out.z.below ((Below.refl _ _).alloc (Nat.le_refl _) o) 2 _ rfl).2
   clear HITN HBE d0 y0 y1 y2 y3 y4 y5 y6 y7
   go_wp2
   (try simp only [Exit.inBlock,Exit.then])
   refine bodyPost_ret (v:=.tuple #[.agg #[.int .i64 0,.slice none 0 0,.slice none 0 0],.int .i64 (q' : Int),.int .i64 1]) ?_ rfl ?_
   ·simp [results,Tryz.results186,go_sem,zA0,zA1,zA2]
   ·exact sgot_bad (c:=1) rfl (below3 (HB7.out.later ((Below.refl _ _).alloc (Nat.le_refl _) _)).below hZ2 _ _ _)

end Go.Proofs.YtefkhknfjohnaaaGreatDoor
