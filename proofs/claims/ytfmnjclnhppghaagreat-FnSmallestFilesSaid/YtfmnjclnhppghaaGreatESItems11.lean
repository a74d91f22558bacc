/- The model's l11Items, out of l11Read's. -/
import Derived.Test.YtfmnjclnhppghaaGreatEMA
import Derived.Test.YtfmnjclnhppghaaGreatEM7
import Derived.Test.YtfmnjclnhppghaaGreatEQW
namespace Go.Proofs.YtfmnjclnhppghaaGreat
open Go Go.RowKit
theorem wp_pushW {ops : Array Oper} {rest : List Oper} {o : Oper} {A : Act} {Q : Exit → Act → World → Prop} (hgd : o.guard = none) (s x : Operand)
  (ho : o.op = .call { callee:=.builtin .append,args:=#[s,x],argTypes:=#[27,27] })
  (n base : Nat) (v : Value) (vs : List ValueV) (y : ValueV) (cs : List Value) (w : World) (hsv : A.eval s = v) (hxv : A.eval x = .slice (some ⟨w.heap.size,0,none⟩) 1 1)
  (hrow : RowV n base v vs w) (hy : OwnV (fun b => base ≤ b ∧ some b ≠ v.ownBlock) n y cs w) (hl : vs.length ≤ 1048576) (hbase : base ≤ w.heap.size)
  (h : ∀ v' w',RowV n base v' (vs ++ [y]) w' → w.grownBy w' v.ownBlock → wpList Tryz.prog ops Q rest (A.put o.dst v') w') :
  wpList Tryz.prog ops Q (o :: rest) A (w.alloc (.cells cs.toArray 29)):=by
 refine wpList_plain hgd fun K hK => ?_
 obtain ⟨v',w',hrun,h2,h3,_⟩:=run_pushV o.type n base v vs y cs w hrow hy hl hbase
 unfold Oper.wp
 simp [execOp,ho,resolve,invoke,builtin,hsv,hxv,hrun,Result.andThen]
 exact hK _ _ (h v' w' h2 h3)
def SReadC11 (a ab : Option Addr) (rs : List RuleV) (cap cb : Nat) (L : List UInt8) (n : Nat) : Prop :=
 ∀ (k p : Nat) (w : World),k < rs.length → k < n → p ≤ L.length → RdR a rs w → SrcB ab L cb w →
  Calls Tryz.prog 44 #[.agg #[.slice a rs.length cap],.int .i64 (k : Int),.slice ab L.length cb,.int .i64 (p : Int)] w (SGot n (parseB rs L n (k : Int) p) w)
def SItemsC11 (a ab : Option Addr) (rs : List RuleV) (cap cb : Nat) (L : List UInt8) (n : Nat) : Prop :=
 ∀ (r : RuleV) (cs : List Value) (x : Int) (count p : Nat) (w : World),kindI rs r = true → count ≤ 40 → (∀ i,i < count → ∃ m : Nat,itemR r x i = (m : Int) ∧ m < rs.length ∧ m < n) → p ≤ L.length → RdR a rs w → SrcB ab L cb w → IsRule r cs w →
  Calls Tryz.prog 91 #[.agg #[.slice a rs.length cap],.agg cs.toArray,.int .i64 x,.int .i64 (count : Int),.slice ab L.length cb,.int .i64 (p : Int)] w (SGot (n + 1) ((gotItems (parseB rs L n) r x count [] p).to fun l => .mk 0 [] l) w)
structure LiSt (n : Nat) (dc rc : List Value) (V : Value) (acc : List ValueV) (w : World) (N1 N2 N3 B : Nat) (W : World) : Prop where
 d : CellsAt w.heap.size dc W
 r : CellsAt N1 rc W
 z : CellsAt N2 [.int .i64 0,.slice none 0 0,.slice none 0 0] W
 v : CellsAt N3 [.int .i64 0,.slice none 0 0,V] W
 row : RowV n B V acc W
 below : Below w.heap.size w W
 n1 : w.heap.size < N1
 n2 : N1 < N2
 n3 : N2 < N3
 n4 : N3 < B
 le : B ≤ W.heap.size
theorem LiSt.later {n : Nat} {dc rc : List Value} {V : Value} {acc : List ValueV} {w W W' : World} {N1 N2 N3 B : Nat} (h : LiSt n dc rc V acc w N1 N2 N3 B W) (hb : Below W.heap.size W W') : LiSt n dc rc V acc w N1 N2 N3 B W' :=
 ⟨h.d.below hb,h.r.below hb,h.z.below hb,h.v.below hb,h.row.below hb,h.below.trans (hb.mono h.below.size),h.n1,h.n2,h.n3,h.n4,Nat.le_trans h.le hb.size⟩
theorem LiSt.vcell {n : Nat} {dc rc : List Value} {V : Value} {acc : List ValueV} {w W W' : World} {N1 N2 N3 B : Nat} (h : LiSt n dc rc V acc w N1 N2 N3 B W) (hg : W.grownBy W' V.ownBlock) : CellsAt N3 [.int .i64 0,.slice none 0 0,V] W' :=
 h.v.grown hg fun e => by have:=(h.row.own _ e.symm).1; have:=h.n4; omega
theorem LiSt.push {n : Nat} {dc rc : List Value} {V V' : Value} {acc acc' : List ValueV} {w W W' : World} {N1 N2 N3 B : Nat} (h : LiSt n dc rc V acc w N1 N2 N3 B W) (hg : W.grownBy W' V.ownBlock) (hrow : RowV n B V' acc' W') :
  LiSt n dc rc V' acc' w N1 N2 N3 B (W'.setCell ⟨N3,2,none⟩ V'):=by
 have hown:=fun g e => (h.row.own g e).1
 have h1:=h.n1
 have h2:=h.n2
 have h3:=h.n3
 have h4:=h.n4
 have hq:=(h.vcell hg).set 2 V' (by simp)
 simp only [List.set] at hq
 have hs:=hg.size
 have hle:=h.le
 have hgs : W'.grownBy (W'.setCell ⟨N3,2,none⟩ V') (some N3):=grown_set (grown_refl W' N3) 2 V'
 refine ⟨(h.d.grown hg fun e => ?_).far (by omega),(h.r.grown hg fun e => ?_).far (by omega),(h.z.grown hg fun e => ?_).far (by omega),hq,?_,?_,h1,h2,h3,h4,by simp; omega⟩
 ·have:=hown _ e.symm; omega
 ·have:=hown _ e.symm; omega
 ·have:=hown _ e.symm; omega
 ·exact hrow.grown hgs fun k e => by injection e with e; omega
 ·exact (h.below.grown hg h.below.size fun k e => by have:=hown k e; omega).setCell (p:=⟨N3,2,none⟩) (by show w.heap.size ≤ N3; omega) _
theorem LiSt.fin {n : Nat} {dc rc : List Value} {V : Value} {acc : List ValueV} {w W : World} {N1 N2 N3 B : Nat} (h : LiSt n dc rc V acc w N1 N2 N3 B W) (u0 u1 u2 : Value) :
  let W':=((W.setCell ⟨N2,0,none⟩ u0).setCell ⟨N2,1,none⟩ u1).setCell ⟨N2,2,none⟩ u2
  OwnV (fun b => w.heap.size ≤ b) (n + 1) (.mk 0 [] acc) [.int .i64 0,.slice none 0 0,V] W' ∧ Below w.heap.size w W':=by
 have hgs : W.grownBy (((W.setCell ⟨N2,0,none⟩ u0).setCell ⟨N2,1,none⟩ u1).setCell ⟨N2,2,none⟩ u2) (some N2):=grown_set (grown_set (grown_set (grown_refl W _) 0 _) 1 _) 2 _
 obtain ⟨a,cap,rfl,hit⟩:=h.row.items
 have h1:=h.n1
 have h2:=h.n2
 have h3:=h.n3
 have h4:=h.n4
 have ho : OwnV (fun b => B ≤ b) (n + 1) (.mk 0 [] acc) [.int .i64 0,.slice none 0 0,.slice a acc.length cap] W:=by
  refine ⟨none,0,a,cap,rfl,RdN.nil0 _,fun b off e hn => (by cases e),fun j hj => ?_⟩
  obtain ⟨b,off,cs',e,hB,ho,hc⟩:=hit j hj
  exact ⟨b,off,cs',e,by omega,ho.mono fun b _ h => by omega,hc⟩
 exact ⟨ho.grown hgs fun b _ hb => ⟨by omega,fun e => by injection e with e; omega⟩,below3 h.below (by omega) _ _ _⟩
def XAt (n : Nat) (wr : World) (v : ValueV) (cs : List Value) (N : Nat) (W : World) : Prop:=wr.heap.size ≤ N ∧ CellsAt N cs W ∧ Below wr.heap.size wr W ∧ OwnV (fun b => wr.heap.size ≤ b ∧ b ≠ N) n v cs W
theorem xat_new {n : Nat} {wr w6 : World} {v : ValueV} {cs : List Value} {X : Nat} (hown : OwnV (fun b => X ≤ b) n v cs w6) (hX : wr.heap.size ≤ X) (hb : Below wr.heap.size wr w6) (t : TypeId) : XAt n wr v cs w6.heap.size (w6.alloc (.cells cs.toArray t)):=by
 have hb2 : Below w6.heap.size w6 (w6.alloc (.cells cs.toArray t)):=(Below.refl _ _).alloc (Nat.le_refl _) _
 exact ⟨hb.size,CellsAt.new w6 cs t,hb.trans (hb2.mono hb.size),hown.below hb2 fun b hb1 hb2 => ⟨by omega,by omega⟩⟩
theorem xat_set {n N X : Nat} {wr w6 : World} {v : ValueV} {c0 c1 c2 : Value} (hown : OwnV (fun b => X ≤ b) n v [c0,c1,c2] w6) (hN : N < X) (hNw : wr.heap.size ≤ N) (hz : CellsAt N [.int .i64 0,.slice none 0 0,.slice none 0 0] w6) (hb : Below wr.heap.size wr w6) :
  XAt n wr v [c0,c1,c2] N (((w6.setCell ⟨N,0,none⟩ c0).setCell ⟨N,1,none⟩ c1).setCell ⟨N,2,none⟩ c2):=by
 have hc:=((hz.set 0 c0 (by simp)).set 1 c1 (by simp)).set 2 c2 (by simp)
 simp only [List.set] at hc
 exact ⟨hNw,hc,below3 hb hNw _ _ _,OwnV.set3 (hown.mono (g:=fun b => X ≤ b ∧ b ≠ N) fun b _ h => ⟨h,by omega⟩) (fun b h => h.2) _ _ _ |>.mono fun b _ h => ⟨by omega,h.2⟩⟩
set_option maxRecDepth 100000 in
set_option maxHeartbeats 8000000 in
theorem sitems11_step (a ab : Option Addr) (rs : List RuleV) (cap cb : Nat) (L : List UInt8) (n : Nat) (hall : allV (kindI rs) rs) (ih : SReadC11 a ab rs cap cb L n) : SItemsC11 a ab rs cap cb L n:=by
  intro r cs x count p w hki hcount hit hp hrd hs hir
  have hir2:=hir
  obtain ⟨a4,c4,a5,c5,a6,c6,a7,c7,rfl,-⟩:=hir2
  obtain ⟨w0,hw0⟩ : ∃ w0,w0 = ((w.alloc (.cells #[.slice a rs.length cap] 26)).alloc (.cells #[.string r.name,.int .i64 r.kind,.int .i64 r.size,.bool r.little,.slice a4 r.bytes.length c4,.slice a5 r.names.length c5,.slice a6 r.tags.length c6,.slice a7 r.kids.length c7] 47)).alloc (.cells #[.int .i64 0,.slice none 0 0,.slice none 0 0] 29):=⟨_,rfl⟩
  obtain ⟨w1,hw1⟩ : ∃ w1,w1 = w0.alloc (.cells #[.int .i64 0,.slice none 0 0,.slice none 0 0] 29):=⟨_,rfl⟩
  have hB : Below w.heap.size w w1:=by subst hw1 hw0; exact ((((Below.refl _ _).alloc (Nat.le_refl _) _).alloc (by simp) _).alloc (by simp; omega) _).alloc (by simp; omega) _
  have hz0 : w0.heap.size = w.heap.size + 3:=by subst hw0; simp
  have hz1 : w1.heap.size = w.heap.size + 4:=by subst hw1; simp [hz0]
  have hst : LiSt n [.slice a rs.length cap] [.string r.name,.int .i64 r.kind,.int .i64 r.size,.bool r.little,.slice a4 r.bytes.length c4,.slice a5 r.names.length c5,.slice a6 r.tags.length c6,.slice a7 r.kids.length c7] (.slice none 0 0) [] w (w.heap.size + 1) (w.heap.size + 2) w0.heap.size w1.heap.size w1:=by
    subst hw1 hw0
    refine ⟨?_,?_,?_,CellsAt.new _ _ _,RowV.start _ _ _,hB,by omega,by omega,by rw [hz0]; omega,by omega,Nat.le_refl _⟩
    · exact (((CellsAt.new w _ _).below ((Below.refl _ _).alloc (Nat.le_refl _) _)).below ((Below.refl _ _).alloc (Nat.le_refl _) _)).below ((Below.refl _ _).alloc (Nat.le_refl _) _)
    · have h1:=CellsAt.new (w.alloc (.cells #[.slice a rs.length cap] 26)) [.string r.name,.int .i64 r.kind,.int .i64 r.size,.bool r.little,.slice a4 r.bytes.length c4,.slice a5 r.names.length c5,.slice a6 r.tags.length c6,.slice a7 r.kids.length c7] 47
      rw [World.size_alloc] at h1
      exact (h1.below ((Below.refl _ _).alloc (Nat.le_refl _) _)).below ((Below.refl _ _).alloc (Nat.le_refl _) _)
    · have h1:=CellsAt.new ((w.alloc (.cells #[.slice a rs.length cap] 26)).alloc (.cells #[.string r.name,.int .i64 r.kind,.int .i64 r.size,.bool r.little,.slice a4 r.bytes.length c4,.slice a5 r.names.length c5,.slice a6 r.tags.length c6,.slice a7 r.kids.length c7] 47)) [.int .i64 0,.slice none 0 0,.slice none 0 0] 29
      rw [World.size_alloc,World.size_alloc] at h1
      exact h1.below ((Below.refl _ _).alloc (Nat.le_refl _) _)
  obtain ⟨N1,hN1⟩ : ∃ N1,N1 = w.heap.size + 1:=⟨_,rfl⟩
  obtain ⟨N2,hN2⟩ : ∃ N2,N2 = w.heap.size + 2:=⟨_,rfl⟩
  obtain ⟨N3,hN3⟩ : ∃ N3,N3 = w0.heap.size:=⟨_,rfl⟩
  obtain ⟨B,hB4⟩ : ∃ B,B = w1.heap.size:=⟨_,rfl⟩
  rw [← hN1,← hN2,← hN3,← hB4] at hst
  obtain ⟨F,hF⟩ : ∃ F,F = gotItems (parseB rs L n) r x count [] p:=⟨_,rfl⟩
  rw [← hF]
  have HF : Hid (F = gotItems (parseB rs L n) r x (count - ([] : List ValueV).length) [] p):=hF
  have HST:=kq hst
  have HN1:=kq hN1.symm
  have HN2 : Hid (N1 + 1 = N2):=by show _ = _; omega
  have HN3:=kq hN3.symm
  have HRD:=kq hrd
  have HS:=kq hs
  have HIR:=kq hir
  have HKI:=kq hki
  have HIT:=kq hit
  have HIH:=kq ih
  have HALL:=kq hall
  have HW0:=kq hw0
  have HW1:=kq hw1
  clear hst hN1 hN2 hN3 hB4 hrd hs hir hki hit ih hall hw0 hw1 hz0 hz1 hB hF
  go_enter Tryz.func91,Tryz.ntmps91
  go_upto_region 1 with fail
  rw [← HW0.out,HN1.out]
  try rw [HN2.out]
  go_upto_region 2 with fail
  rw [← HW1.out,HN3.out]
  clear HW0 HW1
  go_wp2
  go_loopw [5,16] (fun pv iv W => ∃ (q k : Nat) (V : Value) (acc : List ValueV),pv = .int .i64 (q : Int) ∧ iv = .int .i64 (k : Int) ∧ k ≤ count ∧ q ≤ L.length ∧ Hid (acc.length = k) ∧ Hid (LiSt n [.slice a rs.length cap] [.string r.name,.int .i64 r.kind,.int .i64 r.size,.bool r.little,.slice a4 r.bytes.length c4,.slice a5 r.names.length c5,.slice a6 r.tags.length c6,.slice a7 r.kids.length c7] V acc w N1 N2 N3 B W) ∧ Hid (F = gotItems (parseB rs L n) r x (count - k) acc q)) (fun _ iv _ => count - (intOf iv).toNat)
  case atStart => exact ⟨p,0,_,[],rfl,rfl,Nat.zero_le _,hp,rfl,HST,HF⟩
  case round =>
    clear HST HF
    obtain ⟨q,k,V,acc,rfl,rfl,hkc,hq,HL,HST,HF⟩:=hrel
    have k0 : (0 : Int) ≤ (k : Int):=by omega
    by_cases hlt : k < count
    · have k1 : (k : Int) < (count : Int):=by omega
      obtain ⟨m,hm,hmr,hmn⟩:=HIT.out k hlt
      have HM:=kq hm
      have hstep:=HF.out
      rw [show count - k = (count - (k + 1)) + 1 from by omega,gotItems,HL.out,hm] at hstep
      have hfine:=parse_fine HALL.out L n m hmr hmn q hq
      have HBW:=kq HST.out.below
      have HSW : Hid (∀ W,Below wr.heap.size wr W → W.cell? ⟨w.heap.size,0,none⟩ = some (.slice a rs.length cap) ∧ W.cell? ⟨N1,0,none⟩ = some (.string r.name) ∧ W.cell? ⟨N1,1,none⟩ = some (.int .i64 r.kind) ∧ W.cell? ⟨N1,2,none⟩ = some (.int .i64 r.size) ∧ W.cell? ⟨N1,3,none⟩ = some (.bool r.little) ∧ W.cell? ⟨N1,4,none⟩ = some (.slice a4 r.bytes.length c4) ∧ W.cell? ⟨N1,5,none⟩ = some (.slice a5 r.names.length c5) ∧ W.cell? ⟨N1,6,none⟩ = some (.slice a6 r.tags.length c6) ∧ W.cell? ⟨N1,7,none⟩ = some (.slice a7 r.kids.length c7)):=fun W hb => by
        have hd:=HST.out.d.below hb
        have hr:=HST.out.r.below hb
        exact ⟨(hd 0 _ rfl).1,(hr 0 _ rfl).1,(hr 1 _ rfl).1,(hr 2 _ rfl).1,(hr 3 _ rfl).1,(hr 4 _ rfl).1,(hr 5 _ rfl).1,(hr 6 _ rfl).1,(hr 7 _ rfl).1⟩
      have HZC:=kq HST.out.z
      obtain ⟨g,hg⟩ : ∃ g,g = parseB rs L n (m : Int) q:=⟨_,rfl⟩
      have HIHM : Hid (∀ W,Below w.heap.size w W → Calls Tryz.prog 44 #[.agg #[.slice a rs.length cap],.int .i64 (m : Int),.slice ab L.length cb,.int .i64 (q : Int)] W (SGot n g W)):=fun W hb => by rw [hg]; exact HIH.out m q W hmr hmn hq (HRD.out.below hb) (HS.out.below hb)
      have HIT5 : Hid (∀ W,Below w.heap.size w W → Calls Tryz.prog 121 #[.agg #[.string r.name,.int .i64 r.kind,.int .i64 r.size,.bool r.little,.slice a4 r.bytes.length c4,.slice a5 r.names.length c5,.slice a6 r.tags.length c6,.slice a7 r.kids.length c7],.int .i64 x,.int .i64 (k : Int)] W fun e w' => e = .returned (.int .i64 (m : Int)) ∧ Below W.heap.size W w'):=fun W hb => by rw [← HM.out]; exact item_spec rs r _ x k W (by omega) HKI.out (HIR.out.below hb)
      rw [← hg] at hstep hfine
      have HW0 : Hid (Below wr.heap.size wr wr.drew):=below_drewN (Below.refl _ _) 1
      clear hg hm
      cases g with
      | bad q' c' =>
        have HE:=kq hstep
        obtain ⟨hq2,hc1,hc2⟩:=hfine
        clear hstep HF
        go_upto_region 5 with fail
        go_cut [17,18,19] from 21 to 49 (fun px nx cx W => nx = .int .i64 (q' : Int) ∧ cx = .int .i64 (c' : Int) ∧ Hid (Below wr.heap.size wr W))
        case first =>
          go_region_held3 (fun W => W.cell? ⟨w.heap.size,0,none⟩ = some (.slice a rs.length cap) ∧ W.cell? ⟨N1,0,none⟩ = some (.string r.name) ∧ W.cell? ⟨N1,1,none⟩ = some (.int .i64 r.kind) ∧ W.cell? ⟨N1,2,none⟩ = some (.int .i64 r.size) ∧ W.cell? ⟨N1,3,none⟩ = some (.bool r.little) ∧ W.cell? ⟨N1,4,none⟩ = some (.slice a4 r.bytes.length c4) ∧ W.cell? ⟨N1,5,none⟩ = some (.slice a5 r.names.length c5) ∧ W.cell? ⟨N1,6,none⟩ = some (.slice a6 r.tags.length c6) ∧ W.cell? ⟨N1,7,none⟩ = some (.slice a7 r.kids.length c7)) (exact HSW.out _ (by first | exact HW0.out | exact HW0.out.alloc HW0.out.size _ | exact below3 HW0.out (by assumption) _ _ _)) (first
            | (go_at_call 121
               refine (HIT5.out _ (HBW.out.trans (Below.mono (by first | exact HW0.out | exact HW0.out.alloc HW0.out.size _) HBW.out.size))).mono ?_
               rintro e w5 ⟨rfl,hb5⟩
               first
                 | (have hb5':=HW0.out.trans (hb5.mono HW0.out.size); clear hb5; replace HW0:=kq hb5')
                 | (have hb5':=(HW0.out.alloc HW0.out.size _).trans (hb5.mono (HW0.out.alloc HW0.out.size _).size); have HNB : Hid (CellsAt wr.heap.size [.int .i64 0,.slice none 0 0,.slice none 0 0] w5):=(CellsAt.new wr.drew [.int .i64 0,.slice none 0 0,.slice none 0 0] 29).below hb5; have hnb:=Nat.le_refl wr.heap.size; clear hb5; replace HW0:=kq hb5'))
            | (go_at_call 44
               refine (HIHM.out _ (HBW.out.trans (Below.mono (by first | exact HW0.out | exact HW0.out.alloc HW0.out.size _) HBW.out.size))).mono ?_
               rintro e w6 ⟨rfl,hb6⟩
               first
                 | (have HNB6:=kq (HNB.out.below hb6); have hb6':=HW0.out.trans (hb6.mono HW0.out.size); clear hb6 HNB; obtain ⟨z0,f0⟩:=HNB6.out 0 _ rfl; obtain ⟨z1,f1⟩:=HNB6.out 1 _ rfl; obtain ⟨z2,f2⟩:=HNB6.out 2 _ rfl; replace HW0:=kq hb6')
                 | (have hb6':=HW0.out.trans (hb6.mono HW0.out.size); clear hb6; replace HW0:=kq hb6')
                 | (have hb6':=(HW0.out.alloc HW0.out.size _).trans (hb6.mono (HW0.out.alloc HW0.out.size _).size); have HNB6 : Hid (CellsAt w5.heap.size [.int .i64 0,.slice none 0 0,.slice none 0 0] w6):=(CellsAt.new w5 [.int .i64 0,.slice none 0 0,.slice none 0 0] 29).below hb6; have hnb:=HW0.out.size; clear hb6; obtain ⟨z0,f0⟩:=HNB6.out 0 _ rfl; obtain ⟨z1,f1⟩:=HNB6.out 1 _ rfl; obtain ⟨z2,f2⟩:=HNB6.out 2 _ rfl; replace HW0:=kq hb6')))
          all_goals go_wp2_with fail
          all_goals go_meet
          all_goals exact ⟨rfl,rfl,(by first | exact HW0.out | exact HW0.out.alloc HW0.out.size _ | exact below3 HW0.out (by assumption) _ _ _)⟩
        case rest =>
          obtain ⟨rfl,rfl,HBC⟩:=hcut
          have HZ9:=kq (HZC.out.below HBC.out)
          obtain ⟨z0,f0⟩:=HZ9.out 0 _ rfl
          obtain ⟨z1,f1⟩:=HZ9.out 1 _ rfl
          obtain ⟨z2,f2⟩:=HZ9.out 2 _ rfl
          have hc0 : ¬ (c' : Int) = 0:=by omega
          have HNW:=kq (show w.heap.size ≤ N2 from by have h1:=HST.out.n1; have h2:=HST.out.n2; omega)
          have HFB:=kq (HBW.out.trans (HBC.out.mono HBW.out.size))
          clear HST HSW HIHM HIT5 HW0 HBC HZ9
          go_wp2
          (try simp only [Exit.inBlock,Exit.then])
          refine bodyPost_ret (v:=.tuple #[.agg #[.int .i64 0,.slice none 0 0,.slice none 0 0],.int .i64 (q' : Int),.int .i64 (c' : Int)]) ?_ rfl ?_
          · simp [results,Tryz.results91,go_sem,z0,z1,z2]
          · rw [HE.out]
            exact sgot_bad rfl (below3 HFB.out HNW.out _ _ _)
      | ok v q' =>
        obtain ⟨hq1,hq2⟩:=hfine
        have HE:=kq hstep
        have HOW:=kq HST.out.row.own
        clear hstep HF
        go_upto_region 5 with fail
        go_cut [17,18,19] from 21 to 49 (fun px nx cx W => ∃ (N : Nat) (ab' : Option Addr) (cb' : Nat) (ai' : Option Addr) (ci' : Nat),px = .pointer (some ⟨N,0,none⟩) ∧ nx = .int .i64 (q' : Int) ∧ cx = .int .i64 0 ∧ Hid (XAt n wr v [.int .i64 v.number,.slice ab' v.bytes.length cb',.slice ai' v.items.length ci'] N W))
        case first =>
          go_region_held3 (fun W => W.cell? ⟨w.heap.size,0,none⟩ = some (.slice a rs.length cap) ∧ W.cell? ⟨N1,0,none⟩ = some (.string r.name) ∧ W.cell? ⟨N1,1,none⟩ = some (.int .i64 r.kind) ∧ W.cell? ⟨N1,2,none⟩ = some (.int .i64 r.size) ∧ W.cell? ⟨N1,3,none⟩ = some (.bool r.little) ∧ W.cell? ⟨N1,4,none⟩ = some (.slice a4 r.bytes.length c4) ∧ W.cell? ⟨N1,5,none⟩ = some (.slice a5 r.names.length c5) ∧ W.cell? ⟨N1,6,none⟩ = some (.slice a6 r.tags.length c6) ∧ W.cell? ⟨N1,7,none⟩ = some (.slice a7 r.kids.length c7)) (exact HSW.out _ (by first | exact HW0.out | exact HW0.out.alloc HW0.out.size _ | exact below3 HW0.out (by assumption) _ _ _)) (first
            | (go_at_call 121
               refine (HIT5.out _ (HBW.out.trans (Below.mono (by first | exact HW0.out | exact HW0.out.alloc HW0.out.size _) HBW.out.size))).mono ?_
               rintro e w5 ⟨rfl,hb5⟩
               first
                 | (have hb5':=HW0.out.trans (hb5.mono HW0.out.size); clear hb5; replace HW0:=kq hb5')
                 | (have hb5':=(HW0.out.alloc HW0.out.size _).trans (hb5.mono (HW0.out.alloc HW0.out.size _).size); have HNB : Hid (CellsAt wr.heap.size [.int .i64 0,.slice none 0 0,.slice none 0 0] w5):=(CellsAt.new wr.drew [.int .i64 0,.slice none 0 0,.slice none 0 0] 29).below hb5; have hnb:=Nat.le_refl wr.heap.size; clear hb5; replace HW0:=kq hb5'))
            | (go_at_call 44
               refine (HIHM.out _ (HBW.out.trans (Below.mono (by first | exact HW0.out | exact HW0.out.alloc HW0.out.size _) HBW.out.size))).mono ?_
               rintro e w6 ⟨⟨cs',rfl,hown⟩,hb6⟩
               obtain ⟨ab',cb',ai',ci',rfl⟩:=hown.cells
               first
                 | (have HNB6:=kq (HNB.out.below hb6); have HOS:=kq hown; have HNX:=kq (cell_lt (HNB.out 0 _ rfl).1); clear hown; have hb6':=HW0.out.trans (hb6.mono HW0.out.size); clear hb6 HNB; obtain ⟨z0,f0⟩:=HNB6.out 0 _ rfl; obtain ⟨z1,f1⟩:=HNB6.out 1 _ rfl; obtain ⟨z2,f2⟩:=HNB6.out 2 _ rfl; replace HW0:=kq hb6')
                 | (have hb6':=HW0.out.trans (hb6.mono HW0.out.size); have HOC:=kq hown; have HXC:=kq HW0.out.size; clear hb6 hown; replace HW0:=kq hb6')
                 | (have hb6':=(HW0.out.alloc HW0.out.size _).trans (hb6.mono (HW0.out.alloc HW0.out.size _).size); have HNB6 : Hid (CellsAt w5.heap.size [.int .i64 0,.slice none 0 0,.slice none 0 0] w6):=(CellsAt.new w5 [.int .i64 0,.slice none 0 0,.slice none 0 0] 29).below hb6; have hnb:=HW0.out.size; have HOS:=kq hown; have HNX : Hid (w5.heap.size < (w5.alloc (.cells #[.int .i64 0,.slice none 0 0,.slice none 0 0] 29)).heap.size):=(by show _ < _; simp); clear hb6 hown; obtain ⟨z0,f0⟩:=HNB6.out 0 _ rfl; obtain ⟨z1,f1⟩:=HNB6.out 1 _ rfl; obtain ⟨z2,f2⟩:=HNB6.out 2 _ rfl; replace HW0:=kq hb6')))
          all_goals go_wp2_with fail
          all_goals go_meet
          all_goals first
            | exact ⟨_,ab',cb',ai',ci',rfl,rfl,rfl,xat_set HOS.out HNX.out (by assumption) HNB6.out HW0.out⟩
            | exact ⟨_,ab',cb',ai',ci',rfl,rfl,rfl,xat_new HOC.out HXC.out HW0.out _⟩
        case rest =>
          obtain ⟨N,ab',cb',ai',ci',rfl,rfl,rfl,HX⟩:=hcut
          obtain ⟨hN,hxc,hbc,hxo⟩:=HX.out
          have HSC:=kq (HST.out.later hbc)
          have HXO : Hid (OwnV (fun b => B ≤ b ∧ some b ≠ V.ownBlock) n v [.int .i64 v.number,.slice ab' v.bytes.length cb',.slice ai' v.items.length ci'] wc):=hxo.mono fun b _ h => ⟨by have:=HST.out.le; omega,fun e => by have:=(HOW.out b e.symm).2; omega⟩
          obtain ⟨xv,cv,rfl⟩:=HST.out.row.slice
          obtain ⟨x0,-⟩:=hxc 0 _ rfl
          obtain ⟨x1,-⟩:=hxc 1 _ rfl
          obtain ⟨x2,-⟩:=hxc 2 _ rfl
          obtain ⟨o2,-⟩:=HSC.out.v 2 _ rfl
          clear hN hxc hbc hxo HX HST HSW HIHM HIT5 HW0 HZC HBW HOW
          rw [HL.out] at o2
          go_upto_region 8 with fail
          go_wp2_with (at_builtin; refine wp_pushW rfl (.tmp 44) (.tmp 46) rfl n B (.slice xv acc.length cv) acc v [.int .i64 v.number,.slice ab' v.bytes.length cb',.slice ai' v.items.length ci'] wc (by simp [Act.eval,HL.out]) (by simp [Act.eval]) HSC.out.row HXO.out (by rw [HL.out]; omega) HSC.out.le ?_)
          intro v' w8 hrow hg
          obtain ⟨xn,cn,rfl⟩:=hrow.slice
          rw [show (acc ++ [v]).length = k + 1 from by rw [List.length_append,HL.out,List.length_singleton]] at hrow ⊢
          have HS8:=kq (HSC.out.push hg hrow)
          obtain ⟨p2,f2⟩:=HSC.out.vcell hg 2 _ rfl
          have HLN : Hid ((acc ++ [v]).length = k + 1):=by show _ = _; rw [List.length_append,HL.out,List.length_singleton]
          have HFN : Hid (F = gotItems (parseB rs L n) r x (count - (k + 1)) (acc ++ [v]) q'):=HE.out
          have hmeas : count - (k + 1) < count - k:=by omega
          clear HSC HXO hrow hg x0 x1 x2 o2 HL HE
          go_wp2
          go_roundw
          case rel => exact ⟨q',k + 1,.slice xn (k + 1) cn,acc ++ [v],rfl,by go_num,by omega,hq2,HLN,HS8,HFN⟩
          case measure => simp [intOf]; omega
    · have k1 : ¬ (k : Int) < (count : Int):=by omega
      obtain rfl : k = count:=by omega
      have HE : Hid (F = .ok acc q):=by show _ = _; rw [HF.out,Nat.sub_self,gotItems]
      obtain ⟨xv,cv,rfl⟩:=HST.out.row.slice
      obtain ⟨z0,f0⟩:=HST.out.z 0 _ rfl
      obtain ⟨z1,f1⟩:=HST.out.z 1 _ rfl
      obtain ⟨z2,f2⟩:=HST.out.z 2 _ rfl
      have o0:=(HST.out.v 0 _ rfl).1
      have o1:=(HST.out.v 1 _ rfl).1
      have o2:=(HST.out.v 2 _ rfl).1
      have HFI : Hid (∀ u0 u1 u2 : Value,_):=HST.out.fin
      clear HST HF
      go_wp2
      (try simp only [Exit.inBlock,Exit.then])
      refine bodyPost_ret (v:=.tuple #[.agg #[.int .i64 0,.slice none 0 0,.slice xv acc.length cv],.int .i64 (q : Int),.int .i64 0]) ?_ rfl ?_
      · simp [results,Tryz.results91,go_sem,z0,z1,z2]
      · obtain ⟨h1,h2⟩:=HFI.out _ _ _
        rw [HE.out]
        show SGot (n + 1) (.ok (.mk 0 [] acc) q) _ _ _
        exact sgot_ok (cs:=[.int .i64 0,.slice none 0 0,.slice xv acc.length cv]) rfl h1 h2
end Go.Proofs.YtfmnjclnhppghaaGreat
