/- The printer: -/
import Derived.Test.YtefkhknfjohnaaaGreatDoorEGV
import Derived.Test.YtefkhknfjohnaaaGreatDoorEGPu
import Derived.Test.YtefkhknfjohnaaaGreatDoorEGD
import Derived.Deep.CutRange
import Derived.Test.YtefkhknfjohnaaaGreatDoorEGH
import Derived.Test.YtefkhknfjohnaaaGreatDoorEPN
import Derived.Test.YtefkhknfjohnaaaGreatDoorEPE
import Derived.Deep.RegionHeld3
import Derived.Test.YtefkhknfjohnaaaGreatDoorEGT
set_option maxRecDepth 100000
set_option maxHeartbeats 4000000
namespace Go.Proofs.YtefkhknfjohnaaaGreatDoor
open Go Go.RowKit
def prB (pb : Nat) (v : Value) : List Nat:=pb :: v.ownBlock.toList
theorem prB_mem {pb k : Nat} {v : Value} : k ∈ prB pb v ↔ k = pb ∨ v.ownBlock = some k:=by
 unfold prB
 cases v.ownBlock <;> simp [eq_comm]
def PrAt (pb : Nat) (a : Option Addr) (n cap : Nat) (v : Value) (out : List UInt8) (w : World) : Prop :=
 CellsAt pb [.slice a n cap,v] w ∧ OwnB (pb + 1) v out w
structure Moved (pb : Nat) (v : Value) (w : World) (v' : Value) (w' : World) : Prop where
 only : Only (prB pb v) w w'
 own : ∀ k,v'.ownBlock = some k → v.ownBlock = some k ∨ w.heap.size ≤ k
theorem Moved.refl (pb : Nat) (v : Value) (w : World) : Moved pb v w v w:=⟨Only.refl _ _,fun _ h => .inl h⟩
theorem Moved.of_below {pb : Nat} {v : Value} {w w' : World} (h : Below w.heap.size w w') : Moved pb v w v w':=⟨Only.of_below _ h,fun _ h => .inl h⟩
theorem Moved.trans {pb : Nat} {v v1 v2 : Value} {w w1 w2 : World} (h : Moved pb v w v1 w1) (g : Moved pb v1 w1 v2 w2) : Moved pb v w v2 w2:=by
 have hs:=h.only.size
 refine ⟨⟨g.only.os.trans h.only.os,g.only.tape.trans h.only.tape,g.only.output.trans h.only.output,Nat.le_trans hs g.only.size,fun k hk hn => ?_⟩,fun k hk => ?_⟩
 ·refine (g.only.block k (Nat.lt_of_lt_of_le hk hs) fun hm => hn ?_).trans (h.only.block k hk hn)
  rw [prB_mem] at hm ⊢
  rcases hm with e | e
  ·exact .inl e
  ·rcases h.own k e with e | e
   ·exact .inr e
   ·omega
 ·rcases g.own k hk with e | e
  ·exact h.own k e
  ·exact .inr (Nat.le_trans hs e)
theorem Moved.below {pb B : Nat} {v v' : Value} {w0 w w' : World} {out : List UInt8} (g : Moved pb v w v' w') (h : Below B w0 w) (hB : B ≤ w.heap.size) (hp : B ≤ pb) (ho : OwnB (pb + 1) v out w) : Below B w0 w' :=
 g.only.below h hB fun b hb => by
  rcases prB_mem.1 hb with e | e
  ·omega
  ·have:=(World.ownsRow.lt (w:=w) ho b e).1; omega
theorem Moved.cells {pb b : Nat} {v v' : Value} {vs : List Value} {w w' : World} (g : Moved pb v w v' w') (h : CellsAt b vs w) (hb : b ≠ pb) (hv : v.ownBlock ≠ some b) : CellsAt b vs w':=fun i u hu =>
 g.only.cell (fun hm => by rcases prB_mem.1 hm with e | e; exact hb e; exact hv e) (h i u hu)
theorem PrAt.below {pb n cap : Nat} {a : Option Addr} {v : Value} {out : List UInt8} {w w' : World} (h : PrAt pb a n cap v out w) (hb : Below w.heap.size w w') : PrAt pb a n cap v out w' :=
 ⟨h.1.below hb,own_below h.2 hb⟩
theorem PrAt.lt {pb n cap : Nat} {a : Option Addr} {v : Value} {out : List UInt8} {w : World} (h : PrAt pb a n cap v out w) : pb < w.heap.size:=cell_lt (h.1 0 _ rfl).1
theorem PrAt.apart {pb n cap b : Nat} {a : Option Addr} {v : Value} {out : List UInt8} {w : World} (h : PrAt pb a n cap v out w) (hb : b ≤ pb) : v.ownBlock ≠ some b:=fun e => by
 have:=(World.ownsRow.lt (w:=w) h.2 b e).1
 omega
theorem PrAt.new {pb n cap b : Nat} {a : Option Addr} {v : Value} {out : List UInt8} {w : World} (h : PrAt pb a n cap v out w) (hb : w.heap.size ≤ b) : v.ownBlock ≠ some b:=fun e => by
 have:=(World.ownsRow.lt (w:=w) h.2 b e).2
 omega
theorem Moved.new {pb b : Nat} {v v' : Value} {w w' : World} (g : Moved pb v w v' w') (hb : b < w.heap.size) (hv : v.ownBlock ≠ some b) : v'.ownBlock ≠ some b:=fun e => by
 rcases g.own b e with e | e
 ·exact hv e
 ·omega
theorem PrAt.put {pb n cap : Nat} {a : Option Addr} {v v' : Value} {out out' : List UInt8} {w w1 : World} (h : PrAt pb a n cap v out w) (ho : OwnB (pb + 1) v' out' w1) (hg : w.grownBy w1 v.ownBlock) (hown : ∀ k,v'.ownBlock = some k → v.ownBlock = some k ∨ w.heap.size ≤ k) :
  PrAt pb a n cap v' out' (w1.setCell ⟨pb,1,none⟩ v') ∧ Moved pb v w v' (w1.setCell ⟨pb,1,none⟩ v'):=by
 have hc1 : CellsAt pb [.slice a n cap,v] w1:=h.1.grown hg fun e => h.apart (Nat.le_refl _) e.symm
 have hc2:=hc1.set 1 v' (by simp)
 simp only [List.set] at hc2
 have hgs : w1.grownBy (w1.setCell ⟨pb,1,none⟩ v') (some pb):=grown_set (grown_refl w1 pb) 1 v'
 refine ⟨⟨hc2,?_⟩,⟨?_,hown⟩⟩
 ·refine World.ownsRow.kept (w:=w1) ho hgs ?_
  cases e : v'.ownBlock with
  | none => exact .inl rfl
  | some k =>
   refine .inr fun e2 => ?_
   injection e2 with e2
   have:=(World.ownsRow.lt (w:=w1) ho k e).1
   omega
 ·refine Only.trans ⟨hg.os,hg.tape,hg.output,hg.size,fun k hk hn => hg.block k hk fun e => hn (prB_mem.2 (.inr e.symm))⟩ (Only.set (prB_mem.2 (.inl rfl)))
theorem append_where0 {P : Program} (w : World) (base : Nat) (t ty e : TypeId) (i : TypeInfo) (z : Value) (size bytes : Nat) (ht : P.underlying t = some (.slice e)) (hi : P.info? e = some i) (hz : i.zero = some z)
  (hsize : i.size = size) (hby : i.bytes = bytes) (hzs : z.cells.size = size) (hsz : 0 < size)
  (v : Value) (n : Nat) (xs : List Value) (hown : w.ownsRow base e size v n xs)
  (a : Addr) (m c : Nat) (news : List Value) (hl : news.length = m * size) (hnews : ∀ j u,news[j]? = some u → w.cell? (a.add j) = some u) (h1 : ∀ u ∈ news,u.oneCell' = true)
  (h63 : n + m ≤ maxLen) (hbytes : (n + m) * bytes ≤ 140737488355328) (hbase : base ≤ w.heap.size) :
  ∃ v' w',(Builtin.append_ #[t,t] ty #[v,.slice (some a) m c]).run P w = .ok v' w' ∧ w'.ownsRow base e size v' (n + m) (xs ++ news) ∧ w.grownBy w' v.ownBlock ∧
   ∀ k,v'.ownBlock = some k → v.ownBlock = some k ∨ w.heap.size ≤ k:=by
 by_cases hm : m = 0
 ·obtain ⟨v',w',hr,ho,hg,hn⟩:=run_append_own (P:=P) w base t ty e i z size bytes ht hi hz hsize hby hzs hsz v n xs hown a m c news hl hnews h1 h63 hbytes hbase
  refine ⟨v',w',hr,ho,hg,fun k hk => ?_⟩
  rcases hown.2 with ⟨rfl,rfl⟩ | ⟨g,cap,cur,rfl,hbg,hgc,hnc,hcm,hcs,htake⟩
  ·obtain rfl:=hn.2 ⟨rfl,hm⟩
   simp [Value.ownBlock] at hk
  ·subst hsize
   have hfit : n * i.size + news.length ≤ cur.size:=by rw [hl,hcs,← Nat.add_mul]; exact Nat.mul_le_mul_right _ (by omega)
   have h2:=run_append_room (P:=P) w t ty e i ht hi g n cap cur hgc a m c news hl hnews h1 (by omega) hfit
   rw [hr] at h2
   injection h2 with e1 e2
   subst e1
   exact .inl hk
 ·obtain ⟨v',w',hr,ho,hg,hw⟩:=run_append_where (P:=P) w base t ty e i z size bytes ht hi hz hsize hby hzs hsz v n xs hown a m c news hl hnews h1 (by omega) h63 hbytes hbase
  refine ⟨v',w',hr,ho,hg,fun k hk => ?_⟩
  rcases hw with h | h
  ·exact .inl (h ▸ hk)
  ·rw [h] at hk
   injection hk with hk
   exact .inr (by omega)
theorem run_appW (base : Nat) (ty : TypeId) (v : Value) (acc cs : List UInt8) (a : Option Addr) (cap : Nat) (w : World) (hown : OwnB base v acc w) (hs : Src1 a cs cap w) (hl : acc.length + cs.length ≤ 1099511627776) (hbase : base ≤ w.heap.size) :
  ∃ v' w',(Builtin.append_ #[22,22] ty #[v,.slice a cs.length cap]).run Tryz.prog w = .ok v' w' ∧ OwnB base v' (acc ++ cs) w' ∧ w.grownBy w' v.ownBlock ∧ ∀ k,v'.ownBlock = some k → v.ownBlock = some k ∨ w.heap.size ≤ k:=by
 obtain ⟨i0,hi,hz0,hz1,hz2⟩:=infoParts
 rcases a with _ | ad
 ·have hcs : cs = []:=by
   cases cs with
   | nil => rfl
   | cons c r => obtain ⟨b,off,h,_⟩:=hs.1 0 (by simp); cases h
  subst hcs
  obtain rfl:=hs.2 rfl
  exact ⟨v,w,run_append_owned_none (P:=Tryz.prog) (w:=w) base 22 ty 5 i0 1 Tryz.underlying22 hi v acc.length (acc.map bv) hown,by simpa using hown,World.grownBy.refl _ _,fun _ h => .inl h⟩
 ·obtain ⟨v',w',hr,ho,hg,hw⟩:=append_where0 (P:=Tryz.prog) w base 22 ty 5 i0 (.int .u8 0) 1 1 Tryz.underlying22 hi hz0 hz1 hz2 rfl (by omega) v acc.length (acc.map bv) hown ad cs.length cap (cs.map bv) (by simp)
   (fun j u hj => by
    have hjl : j < cs.length:=by
     rcases Nat.lt_or_ge j cs.length with h | h
     ·exact h
     ·rw [List.getElem?_eq_none (by simpa using h)] at hj; cases hj
    obtain ⟨b,off,hab,hc⟩:=hs.1 j hjl
    injection hab with hab
    subst hab
    rw [Go.WideShapes.add_plain,hc]
    simp [hjl] at hj
    subst hj
    rfl)
   (fun u hu => by
    obtain ⟨b,_,rfl⟩:=List.mem_map.1 hu
    rfl)
   (by unfold maxLen; omega) (by omega) hbase
  refine ⟨v',w',hr,?_,hg,hw⟩
  unfold OwnB
  rw [List.length_append,List.map_append]
  exact ho
theorem wp_appW {ops : Array Oper} {rest : List Oper} {o : Oper} {A : Act} {Q : Exit → Act → World → Prop} (hgd : o.guard = none) (s x : Operand)
  (ho : o.op = .call { callee:=.builtin .append,args:=#[s,x],argTypes:=#[22,22] })
  (base : Nat) (v : Value) (acc cs : List UInt8) (a : Option Addr) (cap : Nat) (w : World) (hsv : A.eval s = v) (hxv : A.eval x = .slice a cs.length cap)
  (hown : OwnB base v acc w) (hs : Src1 a cs cap w) (hl : acc.length + cs.length ≤ 1099511627776) (hbase : base ≤ w.heap.size)
  (h : ∀ v' w',OwnB base v' (acc ++ cs) w' → w.grownBy w' v.ownBlock → (∀ k,v'.ownBlock = some k → v.ownBlock = some k ∨ w.heap.size ≤ k) → wpList Tryz.prog ops Q rest (A.put o.dst v') w') : wpList Tryz.prog ops Q (o :: rest) A w:=by
 refine wpList_plain hgd fun K hK => ?_
 obtain ⟨v',w',hr,h2,h3,h4⟩:=run_appW base o.type v acc cs a cap w hown hs hl hbase
 unfold Oper.wp
 simp [execOp,ho,resolve,invoke,builtin,hsv,hxv,hr,Result.andThen]
 exact hK _ _ (h v' w' h2 h3 h4)
def Wrote (pb : Nat) (a : Option Addr) (n cap : Nat) (v : Value) (R : Bool) (out' : List UInt8) (w : World) (e : Ending) (w' : World) : Prop :=
 e = .returned (.bool R) ∧ ∃ v' out2,Moved pb v w v' w' ∧ PrAt pb a n cap v' out2 w' ∧ (R = true → out2 = out')
theorem writeb_impl (pb : Nat) (a : Option Addr) (n cap : Nat) (v : Value) (out bs : List UInt8) (ab : Option Addr) (cb : Nat) (w : World) (h : PrAt pb a n cap v out w) (hs : Src1 ab bs cb w) (hl : out.length + bs.length ≤ 1099511627776) :
  Calls Tryz.prog 173 #[.pointer (some ⟨pb,0,none⟩),.slice ab bs.length cb] w (Wrote pb a n cap v (decide ((out ++ bs).length ≤ 400)) (out ++ bs) w):=by
 obtain ⟨az,cz,rfl,-⟩:=h.2.row
 have x1:=(h.1 1 _ rfl).1
 have HH:=kq h
 have HS:=kq hs
 have HL:=kq hl
 have HO:=kq h.2
 have HLT : Hid (pb + 1 ≤ w.heap.size):=h.lt
 obtain ⟨R,hR⟩ : ∃ R,R = decide ((out ++ bs).length ≤ 400):=⟨_,rfl⟩
 rw [← hR]
 obtain ⟨O,hO⟩ : ∃ O,O = out ++ bs:=⟨_,rfl⟩
 rw [← hO] at hR ⊢
 have HOO:=kq hO
 have HR:=kq hR
 clear h hs hl hO hR
 go_enter Tryz.func173,Tryz.ntmps173
 go_wp2_with (at_builtin; refine wp_appW rfl _ _ rfl (pb + 1) (.slice az out.length cz) out bs ab cb _ rfl rfl HO.out HS.out HL.out HLT.out ?_)
 intro v1 w1 ho hg hown
 rw [← HOO.out] at ho
 obtain ⟨a1,c1,rfl,-⟩:=ho.row
 have hc1 : CellsAt pb [.slice a n cap,.slice az out.length cz] w1:=HH.out.1.grown hg fun e => HH.out.apart (Nat.le_refl _) e.symm
 have y1:=(hc1 1 _ rfl).1
 have t1:=(hc1 1 _ rfl).2
 obtain ⟨hp,hm⟩:=HH.out.put ho hg hown
 have HP:=kq hp
 have HM:=kq hm
 clear ho hg hown hc1 hp hm x1
 go_upto_region 2 with fail
 generalize w1.setCell ⟨pb,1,none⟩ (.slice a1 O.length c1) = w2 at HP HM ⊢
 clear y1 t1
 have z1:=(HP.out.1 1 _ rfl).1
 by_cases hle : O.length ≤ 400
 ·obtain rfl : R = true:=by rw [HR.out]; exact decide_eq_true hle
  have g : (O.length : Int) ≤ 400:=by omega
  go_wp2
  go_ret
  exact ⟨rfl,_,_,HM.out,HP.out,fun _ => rfl⟩
 ·obtain rfl : R = false:=by rw [HR.out]; exact decide_eq_false hle
  have g : ¬ (O.length : Int) ≤ 400:=by omega
  go_wp2
  go_ret
  exact ⟨rfl,_,_,HM.out,HP.out,fun _ => rfl⟩
def HeadAt (rs : List RuleV) (r rh : RuleV) : Prop:=(r.kind = 8 ∧ rh = flagR) ∨ (¬ r.kind = 8 ∧ 0 < r.kids.length ∧ ∃ m : Nat,r.kids.getD 0 0 = (m : Int) ∧ ∃ h : m < rs.length,rh = rs[m])
theorem head_any (a : Option Addr) (rs : List RuleV) (cap : Nat) (r rh : RuleV) (cs : List Value) (w : World) (h : IsRule r cs w) (hrd : RdR a rs w) (hh : HeadAt rs r rh) :
  Calls Tryz.prog 210 #[.agg #[.slice a rs.length cap],.agg cs.toArray] w fun e w' => (∃ ks,e = .returned (.agg ks.toArray) ∧ IsRule rh ks w) ∧ Below w.heap.size w w':=by
 rcases hh with ⟨hk,rfl⟩ | ⟨hk,hkl,m,hm,hml,rfl⟩
 ·refine (head_flag a rs.length cap r cs w h hk).mono ?_
  rintro e w' ⟨rfl,hb⟩
  exact ⟨⟨[.string ⟨#[]⟩,.int .i64 1,.int .i64 1,.bool false,.slice none 0 0,.slice none 0 0,.slice none 0 0,.slice none 0 0],rfl,none,0,none,0,none,0,none,0,rfl,fun j h => absurd h (Nat.not_lt_zero j),fun j h => absurd h (Nat.not_lt_zero j),fun j h => absurd h (Nat.not_lt_zero j),fun j h => absurd h (Nat.not_lt_zero j)⟩,hb⟩
 ·exact head_rule a rs cap m r cs w h hk hrd hml hm hkl
theorem writeh_impl (pb : Nat) (a : Option Addr) (rs : List RuleV) (cap : Nat) (v : Value) (out : List UInt8) (r rh : RuleV) (cs : List Value) (n : Int) (w : World) (h : PrAt pb a rs.length cap v out w) (hi : IsRule r cs w) (hrd : RdR a rs w) (hh : HeadAt rs r rh) (hl : out.length ≤ 1048576) :
  Calls Tryz.prog 175 #[.pointer (some ⟨pb,0,none⟩),.agg cs.toArray,.int .i64 n] w (Wrote pb a rs.length cap v (decide ((out ++ encI rh.little n rh.size).length ≤ 400)) (out ++ encI rh.little n rh.size) w):=by
 have hi0:=hi
 obtain ⟨a4,c4,a5,c5,a6,c6,a7,c7,rfl,-,-,-,-⟩:=hi
 obtain ⟨w0,hw0⟩ : ∃ w0,w0 = w.alloc (.cells #[.string r.name,.int .i64 r.kind,.int .i64 r.size,.bool r.little,.slice a4 r.bytes.length c4,.slice a5 r.names.length c5,.slice a6 r.tags.length c6,.slice a7 r.kids.length c7] 63):=⟨_,rfl⟩
 have hB : Below w.heap.size w w0:=by subst hw0; exact (Below.refl _ _).alloc (Nat.le_refl _) _
 have hR : CellsAt w.heap.size [.string r.name,.int .i64 r.kind,.int .i64 r.size,.bool r.little,.slice a4 r.bytes.length c4,.slice a5 r.names.length c5,.slice a6 r.tags.length c6,.slice a7 r.kids.length c7] w0:=by subst hw0; exact CellsAt.new w _ _
 have hpl:=h.lt
 have hnew:=h.new (Nat.le_refl w.heap.size)
 obtain ⟨E,hE⟩ : ∃ E,E = encI rh.little n rh.size:=⟨_,rfl⟩
 have hE4 : E.length ≤ 4:=by rw [hE]; exact encI_le4 _ _ _
 have HHEAD : Hid (∀ W,Below w.heap.size w W → Calls Tryz.prog 210 #[.agg #[.slice a rs.length cap],.agg #[.string r.name,.int .i64 r.kind,.int .i64 r.size,.bool r.little,.slice a4 r.bytes.length c4,.slice a5 r.names.length c5,.slice a6 r.tags.length c6,.slice a7 r.kids.length c7]] W fun e w' => (∃ ks,e = .returned (.agg ks.toArray) ∧ IsRule rh ks W) ∧ Below W.heap.size W w'):=fun W hW => head_any a rs cap r rh _ W (hi0.below hW) (hrd.below hW) hh
 have HENC : Hid (∀ ks W,IsRule rh ks W → Calls Tryz.prog 174 #[.agg ks.toArray,.int .i64 n] W (BytesOut E W)):=fun ks W hW => by rw [hE]; exact enci_impl rh ks n W hW
 have HWR : Hid (∀ W az cz,Below w.heap.size w W → Src1 az E cz W → Calls Tryz.prog 173 #[.pointer (some ⟨pb,0,none⟩),.slice az E.length cz] W (Wrote pb a rs.length cap v (decide ((out ++ E).length ≤ 400)) (out ++ E) W)):=fun W az cz hW hs => writeb_impl pb a rs.length cap v out E az cz W (h.below hW) hs (by omega)
 rw [← hE]
 obtain ⟨R,hRR⟩ : ∃ R,R = decide ((out ++ E).length ≤ 400):=⟨_,rfl⟩
 obtain ⟨O,hO⟩ : ∃ O,O = out ++ E:=⟨_,rfl⟩
 rw [← hRR,← hO]
 rw [← hRR,← hO] at HWR
 have HD : Hid (Below w0.heap.size w0 w0.drew):=below_drewN (Below.refl _ w0) 1
 have HB:=kq (hB.trans (HD.out.mono hB.size))
 have HP:=kq ((h.below hB).below HD.out)
 have HR:=kq (hR.below HD.out)
 have HW:=kq hw0
 have HPL:=kq hpl
 have HNEW:=kq hnew
 clear h hi0 hrd hh hB hR hw0 hE hE4 hRR hO hpl hnew HD
 go_enter Tryz.func175,Tryz.ntmps175
 go_upto_region 1 with fail
 rw [← HW.out]
 clear HW
 go_region_held3 (fun W => W.cell? ⟨pb,0,none⟩ = some (.slice a rs.length cap) ∧ W.cell? ⟨w.heap.size,0,none⟩ = some (.string r.name) ∧ W.cell? ⟨w.heap.size,1,none⟩ = some (.int .i64 r.kind) ∧ W.cell? ⟨w.heap.size,2,none⟩ = some (.int .i64 r.size) ∧ W.cell? ⟨w.heap.size,3,none⟩ = some (.bool r.little) ∧ W.cell? ⟨w.heap.size,4,none⟩ = some (.slice a4 r.bytes.length c4) ∧ W.cell? ⟨w.heap.size,5,none⟩ = some (.slice a5 r.names.length c5) ∧ W.cell? ⟨w.heap.size,6,none⟩ = some (.slice a6 r.tags.length c6) ∧ W.cell? ⟨w.heap.size,7,none⟩ = some (.slice a7 r.kids.length c7)) (exact ⟨(HP.out.1 0 _ rfl).1,(HR.out 0 _ rfl).1,(HR.out 1 _ rfl).1,(HR.out 2 _ rfl).1,(HR.out 3 _ rfl).1,(HR.out 4 _ rfl).1,(HR.out 5 _ rfl).1,(HR.out 6 _ rfl).1,(HR.out 7 _ rfl).1⟩) (first | (go_at_call 210; refine (HHEAD.out _ HB.out).mono ?_; rintro e w3 ⟨⟨ks,rfl,hks⟩,hb⟩; have HK:=kq (hks.below hb); replace HP:=kq (HP.out.below hb); replace HR:=kq (HR.out.below hb); replace HB:=kq (HB.out.trans (hb.mono HB.out.size)); clear hb hks) | (go_at_call 174; refine (HENC.out _ _ HK.out).mono ?_; rintro e w4 ⟨az,cz,rfl,hrow,hb⟩; have HRW:=kq hrow.src; replace HP:=kq (HP.out.below hb); replace HR:=kq (HR.out.below hb); replace HB:=kq (HB.out.trans (hb.mono HB.out.size)); clear hb hrow) | (go_at_call 173; refine (HWR.out _ _ _ HB.out HRW.out).mono ?_; rintro e w5 ⟨rfl,v5,O5,hm,hp,ho⟩; have HM:=kq ((Moved.of_below HB.out).trans hm); replace HR:=kq (hm.cells HR.out (by have:=HPL.out; omega) HNEW.out); replace HP:=kq hp; have HO:=kq ho; clear hm hp ho))
 all_goals (go_wp2; go_ret; exact ⟨rfl,v5,O5,HM.out,HP.out,HO.out⟩)
theorem OwnB.form {base : Nat} {v : Value} {bs : List UInt8} {w : World} (h : OwnB base v bs w) (h0 : 0 < bs.length) : ∃ g cap,v = .slice (some ⟨g,0,none⟩) bs.length cap ∧ bs.length ≤ cap ∧ Rd (some ⟨g,0,none⟩) bs w:=by
 obtain ⟨a,cap,hv,hr⟩:=h.row
 obtain ⟨b,off,e,hc⟩:=hr.rd 0 h0
 rcases h.2 with ⟨rfl,hn⟩ | ⟨g,cap',cur,rfl,hb,hg,hnc,_⟩
 ·omega
 ·injection hv with h1 h2 h3
  subst h1 h3
  exact ⟨g,cap',rfl,hnc,hr.rd⟩
theorem writes_impl (pb : Nat) (a : Option Addr) (n cap : Nat) (v : Value) (A I : List UInt8) (w : World) (h : PrAt pb a n cap v (A ++ I) w) (hi : 0 < I.length) (hl : (A ++ I).length ≤ 1048576) :
  Calls Tryz.prog 177 #[.pointer (some ⟨pb,0,none⟩),.int .i64 (A.length : Int)] w (Wrote pb a n cap v (decide ((A ++ I ++ [UInt8.ofNat (sumB I 0)]).length ≤ 400)) (A ++ I ++ [UInt8.ofNat (sumB I 0)]) w):=by
 obtain ⟨T,hT⟩ : ∃ T,T = A ++ I:=⟨_,rfl⟩
 have hTl : T.length = A.length + I.length:=by rw [hT,List.length_append]
 rw [← hT] at h hl ⊢
 obtain ⟨g,cz,hv,hcz,hrd⟩:=OwnB.form h.2 (by omega)
 have x1:=(h.1 1 _ rfl).1
 rw [hv] at x1
 obtain ⟨s,hs⟩ : ∃ s : Nat,s = A.length:=⟨_,rfl⟩
 obtain ⟨L,hL⟩ : ∃ L : Nat,L = T.length:=⟨_,rfl⟩
 have hri : Rd (some ⟨g,s,none⟩) I w:=fun j hj => by
  obtain ⟨b,off,e,hc⟩:=hrd (s + j) (by omega)
  injection e with e
  injection e with e1 e2
  subst e1 e2
  refine ⟨g,s,rfl,?_⟩
  rw [Nat.zero_add] at hc
  rw [hc]
  congr 3
  simp only [hT,hs]
  simp
 have hsb:=sumB_lt I 0 (by omega)
 obtain ⟨sb,hsbe⟩ : ∃ sb,sb = sumB I 0:=⟨_,rfl⟩
 rw [← hsbe] at hsb ⊢
 obtain ⟨x9,hxe⟩ : ∃ x9,x9 = UInt8.ofNat sb:=⟨_,rfl⟩
 have hx9 : Value.int .u8 (sb : Int) = bv x9:=by rw [hxe]; exact bv_of sb _ (by omega)
 rw [← hxe]
 have hsb0 : (0 : Int) ≤ (sb : Int):=by omega
 have hsb1 : (sb : Int) ≤ 255:=by omega
 have HSUM : Hid (∀ c,Calls Tryz.prog 208 #[.slice (some ⟨g,s,none⟩) I.length c] w fun e w' => e = .returned (.int .i64 (sb : Int)) ∧ Below w.heap.size w w'):=fun c => by rw [hsbe]; exact sum_impl _ I c w (by omega) hri
 have HWR : Hid (∀ W az c,Below w.heap.size w W → Src1 az [x9] c W → Calls Tryz.prog 173 #[.pointer (some ⟨pb,0,none⟩),.slice az 1 c] W (Wrote pb a n cap v (decide ((T ++ [x9]).length ≤ 400)) (T ++ [x9]) W)):=fun W az c hW hsr => writeb_impl pb a n cap v T [x9] az c W (h.below hW) hsr (by simp; omega)
 have HON : Hid (∀ W : World,Src1 (some ⟨W.heap.size,0,none⟩) [x9] 1 (W.alloc (.cells #[.int .u8 (sb : Int)] 5))):=fun W : World => by obtain ⟨a',c',e,h⟩:=(own_one W _ x9 hx9).row; cases e; exact h.src
 obtain ⟨R,hRR⟩ : ∃ R,R = decide ((T ++ [x9]).length ≤ 400):=⟨_,rfl⟩
 obtain ⟨O,hO⟩ : ∃ O,O = T ++ [x9]:=⟨_,rfl⟩
 rw [← hRR,← hO] at HWR ⊢
 rw [← hs] at hTl ⊢
 rw [← hL] at x1 hcz hl hTl
 obtain ⟨m,hm⟩ : ∃ m : Nat,m = I.length:=⟨_,rfl⟩
 rw [← hm] at HSUM hTl hi
 have s0 : (0 : Int) ≤ (s : Int):=by omega
 have s1 : (s : Int) ≤ (L : Int):=by omega
 have s2 : (L : Int) ≤ (cz : Int):=by omega
 have s3 : ¬ s = cz:=by omega
 have s4 : ¬ (s : Int) = (cz : Int):=by omega
 clear hs hL hri hRR hO hm hv hxe hx9 hsbe hsb h hrd hT
 go_enter Tryz.func177,Tryz.ntmps177
 go_wp2_with fail
 refine (HSUM.out _).mono ?_
 rintro e w2 ⟨rfl,hb⟩
 have HB:=kq hb
 clear hb x1
 go_wp2_with fail
 have HBA:=kq ((Below.refl w2.heap.size w2).alloc (Nat.le_refl _) (.cells #[.int .u8 (sb : Int)] 5))
 refine (HWR.out _ _ _ (HB.out.trans (HBA.out.mono HB.out.size)) (HON.out w2)).mono ?_
 rintro e w5 ⟨rfl,v5,O5,hm5,hp5,ho5⟩
 have HM:=kq ((Moved.of_below (HB.out.trans (HBA.out.mono HB.out.size))).trans hm5)
 have HP:=kq hp5
 have HO:=kq ho5
 clear hm5 hp5 ho5
 go_wp2
 go_ret
 exact ⟨rfl,v5,O5,HM.out,HP.out,HO.out⟩
end Go.Proofs.YtefkhknfjohnaaaGreatDoor
