/- Appending one value to a row that the call owns: -/
import Derived.Test.YtefkhknfjohnaaaGreatDoorEGBase
import Derived.Test.YtefkhknfjohnaaaGreatDoorEGRul
import Derived.Laws.AppendOwnNone
import Derived.Deep.RegionLaw
import Derived.Maps.Range
namespace Go.Proofs.YtefkhknfjohnaaaGreatDoor
open Go Go.RowKit
theorem run_append_where {P : Program} (w : World) (base : Nat) (t ty e : TypeId) (i : TypeInfo) (z : Value) (size bytes : Nat) (ht : P.underlying t = some (.slice e)) (hi : P.info? e = some i) (hz : i.zero = some z)
  (hsize : i.size = size) (hby : i.bytes = bytes) (hzs : z.cells.size = size) (hsz : 0 < size)
  (v : Value) (n : Nat) (xs : List Value) (hown : w.ownsRow base e size v n xs)
  (a : Addr) (m c : Nat) (news : List Value) (hl : news.length = m * size) (hnews : ∀ j u,news[j]? = some u → w.cell? (a.add j) = some u) (h1 : ∀ u ∈ news,u.oneCell' = true)
  (hm : 0 < m) (h63 : n + m ≤ maxLen) (hbytes : (n + m) * bytes ≤ 140737488355328) (hbase : base ≤ w.heap.size) :
  ∃ v' w',(Builtin.append_ #[t,t] ty #[v,.slice (some a) m c]).run P w = .ok v' w' ∧ w'.ownsRow base e size v' (n + m) (xs ++ news) ∧ w.grownBy w' v.ownBlock ∧
   (v'.ownBlock = v.ownBlock ∨ v'.ownBlock = some w.heap.size):=by
 obtain ⟨v',w',hr,ho,hg,_⟩:=run_append_own (P:=P) w base t ty e i z size bytes ht hi hz hsize hby hzs hsz v n xs hown a m c news hl hnews h1 h63 hbytes hbase
 refine ⟨v',w',hr,ho,hg,?_⟩
 subst hsize hby
 have hsmall : n + m ≤ 9223372036854775807:=by simp only [maxLen] at h63; omega
 rcases hown.2 with ⟨rfl,rfl⟩ | ⟨g,cap,cur,rfl,hbg,hgc,hnc,hcm,hcs,htake⟩
 ·have h2:=run_append_nil (P:=P) w t ty e i z ht hi hz a m c news hl hnews (by omega) (by omega) (by have hb:=hbytes; simp only [Nat.zero_add] at hb; omega)
  rw [hr] at h2
  injection h2 with e1 e2
  subst e1
  exact .inr rfl
 ·by_cases hroom : n + m ≤ cap
  ·have hfit : n * i.size + news.length ≤ cur.size:=by rw [hl,hcs,← Nat.add_mul]; exact Nat.mul_le_mul_right _ hroom
   have h2:=run_append_room (P:=P) w t ty e i ht hi g n cap cur hgc a m c news hl hnews h1 hroom hfit
   rw [hr] at h2
   injection h2 with e1 e2
   subst e1
   exact .inl rfl
  ·have holds : ∀ j u,xs[j]? = some u → w.cell? ((⟨g,0,none⟩ : Addr).add j) = some u:=hown.cells (g:=g) rfl
   have h2:=run_append_grow (P:=P) w t ty e i z ht hi hz ⟨g,0,none⟩ n cap xs hown.1 holds a m c news hl hnews (by omega) (by omega) (growslice_fits (by omega) hbytes)
   rw [hr] at h2
   injection h2 with e1 e2
   subst e1
   exact .inr rfl
theorem Rd.grown {a : Option Addr} {bs : List UInt8} {w w' : World} {row : Option Nat} (h : Rd a bs w) (hg : w.grownBy w' row) (hne : ∀ b off,a = some ⟨b,off,none⟩ → bs.length ≠ 0 → some b ≠ row) : Rd a bs w':=fun j hj => by
 obtain ⟨b,off,ha,hc⟩:=h j hj
 exact ⟨b,off,ha,hg.cell hc (hne b off ha (by omega))⟩
theorem blk_of {b off n c : Nat} (h : n ≠ 0) : b ∈ sliceBlk (.slice (some ⟨b,off,none⟩) n c):=by simp [sliceBlk,h]
theorem CellsAt.grown {b : Nat} {vs : List Value} {w w' : World} {row : Option Nat} (h : CellsAt b vs w) (hg : w.grownBy w' row) (hne : some b ≠ row) : CellsAt b vs w':=fun i v hv => by
 obtain ⟨q1,q2⟩:=h i v hv
 exact ⟨hg.cell q1 hne,(World.frozen?_of_block (a:=⟨b,i,none⟩) (hg.block b (cell_lt q1) hne)).trans q2⟩
def bv (b : UInt8) : Value:=.int .u8 (b.toNat : Int)
def OwnB (base : Nat) (v : Value) (bs : List UInt8) (w : World) : Prop:=w.ownsRow base 5 1 v bs.length (bs.map bv)
theorem OwnB.fresh {base : Nat} {v : Value} {bs : List UInt8} {w : World} (h : OwnB base v bs w) : ∃ a cap,v = .slice a bs.length cap ∧ Fresh base a bs w:=by
 have h0 : w.ownsRow base 5 1 v bs.length (bs.map bv):=h
 rcases h.2 with ⟨rfl,hn⟩ | ⟨g,cap,cur,rfl,hb,hg,hnc,hcm,hcs,ht⟩
 ·have : bs = []:=List.eq_nil_of_length_eq_zero hn
  subst this
  exact ⟨none,0,rfl,.inl rfl⟩
 ·refine ⟨_,cap,rfl,.inr ⟨g,0,rfl,hb,fun j hj => ⟨?_,?_⟩⟩⟩
  ·rw [Nat.zero_add,h0.cellAt j (by omega)]
   simp [hj,bv]
  ·rw [Nat.zero_add]; exact h0.frozenAt j
theorem OwnB.row {base : Nat} {v : Value} {bs : List UInt8} {w : World} (h : OwnB base v bs w) : ∃ a cap,v = .slice a bs.length cap ∧ Row base a bs cap w:=by
 obtain ⟨a,cap,hv,hf⟩:=h.fresh
 refine ⟨a,cap,hv,hf,?_⟩
 rcases h.2 with ⟨rfl,hn⟩ | ⟨g,cap',cur,rfl,hb,hg,hnc,_⟩
 ·injection hv with h1 h2 h3
  subst h3
  exact ⟨by omega,fun _ => rfl⟩
 ·injection hv with h1 h2 h3
  subst h1 h3
  exact ⟨hnc,fun e => by cases e⟩
theorem OwnB.start (w : World) : OwnB w.heap.size (.slice (some ⟨w.heap.size,0,none⟩) 0 0) [] (w.alloc (.cells #[] 5)) :=
 World.ownsRow_made w #[] 0 (Nat.le_refl _) (by unfold maxLen; omega) rfl
theorem infoParts : ∃ i,Tryz.prog.info? 5 = some i ∧ i.zero = some (.int .u8 0) ∧ i.size = 1 ∧ i.bytes = 1:=by
 obtain ⟨i,hi,h⟩:=Option.map_eq_some_iff.1 infoU8
 simp only [Prod.mk.injEq] at h
 exact ⟨i,hi,h.1,h.2.1,h.2.2⟩
theorem own_keep {base : Nat} {t : TypeId} {v : Value} {n : Nat} {vs : List Value} {w w' : World} {row : Option Nat} (h : w.ownsRow base t 1 v n vs) (hg : w.grownBy w' row) (hne : ∀ g,v.ownBlock = some g → row ≠ some g) : w'.ownsRow base t 1 v n vs:=by
 refine World.ownsRow.kept (w:=w) h hg ?_
 cases hv : v.ownBlock with
 | none => exact .inl rfl
 | some g => exact .inr (fun e => hne g hv e.symm)
theorem own_lits {α : Type} {f : α → Value} (w : World) (base : Nat) (e : TypeId) (xs : List α) (hb : base ≤ w.heap.size) (hm : xs.length ≤ maxLen) : (w.alloc (.cells (xs.map f).toArray e)).ownsRow base e 1 (.slice (some ⟨w.heap.size,0,none⟩) xs.length xs.length) xs.length (xs.map f) :=
 ⟨by simp,.inr ⟨w.heap.size,xs.length,(xs.map f).toArray,rfl,hb,heap_alloc_new w _,Nat.le_refl _,hm,by simp,by simp; exact List.take_of_length_le (by simp)⟩⟩
theorem own_below {base : Nat} {t : TypeId} {v : Value} {n : Nat} {vs : List Value} {w w' : World} (h : w.ownsRow base t 1 v n vs) (hb : Below w.heap.size w w') : w'.ownsRow base t 1 v n vs :=
 own_keep h (row:=none) ⟨hb.os,hb.tape,hb.output,hb.size,fun k hk _ => hb.block k hk⟩ (fun g _ => by simp)
end Go.Proofs.YtefkhknfjohnaaaGreatDoor
