/- A description in new memory while it is marked: -/
import Derived.Test.YtefkhknfjohnaaaGreatDoorEGRul
import Derived.Test.YtefkhknfjohnaaaGreatDoorEGPu
import Derived.Test.YtefkhknfjohnaaaGreatDoorEGSz
import Derived.Deep.CutRange
import Derived.Deep.RegionHeld3
set_option maxRecDepth 100000
namespace Go.Proofs.YtefkhknfjohnaaaGreatDoor
open Go Go.RowKit
structure Apart (lo hi : Nat) (w w' : World) : Prop where
 os : w'.os = w.os
 tape : w'.tape = w.tape
 output : w'.output = w.output
 size : w.heap.size ≤ w'.heap.size
 block : ∀ k,k < w.heap.size → (k < lo ∨ hi ≤ k) → w'.heap[k]? = w.heap[k]?
theorem Apart.refl (lo hi : Nat) (w : World) : Apart lo hi w w:=⟨rfl,rfl,rfl,Nat.le_refl _,fun _ _ _ => rfl⟩
theorem Apart.trans {lo hi : Nat} {a b c : World} (h : Apart lo hi a b) (k : Apart lo hi b c) : Apart lo hi a c :=
 ⟨k.os.trans h.os,k.tape.trans h.tape,k.output.trans h.output,Nat.le_trans h.size k.size,fun i hi ho => (k.block i (Nat.lt_of_lt_of_le hi h.size) ho).trans (h.block i hi ho)⟩
theorem Apart.ofBelow {lo hi : Nat} {w w' : World} (h : Below w.heap.size w w') : Apart lo hi w w':=⟨h.os,h.tape,h.output,h.size,fun k hk _ => h.block k hk⟩
theorem Apart.ofGrown {lo hi c : Nat} {w w' : World} (h : w.grownBy w' (some c)) (h1 : lo ≤ c) (h2 : c < hi) : Apart lo hi w w' :=
 ⟨h.os,h.tape,h.output,h.size,fun k hk ho => h.block k hk (by intro e; injection e with e; omega)⟩
theorem len_ne {α : Type} {xs : List α} (h : xs ≠ []) : xs.length ≠ 0:=fun e => h (List.eq_nil_of_length_eq_zero e)
def OwnSl (lo hi b off : Nat) (css : List (List Value)) (L : List RuleV) (w : World) : Prop :=
 css.length = L.length ∧ (∀ j (h : j < L.length) (h' : j < css.length),OwnRule lo hi L[j] css[j] w) ∧ (lo ≤ b ∧ b < hi) ∧
  (∀ j (h : j < css.length) i v,css[j][i]? = some v → w.cell? ⟨b,off + j * 8 + i,none⟩ = some v ∧ w.frozen? ⟨b,off + j * 8 + i,none⟩ = false) ∧ (b :: css.flatMap fun cs => cs.flatMap sliceBlk).Nodup
theorem OwnSl.below {lo hi b off : Nat} {css : List (List Value)} {L : List RuleV} {w w' : World} (h : OwnSl lo hi b off css L w) (hb : Below w.heap.size w w') : OwnSl lo hi b off css L w':=by
 obtain ⟨h1,h2,h3,h4,h5⟩:=h
 exact ⟨h1,fun j q1 q2 => (h2 j q1 q2).below hb,h3,fun j hj i v hv => ⟨(hb.cell (cell_lt (h4 j hj i v hv).1)).trans (h4 j hj i v hv).1,(hb.frozen (p:=⟨b,off + j * 8 + i,none⟩) (cell_lt (h4 j hj i v hv).1)).trans (h4 j hj i v hv).2⟩,h5⟩
theorem mem_flat {css : List (List Value)} {j b : Nat} (hj : j < css.length) (hb : b ∈ css[j].flatMap sliceBlk) : b ∈ css.flatMap fun cs => cs.flatMap sliceBlk:=List.mem_flatMap.2 ⟨_,List.getElem_mem hj,hb⟩
theorem flat_ne : ∀ {css : List (List Value)},(css.flatMap fun cs => cs.flatMap sliceBlk).Nodup → ∀ {i j : Nat} (hi : i < css.length) (hj : j < css.length),i ≠ j → ∀ x ∈ css[i].flatMap sliceBlk,x ∉ css[j].flatMap sliceBlk
 | [],_,_,_,hi,_,_,_,_ => by simp at hi
 | cs :: css,hn,i,j,hi,hj,hij,x,hx => by
  rw [List.flatMap_cons] at hn
  obtain ⟨n1,n2,n3⟩:=List.nodup_append.1 hn
  cases i with
  | zero =>
   cases j with
   | zero => exact absurd rfl hij
   | succ j =>
    intro hy
    exact n3 x hx x (mem_flat (css:=css) (by simpa using hj) hy) rfl
  | succ i =>
   cases j with
   | zero =>
    intro hy
    exact n3 x hy x (mem_flat (css:=css) (by simpa using hi) hx) rfl
   | succ j => exact flat_ne n2 (by simpa using hi) (by simpa using hj) (by omega) x hx
theorem OwnRule.grownNe {lo hi c : Nat} {r : RuleV} {cs : List Value} {w w' : World} (h : OwnRule lo hi r cs w) (hg : w.grownBy w' (some c)) (hc : c ∉ cs.flatMap sliceBlk) : OwnRule lo hi r cs w':=by
 obtain ⟨a4,c4,a5,c5,a6,c6,a7,c7,rfl,h4,h5,h6,h7,hnd,hrg⟩:=h
 have hout : ∀ v ∈ ([.slice a4 r.bytes.length c4,.slice a5 r.names.length c5,.slice a6 r.tags.length c6,.slice a7 r.kids.length c7] : List Value),∀ b ∈ sliceBlk v,b ≠ c:=fun v hv b hb e => by
  subst e
  exact hc (List.mem_flatMap.2 ⟨v,List.mem_cons_of_mem _ (List.mem_cons_of_mem _ (List.mem_cons_of_mem _ (List.mem_cons_of_mem _ hv))),hb⟩)
 exact ⟨a4,c4,a5,c5,a6,c6,a7,c7,rfl,
  ⟨h4.1.grown hg fun b off e hx => hout (.slice a4 r.bytes.length c4) (by simp) b (by subst e; exact blk_of (len_ne hx)),h4.2⟩,
  ⟨h5.1.grown hg fun b off e hx => hout (.slice a5 r.names.length c5) (by simp) b (by subst e; exact blk_of (len_ne hx)),h5.2⟩,
  ⟨h6.1.grown hg fun b off e hx => hout (.slice a6 r.tags.length c6) (by simp) b (by subst e; exact blk_of (len_ne hx)),h6.2⟩,
  ⟨h7.1.grown hg fun b off e hx => hout (.slice a7 r.kids.length c7) (by simp) b (by subst e; exact blk_of (len_ne hx)),h7.2⟩,hnd,hrg⟩
theorem OwnSl.put {lo hi b off : Nat} {css : List (List Value)} {L : List RuleV} {w : World} (h : OwnSl lo hi b off css L w) (i : Nat) (il : i < L.length) (ic : i < css.length) (f : Nat) (hf : f < 4) (v : Value) (r' : RuleV)
  (hr' : ∀ a4 c4 a5 c5 a6 c6 a7 c7,css[i] = [.string L[i].name,.int .i64 L[i].kind,.int .i64 L[i].size,.bool L[i].little,.slice a4 L[i].bytes.length c4,.slice a5 L[i].names.length c5,.slice a6 L[i].tags.length c6,.slice a7 L[i].kids.length c7] →
   css[i].set f v = [.string r'.name,.int .i64 r'.kind,.int .i64 r'.size,.bool r'.little,.slice a4 r'.bytes.length c4,.slice a5 r'.names.length c5,.slice a6 r'.tags.length c6,.slice a7 r'.kids.length c7] ∧ r'.bytes = L[i].bytes ∧ r'.names = L[i].names ∧ r'.tags = L[i].tags ∧ r'.kids = L[i].kids) :
  OwnSl lo hi b off (css.set i (css[i].set f v)) (L.set i r') (w.setCell ⟨b,off + i * 8 + f,none⟩ v):=by
 obtain ⟨h1,h2,h3,h4,h5⟩:=h
 have hg : w.grownBy (w.setCell ⟨b,off + i * 8 + f,none⟩ v) (some b):=grown_set (grown_refl w b) _ v
 have hb : b ∉ css.flatMap fun cs => cs.flatMap sliceBlk:=(List.nodup_cons.1 h5).1
 have hflat : (css[i].set f v).flatMap sliceBlk = css[i].flatMap sliceBlk:=by
  obtain ⟨a4,c4,a5,c5,a6,c6,a7,c7,e,q4,q5,q6,q7,hnd,hrg⟩:=h2 i il ic
  obtain ⟨e',b4,b5,b6,b7⟩:=hr' a4 c4 a5 c5 a6 c6 a7 c7 e
  rw [e',e,b4,b5,b6,b7]
  rfl
 have h8:=(h2 i il ic).length
 have hmap : ((css.set i (css[i].set f v)).flatMap fun cs => cs.flatMap sliceBlk) = css.flatMap fun cs => cs.flatMap sliceBlk:=by
  rw [List.flatMap_def,List.flatMap_def,List.map_set,hflat]
  congr 1
  apply List.ext_getElem (by simp)
  intro n n1 n2
  rw [List.getElem_set]
  split
  ·rename_i en
   subst en
   simp
  ·rfl
 refine ⟨by simp [h1],fun j hj hj' => ?_,h3,fun j hj q u hu => ?_,by rw [hmap]; exact h5⟩
 ·have hj1 : j < L.length:=by simpa using hj
  have hj2 : j < css.length:=by simpa using hj'
  have hn : b ∉ css[j].flatMap sliceBlk:=fun hx => hb (mem_flat hj2 hx)
  by_cases e : i = j
  ·subst e
   rw [List.getElem_set_self,List.getElem_set_self]
   obtain ⟨a4,c4,a5,c5,a6,c6,a7,c7,e,q4,q5,q6,q7,hnd,hrg⟩:=(h2 i il ic).grownNe hg hn
   obtain ⟨e',b4,b5,b6,b7⟩:=hr' a4 c4 a5 c5 a6 c6 a7 c7 e
   refine ⟨a4,c4,a5,c5,a6,c6,a7,c7,e',by rw [b4]; exact q4,by rw [b5]; exact q5,by rw [b6]; exact q6,by rw [b7]; exact q7,by rw [hflat]; exact hnd,by rw [hflat]; exact hrg⟩
  ·rw [List.getElem_set_ne e,List.getElem_set_ne e]
   exact (h2 j hj1 hj2).grownNe hg hn
 ·have hj2 : j < css.length:=by simpa using hj
  by_cases e : i = j
  ·subst e
   rw [List.getElem_set_self] at hu
   by_cases eq : q = f
   ·subst eq
    rw [List.getElem?_set_self (by omega)] at hu
    injection hu with hu
    subst hu
    obtain ⟨u0,hu0⟩ : ∃ u0,css[i][q]? = some u0:=⟨css[i][q]'(by omega),List.getElem?_eq_getElem _⟩
    exact ⟨World.cell?_setCell_same _ _ _ (h4 i ic q u0 hu0).1,by simpa using (h4 i ic q u0 hu0).2⟩
   ·rw [List.getElem?_set_ne (by omega)] at hu
    obtain ⟨c1,c2⟩:=h4 i ic q u hu
    exact ⟨(World.cell?_setCell_other _ _ _ _ (fun he => by have:=congrArg Addr.off he; simp at this; omega)).trans c1,by simpa using c2⟩
  ·rw [List.getElem_set_ne e] at hu
   obtain ⟨c1,c2⟩:=h4 j hj2 q u hu
   have hq : q < 8:=by
    have h8j:=(h2 j (by omega) hj2).length
    rcases Nat.lt_or_ge q 8 with hh | hh
    ·exact hh
    ·rw [List.getElem?_eq_none (by omega)] at hu; cases hu
   exact ⟨(World.cell?_setCell_other _ _ _ _ (fun he => by have:=congrArg Addr.off he; simp at this; omega)).trans c1,by simpa using c2⟩
theorem OwnSl.turn4 {lo hi b off : Nat} {css : List (List Value)} {L : List RuleV} {w w' : World} (h : OwnSl lo hi b off css L w) (i : Nat) (il : i < L.length) (ic : i < css.length) {a4 a5 a6 a7 : Option Addr} {c4 c5 c6 c7 : Nat} (e : css[i] = [.string L[i].name,.int .i64 L[i].kind,.int .i64 L[i].size,.bool L[i].little,.slice a4 L[i].bytes.length c4,.slice a5 L[i].names.length c5,.slice a6 L[i].tags.length c6,.slice a7 L[i].kids.length c7])
  (xs : List UInt8) (hlen : xs.length = L[i].bytes.length) (ht : Touch lo a4 L[i].bytes.length w w') (hrow : Row lo a4 xs c4 w') : OwnSl lo hi b off css (L.set i { L[i] with bytes:=xs }) w' ∧ Apart lo hi w w':=by
 obtain ⟨h1,h2,h3,h4,h5⟩:=h
 have hi2:=h2 i il ic
 obtain ⟨b4,d4,b5,d5,b6,d6,b7,d7,e',q4,q5,q6,q7,hnd,hrg⟩:=h2 i il ic
 rw [e] at e'
 simp only [List.cons.injEq,Value.slice.injEq,true_and,and_true] at e'
 obtain ⟨⟨rfl,rfl⟩,⟨rfl,rfl⟩,⟨rfl,rfl⟩,rfl,rfl⟩:=e'
 have hfl : css[i].flatMap sliceBlk = sliceBlk (.slice a4 L[i].bytes.length c4) ++ (sliceBlk (.slice a5 L[i].names.length c5) ++ (sliceBlk (.slice a6 L[i].tags.length c6) ++ sliceBlk (.slice a7 L[i].kids.length c7))):=by
  rw [e]
  simp only [List.flatMap_cons,List.flatMap_nil,List.append_nil]
  rfl
 have fin : ∀ w'' : World,(∀ j (h : j < L.length) (h' : j < css.length),j ≠ i → OwnRule lo hi L[j] css[j] w'') → RowF Value.string lo a5 L[i].names c5 w'' → RowF (Value.int .i64) lo a6 L[i].tags c6 w'' → RowF (Value.int .i64) lo a7 L[i].kids c7 w'' → Row lo a4 xs c4 w'' → (∀ j (h : j < css.length) i v,css[j][i]? = some v → w''.cell? ⟨b,off + j * 8 + i,none⟩ = some v ∧ w''.frozen? ⟨b,off + j * 8 + i,none⟩ = false) → OwnSl lo hi b off css (L.set i { L[i] with bytes:=xs }) w'':=fun w'' g1 g5' g6' g7' gn g4 => by
  refine ⟨by simp [h1],fun j hj hj' => ?_,h3,g4,h5⟩
  have hj1 : j < L.length:=by simpa using hj
  by_cases ej : i = j
  ·subst ej
   rw [List.getElem_set_self]
   exact ⟨a4,c4,a5,c5,a6,c6,a7,c7,by rw [e]; simp [hlen],gn,g5',g6',g7',hnd,hrg⟩
  ·rw [List.getElem_set_ne ej]
   exact g1 j hj1 hj' (fun e => ej e.symm)
 rcases ht with rfl | ⟨hn,bs,os,ea,hlo,hg⟩
 ·exact ⟨fin w' (fun j q1 q2 _ => h2 j q1 q2) q5 q6 q7 hrow h4,Apart.refl _ _ _⟩
 ·have hin : bs ∈ css[i].flatMap sliceBlk:=by
   rw [hfl]
   subst ea
   exact List.mem_append_left _ (blk_of hn)
  have hbs : bs < hi:=(hrg bs hin).2
  have hnb : bs ≠ b:=fun e => (List.nodup_cons.1 h5).1 (by rw [← e]; exact mem_flat ic hin)
  rw [hfl] at hnd
  have o5 : ∀ x off',a5 = some ⟨x,off',none⟩ → L[i].names.length ≠ 0 → x ≠ bs:=fun x off' e1 e2 e3 => by
   subst e1 e3
   subst ea
   have ms:=blk_of (off:=os) (c:=c4) (b:=x) hn
   have mm:=blk_of (off:=off') (c:=c5) (b:=x) e2
   have n0:=List.nodup_append.1 hnd
   exact n0.2.2 x (ms) x (List.mem_append_left _ (mm)) rfl
  have o6 : ∀ x off',a6 = some ⟨x,off',none⟩ → L[i].tags.length ≠ 0 → x ≠ bs:=fun x off' e1 e2 e3 => by
   subst e1 e3
   subst ea
   have ms:=blk_of (off:=os) (c:=c4) (b:=x) hn
   have mm:=blk_of (off:=off') (c:=c6) (b:=x) e2
   have n0:=List.nodup_append.1 hnd
   exact n0.2.2 x (ms) x (List.mem_append_right _ (List.mem_append_left _ (mm))) rfl
  have o7 : ∀ x off',a7 = some ⟨x,off',none⟩ → L[i].kids.length ≠ 0 → x ≠ bs:=fun x off' e1 e2 e3 => by
   subst e1 e3
   subst ea
   have ms:=blk_of (off:=os) (c:=c4) (b:=x) hn
   have mm:=blk_of (off:=off') (c:=c7) (b:=x) e2
   have n0:=List.nodup_append.1 hnd
   exact n0.2.2 x (ms) x (List.mem_append_right _ (List.mem_append_right _ (mm))) rfl
  refine ⟨fin w' (fun j q1 q2 hne => (h2 j q1 q2).grownNe hg (flat_ne (List.nodup_cons.1 h5).2 ic q2 (fun e => hne e.symm) bs hin)) ⟨q5.1.grown hg fun x off' e1 hx => o5 x off' e1 (len_ne hx),q5.2⟩ ⟨q6.1.grown hg fun x off' e1 hx => o6 x off' e1 (len_ne hx),q6.2⟩ ⟨q7.1.grown hg fun x off' e1 hx => o7 x off' e1 (len_ne hx),q7.2⟩ hrow (fun j hj q v hv => ?_),Apart.ofGrown hg hlo hbs⟩
  obtain ⟨c1,c2⟩:=h4 j hj q v hv
  have hne2 : some b ≠ some bs:=fun e => by injection e with e; exact hnb e.symm
  exact ⟨hg.cell c1 hne2,(World.frozen?_of_block (a:=⟨b,off + j * 8 + q,none⟩) (hg.block b (cell_lt c1) hne2)).trans c2⟩
theorem OwnSl.turn5 {lo hi b off : Nat} {css : List (List Value)} {L : List RuleV} {w w' : World} (h : OwnSl lo hi b off css L w) (i : Nat) (il : i < L.length) (ic : i < css.length) {a4 a5 a6 a7 : Option Addr} {c4 c5 c6 c7 : Nat} (e : css[i] = [.string L[i].name,.int .i64 L[i].kind,.int .i64 L[i].size,.bool L[i].little,.slice a4 L[i].bytes.length c4,.slice a5 L[i].names.length c5,.slice a6 L[i].tags.length c6,.slice a7 L[i].kids.length c7])
  (xs : List ByteArray) (hlen : xs.length = L[i].names.length) (ht : Touch lo a5 L[i].names.length w w') (hrow : RowF Value.string lo a5 xs c5 w') : OwnSl lo hi b off css (L.set i { L[i] with names:=xs }) w' ∧ Apart lo hi w w':=by
 obtain ⟨h1,h2,h3,h4,h5⟩:=h
 have hi2:=h2 i il ic
 obtain ⟨b4,d4,b5,d5,b6,d6,b7,d7,e',q4,q5,q6,q7,hnd,hrg⟩:=h2 i il ic
 rw [e] at e'
 simp only [List.cons.injEq,Value.slice.injEq,true_and,and_true] at e'
 obtain ⟨⟨rfl,rfl⟩,⟨rfl,rfl⟩,⟨rfl,rfl⟩,rfl,rfl⟩:=e'
 have hfl : css[i].flatMap sliceBlk = sliceBlk (.slice a4 L[i].bytes.length c4) ++ (sliceBlk (.slice a5 L[i].names.length c5) ++ (sliceBlk (.slice a6 L[i].tags.length c6) ++ sliceBlk (.slice a7 L[i].kids.length c7))):=by
  rw [e]
  simp only [List.flatMap_cons,List.flatMap_nil,List.append_nil]
  rfl
 have fin : ∀ w'' : World,(∀ j (h : j < L.length) (h' : j < css.length),j ≠ i → OwnRule lo hi L[j] css[j] w'') → Row lo a4 L[i].bytes c4 w'' → RowF (Value.int .i64) lo a6 L[i].tags c6 w'' → RowF (Value.int .i64) lo a7 L[i].kids c7 w'' → RowF Value.string lo a5 xs c5 w'' → (∀ j (h : j < css.length) i v,css[j][i]? = some v → w''.cell? ⟨b,off + j * 8 + i,none⟩ = some v ∧ w''.frozen? ⟨b,off + j * 8 + i,none⟩ = false) → OwnSl lo hi b off css (L.set i { L[i] with names:=xs }) w'':=fun w'' g1 g4' g6' g7' gn g4 => by
  refine ⟨by simp [h1],fun j hj hj' => ?_,h3,g4,h5⟩
  have hj1 : j < L.length:=by simpa using hj
  by_cases ej : i = j
  ·subst ej
   rw [List.getElem_set_self]
   exact ⟨a4,c4,a5,c5,a6,c6,a7,c7,by rw [e]; simp [hlen],g4',gn,g6',g7',hnd,hrg⟩
  ·rw [List.getElem_set_ne ej]
   exact g1 j hj1 hj' (fun e => ej e.symm)
 rcases ht with rfl | ⟨hn,bs,os,ea,hlo,hg⟩
 ·exact ⟨fin w' (fun j q1 q2 _ => h2 j q1 q2) q4 q6 q7 hrow h4,Apart.refl _ _ _⟩
 ·have hin : bs ∈ css[i].flatMap sliceBlk:=by
   rw [hfl]
   subst ea
   exact List.mem_append_right _ (List.mem_append_left _ (blk_of hn))
  have hbs : bs < hi:=(hrg bs hin).2
  have hnb : bs ≠ b:=fun e => (List.nodup_cons.1 h5).1 (by rw [← e]; exact mem_flat ic hin)
  rw [hfl] at hnd
  have o4 : ∀ x off',a4 = some ⟨x,off',none⟩ → L[i].bytes.length ≠ 0 → x ≠ bs:=fun x off' e1 e2 e3 => by
   subst e1 e3
   subst ea
   have ms:=blk_of (off:=os) (c:=c5) (b:=x) hn
   have mm:=blk_of (off:=off') (c:=c4) (b:=x) e2
   have n0:=List.nodup_append.1 hnd
   exact n0.2.2 x (mm) x (List.mem_append_left _ (ms)) rfl
  have o6 : ∀ x off',a6 = some ⟨x,off',none⟩ → L[i].tags.length ≠ 0 → x ≠ bs:=fun x off' e1 e2 e3 => by
   subst e1 e3
   subst ea
   have ms:=blk_of (off:=os) (c:=c5) (b:=x) hn
   have mm:=blk_of (off:=off') (c:=c6) (b:=x) e2
   have n0:=List.nodup_append.1 hnd
   have n1:=List.nodup_append.1 n0.2.1
   exact n1.2.2 x (ms) x (List.mem_append_left _ (mm)) rfl
  have o7 : ∀ x off',a7 = some ⟨x,off',none⟩ → L[i].kids.length ≠ 0 → x ≠ bs:=fun x off' e1 e2 e3 => by
   subst e1 e3
   subst ea
   have ms:=blk_of (off:=os) (c:=c5) (b:=x) hn
   have mm:=blk_of (off:=off') (c:=c7) (b:=x) e2
   have n0:=List.nodup_append.1 hnd
   have n1:=List.nodup_append.1 n0.2.1
   exact n1.2.2 x (ms) x (List.mem_append_right _ (mm)) rfl
  refine ⟨fin w' (fun j q1 q2 hne => (h2 j q1 q2).grownNe hg (flat_ne (List.nodup_cons.1 h5).2 ic q2 (fun e => hne e.symm) bs hin)) ⟨q4.1.grown hg fun x off' e1 hx => o4 x off' e1 (len_ne hx),q4.2⟩ ⟨q6.1.grown hg fun x off' e1 hx => o6 x off' e1 (len_ne hx),q6.2⟩ ⟨q7.1.grown hg fun x off' e1 hx => o7 x off' e1 (len_ne hx),q7.2⟩ hrow (fun j hj q v hv => ?_),Apart.ofGrown hg hlo hbs⟩
  obtain ⟨c1,c2⟩:=h4 j hj q v hv
  have hne2 : some b ≠ some bs:=fun e => by injection e with e; exact hnb e.symm
  exact ⟨hg.cell c1 hne2,(World.frozen?_of_block (a:=⟨b,off + j * 8 + q,none⟩) (hg.block b (cell_lt c1) hne2)).trans c2⟩
theorem OwnSl.turn6 {lo hi b off : Nat} {css : List (List Value)} {L : List RuleV} {w w' : World} (h : OwnSl lo hi b off css L w) (i : Nat) (il : i < L.length) (ic : i < css.length) {a4 a5 a6 a7 : Option Addr} {c4 c5 c6 c7 : Nat} (e : css[i] = [.string L[i].name,.int .i64 L[i].kind,.int .i64 L[i].size,.bool L[i].little,.slice a4 L[i].bytes.length c4,.slice a5 L[i].names.length c5,.slice a6 L[i].tags.length c6,.slice a7 L[i].kids.length c7])
  (xs : List Int) (hlen : xs.length = L[i].tags.length) (ht : Touch lo a6 L[i].tags.length w w') (hrow : RowF (Value.int .i64) lo a6 xs c6 w') : OwnSl lo hi b off css (L.set i { L[i] with tags:=xs }) w' ∧ Apart lo hi w w':=by
 obtain ⟨h1,h2,h3,h4,h5⟩:=h
 have hi2:=h2 i il ic
 obtain ⟨b4,d4,b5,d5,b6,d6,b7,d7,e',q4,q5,q6,q7,hnd,hrg⟩:=h2 i il ic
 rw [e] at e'
 simp only [List.cons.injEq,Value.slice.injEq,true_and,and_true] at e'
 obtain ⟨⟨rfl,rfl⟩,⟨rfl,rfl⟩,⟨rfl,rfl⟩,rfl,rfl⟩:=e'
 have hfl : css[i].flatMap sliceBlk = sliceBlk (.slice a4 L[i].bytes.length c4) ++ (sliceBlk (.slice a5 L[i].names.length c5) ++ (sliceBlk (.slice a6 L[i].tags.length c6) ++ sliceBlk (.slice a7 L[i].kids.length c7))):=by
  rw [e]
  simp only [List.flatMap_cons,List.flatMap_nil,List.append_nil]
  rfl
 have fin : ∀ w'' : World,(∀ j (h : j < L.length) (h' : j < css.length),j ≠ i → OwnRule lo hi L[j] css[j] w'') → Row lo a4 L[i].bytes c4 w'' → RowF Value.string lo a5 L[i].names c5 w'' → RowF (Value.int .i64) lo a7 L[i].kids c7 w'' → RowF (Value.int .i64) lo a6 xs c6 w'' → (∀ j (h : j < css.length) i v,css[j][i]? = some v → w''.cell? ⟨b,off + j * 8 + i,none⟩ = some v ∧ w''.frozen? ⟨b,off + j * 8 + i,none⟩ = false) → OwnSl lo hi b off css (L.set i { L[i] with tags:=xs }) w'':=fun w'' g1 g4' g5' g7' gn g4 => by
  refine ⟨by simp [h1],fun j hj hj' => ?_,h3,g4,h5⟩
  have hj1 : j < L.length:=by simpa using hj
  by_cases ej : i = j
  ·subst ej
   rw [List.getElem_set_self]
   exact ⟨a4,c4,a5,c5,a6,c6,a7,c7,by rw [e]; simp [hlen],g4',g5',gn,g7',hnd,hrg⟩
  ·rw [List.getElem_set_ne ej]
   exact g1 j hj1 hj' (fun e => ej e.symm)
 rcases ht with rfl | ⟨hn,bs,os,ea,hlo,hg⟩
 ·exact ⟨fin w' (fun j q1 q2 _ => h2 j q1 q2) q4 q5 q7 hrow h4,Apart.refl _ _ _⟩
 ·have hin : bs ∈ css[i].flatMap sliceBlk:=by
   rw [hfl]
   subst ea
   exact List.mem_append_right _ (List.mem_append_right _ (List.mem_append_left _ (blk_of hn)))
  have hbs : bs < hi:=(hrg bs hin).2
  have hnb : bs ≠ b:=fun e => (List.nodup_cons.1 h5).1 (by rw [← e]; exact mem_flat ic hin)
  rw [hfl] at hnd
  have o4 : ∀ x off',a4 = some ⟨x,off',none⟩ → L[i].bytes.length ≠ 0 → x ≠ bs:=fun x off' e1 e2 e3 => by
   subst e1 e3
   subst ea
   have ms:=blk_of (off:=os) (c:=c6) (b:=x) hn
   have mm:=blk_of (off:=off') (c:=c4) (b:=x) e2
   have n0:=List.nodup_append.1 hnd
   exact n0.2.2 x (mm) x (List.mem_append_right _ (List.mem_append_left _ (ms))) rfl
  have o5 : ∀ x off',a5 = some ⟨x,off',none⟩ → L[i].names.length ≠ 0 → x ≠ bs:=fun x off' e1 e2 e3 => by
   subst e1 e3
   subst ea
   have ms:=blk_of (off:=os) (c:=c6) (b:=x) hn
   have mm:=blk_of (off:=off') (c:=c5) (b:=x) e2
   have n0:=List.nodup_append.1 hnd
   have n1:=List.nodup_append.1 n0.2.1
   exact n1.2.2 x (mm) x (List.mem_append_left _ (ms)) rfl
  have o7 : ∀ x off',a7 = some ⟨x,off',none⟩ → L[i].kids.length ≠ 0 → x ≠ bs:=fun x off' e1 e2 e3 => by
   subst e1 e3
   subst ea
   have ms:=blk_of (off:=os) (c:=c6) (b:=x) hn
   have mm:=blk_of (off:=off') (c:=c7) (b:=x) e2
   have n0:=List.nodup_append.1 hnd
   have n1:=List.nodup_append.1 n0.2.1
   have n2:=List.nodup_append.1 n1.2.1
   exact n2.2.2 x (ms) x (mm) rfl
  refine ⟨fin w' (fun j q1 q2 hne => (h2 j q1 q2).grownNe hg (flat_ne (List.nodup_cons.1 h5).2 ic q2 (fun e => hne e.symm) bs hin)) ⟨q4.1.grown hg fun x off' e1 hx => o4 x off' e1 (len_ne hx),q4.2⟩ ⟨q5.1.grown hg fun x off' e1 hx => o5 x off' e1 (len_ne hx),q5.2⟩ ⟨q7.1.grown hg fun x off' e1 hx => o7 x off' e1 (len_ne hx),q7.2⟩ hrow (fun j hj q v hv => ?_),Apart.ofGrown hg hlo hbs⟩
  obtain ⟨c1,c2⟩:=h4 j hj q v hv
  have hne2 : some b ≠ some bs:=fun e => by injection e with e; exact hnb e.symm
  exact ⟨hg.cell c1 hne2,(World.frozen?_of_block (a:=⟨b,off + j * 8 + q,none⟩) (hg.block b (cell_lt c1) hne2)).trans c2⟩
theorem OwnSl.turn7 {lo hi b off : Nat} {css : List (List Value)} {L : List RuleV} {w w' : World} (h : OwnSl lo hi b off css L w) (i : Nat) (il : i < L.length) (ic : i < css.length) {a4 a5 a6 a7 : Option Addr} {c4 c5 c6 c7 : Nat} (e : css[i] = [.string L[i].name,.int .i64 L[i].kind,.int .i64 L[i].size,.bool L[i].little,.slice a4 L[i].bytes.length c4,.slice a5 L[i].names.length c5,.slice a6 L[i].tags.length c6,.slice a7 L[i].kids.length c7])
  (xs : List Int) (hlen : xs.length = L[i].kids.length) (ht : Touch lo a7 L[i].kids.length w w') (hrow : RowF (Value.int .i64) lo a7 xs c7 w') : OwnSl lo hi b off css (L.set i { L[i] with kids:=xs }) w' ∧ Apart lo hi w w':=by
 obtain ⟨h1,h2,h3,h4,h5⟩:=h
 have hi2:=h2 i il ic
 obtain ⟨b4,d4,b5,d5,b6,d6,b7,d7,e',q4,q5,q6,q7,hnd,hrg⟩:=h2 i il ic
 rw [e] at e'
 simp only [List.cons.injEq,Value.slice.injEq,true_and,and_true] at e'
 obtain ⟨⟨rfl,rfl⟩,⟨rfl,rfl⟩,⟨rfl,rfl⟩,rfl,rfl⟩:=e'
 have hfl : css[i].flatMap sliceBlk = sliceBlk (.slice a4 L[i].bytes.length c4) ++ (sliceBlk (.slice a5 L[i].names.length c5) ++ (sliceBlk (.slice a6 L[i].tags.length c6) ++ sliceBlk (.slice a7 L[i].kids.length c7))):=by
  rw [e]
  simp only [List.flatMap_cons,List.flatMap_nil,List.append_nil]
  rfl
 have fin : ∀ w'' : World,(∀ j (h : j < L.length) (h' : j < css.length),j ≠ i → OwnRule lo hi L[j] css[j] w'') → Row lo a4 L[i].bytes c4 w'' → RowF Value.string lo a5 L[i].names c5 w'' → RowF (Value.int .i64) lo a6 L[i].tags c6 w'' → RowF (Value.int .i64) lo a7 xs c7 w'' → (∀ j (h : j < css.length) i v,css[j][i]? = some v → w''.cell? ⟨b,off + j * 8 + i,none⟩ = some v ∧ w''.frozen? ⟨b,off + j * 8 + i,none⟩ = false) → OwnSl lo hi b off css (L.set i { L[i] with kids:=xs }) w'':=fun w'' g1 g4' g5' g6' gn g4 => by
  refine ⟨by simp [h1],fun j hj hj' => ?_,h3,g4,h5⟩
  have hj1 : j < L.length:=by simpa using hj
  by_cases ej : i = j
  ·subst ej
   rw [List.getElem_set_self]
   exact ⟨a4,c4,a5,c5,a6,c6,a7,c7,by rw [e]; simp [hlen],g4',g5',g6',gn,hnd,hrg⟩
  ·rw [List.getElem_set_ne ej]
   exact g1 j hj1 hj' (fun e => ej e.symm)
 rcases ht with rfl | ⟨hn,bs,os,ea,hlo,hg⟩
 ·exact ⟨fin w' (fun j q1 q2 _ => h2 j q1 q2) q4 q5 q6 hrow h4,Apart.refl _ _ _⟩
 ·have hin : bs ∈ css[i].flatMap sliceBlk:=by
   rw [hfl]
   subst ea
   exact List.mem_append_right _ (List.mem_append_right _ (List.mem_append_right _ (blk_of hn)))
  have hbs : bs < hi:=(hrg bs hin).2
  have hnb : bs ≠ b:=fun e => (List.nodup_cons.1 h5).1 (by rw [← e]; exact mem_flat ic hin)
  rw [hfl] at hnd
  have o4 : ∀ x off',a4 = some ⟨x,off',none⟩ → L[i].bytes.length ≠ 0 → x ≠ bs:=fun x off' e1 e2 e3 => by
   subst e1 e3
   subst ea
   have ms:=blk_of (off:=os) (c:=c7) (b:=x) hn
   have mm:=blk_of (off:=off') (c:=c4) (b:=x) e2
   have n0:=List.nodup_append.1 hnd
   exact n0.2.2 x (mm) x (List.mem_append_right _ (List.mem_append_right _ (ms))) rfl
  have o5 : ∀ x off',a5 = some ⟨x,off',none⟩ → L[i].names.length ≠ 0 → x ≠ bs:=fun x off' e1 e2 e3 => by
   subst e1 e3
   subst ea
   have ms:=blk_of (off:=os) (c:=c7) (b:=x) hn
   have mm:=blk_of (off:=off') (c:=c5) (b:=x) e2
   have n0:=List.nodup_append.1 hnd
   have n1:=List.nodup_append.1 n0.2.1
   exact n1.2.2 x (mm) x (List.mem_append_right _ (ms)) rfl
  have o6 : ∀ x off',a6 = some ⟨x,off',none⟩ → L[i].tags.length ≠ 0 → x ≠ bs:=fun x off' e1 e2 e3 => by
   subst e1 e3
   subst ea
   have ms:=blk_of (off:=os) (c:=c7) (b:=x) hn
   have mm:=blk_of (off:=off') (c:=c6) (b:=x) e2
   have n0:=List.nodup_append.1 hnd
   have n1:=List.nodup_append.1 n0.2.1
   have n2:=List.nodup_append.1 n1.2.1
   exact n2.2.2 x (mm) x (ms) rfl
  refine ⟨fin w' (fun j q1 q2 hne => (h2 j q1 q2).grownNe hg (flat_ne (List.nodup_cons.1 h5).2 ic q2 (fun e => hne e.symm) bs hin)) ⟨q4.1.grown hg fun x off' e1 hx => o4 x off' e1 (len_ne hx),q4.2⟩ ⟨q5.1.grown hg fun x off' e1 hx => o5 x off' e1 (len_ne hx),q5.2⟩ ⟨q6.1.grown hg fun x off' e1 hx => o6 x off' e1 (len_ne hx),q6.2⟩ hrow (fun j hj q v hv => ?_),Apart.ofGrown hg hlo hbs⟩
  obtain ⟨c1,c2⟩:=h4 j hj q v hv
  have hne2 : some b ≠ some bs:=fun e => by injection e with e; exact hnb e.symm
  exact ⟨hg.cell c1 hne2,(World.frozen?_of_block (a:=⟨b,off + j * 8 + q,none⟩) (hg.block b (cell_lt c1) hne2)).trans c2⟩
def widthR (r : RuleV) : Nat:=4 + r.bytes.length + r.names.length + r.tags.length + r.kids.length
def sumW (rs : List RuleV) (k : Nat) : Nat:=((rs.take k).map widthR).sum
theorem sumW_next (rs : List RuleV) (k : Nat) (h : k < rs.length) : sumW rs (k + 1) = sumW rs k + widthR rs[k]:=by
 unfold sumW
 rw [List.take_succ_eq_append_getElem h,List.map_append,List.sum_append]
 simp only [List.map_cons,List.map_nil,List.sum_cons,List.sum_nil,Nat.add_zero]
theorem sumW_le (rs : List RuleV) (k : Nat) : sumW rs k ≤ sumW rs rs.length:=by
 unfold sumW
 have e : (rs.map widthR).sum = ((rs.take k).map widthR).sum + ((rs.drop k).map widthR).sum:=by
  rw [← List.sum_append,← List.map_append,List.take_append_drop]
 rw [List.take_length,e]
 exact Nat.le_add_right _ _
def markR (k : Nat) (r : RuleV) : RuleV :=
 ⟨markT k,((k + 1 : Nat) : Int),((k + 2 : Nat) : Int),decide ((k + 3) % 3 = 0),marks (k + 4) r.bytes.length,marksS (k + 4 + r.bytes.length) r.names.length,marksI (k + 4 + r.bytes.length + r.names.length) r.tags.length,marksI (k + 4 + r.bytes.length + r.names.length + r.tags.length) r.kids.length⟩
def Mixed (k : Nat) (rs : List RuleV) (i : Nat) (L : List RuleV) : Prop:=L.length = rs.length ∧ ∀ j (h : j < rs.length) (h' : j < L.length),L[j] = if j < i then markR (k + sumW rs j) rs[j] else rs[j]
theorem Mixed.start (k : Nat) (rs : List RuleV) : Mixed k rs 0 rs:=⟨rfl,fun j _ _ => by rw [if_neg (by omega)]⟩
theorem Mixed.next {k i : Nat} {rs L : List RuleV} (h : Mixed k rs i L) (hi : i < rs.length) : Mixed k rs (i + 1) (L.set i (markR (k + sumW rs i) rs[i])):=by
 obtain ⟨h1,h2⟩:=h
 refine ⟨by simp [h1],fun j hj hj' => ?_⟩
 by_cases e : i = j
 ·subst e
  rw [List.getElem_set_self,if_pos (by omega)]
 ·rw [List.getElem_set_ne e,h2 j hj (by omega)]
  by_cases hlt : j < i
  ·rw [if_pos hlt,if_pos (by omega)]
  ·rw [if_neg hlt,if_neg (by omega)]
theorem Mixed.at {k i : Nat} {rs L : List RuleV} (h : Mixed k rs i L) (hi : i < rs.length) (hi' : i < L.length) : L[i] = rs[i]:=by rw [h.2 i hi hi',if_neg (by omega)]
theorem OwnSl.cells {lo hi b off : Nat} {css : List (List Value)} {L : List RuleV} {w : World} (h : OwnSl lo hi b off css L w) (i : Nat) (il : i < L.length) (ic : i < css.length) : ∀ f v,css[i][f]? = some v → w.cell? ⟨b,off + i * 8 + f,none⟩ = some v ∧ w.frozen? ⟨b,off + i * 8 + f,none⟩ = false:=fun f v hv => by
 have _:=il
 exact h.2.2.2.1 i ic f v hv
theorem OwnSl.put4 {lo hi b off : Nat} {css : List (List Value)} {L : List RuleV} {w : World} (h : OwnSl lo hi b off css L w) (i : Nat) (il : i < L.length) (ic : i < css.length) {a4 a5 a6 a7 : Option Addr} {c4 c5 c6 c7 : Nat} (e : css[i] = [.string L[i].name,.int .i64 L[i].kind,.int .i64 L[i].size,.bool L[i].little,.slice a4 L[i].bytes.length c4,.slice a5 L[i].names.length c5,.slice a6 L[i].tags.length c6,.slice a7 L[i].kids.length c7])
  (nm : ByteArray) (kd sz : Int) (lt : Bool) :
  OwnSl lo hi b off (css.set i [.string nm,.int .i64 kd,.int .i64 sz,.bool lt,.slice a4 L[i].bytes.length c4,.slice a5 L[i].names.length c5,.slice a6 L[i].tags.length c6,.slice a7 L[i].kids.length c7]) (L.set i ⟨nm,kd,sz,lt,L[i].bytes,L[i].names,L[i].tags,L[i].kids⟩)
   ((((w.setCell ⟨b,off + i * 8,none⟩ (.string nm)).setCell ⟨b,off + i * 8 + 1,none⟩ (.int .i64 kd)).setCell ⟨b,off + i * 8 + 2,none⟩ (.int .i64 sz)).setCell ⟨b,off + i * 8 + 3,none⟩ (.bool lt)):=by
 have p0:=h.put i il ic 0 (by omega) (.string nm) ⟨nm,L[i].kind,L[i].size,L[i].little,L[i].bytes,L[i].names,L[i].tags,L[i].kids⟩ (fun _ _ _ _ _ _ _ _ e => ⟨by rw [e]; rfl,rfl,rfl,rfl,rfl⟩)
 rw [e] at p0
 have p1:=p0.put i (by simpa using il) (by simpa using ic) 1 (by omega) (.int .i64 kd) ⟨nm,kd,L[i].size,L[i].little,L[i].bytes,L[i].names,L[i].tags,L[i].kids⟩ (fun _ _ _ _ _ _ _ _ e => by
  refine ⟨?_,by simp only [List.getElem_set_self],by simp only [List.getElem_set_self],by simp only [List.getElem_set_self],by simp only [List.getElem_set_self]⟩
  rw [e]
  simp only [List.getElem_set_self,List.set])
 have p2:=p1.put i (by simpa using il) (by simpa using ic) 2 (by omega) (.int .i64 sz) ⟨nm,kd,sz,L[i].little,L[i].bytes,L[i].names,L[i].tags,L[i].kids⟩ (fun _ _ _ _ _ _ _ _ e => by
  refine ⟨?_,by simp only [List.getElem_set_self],by simp only [List.getElem_set_self],by simp only [List.getElem_set_self],by simp only [List.getElem_set_self]⟩
  rw [e]
  simp only [List.getElem_set_self,List.set])
 have p3:=p2.put i (by simpa using il) (by simpa using ic) 3 (by omega) (.bool lt) ⟨nm,kd,sz,lt,L[i].bytes,L[i].names,L[i].tags,L[i].kids⟩ (fun _ _ _ _ _ _ _ _ e => by
  refine ⟨?_,by simp only [List.getElem_set_self],by simp only [List.getElem_set_self],by simp only [List.getElem_set_self],by simp only [List.getElem_set_self]⟩
  rw [e]
  simp only [List.getElem_set_self,List.set])
 simp only [List.getElem_set_self,List.set_set,List.set,Nat.add_zero] at p3
 exact p3
theorem put_other {w : World} {b o o' : Nat} {v u : Value} (h : w.cell? ⟨b,o,none⟩ = some u) (hne : o' ≠ o) : (w.setCell ⟨b,o',none⟩ v).cell? ⟨b,o,none⟩ = some u:=(World.cell?_setCell_other _ _ _ _ (fun he => by have:=congrArg Addr.off he; simp at this; omega)).trans h
theorem put_frozen {w : World} {p : Addr} {q : Addr} {v : Value} (h : w.frozen? q = false) : (w.setCell p v).frozen? q = false:=by simpa using h
theorem Apart.set {lo hi b : Nat} {w w' : World} (h : Apart lo hi w w') (i : Nat) (v : Value) (h1 : lo ≤ b) (h2 : b < hi) : Apart lo hi w (w'.setCell ⟨b,i,none⟩ v):=h.trans (Apart.ofGrown (grown_set (grown_refl w' b) i v) h1 h2)
theorem OwnSl.rows {lo hi b off : Nat} {css : List (List Value)} {L : List RuleV} {w : World} (h : OwnSl lo hi b off css L w) (i : Nat) (il : i < L.length) (ic : i < css.length) {a4 a5 a6 a7 : Option Addr} {c4 c5 c6 c7 : Nat} (e : css[i] = [.string L[i].name,.int .i64 L[i].kind,.int .i64 L[i].size,.bool L[i].little,.slice a4 L[i].bytes.length c4,.slice a5 L[i].names.length c5,.slice a6 L[i].tags.length c6,.slice a7 L[i].kids.length c7]) :
  Row lo a4 L[i].bytes c4 w ∧ RowF Value.string lo a5 L[i].names c5 w ∧ RowF (Value.int .i64) lo a6 L[i].tags c6 w ∧ RowF (Value.int .i64) lo a7 L[i].kids c7 w:=by
 obtain ⟨b4,d4,b5,d5,b6,d6,b7,d7,e',q4,q5,q6,q7,_⟩:=h.2.1 i il ic
 rw [e] at e'
 simp only [List.cons.injEq,Value.slice.injEq,true_and,and_true] at e'
 obtain ⟨⟨rfl,rfl⟩,⟨rfl,rfl⟩,⟨rfl,rfl⟩,rfl,rfl⟩:=e'
 exact ⟨q4,q5,q6,q7⟩
def MarkedR (lo hi b off : Nat) (rs : List RuleV) (k : Nat) (w : World) (e : Ending) (w' : World) : Prop :=
 e = .returned (.int .i64 ((k + sumW rs rs.length : Nat) : Int)) ∧ ∃ L css,Mixed k rs rs.length L ∧ OwnSl lo hi b off css L w' ∧ Apart lo hi w w'
set_option maxHeartbeats 4000000 in
theorem markr_some (lo hi b off : Nat) (rs : List RuleV) (css0 : List (List Value)) (cap k : Nat) (w : World) (hl : rs.length ≤ 1048576) (hs : ∀ r ∈ rs,Short r) (hk0 : 0 < k) (hk : k + sumW rs rs.length ≤ 1073741824) (h : OwnSl lo hi b off css0 rs w) :
  Calls Tryz.prog 50 #[.slice (some ⟨b,off,none⟩) rs.length cap,.int .i64 (k : Int)] w (MarkedR lo hi b off rs k w):=by
 have H:=kq h
 have HS:=kq hs
 clear h hs
 go_enter Tryz.func50,Tryz.ntmps50
 go_wp2
 go_loopw [1,5] (fun q i W => ∃ (j m : Nat) (L : List RuleV) (css : List (List Value)),j ≤ rs.length ∧ i = .int .i64 j ∧ q = .int .i64 (m : Int) ∧ Hid (m = k + sumW rs j) ∧ m ≤ 1073741824 ∧ 0 < m ∧ Hid (Mixed k rs j L) ∧ Hid (OwnSl lo hi b off css L W) ∧ Hid (Apart lo hi w W)) (fun _ i _ => rs.length - (intOf i).toNat)
 case atStart => exact ⟨0,k,rs,css0,Nat.zero_le _,rfl,rfl,by unfold Hid sumW; simp,by omega,hk0,Mixed.start k rs,H,Apart.refl _ _ _⟩
 case round =>
  obtain ⟨j,m,L,css,hj,rfl,rfl,hm,hm1,hm0,hmix,ho,hap⟩:=hrel
  have j0 : (0 : Int) ≤ (j : Int):=by omega
  by_cases hlt : j < rs.length
  ·have j1 : (j : Int) < (rs.length : Int):=by omega
   have il : j < L.length:=by have:=hmix.out.1; omega
   have ic : j < css.length:=by have:=ho.out.1; omega
   have hat:=hmix.out.at hlt il
   have hnx:=kq (sumW_next rs j hlt)
   have hle:=kq (sumW_le rs (j + 1))
   have hsh:=kq (HS.out _ (List.getElem_mem hlt))
   have hmn:=kq (hmix.out.next hlt)
   rw [← hm.out] at hmn
   obtain ⟨a4,c4,a5,c5,a6,c6,a7,c7,hcs,-⟩:=ho.out.2.1 j il ic
   have HCS:=kq hcs
   have HAT:=kq hat
   clear hat hcs hmix
   go_wp2_with fail
   refine (mark_text m _ hm0 (by omega)).mono ?_
   rintro e w1 ⟨rfl,hb1⟩
   have ho1:=kq (ho.out.below hb1)
   have hap1:=kq (hap.out.trans (Apart.ofBelow hb1))
   clear hb1 ho hap
   obtain ⟨d0,f0⟩:=ho1.out.cells j il ic 0 _ (by rw [HCS.out]; rfl)
   rw [Nat.add_zero] at d0 f0
   obtain ⟨hlo,hhi⟩:=ho1.out.2.2.1
   obtain ⟨d1,f1⟩:=ho1.out.cells j il ic 1 _ (by rw [HCS.out]; rfl)
   obtain ⟨d2,f2⟩:=ho1.out.cells j il ic 2 _ (by rw [HCS.out]; rfl)
   obtain ⟨d3,f3⟩:=ho1.out.cells j il ic 3 _ (by rw [HCS.out]; rfl)
   have D1:=kq d1
   have D2:=kq d2
   have D3:=kq d3
   have F1:=kq f1
   have F2:=kq f2
   have F3:=kq f3
   clear d1 d2 d3 f1 f2 f3
   go_upto_region 6 with fail
   clear d0 f0
   obtain ⟨v0,hv0⟩ : ∃ v,v = w1.setCell ⟨b,off + j * 8,none⟩ (.string (markT m)):=⟨_,rfl⟩
   rw [← hv0]
   have d1:=put_other (o':=off + j * 8) (v:=.string (markT m)) D1.out (by omega)
   rw [← hv0] at d1
   have f1 : v0.frozen? ⟨b,off + j * 8 + 1,none⟩ = false:=by rw [hv0]; exact put_frozen F1.out
   have HV0:=kq hv0
   clear hv0
   go_upto_region 8 with fail
   clear d1 f1
   obtain ⟨v1,hv1⟩ : ∃ v,v = v0.setCell ⟨b,off + j * 8 + 1,none⟩ (.int .i64 ((m : Int) + 1)):=⟨_,rfl⟩
   rw [← hv1]
   have d2:=put_other (o':=off + j * 8 + 1) (v:=.int .i64 ((m : Int) + 1)) (put_other (o':=off + j * 8) (v:=.string (markT m)) D2.out (by omega)) (by omega)
   rw [← HV0.out,← hv1] at d2
   have f2 : v1.frozen? ⟨b,off + j * 8 + 2,none⟩ = false:=by rw [hv1,HV0.out]; exact put_frozen (put_frozen F2.out)
   have HV1:=kq hv1
   clear hv1
   go_upto_region 10 with fail
   clear d2 f2
   obtain ⟨v2,hv2⟩ : ∃ v,v = v1.setCell ⟨b,off + j * 8 + 2,none⟩ (.int .i64 ((m : Int) + 1 + 1)):=⟨_,rfl⟩
   rw [← hv2]
   have d3:=put_other (o':=off + j * 8 + 2) (v:=.int .i64 ((m : Int) + 1 + 1)) (put_other (o':=off + j * 8 + 1) (v:=.int .i64 ((m : Int) + 1)) (put_other (o':=off + j * 8) (v:=.string (markT m)) D3.out (by omega)) (by omega)) (by omega)
   rw [← HV0.out,← HV1.out,← hv2] at d3
   have f3 : v2.frozen? ⟨b,off + j * 8 + 3,none⟩ = false:=by rw [hv2,HV1.out,HV0.out]; exact put_frozen (put_frozen (put_frozen F3.out))
   have HV2:=kq hv2
   clear hv2
   go_upto_region 12 with fail
   clear d3 f3
   obtain ⟨v3,hv3⟩ : ∃ v,v = v2.setCell ⟨b,off + j * 8 + 3,none⟩ (.bool (((m : Int) + 1 + 1 + 1) % 3 == 0)):=⟨_,rfl⟩
   rw [← hv3]
   obtain ⟨L3,hL3⟩ : ∃ L3,L3 = L.set j ⟨markT m,(m : Int) + 1,(m : Int) + 1 + 1,(((m : Int) + 1 + 1 + 1) % 3 == 0),L[j].bytes,L[j].names,L[j].tags,L[j].kids⟩:=⟨_,rfl⟩
   obtain ⟨css3,hc3⟩ : ∃ css3,css3 = css.set j [.string (markT m),.int .i64 ((m : Int) + 1),.int .i64 ((m : Int) + 1 + 1),.bool (((m : Int) + 1 + 1 + 1) % 3 == 0),.slice a4 L[j].bytes.length c4,.slice a5 L[j].names.length c5,.slice a6 L[j].tags.length c6,.slice a7 L[j].kids.length c7]:=⟨_,rfl⟩
   have ho3 : Hid (OwnSl lo hi b off css3 L3 v3):=by
    show OwnSl _ _ _ _ _ _ _
    rw [hL3,hc3,hv3,HV2.out,HV1.out,HV0.out]
    exact ho1.out.put4 j il ic HCS.out _ _ _ _
   have hap3 : Hid (Apart lo hi w v3):=by
    show Apart _ _ _ _
    rw [hv3,HV2.out,HV1.out,HV0.out]
    exact (((hap1.out.set _ _ hlo hhi).set _ _ hlo hhi).set _ _ hlo hhi).set _ _ hlo hhi
   have il3 : j < L3.length:=by rw [hL3]; simpa using il
   have ic3 : j < css3.length:=by rw [hc3]; simpa using ic
   have HL3 : Hid (L3[j] = ⟨markT m,(m : Int) + 1,(m : Int) + 1 + 1,(((m : Int) + 1 + 1 + 1) % 3 == 0),L[j].bytes,L[j].names,L[j].tags,L[j].kids⟩):=by
    show _ = _
    subst hL3
    exact List.getElem_set_self _
   have E3 : Hid (css3[j] = [.string L3[j].name,.int .i64 L3[j].kind,.int .i64 L3[j].size,.bool L3[j].little,.slice a4 L3[j].bytes.length c4,.slice a5 L3[j].names.length c5,.slice a6 L3[j].tags.length c6,.slice a7 L3[j].kids.length c7]):=by
    show _ = _
    rw [HL3.out]
    subst hc3
    exact List.getElem_set_self _
   have HLL:=kq hL3
   clear hL3 hc3 hv3 HV0 HV1 HV2 D1 D2 D3 F1 F2 F3 ho1 hap1
   have n4 : L3[j].bytes.length ≤ 1048576:=by rw [HL3.out,HAT.out]; exact hsh.out.1
   have n5 : L3[j].names.length ≤ 1048576:=by rw [HL3.out,HAT.out]; exact hsh.out.2.1
   have n6 : L3[j].tags.length ≤ 1048576:=by rw [HL3.out,HAT.out]; exact hsh.out.2.2.1
   have n7 : L3[j].kids.length ≤ 1048576:=by rw [HL3.out,HAT.out]; exact hsh.out.2.2.2
   have hwid : Hid (m + 4 + L3[j].bytes.length + L3[j].names.length + L3[j].tags.length + L3[j].kids.length = k + sumW rs (j + 1)):=by
    show _ = _
    rw [hnx.out,hm.out,HL3.out,HAT.out]
    unfold widthR
    dsimp only
    omega
   have hwle : m + 4 + L3[j].bytes.length + L3[j].names.length + L3[j].tags.length + L3[j].kids.length ≤ 1073741824:=by rw [hwid.out]; have:=hle.out; omega
   obtain ⟨m4,hm4⟩ : ∃ m4 : Nat,m4 = m + 4:=⟨_,rfl⟩
   have e4 : (m : Int) + 1 + 1 + 1 + 1 = (m4 : Int):=by omega
   rw [e4]
   have M4:=kq hm4
   have m4b : m4 ≤ 1073741824:=by omega
   have m4p : 0 < m4:=by omega
   have hw4 : m4 + L3[j].bytes.length + L3[j].names.length + L3[j].tags.length + L3[j].kids.length ≤ 1073741824:=by omega
   clear hm4 e4 hwle
   obtain ⟨d4,-⟩:=ho3.out.cells j il3 ic3 4 _ (by rw [E3.out]; rfl)
   have R4:=kq (ho3.out.rows j il3 ic3 E3.out)
   go_wp2_with fail
   refine (mark_any lo a4 L3[j].bytes c4 m4 _ (by omega) (by omega) R4.out.1).mono ?_
   rintro e w4 ⟨rfl,hrow,ht⟩
   obtain ⟨hoo,haa⟩:=ho3.out.turn4 j il3 ic3 E3.out (marks m4 L3[j].bytes.length) (marks_length _ _) ht hrow
   obtain ⟨L4,hL4⟩ : ∃ L',L' = L3.set j { L3[j] with bytes:=marks m4 L3[j].bytes.length }:=⟨_,rfl⟩
   rw [← hL4] at hoo
   have il4 : j < L4.length:=by rw [hL4]; simpa using il3
   have HL4 : Hid (L4[j] = { L3[j] with bytes:=marks m4 L3[j].bytes.length }):=by
    show _ = _
    subst hL4
    exact List.getElem_set_self _
   have E4 : Hid (css3[j] = [.string L4[j].name,.int .i64 L4[j].kind,.int .i64 L4[j].size,.bool L4[j].little,.slice a4 L4[j].bytes.length c4,.slice a5 L4[j].names.length c5,.slice a6 L4[j].tags.length c6,.slice a7 L4[j].kids.length c7]):=by
    show _ = _
    rw [HL4.out,E3.out]
    simp only [marks_length]
   have hn45 : L4[j].names.length = L3[j].names.length:=by rw [HL4.out]
   have hn46 : L4[j].tags.length = L3[j].tags.length:=by rw [HL4.out]
   have hn47 : L4[j].kids.length = L3[j].kids.length:=by rw [HL4.out]
   have ho4:=kq hoo
   have hap4:=kq (hap3.out.trans haa)
   have HLL4:=kq hL4
   clear hoo haa hrow ht hL4 ho3 hap3 d4 R4
   obtain ⟨m5,hmm⟩ : ∃ q : Nat,q = m4 + L3[j].bytes.length:=⟨_,rfl⟩
   rw [← hmm]
   have M5:=kq hmm
   have m5b : m5 ≤ 1073741824:=by omega
   have m5p : 0 < m5:=by omega
   have hw5 : m5 + L4[j].names.length + L4[j].tags.length + L4[j].kids.length ≤ 1073741824:=by omega
   replace n5 : L4[j].names.length ≤ 1048576:=by omega
   replace n6 : L4[j].tags.length ≤ 1048576:=by omega
   replace n7 : L4[j].kids.length ≤ 1048576:=by omega
   clear hn45
   clear hn46
   clear hn47
   clear hmm hw4 m4b m4p
   obtain ⟨d5,-⟩:=ho4.out.cells j il4 ic3 5 _ (by rw [E4.out]; rfl)
   have R5:=kq (ho4.out.rows j il4 ic3 E4.out)
   go_wp2_with fail
   refine (mark_strs lo a5 L4[j].names c5 m5 _ (by omega) (by omega) (by omega) R5.out.2.1).mono ?_
   rintro e w5 ⟨rfl,hrow,ht⟩
   obtain ⟨hoo,haa⟩:=ho4.out.turn5 j il4 ic3 E4.out (marksS m5 L4[j].names.length) (marksS_length _ _) ht hrow
   obtain ⟨L5,hL5⟩ : ∃ L',L' = L4.set j { L4[j] with names:=marksS m5 L4[j].names.length }:=⟨_,rfl⟩
   rw [← hL5] at hoo
   have il5 : j < L5.length:=by rw [hL5]; simpa using il4
   have HL5 : Hid (L5[j] = { L4[j] with names:=marksS m5 L4[j].names.length }):=by
    show _ = _
    subst hL5
    exact List.getElem_set_self _
   have E5 : Hid (css3[j] = [.string L5[j].name,.int .i64 L5[j].kind,.int .i64 L5[j].size,.bool L5[j].little,.slice a4 L5[j].bytes.length c4,.slice a5 L5[j].names.length c5,.slice a6 L5[j].tags.length c6,.slice a7 L5[j].kids.length c7]):=by
    show _ = _
    rw [HL5.out,E4.out]
    simp only [marksS_length]
   have hn56 : L5[j].tags.length = L4[j].tags.length:=by rw [HL5.out]
   have hn57 : L5[j].kids.length = L4[j].kids.length:=by rw [HL5.out]
   have ho5:=kq hoo
   have hap5:=kq (hap4.out.trans haa)
   have HLL5:=kq hL5
   clear hoo haa hrow ht hL5 ho4 hap4 d5 R5
   obtain ⟨m6,hmm⟩ : ∃ q : Nat,q = m5 + L4[j].names.length:=⟨_,rfl⟩
   rw [← hmm]
   have M6:=kq hmm
   have m6b : m6 ≤ 1073741824:=by omega
   have m6p : 0 < m6:=by omega
   have hw6 : m6 + L5[j].tags.length + L5[j].kids.length ≤ 1073741824:=by omega
   replace n6 : L5[j].tags.length ≤ 1048576:=by omega
   replace n7 : L5[j].kids.length ≤ 1048576:=by omega
   clear hn56
   clear hn57
   clear hmm hw5 m5b m5p
   obtain ⟨d6,-⟩:=ho5.out.cells j il5 ic3 6 _ (by rw [E5.out]; rfl)
   have R6:=kq (ho5.out.rows j il5 ic3 E5.out)
   go_wp2_with fail
   refine (mark_ints lo a6 L5[j].tags c6 m6 _ (by omega) (by omega) R6.out.2.2.1).mono ?_
   rintro e w6 ⟨rfl,hrow,ht⟩
   obtain ⟨hoo,haa⟩:=ho5.out.turn6 j il5 ic3 E5.out (marksI m6 L5[j].tags.length) (marksI_length _ _) ht hrow
   obtain ⟨L6,hL6⟩ : ∃ L',L' = L5.set j { L5[j] with tags:=marksI m6 L5[j].tags.length }:=⟨_,rfl⟩
   rw [← hL6] at hoo
   have il6 : j < L6.length:=by rw [hL6]; simpa using il5
   have HL6 : Hid (L6[j] = { L5[j] with tags:=marksI m6 L5[j].tags.length }):=by
    show _ = _
    subst hL6
    exact List.getElem_set_self _
   have E6 : Hid (css3[j] = [.string L6[j].name,.int .i64 L6[j].kind,.int .i64 L6[j].size,.bool L6[j].little,.slice a4 L6[j].bytes.length c4,.slice a5 L6[j].names.length c5,.slice a6 L6[j].tags.length c6,.slice a7 L6[j].kids.length c7]):=by
    show _ = _
    rw [HL6.out,E5.out]
    simp only [marksI_length]
   have hn67 : L6[j].kids.length = L5[j].kids.length:=by rw [HL6.out]
   have ho6:=kq hoo
   have hap6:=kq (hap5.out.trans haa)
   have HLL6:=kq hL6
   clear hoo haa hrow ht hL6 ho5 hap5 d6 R6
   obtain ⟨m7,hmm⟩ : ∃ q : Nat,q = m6 + L5[j].tags.length:=⟨_,rfl⟩
   rw [← hmm]
   have M7:=kq hmm
   have m7b : m7 ≤ 1073741824:=by omega
   have m7p : 0 < m7:=by omega
   have hw7 : m7 + L6[j].kids.length ≤ 1073741824:=by omega
   replace n7 : L6[j].kids.length ≤ 1048576:=by omega
   clear hn67
   clear hmm hw6 m6b m6p
   obtain ⟨d7,-⟩:=ho6.out.cells j il6 ic3 7 _ (by rw [E6.out]; rfl)
   have R7:=kq (ho6.out.rows j il6 ic3 E6.out)
   go_wp2_with fail
   refine (mark_ints lo a7 L6[j].kids c7 m7 _ (by omega) (by omega) R7.out.2.2.2).mono ?_
   rintro e w7 ⟨rfl,hrow,ht⟩
   obtain ⟨hoo,haa⟩:=ho6.out.turn7 j il6 ic3 E6.out (marksI m7 L6[j].kids.length) (marksI_length _ _) ht hrow
   obtain ⟨L7,hL7⟩ : ∃ L',L' = L6.set j { L6[j] with kids:=marksI m7 L6[j].kids.length }:=⟨_,rfl⟩
   rw [← hL7] at hoo
   have il7 : j < L7.length:=by rw [hL7]; simpa using il6
   have HL7 : Hid (L7[j] = { L6[j] with kids:=marksI m7 L6[j].kids.length }):=by
    show _ = _
    subst hL7
    exact List.getElem_set_self _
   have E7 : Hid (css3[j] = [.string L7[j].name,.int .i64 L7[j].kind,.int .i64 L7[j].size,.bool L7[j].little,.slice a4 L7[j].bytes.length c4,.slice a5 L7[j].names.length c5,.slice a6 L7[j].tags.length c6,.slice a7 L7[j].kids.length c7]):=by
    show _ = _
    rw [HL7.out,E6.out]
    simp only [marksI_length]
   have ho7:=kq hoo
   have hap7:=kq (hap6.out.trans haa)
   have HLL7:=kq hL7
   clear hoo haa hrow ht hL7 ho6 hap6 d7 R7
   obtain ⟨m8,hmm⟩ : ∃ q : Nat,q = m7 + L6[j].kids.length:=⟨_,rfl⟩
   rw [← hmm]
   have M8:=kq hmm
   have m8b : m8 ≤ 1073741824:=by omega
   have m8p : 0 < m8:=by omega
   clear hmm hw7 m7b m7p
   have hfin : Hid (L7 = L.set j (markR m rs[j])):=by
    show _ = _
    have q7:=HL7.out
    have q6:=HL6.out
    have q5:=HL5.out
    have q4:=HL4.out
    have q3:=HL3.out
    rw [HAT.out] at q3
    have r8:=M8.out
    have r7:=M7.out
    have r6:=M6.out
    have r5:=M5.out
    have r4:=M4.out
    have hr7 : L7[j] = markR m rs[j]:=by
     rw [q7,q6,q5,q4,q3]
     unfold markR
     rw [q5,q4,q3] at r7
     rw [q4,q3] at r6
     rw [q3] at r5
     dsimp only at *
     subst r4 r5 r6 r7
     congr 1
     rw [Bool.eq_iff_iff]
     simp
     omega
    have hset : ∀ i (h1 : i < L7.length) (h2 : i < (L.set j (markR m rs[j])).length),L7[i] = (L.set j (markR m rs[j]))[i]:=fun i h1 h2 => by
     by_cases e : j = i
     ·subst e
      rw [List.getElem_set_self,hr7]
     ·rw [List.getElem_set_ne e]
      simp only [HLL7.out,HLL6.out,HLL5.out,HLL4.out,HLL.out,List.getElem_set_ne e]
    refine List.ext_getElem ?_ hset
    have l7:=congrArg List.length HLL7.out
    have l6:=congrArg List.length HLL6.out
    have l5:=congrArg List.length HLL5.out
    have l4:=congrArg List.length HLL4.out
    have l3:=congrArg List.length HLL.out
    rw [List.length_set] at l7 l6 l5 l4 l3 ⊢
    omega
   have hm8 : Hid (m8 = k + sumW rs (j + 1)):=by
    show _ = _
    rw [← hwid.out]
    have q6:=HL6.out
    have q5:=HL5.out
    have q4:=HL4.out
    have r8:=M8.out
    have r7:=M7.out
    have r6:=M6.out
    have r5:=M5.out
    have r4:=M4.out
    rw [q6,q5,q4] at r8
    rw [q5,q4] at r7
    rw [q4] at r6
    dsimp only at *
    omega
   rw [hfin.out] at ho7
   go_wp2
   go_roundw
   case rel => exact ⟨j + 1,m8,_,css3,by omega,by go_num,rfl,hm8,m8b,m8p,hmn,ho7,hap7⟩
   case measure => simp [intOf]; omega
  ·have j1 : ¬ (j : Int) < (rs.length : Int):=by omega
   obtain rfl : j = rs.length:=by omega
   go_wp2
   go_ret
   exact ⟨ret_int (by rw [hm.out]),L,css,hmix.out,ho.out,hap.out⟩
def MarkOutD (lo hi : Nat) (a : Option Addr) (rs : List RuleV) (cap k : Nat) (w : World) (e : Ending) (w' : World) : Prop :=
 e = .returned (.int .i64 ((k + sumW rs rs.length : Nat) : Int)) ∧ ∃ L,Mixed k rs rs.length L ∧ OwnR lo hi a L cap w' ∧ Apart lo hi w w'
theorem OwnSl.to {lo hi b off : Nat} {css : List (List Value)} {L : List RuleV} {cap : Nat} {w : World} (h : OwnSl lo hi b off css L w) (hc : L.length ≤ cap) : OwnR lo hi (some ⟨b,off,none⟩) L cap w :=
 ⟨css,h.1,h.2.1,.inr ⟨b,off,rfl,h.2.2.1.1,h.2.2.1.2,h.2.2.2.1,h.2.2.2.2⟩,hc,fun e => by cases e⟩
theorem mark_none' (a : Option Addr) (cap k : Nat) (w : World) :
  Calls Tryz.prog 50 #[.slice a 0 cap,.int .i64 (k : Int)] w fun e w' => e = .returned (.int .i64 (k : Int)) ∧ w = w':=by
 go_enter Tryz.func50,Tryz.ntmps50
 go_wp2
 go_loop [1,5] (fun q i => q = .int .i64 (k : Int) ∧ i = .int .i64 0) (fun _ _ => 0)
 case atStart => exact ⟨rfl,rfl⟩
 case round =>
  obtain ⟨rfl,rfl⟩:=hrel
  go_wp2
  go_ret
  exact ⟨rfl,rfl⟩
theorem mark_rules (lo hi : Nat) (a : Option Addr) (rs : List RuleV) (cap k : Nat) (w : World) (hl : rs.length ≤ 1048576) (hs : ∀ r ∈ rs,Short r) (hk0 : 0 < k) (hk : k + sumW rs rs.length ≤ 1073741824) (h : OwnR lo hi a rs cap w) :
  Calls Tryz.prog 50 #[.slice a rs.length cap,.int .i64 (k : Int)] w (MarkOutD lo hi a rs cap k w):=by
 have h0:=h
 obtain ⟨css,h1,h2,h3,h4,h5⟩:=h
 rcases h3 with rfl | ⟨b,off,rfl,h6,h7,h8,h9⟩
 ·refine (mark_none' a cap k w).mono ?_
  rintro e w' ⟨rfl,rfl⟩
  exact ⟨by simp [sumW],[],Mixed.start k [],h0,Apart.refl _ _ _⟩
 ·refine (markr_some lo hi b off rs css cap k w hl hs hk0 hk ⟨h1,h2,⟨h6,h7⟩,h8,h9⟩).mono ?_
  rintro e w' ⟨rfl,L,css',hmix,ho,ha⟩
  exact ⟨rfl,L,hmix,ho.to (by rw [hmix.1]; exact h4),ha⟩
theorem mark_descr (lo hi : Nat) (a : Option Addr) (rs : List RuleV) (cap k : Nat) (w : World) (hl : rs.length ≤ 1048576) (hs : ∀ r ∈ rs,Short r) (hk0 : 0 < k) (hk : k + sumW rs rs.length ≤ 1073741824) (h : OwnR lo hi a rs cap w) :
  Calls Tryz.prog 24 #[.agg #[.slice a rs.length cap],.int .i64 (k : Int)] w (MarkOutD lo hi a rs cap k w):=by
 have hB : ∀ o,Below w.heap.size w (w.alloc o):=fun o => (Below.refl _ _).alloc (Nat.le_refl _) _
 have HB:=fun o => kq (hB o)
 have H:=fun o => kq (h.below (hB o))
 have HS:=kq hs
 clear h hs hB
 go_enter Tryz.func24,Tryz.ntmps24
 go_wp2_with fail
 refine (mark_rules lo hi a rs cap k _ hl HS.out hk0 hk (H _).out).mono ?_
 rintro e w1 ⟨rfl,L,hmix,ho,ha⟩
 have HA:=kq ((Apart.ofBelow (lo:=lo) (hi:=hi) (HB _).out).trans ha)
 have HO:=kq ho
 have HM:=kq hmix
 clear ha ho hmix
 obtain ⟨t,hT⟩ : ∃ t,t = k + sumW rs rs.length:=⟨_,rfl⟩
 rw [← hT]
 have HT:=kq hT
 clear hT
 go_wp2
 go_ret
 exact ⟨ret_int (by rw [HT.out]),L,HM.out,HO.out,HA.out⟩
end Go.Proofs.YtefkhknfjohnaaaGreatDoor
