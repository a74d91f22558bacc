/- First bytes, as data: -/
import Derived.Test.YtefkhknfjohnaaaGreatDoorEGP
import Derived.Test.YtefkhknfjohnaaaGreatDoorEPE
import Derived.Test.YtefkhknfjohnaaaGreatDoorEGX
import Derived.Test.YtefkhknfjohnaaaGreatDoorEShelf
import Derived.Test.YtefkhknfjohnaaaGreatDoorEGEnd
import Derived.IntWalk
import Derived.Test.YtefkhknfjohnaaaGreatDoorEGDI
import Derived.StillTailTactics
import Derived.Deep.CutRange
set_option maxRecDepth 100000
set_option maxHeartbeats 2000000
namespace Go.Proofs.YtefkhknfjohnaaaGreatDoor
open Go Go.RowKit
def leB (m S : Nat) : List UInt8:=(beB m S).reverse
theorem leB_length (m S : Nat) : (leB m S).length = S:=by unfold leB; rw [List.length_reverse,beB_length]
theorem beB_get (m : Nat) : ∀ (S k : Nat) (h : k < (beB m S).length),((beB m S)[k]).toNat = m / 256 ^ (S - 1 - k) % 256
 | 0,k,h => by simp [beB] at h
 | S + 1,0,h => by
  simp only [beB,List.getElem_cons_zero]
  rw [UInt8.toNat_ofNat']
  rfl
 | S + 1,k + 1,h => by
  simp only [beB,List.getElem_cons_succ]
  rw [beB_get m S k,show S + 1 - 1 - (k + 1) = S - 1 - k by omega]
theorem leB_get (m S k : Nat) (h : k < (leB m S).length) : ((leB m S)[k]).toNat = m / 256 ^ k % 256:=by
 have hk : k < S:=by rw [leB_length] at h; exact h
 have e : (leB m S)[k] = (beB m S)[S - 1 - k]'(by rw [beB_length]; omega):=by
  have h' : k < (beB m S).reverse.length:=h
  have h1:=List.getElem_reverse h'
  exact h1.trans (by congr 1; rw [beB_length])
 rw [e,beB_get,show S - 1 - (S - 1 - k) = k by omega]
def RelM (m S : Nat) (w : World) (i : Value) (W : World) : Prop:=∃ k : Nat,k ≤ S ∧ i = .int .i64 (k : Int) ∧ Hid (Half (leB m S) k w.heap.size w W)
theorem half_put {m S k : Nat} {z : Int} {w W : World} (h : Half (leB m S) k w.heap.size w W) (hk : k < S) (hz : z = ((m / 256 ^ k % 256 : Nat) : Int)) : Half (leB m S) (k + 1) w.heap.size w (W.setCell ⟨w.heap.size,k,none⟩ (.int .u8 z)):=by
 have hl : k < (leB m S).length:=by rw [leB_length]; exact hk
 have h1:=h.next (Nat.le_refl _) hl
 rw [leB_get m S k hl,← hz] at h1
 exact h1
theorem half_cell {m S k : Nat} {w W : World} (h : Half (leB m S) k w.heap.size w W) (hk : k < S) : W.cell? ⟨w.heap.size,k,none⟩ = some (.int .u8 0) ∧ W.frozen? ⟨w.heap.size,k,none⟩ = false:=by
 have h1:=h.2 k (by rw [leB_length]; exact hk)
 rw [if_neg (Nat.lt_irrefl k)] at h1
 exact h1
theorem half_out {m S : Nat} {w W : World} (h : Half (leB m S) S w.heap.size w W) : BytesOut (leB m S) w (.returned (.slice (some ⟨w.heap.size,0,none⟩) S S)) W:=by
 have h2:=h
 rw [← leB_length m S] at h2
 rw [leB_length] at h2
 have h3 : Fresh w.heap.size (some ⟨w.heap.size,0,none⟩) (leB m S) W:=half_end (by rw [leB_length]; exact h)
 exact ⟨_,S,by rw [leB_length],⟨h3,by rw [leB_length]; exact Nat.le_refl _,(fun e => by cases e)⟩,h.1⟩
theorem make_row (S : Nat) (hS : S ≤ 4) (W : World) : (Instr.makeSlice 22 (.int .i64 (S : Int)) (.int .i64 (S : Int))).run Tryz.prog W = .ok (.slice (some ⟨W.heap.size,0,none⟩) S S) (W.alloc (.cells (madeCells #[.int .u8 0] S) 5)) :=
 run_make_row' (P:=Tryz.prog) 22 5 (.int .u8 0) 1 Tryz.underlying22 infoU8 rfl .i64 .i64 S (by omega) (by omega) W
theorem half_zero (m S : Nat) (w : World) : Half (leB m S) 0 w.heap.size w (w.alloc (.cells (madeCells #[.int .u8 0] S) 5)):=by
 have h:=half_start (leB m S) w
 rw [leB_length] at h
 exact h
theorem le_yes1 (m : Nat) (w : World) (hm : m ≤ 255) : Calls Tryz.prog 215 #[.int .i64 m,.int .i64 1] w (BytesOut (leB m 1) w):=by
 have m0 : (0 : Int) ≤ (m : Int):=by omega
 have m1 : (m : Int) ≤ 255:=by omega
 have H0:=kq (half_zero m 1 w)
 have hmk : ∀ W,(Instr.makeSlice 22 (.int .i64 1) (.int .i64 1)).run Tryz.prog W = .ok (.slice (some ⟨W.heap.size,0,none⟩) 1 1) (W.alloc (.cells (madeCells #[.int .u8 0] 1) 5)):=make_row 1 (by omega)
 go_enter Tryz.func215,Tryz.ntmps215
 go_wp2
 clear hmk
 go_loopw [6,24] (fun _ i W => RelM m 1 w i W) (fun _ i _ => 1 - (intOf i).toNat)
 case atStart => exact ⟨0,by omega,rfl,H0.out⟩
 case round =>
  obtain ⟨k,hk,rfl,hh⟩:=hrel
  obtain rfl | rfl : k = 0 ∨ k = 1:=by omega
  ·obtain ⟨hd,hf⟩:=half_cell hh.out (by omega)
   have hn:=kq (half_put (z:=(m : Int)) hh.out (by omega) (by simp only [Nat.reducePow]; omega))
   clear hh
   go_wp2
   go_roundw
   case rel => exact ⟨1,by omega,by go_num,hn⟩
   case measure => simp [intOf]
  ·go_wp2
   go_ret
   exact half_out hh.out
theorem le_yes2 (m : Nat) (w : World) (hm : m ≤ 65535) : Calls Tryz.prog 215 #[.int .i64 m,.int .i64 2] w (BytesOut (leB m 2) w):=by
 have m0 : (0 : Int) ≤ (m : Int):=by omega
 have m1 : (m : Int) ≤ 65535:=by omega
 have H0:=kq (half_zero m 2 w)
 have hmk : ∀ W,(Instr.makeSlice 22 (.int .i64 2) (.int .i64 2)).run Tryz.prog W = .ok (.slice (some ⟨W.heap.size,0,none⟩) 2 2) (W.alloc (.cells (madeCells #[.int .u8 0] 2) 5)):=make_row 2 (by omega)
 go_enter Tryz.func215,Tryz.ntmps215
 go_wp2
 clear hmk
 go_loopw [6,24] (fun _ i W => RelM m 2 w i W) (fun _ i _ => 2 - (intOf i).toNat)
 case atStart => exact ⟨0,by omega,rfl,H0.out⟩
 case round =>
  obtain ⟨k,hk,rfl,hh⟩:=hrel
  obtain rfl | rfl | rfl : k = 0 ∨ k = 1 ∨ k = 2:=by omega
  ·obtain ⟨hd,hf⟩:=half_cell hh.out (by omega)
   have hn:=kq (half_put (z:=(m : Int) % 256) hh.out (by omega) (by simp only [Nat.reducePow]; omega))
   clear hh
   go_wp2
   go_roundw
   case rel => exact ⟨1,by omega,by go_num,hn⟩
   case measure => simp [intOf]
  ·obtain ⟨hd,hf⟩:=half_cell hh.out (by omega)
   have hn:=kq (half_put (z:=(m : Int) / 256) hh.out (by omega) (by simp only [Nat.reducePow]; omega))
   clear hh
   go_wp2
   go_roundw
   case rel => exact ⟨2,by omega,by go_num,hn⟩
   case measure => simp [intOf]
  ·go_wp2
   go_ret
   exact half_out hh.out
theorem le_yes3 (m : Nat) (w : World) (hm : m ≤ 16777215) : Calls Tryz.prog 215 #[.int .i64 m,.int .i64 3] w (BytesOut (leB m 3) w):=by
 have m0 : (0 : Int) ≤ (m : Int):=by omega
 have m1 : (m : Int) ≤ 16777215:=by omega
 have H0:=kq (half_zero m 3 w)
 have hmk : ∀ W,(Instr.makeSlice 22 (.int .i64 3) (.int .i64 3)).run Tryz.prog W = .ok (.slice (some ⟨W.heap.size,0,none⟩) 3 3) (W.alloc (.cells (madeCells #[.int .u8 0] 3) 5)):=make_row 3 (by omega)
 go_enter Tryz.func215,Tryz.ntmps215
 go_wp2
 clear hmk
 go_loopw [6,24] (fun _ i W => RelM m 3 w i W) (fun _ i _ => 3 - (intOf i).toNat)
 case atStart => exact ⟨0,by omega,rfl,H0.out⟩
 case round =>
  obtain ⟨k,hk,rfl,hh⟩:=hrel
  obtain rfl | rfl | rfl | rfl : k = 0 ∨ k = 1 ∨ k = 2 ∨ k = 3:=by omega
  ·obtain ⟨hd,hf⟩:=half_cell hh.out (by omega)
   have hn:=kq (half_put (z:=(m : Int) % 256) hh.out (by omega) (by simp only [Nat.reducePow]; omega))
   clear hh
   go_wp2
   go_roundw
   case rel => exact ⟨1,by omega,by go_num,hn⟩
   case measure => simp [intOf]
  ·obtain ⟨hd,hf⟩:=half_cell hh.out (by omega)
   have hn:=kq (half_put (z:=(m : Int) / 256 % 256) hh.out (by omega) (by simp only [Nat.reducePow]; omega))
   clear hh
   go_wp2
   go_roundw
   case rel => exact ⟨2,by omega,by go_num,hn⟩
   case measure => simp [intOf]
  ·obtain ⟨hd,hf⟩:=half_cell hh.out (by omega)
   have hn:=kq (half_put (z:=(m : Int) / 65536) hh.out (by omega) (by simp only [Nat.reducePow]; omega))
   clear hh
   go_wp2
   go_roundw
   case rel => exact ⟨3,by omega,by go_num,hn⟩
   case measure => simp [intOf]
  ·go_wp2
   go_ret
   exact half_out hh.out
theorem le_yes4 (m : Nat) (w : World) (hm : m ≤ 4294967295) : Calls Tryz.prog 215 #[.int .i64 m,.int .i64 4] w (BytesOut (leB m 4) w):=by
 have m0 : (0 : Int) ≤ (m : Int):=by omega
 have m1 : (m : Int) ≤ 4294967295:=by omega
 have H0:=kq (half_zero m 4 w)
 have hmk : ∀ W,(Instr.makeSlice 22 (.int .i64 4) (.int .i64 4)).run Tryz.prog W = .ok (.slice (some ⟨W.heap.size,0,none⟩) 4 4) (W.alloc (.cells (madeCells #[.int .u8 0] 4) 5)):=make_row 4 (by omega)
 go_enter Tryz.func215,Tryz.ntmps215
 go_wp2
 clear hmk
 go_loopw [6,24] (fun _ i W => RelM m 4 w i W) (fun _ i _ => 4 - (intOf i).toNat)
 case atStart => exact ⟨0,by omega,rfl,H0.out⟩
 case round =>
  obtain ⟨k,hk,rfl,hh⟩:=hrel
  obtain rfl | rfl | rfl | rfl | rfl : k = 0 ∨ k = 1 ∨ k = 2 ∨ k = 3 ∨ k = 4:=by omega
  ·obtain ⟨hd,hf⟩:=half_cell hh.out (by omega)
   have hn:=kq (half_put (z:=(m : Int) % 256) hh.out (by omega) (by simp only [Nat.reducePow]; omega))
   clear hh
   go_wp2
   go_roundw
   case rel => exact ⟨1,by omega,by go_num,hn⟩
   case measure => simp [intOf]
  ·obtain ⟨hd,hf⟩:=half_cell hh.out (by omega)
   have hn:=kq (half_put (z:=(m : Int) / 256 % 256) hh.out (by omega) (by simp only [Nat.reducePow]; omega))
   clear hh
   go_wp2
   go_roundw
   case rel => exact ⟨2,by omega,by go_num,hn⟩
   case measure => simp [intOf]
  ·obtain ⟨hd,hf⟩:=half_cell hh.out (by omega)
   have hn:=kq (half_put (z:=(m : Int) / 65536 % 256) hh.out (by omega) (by simp only [Nat.reducePow]; omega))
   clear hh
   go_wp2
   go_roundw
   case rel => exact ⟨3,by omega,by go_num,hn⟩
   case measure => simp [intOf]
  ·obtain ⟨hd,hf⟩:=half_cell hh.out (by omega)
   have hn:=kq (half_put (z:=(m : Int) / 16777216) hh.out (by omega) (by simp only [Nat.reducePow]; omega))
   clear hh
   go_wp2
   go_roundw
   case rel => exact ⟨4,by omega,by go_num,hn⟩
   case measure => simp [intOf]
  ·go_wp2
   go_ret
   exact half_out hh.out
theorem le_no (n s : Int) (w : World) (h : s < 1 ∨ 4 < s ∨ n < 0 ∨ (s = 1 ∧ 255 < n) ∨ (s = 2 ∧ 65535 < n) ∨ (s = 3 ∧ 16777215 < n) ∨ (s = 4 ∧ 4294967295 < n)) :
    Calls Tryz.prog 215 #[.int .i64 n,.int .i64 s] w (BytesOut [] w):=by
  by_cases h1 : s < 1
  · have g1 : ¬ 1 ≤ s:=by omega
    go_enter Tryz.func215,Tryz.ntmps215
    go_wp2
    go_ret
    exact empty_out w
  · have g1 : 1 ≤ s:=by omega
    by_cases h2 : 4 < s
    · have g2 : ¬ s ≤ 4:=by omega
      go_enter Tryz.func215,Tryz.ntmps215
      go_wp2
      go_ret
      exact empty_out w
    · obtain rfl | rfl | rfl | rfl : s = 1 ∨ s = 2 ∨ s = 3 ∨ s = 4:=by omega
      all_goals
        clear g1 h1 h2
        by_cases h3 : n < 0
        · have g3 : decide (0 ≤ n) = false:=by simp; omega
          clear h
          go_enter Tryz.func215,Tryz.ntmps215
          go_wp2
          go_ret
          exact empty_out w
        · have g3 : 0 ≤ n:=by omega
          first
            | (have g4 : decide (n ≤ 4294967295) = false:=by simp; omega
               clear h
               go_enter Tryz.func215,Tryz.ntmps215
               go_wp2
               go_ret
               exact empty_out w)
            | (have g4 : decide (n ≤ 16777215) = false:=by simp; omega
               clear h
               go_enter Tryz.func215,Tryz.ntmps215
               go_wp2
               go_ret
               exact empty_out w)
            | (have g4 : decide (n ≤ 65535) = false:=by simp; omega
               clear h
               go_enter Tryz.func215,Tryz.ntmps215
               go_wp2
               go_ret
               exact empty_out w)
            | (have g4 : decide (n ≤ 255) = false:=by simp; omega
               clear h
               go_enter Tryz.func215,Tryz.ntmps215
               go_wp2
               go_ret
               exact empty_out w)
theorem le_impl (n s : Int) (w : World) : Calls Tryz.prog 215 #[.int .i64 n,.int .i64 s] w (BytesOut (leOf n s) w):=by
 by_cases h : 1 ≤ s ∧ s ≤ 4 ∧ 0 ≤ n ∧ n < 256 ^ s.toNat
 ·rw [show leOf n s = leB n.toNat s.toNat by unfold leOf leB beOf; rw [if_pos h]]
  obtain ⟨h1,h2,h3,h4⟩:=h
  obtain ⟨m,rfl⟩ : ∃ m : Nat,n = (m : Int):=⟨n.toNat,by omega⟩
  obtain rfl | rfl | rfl | rfl : s = 1 ∨ s = 2 ∨ s = 3 ∨ s = 4:=by omega
  ·exact le_yes1 m w (by have : (m : Int) < 256:=h4; omega)
  ·exact le_yes2 m w (by have : (m : Int) < 65536:=h4; omega)
  ·exact le_yes3 m w (by have : (m : Int) < 16777216:=h4; omega)
  ·exact le_yes4 m w (by have : (m : Int) < 4294967296:=h4; omega)
 ·rw [show leOf n s = [] by unfold leOf beOf; rw [if_neg h]; rfl]
  refine le_no n s w ?_
  by_cases h1 : s < 1
  ·exact .inl h1
  ·by_cases h2 : 4 < s
   ·exact .inr (.inl h2)
   ·by_cases h3 : n < 0
    ·exact .inr (.inr (.inl h3))
    ·have h4 : ¬ n < 256 ^ s.toNat:=fun h4 => h ⟨by omega,by omega,by omega,h4⟩
     obtain rfl | rfl | rfl | rfl : s = 1 ∨ s = 2 ∨ s = 3 ∨ s = 4:=by omega
     ·have : ¬ n < 256:=h4
      omega
     ·have : ¬ n < 65536:=h4
      omega
     ·have : ¬ n < 16777216:=h4
      omega
     ·have : ¬ n < 4294967296:=h4
      omega
theorem rev_any (B : Nat) (a : Option Addr) (bs : List UInt8) (cap : Nat) (w : World) (hl : bs.length ≤ 1099511627776) (h : Row B a bs cap w) :
  Calls Tryz.prog 236 #[.slice a bs.length cap] w fun e w' => e = .returned (.tuple #[]) ∧ Row B a bs.reverse cap w' ∧ Below B w w':=by
 rcases h.1 with rfl | ⟨b,off,rfl,hB,hc⟩
 ·refine (AnyE.slices_Reverse_empty Tryz.laysRev a cap w).mono ?_
  rintro e w' ⟨rfl,rfl⟩
  exact ⟨rfl,h,Below.refl _ _⟩
 ·have hH : Sort.Holds bv w b off bs.toArray:=fun j hj => by
   have hj' : j < bs.length:=by simpa using hj
   have h1:=hc j hj'
   refine ⟨?_,h1.2⟩
   rw [h1.1]
   simp [bv,hj']
  refine (AnyE.slices_Reverse Tryz.laysRev bv (fun _ => rfl) b off cap bs w hH (by omega)).mono ?_
  rintro e w' ⟨rfl,n,rfl⟩
  have hH2 : Sort.Holds bv (Sort.ahead w n) b off bs.toArray:=hH
  refine ⟨rfl,⟨.inr ⟨b,off,rfl,hB,fun j hj => ⟨?_,?_⟩⟩,by rw [List.length_reverse]; exact h.2.1,h.2.2⟩,⟨rfl,rfl,rfl,by simp [Sort.ahead],fun k hk => ?_⟩⟩
  ·rw [Sort.cell?_putRow bv _ b off bs.toArray bs.reverse.toArray hH2 (by simp) j (by simpa using hj)]
   have hj2 : j < bs.reverse.length:=hj
   simp only [bv,List.getElem!_toArray]
   rw [getElem!_pos bs.reverse j hj2]
  ·have hj2 : j < bs.length:=by simpa using hj
   rw [Sort.frozen?_putRow]
   exact (hc j hj2).2
  ·have hne : b ≠ k:=by omega
   simp [Sort.putRow,Sort.mapBlock,Sort.ahead,Array.getElem?_modify,hne]
theorem be_impl (n s : Int) (w : World) : Calls Tryz.prog 216 #[.int .i64 n,.int .i64 s] w (BytesOut (beOf n s) w):=by
 have hl:=leOf_length n s
 have HC:=kq (le_impl n s)
 have HR : Hid ((leOf n s).reverse = beOf n s):=by unfold leOf; exact List.reverse_reverse _
 revert hl HC HR
 generalize leOf n s = bs
 generalize beOf n s = cs
 intro hl HC HR
 go_enter Tryz.func216,Tryz.ntmps216
 go_wp2_with fail
 refine (HC.out _).mono ?_
 rintro e w1 ⟨a,cap,rfl,hf,hb1⟩
 have HF:=kq hf
 have HB1:=kq hb1
 clear hf hb1
 go_wp2_with fail
 refine (rev_any w.heap.size a bs cap _ (by omega) HF.out).mono ?_
 rintro e w2 ⟨rfl,hf2,hb2⟩
 have hf3:=hf2
 rw [HR.out] at hf3
 have HF2:=kq hf3
 have HB2:=kq (HB1.out.trans hb2)
 have HL:=kq (show bs.length = cs.length by have:=congrArg List.length HR.out; simpa using this)
 clear hf2 hf3 hb2
 go_wp2_with fail
 go_ret
 exact ⟨a,cap,by rw [HL.out]; rfl,HF2.out,HB2.out⟩
theorem enci_impl (r : RuleV) (cs : List Value) (n : Int) (w : World) (h : IsRule r cs w) :
  Calls Tryz.prog 174 #[.agg cs.toArray,.int .i64 n] w (BytesOut (encI r.little n r.size) w):=by
 obtain ⟨a4,c4,a5,c5,a6,c6,a7,c7,rfl,-,-,-,-⟩:=h
 obtain ⟨w0,hw0⟩ : ∃ w0,w0 = w.alloc (.cells #[.string r.name,.int .i64 r.kind,.int .i64 r.size,.bool r.little,.slice a4 r.bytes.length c4,.slice a5 r.names.length c5,.slice a6 r.tags.length c6,.slice a7 r.kids.length c7] 63):=⟨_,rfl⟩
 have hB : Below w.heap.size w w0:=by subst hw0; exact (Below.refl _ _).alloc (Nat.le_refl _) _
 have hC : CellsAt w.heap.size [.string r.name,.int .i64 r.kind,.int .i64 r.size,.bool r.little,.slice a4 r.bytes.length c4,.slice a5 r.names.length c5,.slice a6 r.tags.length c6,.slice a7 r.kids.length c7] w0:=by subst hw0; exact CellsAt.new w _ _
 have y2:=(hC 2 _ rfl).1
 have y3:=(hC 3 _ rfl).1
 have HB:=kq hB
 have hW:=kq hw0
 clear hB hC hw0
 generalize r.little = lt at *
 generalize r.size = s at *
 obtain ⟨bs,hbs⟩ : ∃ bs,bs = encI lt n s:=⟨_,rfl⟩
 rw [← hbs]
 have HBS:=kq hbs
 clear hbs
 go_enter Tryz.func174,Tryz.ntmps174
 go_upto_region 1 with fail
 rw [← hW.out]
 clear hW
 cases lt with
 | true =>
  have HQ : Hid (∀ W,Calls Tryz.prog 215 #[.int .i64 n,.int .i64 s] W (BytesOut bs W)):=fun W => by rw [HBS.out]; exact le_impl n s W
  go_wp2_with fail
  refine (HQ.out _).mono ?_
  rintro e w2 ⟨az,cz,rfl,hrow,hb2⟩
  have HRW:=kq (hrow.more HB.out.size)
  replace HB:=kq (HB.out.trans (hb2.mono HB.out.size))
  clear hb2 hrow
  go_wp2
  go_ret
  exact ⟨az,cz,rfl,HRW.out,HB.out⟩
 | false =>
  have HQ : Hid (∀ W,Calls Tryz.prog 216 #[.int .i64 n,.int .i64 s] W (BytesOut bs W)):=fun W => by rw [HBS.out]; exact be_impl n s W
  go_wp2_with fail
  refine (HQ.out _).mono ?_
  rintro e w2 ⟨az,cz,rfl,hrow,hb2⟩
  have HRW:=kq (hrow.more HB.out.size)
  replace HB:=kq (HB.out.trans (hb2.mono HB.out.size))
  clear hb2 hrow
  go_wp2
  go_ret
  exact ⟨az,cz,rfl,HRW.out,HB.out⟩
end Go.Proofs.YtefkhknfjohnaaaGreatDoor
