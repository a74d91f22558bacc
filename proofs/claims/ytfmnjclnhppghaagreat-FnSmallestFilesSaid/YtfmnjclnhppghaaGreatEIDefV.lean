/- The contract of the program's DefaultValue. -/
import Derived.Test.YtfmnjclnhppghaaGreatEISetD
namespace Go.Proofs.YtfmnjclnhppghaaGreat
open Go Go.RowKit
set_option maxRecDepth 100000 in
set_option maxHeartbeats 4000000 in
theorem defv_impl (a : Option Addr) (rs : List RuleV) (cap : Nat) (k : Int) (w : World) (hl : rs.length ≤ 1048576) (hs : ∀ r ∈ rs,Short r) (hp : ∀ r ∈ rs,Spelt r) (h : RdK a rs w) :
  Calls Tryz.prog 61 #[.agg #[.slice a rs.length cap],.int .i64 k] w fun e w' => ∃ bl cs,e = .returned (.agg cs.toArray) ∧ OwnT (k.toNat + 1) bl (defD rs k) cs w' ∧ (∀ b ∈ bl,w.heap.size ≤ b) ∧ Below w.heap.size w w':=by
 obtain ⟨w0,hw0⟩ : ∃ w0,w0 = (w.alloc (.cells #[.slice a rs.length cap] 26)).alloc (.cells #[.int .i64 0,.slice none 0 0,.slice none 0 0] 29):=⟨_,rfl⟩
 have hB : Below w.heap.size w w0:=by subst hw0; exact ((Below.refl _ _).alloc (Nat.le_refl _) _).alloc (by simp) _
 have hD : CellsAt w.heap.size [.slice a rs.length cap] w0:=by subst hw0; exact (CellsAt.new w _ _).below ((Below.refl _ _).alloc (Nat.le_refl _) _)
 have hR : CellsAt (w.heap.size + 1) zeroVal w0:=by subst hw0; have h1:=CellsAt.new (w.alloc (.cells #[.slice a rs.length cap] 26)) zeroVal 29; rw [World.size_alloc] at h1; exact h1
 have hs0 : w0.heap.size = w.heap.size + 2:=by subst hw0; simp
 obtain ⟨w1,hw1⟩ : ∃ w1,w1 = w0.alloc (.cells #[.int .i64 0,.slice none 0 0,.slice none 0 0] 29):=⟨_,rfl⟩
 obtain ⟨Z,hZ⟩ : ∃ Z,Z = w0.heap.size:=⟨_,rfl⟩
 have hb1 : Below w0.heap.size w0 w1:=by subst hw1; exact (Below.refl _ _).alloc (Nat.le_refl _) _
 have hV : CellsAt Z zeroVal w1:=by subst hw1; rw [hZ]; exact CellsAt.new w0 _ _
 have HB:=kq (hB.trans (hb1.mono hB.size))
 have HD:=kq (hD.below hb1)
 have HR:=kq (hR.below hb1)
 have HV:=kq hV
 have HK:=kq h
 have HS:=kq hs
 have HP:=kq hp
 have HW0:=kq hw0
 have HW1:=kq hw1
 have HZE:=kq hZ
 have HZW : Hid (Z = w.heap.size + 2):=by show _ = _; omega
 obtain ⟨ok,hok⟩ : ∃ b,b = okAt rs k:=⟨_,rfl⟩
 have HO:=kq hok
 clear h hB hD hR hs0 hb1 hV hs hp hw0 hw1 hZ hok
 go_enter Tryz.func61,Tryz.ntmps61
 go_upto_region 1 with fail
 rw [← HW0.out]
 clear HW0
 go_upto_region 2 with fail
 rw [← HW1.out,← HZE.out]
 clear HW1 HZE
 have bx:=(HD.out 0 _ rfl).1
 go_wp2_with fail
 refine (isdescr_impl a rs cap k _ hl HS.out HP.out (HK.out.rdc.below HB.out)).mono ?_
 rintro e w2 ⟨rfl,hb2⟩
 rw [← HO.out]
 replace HB:=kq (HB.out.trans (hb2.mono HB.out.size))
 replace HD:=kq (HD.out.below hb2)
 replace HR:=kq (HR.out.below hb2)
 replace HV:=kq (HV.out.below hb2)
 clear hb2 bx
 cases ok with
 | false =>
  have HDV : Hid (defD rs k = .mk 0 [] []):=by show _ = _; unfold defD; rw [← HO.out]; rfl
  obtain ⟨z0,t0⟩:=HR.out 0 _ rfl
  obtain ⟨z1,t1⟩:=HR.out 1 _ rfl
  obtain ⟨z2,t2⟩:=HR.out 2 _ rfl
  have y0:=(HV.out 0 _ rfl).1
  have y1:=(HV.out 1 _ rfl).1
  have y2:=(HV.out 2 _ rfl).1
  go_wp2
  (try simp only [Exit.inBlock,Exit.then])
  refine bodyPost_ret (v:=.agg #[.int .i64 0,.slice none 0 0,.slice none 0 0]) ?_ rfl ?_
  ·simp [results,Tryz.results61,go_sem,z0,z1,z2]
  ·refine ⟨[],[.int .i64 0,.slice none 0 0,.slice none 0 0],rfl,?_,(fun b hb => by cases hb),((HB.out.setCell (p:=⟨w.heap.size + 1,_,none⟩) (by simp) _).setCell (p:=⟨w.heap.size + 1,_,none⟩) (by simp) _).setCell (p:=⟨w.heap.size + 1,_,none⟩) (by simp) _⟩
   rw [HDV.out]
   exact leaf_tree ⟨Nat.le_refl _,fun _ => rfl⟩ (BytT.none0 _ _) List.nodup_nil
 | true =>
  obtain ⟨⟨k0,k1⟩,-,hall⟩:=okAt_yes HO.out.symm
  obtain ⟨m,rfl⟩ : ∃ m : Nat,k = (m : Int):=⟨k.toNat,by omega⟩
  have HDV : Hid (defD rs (m : Int) = defV rs (m + 1) (m : Int)):=by show _ = _; unfold defD; rw [← HO.out,if_pos rfl,Int.toNat_natCast]
  have hcl:=setd_of w a rs cap hl hall HK.out (m + 1) m Z 0 w2 (by omega) (by omega) HB.out (by have:=HZW.out; omega) (fun i u hu => by rw [Nat.zero_add]; exact HV.out i u hu)
  have HCL:=kq hcl
  clear hcl hall
  have bx:=(HD.out 0 _ rfl).1
  go_wp2_with fail
  refine HCL.out.mono ?_
  rintro e w3 ⟨rfl,bl,cs,hp3,ho3,hbl3,ht3⟩
  obtain ⟨ab,cb,ai,ci,rfl⟩:=ho3.cells
  have HB3 : Hid (Below w.heap.size w w3):=Turn.below HB.out ht3 HB.out.size fun j i h => by have:=h.1; have:=HZW.out; omega
  have HR3:=kq (HR.out.turn ht3 fun i _ h => by have:=h.1; have:=HZW.out; omega)
  obtain ⟨z0,t0⟩:=HR3.out 0 _ rfl
  obtain ⟨z1,t1⟩:=HR3.out 1 _ rfl
  obtain ⟨z2,t2⟩:=HR3.out 2 _ rfl
  have y0:=(hp3 0 _ rfl).1
  have y1:=(hp3 1 _ rfl).1
  have y2:=(hp3 2 _ rfl).1
  simp only [Nat.zero_add] at y0 y1 y2
  have HO3:=kq ho3
  have HBL : Hid (∀ b ∈ bl,w.heap.size + 2 < b):=fun b hb => by have h1:=hbl3 b hb; have h2:=HV.out 0 _ rfl; have h3 : Z < w2.heap.size:=cell_lt h2.1; have:=HZW.out; omega
  clear hp3 ho3 hbl3 ht3 bx
  go_wp2
  (try simp only [Exit.inBlock,Exit.then])
  refine bodyPost_ret (v:=.agg #[.int .i64 (defV rs (m + 1) (m : Int)).number,.slice ab (defV rs (m + 1) (m : Int)).bytes.length cb,.slice ai (defV rs (m + 1) (m : Int)).items.length ci]) ?_ rfl ?_
  ·simp [results,Tryz.results61,go_sem,z0,z1,z2]
  ·refine ⟨bl,_,rfl,?_,(fun b hb => by have:=HBL.out b hb; omega),((HB3.out.setCell (p:=⟨w.heap.size + 1,_,none⟩) (by simp) _).setCell (p:=⟨w.heap.size + 1,_,none⟩) (by simp) _).setCell (p:=⟨w.heap.size + 1,_,none⟩) (by simp) _⟩
   rw [HDV.out,Int.toNat_natCast]
   exact ((HO3.out.keep (Only.set (bl:=[w.heap.size + 1]) (by simp)) fun b hb h => by have h1:=HBL.out b hb; have h2 : b = w.heap.size + 1:=(by simpa using h); omega).keep (Only.set (bl:=[w.heap.size + 1]) (by simp)) fun b hb h => by have h1:=HBL.out b hb; have h2 : b = w.heap.size + 1:=(by simpa using h); omega).keep (Only.set (bl:=[w.heap.size + 1]) (by simp)) fun b hb h => by have h1:=HBL.out b hb; have h2 : b = w.heap.size + 1:=(by simpa using h); omega
end Go.Proofs.YtfmnjclnhppghaaGreat
