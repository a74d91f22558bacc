/- The program's ReadValue, ReadFile and IsFileOf. -/
import Derived.Test.YtefkhknfjohnaaaGreatDoorEGY
namespace Go.Proofs.YtefkhknfjohnaaaGreatDoor
open Go Go.RowKit
def ResAt (h : Nat) (g : Got ValueV) (w : World) (e : Ending) (w' : World) : Prop :=
 (match g with
  | .ok v q => ∃ bl cs,e = .returned (.tuple #[.agg cs.toArray,.int .i64 (q : Int),.int .i64 0]) ∧ OwnT h bl v cs w' ∧ ∀ b ∈ bl,w.heap.size ≤ b
  | .bad q c => e = .returned (.tuple #[.agg #[.int .i64 0,.slice none 0 0,.slice none 0 0],.int .i64 (q : Int),.int .i64 (c : Int)])) ∧ Below w.heap.size w w'
def TAt (n : Nat) (wr : World) (bl : List Nat) (v : ValueV) (cs : List Value) (N : Nat) (W : World) : Prop:=VAt wr cs N W ∧ OwnT n bl v cs W ∧ ∀ b ∈ bl,wr.heap.size ≤ b
theorem tat_new {n X : Nat} {wr w6 : World} {bl : List Nat} {v : ValueV} {cs : List Value} (hown : OwnT n bl v cs w6) (hbl : ∀ b ∈ bl,X ≤ b) (hX : wr.heap.size ≤ X) (hb : Below wr.heap.size wr w6) (t : TypeId) : TAt n wr bl v cs w6.heap.size (w6.alloc (.cells cs.toArray t)) :=
 ⟨vat_new hb t,hown.below ((Below.refl _ _).alloc (Nat.le_refl _) _),fun b h => Nat.le_trans hX (hbl b h)⟩
theorem tat_set {n N X : Nat} {wr w6 : World} {bl : List Nat} {v : ValueV} {d0 d1 d2 c0 c1 c2 : Value} (hown : OwnT n bl v [c0,c1,c2] w6) (hbl : ∀ b ∈ bl,X ≤ b) (hN : N < X) (hNw : wr.heap.size ≤ N) (hz : CellsAt N [d0,d1,d2] w6) (hb : Below wr.heap.size wr w6) :
  TAt n wr bl v [c0,c1,c2] N (((w6.setCell ⟨N,0,none⟩ c0).setCell ⟨N,1,none⟩ c1).setCell ⟨N,2,none⟩ c2) :=
 ⟨vat_set hNw hz hb,own3 hown (fun b h => by have:=hbl b h; omega) _ _ _,fun b h => by have:=hbl b h; omega⟩
set_option maxRecDepth 100000 in
set_option maxHeartbeats 8000000 in
theorem readfile_impl (a ab : Option Addr) (rs : List RuleV) (cap cb : Nat) (L : List UInt8) (w : World) (hl : rs.length ≤ 1048576) (hs : ∀ r ∈ rs,Short r) (hsp : ∀ r ∈ rs,Spelt r) (hrd : RdC a rs w) (hsrc : SrcB ab L cb w) (hLb : L.length ≤ 1099511627776) (hg : HandleAt w) :
    Calls Tryz.prog 41 #[.agg #[.slice a rs.length cap],.slice ab L.length cb] w (ResAt rs.length (fileG rs L) w):=by
  obtain ⟨w0,hw0⟩ : ∃ w0,w0 = (w.alloc (.cells #[.slice a rs.length cap] 26)).alloc (.cells #[.int .i64 0,.slice none 0 0,.slice none 0 0] 48):=⟨_,rfl⟩
  have hB : Below w.heap.size w w0:=by subst hw0; exact ((Below.refl _ _).alloc (Nat.le_refl _) _).alloc (by simp) _
  have hD : CellsAt w.heap.size [.slice a rs.length cap] w0:=by subst hw0; exact (CellsAt.new w _ _).below ((Below.refl _ _).alloc (Nat.le_refl _) _)
  have hZ : CellsAt (w.heap.size + 1) [.int .i64 0,.slice none 0 0,.slice none 0 0] w0:=by
    subst hw0
    have h1:=CellsAt.new (w.alloc (.cells #[.slice a rs.length cap] 26)) [.int .i64 0,.slice none 0 0,.slice none 0 0] 48
    rw [World.size_alloc] at h1
    exact h1
  have hs0 : w0.heap.size = w.heap.size + 2:=by subst hw0; simp
  obtain ⟨N,hN⟩ : ∃ N,N = w.heap.size + 1:=⟨_,rfl⟩
  rw [← hN] at hZ
  have hNW : w.heap.size ≤ N:=by omega
  have hN0 : N < w0.heap.size:=by omega
  have HB:=kq hB
  have HD:=kq hD
  have HZ:=kq hZ
  have HN:=kq hN.symm
  have HW:=kq hw0
  have hx0:=(hD 0 _ rfl).1
  have HG:=kq hg
  have HROOT : Hid (∀ W,Below w.heap.size w W → Calls Tryz.prog 74 #[.agg #[.slice a rs.length cap]] W fun e w' => e = .returned (.int .i64 ((rs.length : Int) - 1)) ∧ Below W.heap.size W w'):=fun W hb => root_impl a rs cap W (by omega) (hrd.below hb).rd
  have HSW : Hid (∀ W,Below w0.heap.size w0 W → W.cell? ⟨w.heap.size,0,none⟩ = some (.slice a rs.length cap)):=fun W hb => (HD.out.below hb 0 _ rfl).1
  have HB0 : Hid (Below w0.heap.size w0 w0.drew):=below_drewN (Below.refl _ _) 1
  have HRV : Hid (∀ W,Below w.heap.size w W → Calls Tryz.prog 73 #[.agg #[.slice a rs.length cap],.int .i64 ((rs.length : Int) - 1),.slice ab L.length cb,.int .i64 0] W (ErrAt rs.length (readG rs ((rs.length : Int) - 1) L 0) W)):=fun W hb => valat_impl a ab rs cap cb ((rs.length : Int) - 1) 0 L W hl hs hsp (hrd.below hb) (hsrc.below hb) hLb
  unfold fileG
  generalize readG rs ((rs.length : Int) - 1) L 0 = g at HRV ⊢
  clear hrd hsrc hs hsp hB hD hZ hN hw0 hs0 hx0 hg
  cases g with
  | bad q' c' =>
    go_enter Tryz.func41,Tryz.ntmps41
    go_upto_region 1 with fail
    rw [← HW.out,HN.out]
    clear HW HN
    go_cut [7,8,9] from 11 to 18 (fun px nx cx W => ∃ (N9 : Nat) (u0 u1 u2 u : Value),px = .pointer (some ⟨N9,0,none⟩) ∧ nx = u ∧ cx = .iface 99 (.agg #[.int .i64 (q' : Int),.int .i64 (c' : Int)]) ∧ Hid (VAt w0 [u0,u1,u2] N9 W))
    case first =>
      go_region_held3 (fun W => W.cell? ⟨w.heap.size,0,none⟩ = some (.slice a rs.length cap)) (exact HSW.out _ (by first | exact HB0.out | exact HB0.out.alloc HB0.out.size _ | exact below3V HB0.out (by assumption) _ _ _)) (first
        | (go_at_call 74
           refine (HROOT.out _ (HB.out.trans (Below.mono (by first | exact HB0.out | exact HB0.out.alloc HB0.out.size _) HB.out.size))).mono ?_
           rintro e w5 ⟨rfl,hb5⟩
           first
             | (have hb5':=HB0.out.trans (hb5.mono HB0.out.size); clear hb5; replace HB0:=kq hb5')
             | (have hb5':=(HB0.out.alloc HB0.out.size _).trans (hb5.mono (HB0.out.alloc HB0.out.size _).size); have HNB : Hid (CellsAt w0.heap.size [.int .i64 0,.slice none 0 0,.slice none 0 0] w5):=(CellsAt.new w0.drew [.int .i64 0,.slice none 0 0,.slice none 0 0] 48).below hb5; have hnb:=Nat.le_refl w0.heap.size; clear hb5; replace HB0:=kq hb5'))
        | (go_at_call 73
           refine (HRV.out _ (HB.out.trans (Below.mono (by first | exact HB0.out | exact HB0.out.alloc HB0.out.size _) HB.out.size))).mono ?_
           rintro e w6 ⟨⟨u0,u1,u2,u,rfl,o0,o1,o2,o3⟩,hb6⟩
           unfold RErr; have s0:=fun N9 : Nat => store_one (P:=Tryz.prog) (b:=N9) (i:=0) o0; have s1:=fun N9 : Nat => store_one (P:=Tryz.prog) (b:=N9) (i:=1) o1; have s2:=fun N9 : Nat => store_one (P:=Tryz.prog) (b:=N9) (i:=2) o2; first
             | (have HNB6:=kq (HNB.out.below hb6); have hb6':=HB0.out.trans (hb6.mono HB0.out.size); clear hb6 HNB; obtain ⟨z0,f0⟩:=HNB6.out 0 _ rfl; obtain ⟨z1,f1⟩:=HNB6.out 1 _ rfl; obtain ⟨z2,f2⟩:=HNB6.out 2 _ rfl; replace HB0:=kq hb6')
             | (have hb6':=HB0.out.trans (hb6.mono HB0.out.size); clear hb6; replace HB0:=kq hb6')
             | (have hb6':=(HB0.out.alloc HB0.out.size _).trans (hb6.mono (HB0.out.alloc HB0.out.size _).size); have HNB6 : Hid (CellsAt w5.heap.size [.int .i64 0,.slice none 0 0,.slice none 0 0] w6):=(CellsAt.new w5 [.int .i64 0,.slice none 0 0,.slice none 0 0] 48).below hb6; have hnb:=HB0.out.size; clear hb6; obtain ⟨z0,f0⟩:=HNB6.out 0 _ rfl; obtain ⟨z1,f1⟩:=HNB6.out 1 _ rfl; obtain ⟨z2,f2⟩:=HNB6.out 2 _ rfl; replace HB0:=kq hb6')))
      all_goals go_wp2_with fail
      all_goals go_meet
      all_goals first | exact ⟨_,u0,u1,u2,u,rfl,rfl,rfl,vat_set (by assumption) HNB6.out HB0.out⟩ | exact ⟨_,u0,u1,u2,u,rfl,rfl,rfl,vat_new HB0.out _⟩
    case rest =>
      obtain ⟨N9,u0,u1,u2,u,rfl,rfl,rfl,HV⟩:=hcut
      obtain ⟨hn9,hv9,hb9⟩:=HV.out
      have HZC:=kq (HZ.out.below hb9)
      have HBC:=kq (HB.out.trans (hb9.mono HB.out.size))
      obtain ⟨v0,-⟩:=hv9 0 _ rfl
      obtain ⟨v1,-⟩:=hv9 1 _ rfl
      obtain ⟨v2,-⟩:=hv9 2 _ rfl
      clear HV hn9 hv9 hb9 HSW HROOT HRV HB0
      go_wp2_with (go_at_call 75; refine (result_bad u0 u1 u2 _ (q' : Int) (c' : Int) _ (HG.out.below HBC.out)).mono ?_; rintro e w8 ⟨rfl,hb8⟩; replace HZC:=kq (HZC.out.below hb8); replace HBC:=kq (HBC.out.trans (hb8.mono HBC.out.size)); obtain ⟨z0,f0⟩:=HZC.out 0 _ rfl; obtain ⟨z1,f1⟩:=HZC.out 1 _ rfl; obtain ⟨z2,f2⟩:=HZC.out 2 _ rfl; clear hb8)
      try go_wp2
      (try simp only [Exit.inBlock,Exit.then])
      refine bodyPost_ret (v:=.tuple #[.agg #[.int .i64 0,.slice none 0 0,.slice none 0 0],.int .i64 (q' : Int),.int .i64 (c' : Int)]) ?_ rfl ?_
      · simp [results,Tryz.results41,go_sem,z0,z1,z2]
      · exact ⟨rfl,below3V HBC.out hNW _ _ _⟩
  | ok v q' =>
    simp only
    by_cases hlt : q' < L.length
    · rw [if_pos hlt]
      have k1 : (q' : Int) < (L.length : Int):=by omega
      go_enter Tryz.func41,Tryz.ntmps41
      go_upto_region 1 with fail
      rw [← HW.out,HN.out]
      clear HW HN
      go_cut [7,8,9] from 11 to 18 (fun px nx cx W => ∃ (N9 : Nat) (bl : List Nat) (ab' : Option Addr) (cb' : Nat) (ai' : Option Addr) (ci' : Nat),px = .pointer (some ⟨N9,0,none⟩) ∧ nx = .int .i64 (q' : Int) ∧ cx = .nilIface ∧ Hid (TAt rs.length w0 bl v [.int .i64 v.number,.slice ab' v.bytes.length cb',.slice ai' v.items.length ci'] N9 W))
      case first =>
        go_region_held3 (fun W => W.cell? ⟨w.heap.size,0,none⟩ = some (.slice a rs.length cap)) (exact HSW.out _ (by first | exact HB0.out | exact HB0.out.alloc HB0.out.size _ | exact below3V HB0.out (by assumption) _ _ _)) (first
          | (go_at_call 74
             refine (HROOT.out _ (HB.out.trans (Below.mono (by first | exact HB0.out | exact HB0.out.alloc HB0.out.size _) HB.out.size))).mono ?_
             rintro e w5 ⟨rfl,hb5⟩
             first
               | (have hb5':=HB0.out.trans (hb5.mono HB0.out.size); clear hb5; replace HB0:=kq hb5')
               | (have hb5':=(HB0.out.alloc HB0.out.size _).trans (hb5.mono (HB0.out.alloc HB0.out.size _).size); have HNB : Hid (CellsAt w0.heap.size [.int .i64 0,.slice none 0 0,.slice none 0 0] w5):=(CellsAt.new w0.drew [.int .i64 0,.slice none 0 0,.slice none 0 0] 48).below hb5; have hnb:=Nat.le_refl w0.heap.size; clear hb5; replace HB0:=kq hb5'))
          | (go_at_call 73
             refine (HRV.out _ (HB.out.trans (Below.mono (by first | exact HB0.out | exact HB0.out.alloc HB0.out.size _) HB.out.size))).mono ?_
             rintro e w6 ⟨⟨bl,cs',rfl,hown,hbl⟩,hb6⟩
             obtain ⟨ab',cb',ai',ci',rfl⟩:=hown.cells; first
               | (have HNB6:=kq (HNB.out.below hb6); have HOS:=kq hown; have HBL:=kq hbl; have HNX:=kq (cell_lt (HNB.out 0 _ rfl).1); clear hown hbl; have hb6':=HB0.out.trans (hb6.mono HB0.out.size); clear hb6 HNB; obtain ⟨z0,f0⟩:=HNB6.out 0 _ rfl; obtain ⟨z1,f1⟩:=HNB6.out 1 _ rfl; obtain ⟨z2,f2⟩:=HNB6.out 2 _ rfl; replace HB0:=kq hb6')
               | (have hb6':=HB0.out.trans (hb6.mono HB0.out.size); have HOC:=kq hown; have HBL:=kq hbl; have HXC:=kq HB0.out.size; clear hown hbl; clear hb6; replace HB0:=kq hb6')
               | (have hb6':=(HB0.out.alloc HB0.out.size _).trans (hb6.mono (HB0.out.alloc HB0.out.size _).size); have HNB6 : Hid (CellsAt w5.heap.size [.int .i64 0,.slice none 0 0,.slice none 0 0] w6):=(CellsAt.new w5 [.int .i64 0,.slice none 0 0,.slice none 0 0] 48).below hb6; have hnb:=HB0.out.size; have HOS:=kq hown; have HBL:=kq hbl; have HNX : Hid (w5.heap.size < (w5.alloc (.cells #[.int .i64 0,.slice none 0 0,.slice none 0 0] 48)).heap.size):=(by show _ < _; simp); clear hown hbl; clear hb6; obtain ⟨z0,f0⟩:=HNB6.out 0 _ rfl; obtain ⟨z1,f1⟩:=HNB6.out 1 _ rfl; obtain ⟨z2,f2⟩:=HNB6.out 2 _ rfl; replace HB0:=kq hb6')))
        all_goals go_wp2_with fail
        all_goals go_meet
        all_goals first
          | exact ⟨_,bl,ab',cb',ai',ci',rfl,rfl,rfl,tat_set HOS.out HBL.out HNX.out (by assumption) HNB6.out HB0.out⟩
          | exact ⟨_,bl,ab',cb',ai',ci',rfl,rfl,rfl,tat_new HOC.out HBL.out HXC.out HB0.out _⟩
      case rest =>
        obtain ⟨N9,bl,ab',cb',ai',ci',rfl,rfl,rfl,HV⟩:=hcut
        obtain ⟨⟨hn9,hv9,hb9⟩,ho9,hl9⟩:=HV.out
        have HZC:=kq (HZ.out.below hb9)
        have HBC:=kq (HB.out.trans (hb9.mono HB.out.size))
        have HOW:=kq ho9
        have HBL:=kq hl9
        obtain ⟨v0,-⟩:=hv9 0 _ rfl
        obtain ⟨v1,-⟩:=hv9 1 _ rfl
        obtain ⟨v2,-⟩:=hv9 2 _ rfl
        clear HV hn9 hv9 hb9 ho9 hl9 HSW HROOT HRV HB0
        go_wp2_with (go_at_call 75; refine (result_bad _ _ _ _ (q' : Int) 7 _ (HG.out.below HBC.out)).mono ?_; rintro e w8 ⟨rfl,hb8⟩; replace HZC:=kq (HZC.out.below hb8); replace HOW:=kq (HOW.out.below hb8); replace HBC:=kq (HBC.out.trans (hb8.mono HBC.out.size)); obtain ⟨z0,f0⟩:=HZC.out 0 _ rfl; obtain ⟨z1,f1⟩:=HZC.out 1 _ rfl; obtain ⟨z2,f2⟩:=HZC.out 2 _ rfl; clear hb8)
        try go_wp2
        (try simp only [Exit.inBlock,Exit.then])
        refine bodyPost_ret (v:=.tuple #[.agg #[.int .i64 0,.slice none 0 0,.slice none 0 0],.int .i64 (q' : Int),.int .i64 7]) ?_ rfl ?_
        · simp [results,Tryz.results41,go_sem,z0,z1,z2]
        · exact ⟨rfl,below3V HBC.out hNW _ _ _⟩
    · rw [if_neg hlt]
      have k1 : ¬ (q' : Int) < (L.length : Int):=by omega
      go_enter Tryz.func41,Tryz.ntmps41
      go_upto_region 1 with fail
      rw [← HW.out,HN.out]
      clear HW HN
      go_cut [7,8,9] from 11 to 18 (fun px nx cx W => ∃ (N9 : Nat) (bl : List Nat) (ab' : Option Addr) (cb' : Nat) (ai' : Option Addr) (ci' : Nat),px = .pointer (some ⟨N9,0,none⟩) ∧ nx = .int .i64 (q' : Int) ∧ cx = .nilIface ∧ Hid (TAt rs.length w0 bl v [.int .i64 v.number,.slice ab' v.bytes.length cb',.slice ai' v.items.length ci'] N9 W))
      case first =>
        go_region_held3 (fun W => W.cell? ⟨w.heap.size,0,none⟩ = some (.slice a rs.length cap)) (exact HSW.out _ (by first | exact HB0.out | exact HB0.out.alloc HB0.out.size _ | exact below3V HB0.out (by assumption) _ _ _)) (first
          | (go_at_call 74
             refine (HROOT.out _ (HB.out.trans (Below.mono (by first | exact HB0.out | exact HB0.out.alloc HB0.out.size _) HB.out.size))).mono ?_
             rintro e w5 ⟨rfl,hb5⟩
             first
               | (have hb5':=HB0.out.trans (hb5.mono HB0.out.size); clear hb5; replace HB0:=kq hb5')
               | (have hb5':=(HB0.out.alloc HB0.out.size _).trans (hb5.mono (HB0.out.alloc HB0.out.size _).size); have HNB : Hid (CellsAt w0.heap.size [.int .i64 0,.slice none 0 0,.slice none 0 0] w5):=(CellsAt.new w0.drew [.int .i64 0,.slice none 0 0,.slice none 0 0] 48).below hb5; have hnb:=Nat.le_refl w0.heap.size; clear hb5; replace HB0:=kq hb5'))
          | (go_at_call 73
             refine (HRV.out _ (HB.out.trans (Below.mono (by first | exact HB0.out | exact HB0.out.alloc HB0.out.size _) HB.out.size))).mono ?_
             rintro e w6 ⟨⟨bl,cs',rfl,hown,hbl⟩,hb6⟩
             obtain ⟨ab',cb',ai',ci',rfl⟩:=hown.cells; first
               | (have HNB6:=kq (HNB.out.below hb6); have HOS:=kq hown; have HBL:=kq hbl; have HNX:=kq (cell_lt (HNB.out 0 _ rfl).1); clear hown hbl; have hb6':=HB0.out.trans (hb6.mono HB0.out.size); clear hb6 HNB; obtain ⟨z0,f0⟩:=HNB6.out 0 _ rfl; obtain ⟨z1,f1⟩:=HNB6.out 1 _ rfl; obtain ⟨z2,f2⟩:=HNB6.out 2 _ rfl; replace HB0:=kq hb6')
               | (have hb6':=HB0.out.trans (hb6.mono HB0.out.size); have HOC:=kq hown; have HBL:=kq hbl; have HXC:=kq HB0.out.size; clear hown hbl; clear hb6; replace HB0:=kq hb6')
               | (have hb6':=(HB0.out.alloc HB0.out.size _).trans (hb6.mono (HB0.out.alloc HB0.out.size _).size); have HNB6 : Hid (CellsAt w5.heap.size [.int .i64 0,.slice none 0 0,.slice none 0 0] w6):=(CellsAt.new w5 [.int .i64 0,.slice none 0 0,.slice none 0 0] 48).below hb6; have hnb:=HB0.out.size; have HOS:=kq hown; have HBL:=kq hbl; have HNX : Hid (w5.heap.size < (w5.alloc (.cells #[.int .i64 0,.slice none 0 0,.slice none 0 0] 48)).heap.size):=(by show _ < _; simp); clear hown hbl; clear hb6; obtain ⟨z0,f0⟩:=HNB6.out 0 _ rfl; obtain ⟨z1,f1⟩:=HNB6.out 1 _ rfl; obtain ⟨z2,f2⟩:=HNB6.out 2 _ rfl; replace HB0:=kq hb6')))
        all_goals go_wp2_with fail
        all_goals go_meet
        all_goals first
          | exact ⟨_,bl,ab',cb',ai',ci',rfl,rfl,rfl,tat_set HOS.out HBL.out HNX.out (by assumption) HNB6.out HB0.out⟩
          | exact ⟨_,bl,ab',cb',ai',ci',rfl,rfl,rfl,tat_new HOC.out HBL.out HXC.out HB0.out _⟩
      case rest =>
        obtain ⟨N9,bl,ab',cb',ai',ci',rfl,rfl,rfl,HV⟩:=hcut
        obtain ⟨⟨hn9,hv9,hb9⟩,ho9,hl9⟩:=HV.out
        have HZC:=kq (HZ.out.below hb9)
        have HBC:=kq (HB.out.trans (hb9.mono HB.out.size))
        have HOW:=kq ho9
        have HBL:=kq hl9
        obtain ⟨v0,-⟩:=hv9 0 _ rfl
        obtain ⟨v1,-⟩:=hv9 1 _ rfl
        obtain ⟨v2,-⟩:=hv9 2 _ rfl
        clear HV hn9 hv9 hb9 ho9 hl9 HSW HROOT HRV HB0
        go_wp2_with (go_at_call 75; refine (result_ok _ _ _ _ _ _ _ _ _).mono ?_; rintro e w8 ⟨rfl,hb8⟩; replace HZC:=kq (HZC.out.below hb8); replace HOW:=kq (HOW.out.below hb8); replace HBC:=kq (HBC.out.trans (hb8.mono HBC.out.size)); obtain ⟨z0,f0⟩:=HZC.out 0 _ rfl; obtain ⟨z1,f1⟩:=HZC.out 1 _ rfl; obtain ⟨z2,f2⟩:=HZC.out 2 _ rfl; clear hb8)
        try go_wp2
        (try simp only [Exit.inBlock,Exit.then])
        refine bodyPost_ret (v:=.tuple #[.agg #[.int .i64 v.number,.slice ab' v.bytes.length cb',.slice ai' v.items.length ci'],.int .i64 (q' : Int),.int .i64 0]) ?_ rfl ?_
        · simp [results,Tryz.results41,go_sem,z0,z1,z2]
        · exact ⟨⟨bl,[.int .i64 v.number,.slice ab' v.bytes.length cb',.slice ai' v.items.length ci'],rfl,own3 HOW.out (fun b hb => by have:=HBL.out b hb; omega) _ _ _,fun b hb => by have:=HBL.out b hb; omega⟩,below3V HBC.out hNW _ _ _⟩

end Go.Proofs.YtefkhknfjohnaaaGreatDoor
