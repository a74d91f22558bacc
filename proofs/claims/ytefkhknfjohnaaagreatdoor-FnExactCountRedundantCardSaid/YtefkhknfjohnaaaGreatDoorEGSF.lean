/- The model's ReadValue, ReadFile, IsFileOf. -/
import Derived.Test.YtefkhknfjohnaaaGreatDoorEK
import Derived.Test.YtefkhknfjohnaaaGreatDoorESRead11
import Derived.Test.YtefkhknfjohnaaaGreatDoorEReadG
import Derived.Test.YtefkhknfjohnaaaGreatDoorEGX
import Derived.Test.YtefkhknfjohnaaaGreatDoorEGY
set_option maxRecDepth 100000
set_option maxHeartbeats 8000000
namespace Go.Proofs.YtefkhknfjohnaaaGreatDoor
open Go Go.RowKit
theorem sreadvalue_spec (a ab : Option Addr) (rs : List RuleV) (cap cb : Nat) (k x : Int) (L : List UInt8) (w : World) (hl : rs.length ≤ 1048576) (hs : ∀ r ∈ rs,Short r) (hsp : ∀ r ∈ rs,Spelt r) (hrd : RdC a rs w) (hsrc : SrcB ab L cb w) (hLb : L.length ≤ 1099511627776) :
  Calls Tryz.prog 77 #[.agg #[.slice a rs.length cap],.int .i64 k,.slice ab L.length cb,.int .i64 x] w (SGot rs.length (readG rs k L x) w):=by
 obtain ⟨w0,hw0⟩ : ∃ w0,w0 = (w.alloc (.cells #[.slice a rs.length cap] 26)).alloc (.cells #[.int .i64 0,.slice none 0 0,.slice none 0 0] 48):=⟨_,rfl⟩
 have hB:=zb2 hw0
 have hD:=zk2 hw0
 have hZ:=zk3 hw0
 have hs0 : w0.heap.size = w.heap.size + 2:=by subst hw0; simp
 obtain ⟨N,hN⟩ : ∃ N,N = w.heap.size + 1:=⟨_,rfl⟩
 rw [← hN] at hZ
 have hNW : w.heap.size ≤ N:=by omega
 have hN0 : N < w0.heap.size:=by omega
 have HB:=kq hB
 have HD:=kq hD
 have HZ:=kq hZ
 have HN:=kq hN.symm
 have HW:=kq hw0
 have hx0:=(hD 0 _ rfl).1
 have HL7 : Hid (∀ W,Below w.heap.size w W → Calls Tryz.prog 52 #[.agg #[.slice a rs.length cap],.int .i64 k] W fun e w' => e = .returned (.bool (okAt rs k)) ∧ Below W.heap.size W w'):=fun W hb => l7_spec a rs cap k W hl hs hsp (hrd.below hb)
 obtain ⟨bi,hbi⟩ : ∃ bi,decide (0 ≤ x ∧ x ≤ (L.length : Int)) = bi:=⟨_,rfl⟩
 have HIN : Hid (∀ W,Calls Tryz.prog 87 #[.int .i64 x,.int .i64 0,.int .i64 (L.length : Int)] W fun e w' => e = .returned (.bool bi) ∧ W = w'):=fun W => in_any x 0 L.length bi W hbi
 unfold readG
 obtain ⟨ok,hok⟩ : ∃ ok,ok = okAt rs k:=⟨_,rfl⟩
 by_cases hall : okAt rs k = true ∧ 0 ≤ x ∧ x ≤ (L.length : Int) ∧ L.length ≤ 400
 ·rw [if_pos hall]
  obtain ⟨h1,h2,h3,h4⟩:=hall
  obtain ⟨⟨h0,h0'⟩,-,hv⟩:=okAt_yes h1
  obtain ⟨kk,rfl⟩ : ∃ kk : Nat,k = (kk : Int):=⟨k.toNat,by omega⟩
  obtain ⟨p,rfl⟩ : ∃ p : Nat,x = (p : Int):=⟨x.toNat,by omega⟩
  rw [Int.toNat_natCast]
  have hbt : bi = true:=by rw [← hbi]; exact decide_eq_true ⟨h2,h3⟩
  rw [h1] at HL7
  rw [hbt] at HIN
  have HC : Hid (∀ W,Below w.heap.size w W → Calls Tryz.prog 127 #[.agg #[.slice a rs.length cap],.int .i64 (kk : Int),.slice ab L.length cb,.int .i64 (p : Int)] W (SGot rs.length (parseB rs L rs.length (kk : Int) p) W)):=fun W hb => sread11_all a ab rs cap cb L hv (by omega) rs.length kk p W (by omega) (by omega) (by omega) (hrd.below hb).rd (hsrc.below hb)
  have g4 : ¬ (L.length : Int) > 400:=by omega
  generalize parseB rs L rs.length (kk : Int) p = g at HC ⊢
  clear hbi hbt hok h1 hv hrd hsrc hs hsp hB hD hZ hN hw0 hs0
  cases g with
  | bad q' c' =>
   go_enter Tryz.func77,Tryz.ntmps77
   go_upto_region 1 with fail
   rw [← HW.out,HN.out]
   clear HW HN
   go_upto_region 3 with (first | (go_at_call 52; refine (HL7.out _ HB.out).mono ?_; rintro e w2 ⟨rfl,hb2⟩; have HB2:=kq (HB.out.trans (hb2.mono HB.out.size)); have HD2:=kq (HD.out.below hb2); have HZ2:=kq (HZ.out.below hb2); clear hb2) | (go_at_call 87; refine (HIN.out _).mono ?_; rintro e w3 ⟨rfl,rfl⟩))
   have x0:=(HD2.out 0 _ rfl).1
   go_wp2_with (go_at_call 127; refine (HC.out _ HB2.out).mono ?_; rintro e w7 ⟨rfl,hb7⟩; have HB7:=kq (HB2.out.trans (hb7.mono HB2.out.size)); obtain ⟨z0,f0⟩:=HZ2.out.below hb7 0 _ rfl; obtain ⟨z1,f1⟩:=HZ2.out.below hb7 1 _ rfl; obtain ⟨z2,f2⟩:=HZ2.out.below hb7 2 _ rfl; clear hb7)
   try go_wp2
   (try simp only [Exit.inBlock,Exit.then])
   refine bodyPost_ret (v:=.tuple #[.agg #[.int .i64 0,.slice none 0 0,.slice none 0 0],.int .i64 (q' : Int),.int .i64 (c' : Int)]) ?_ rfl ?_
   ·simp [results,Tryz.results77,go_sem,z0,z1,z2]
   ·exact sgot_bad rfl (below3 HB7.out hNW _ _ _)
  | ok v q' =>
   go_enter Tryz.func77,Tryz.ntmps77
   go_upto_region 1 with fail
   rw [← HW.out,HN.out]
   clear HW HN
   go_upto_region 3 with (first | (go_at_call 52; refine (HL7.out _ HB.out).mono ?_; rintro e w2 ⟨rfl,hb2⟩; have HB2:=kq (HB.out.trans (hb2.mono HB.out.size)); have HD2:=kq (HD.out.below hb2); have HZ2:=kq (HZ.out.below hb2); have HS2:=kq hb2.size; clear hb2) | (go_at_call 87; refine (HIN.out _).mono ?_; rintro e w3 ⟨rfl,rfl⟩))
   have x0:=(HD2.out 0 _ rfl).1
   go_wp2_with (go_at_call 127; refine (HC.out _ HB2.out).mono ?_; rintro e w7 ⟨⟨cs',rfl,hown⟩,hb7⟩; obtain ⟨ab',cb',ai',ci',rfl⟩:=hown.cells; have HB7:=kq (HB2.out.trans (hb7.mono HB2.out.size)); have HOW:=kq hown; obtain ⟨z0,f0⟩:=HZ2.out.below hb7 0 _ rfl; obtain ⟨z1,f1⟩:=HZ2.out.below hb7 1 _ rfl; obtain ⟨z2,f2⟩:=HZ2.out.below hb7 2 _ rfl; clear hb7 hown)
   try go_wp2
   (try simp only [Exit.inBlock,Exit.then])
   refine bodyPost_ret (v:=.tuple #[.agg #[.int .i64 v.number,.slice ab' v.bytes.length cb',.slice ai' v.items.length ci'],.int .i64 (q' : Int),.int .i64 0]) ?_ rfl ?_
   ·simp [results,Tryz.results77,go_sem,z0,z1,z2]
   ·exact sret_ok (X:=w0.heap.size) (v:=v) (cs:=[.int .i64 v.number,.slice ab' v.bytes.length cb',.slice ai' v.items.length ci']) rfl HB7.out (HOW.out.mono fun b _ (hb : _ ≤ b) => Nat.le_trans HS2.out hb) hN0 hNW _ _ _
 ·rw [if_neg hall]
  by_cases h1 : okAt rs k = true
  ·rw [h1] at HL7
   by_cases h2 : 0 ≤ x ∧ x ≤ (L.length : Int)
   ·have hbt : bi = true:=by rw [← hbi]; exact decide_eq_true h2
    rw [hbt] at HIN
    have g4 : (L.length : Int) > 400:=by
     have : ¬ L.length ≤ 400:=fun h => hall ⟨h1,h2.1,h2.2,h⟩
     omega
    clear hbi hbt hok h1 h2 hrd hsrc hs hsp hB hD hZ hN hw0 hs0 hall
    go_enter Tryz.func77,Tryz.ntmps77
    go_upto_region 1 with fail
    rw [← HW.out,HN.out]
    clear HW HN
    go_upto_region 2 with (first | (go_at_call 52; refine (HL7.out _ HB.out).mono ?_; rintro e w2 ⟨rfl,hb2⟩; have HB2:=kq (HB.out.trans (hb2.mono HB.out.size)); have HZ2:=kq (HZ.out.below hb2); clear hb2) | (go_at_call 87; refine (HIN.out _).mono ?_; rintro e w3 ⟨rfl,rfl⟩))
    obtain ⟨z0,f0⟩:=HZ2.out 0 _ rfl
    obtain ⟨z1,f1⟩:=HZ2.out 1 _ rfl
    obtain ⟨z2,f2⟩:=HZ2.out 2 _ rfl
    go_wp2
    (try simp only [Exit.inBlock,Exit.then])
    refine bodyPost_ret (v:=.tuple #[.agg #[.int .i64 0,.slice none 0 0,.slice none 0 0],.int .i64 0,.int .i64 8]) ?_ rfl ?_
    ·simp [results,Tryz.results77,go_sem,z0,z1,z2]
    ·exact sgot_bad (q:=0) (c:=8) rfl (below3 HB2.out hNW _ _ _)
   ·have hbt : bi = false:=by rw [← hbi]; exact decide_eq_false h2
    rw [hbt] at HIN
    clear hbi hbt hok h1 h2 hrd hsrc hs hsp hB hD hZ hN hw0 hs0 hall
    go_enter Tryz.func77,Tryz.ntmps77
    go_upto_region 1 with fail
    rw [← HW.out,HN.out]
    clear HW HN
    go_upto_region 2 with (first | (go_at_call 52; refine (HL7.out _ HB.out).mono ?_; rintro e w2 ⟨rfl,hb2⟩; have HB2:=kq (HB.out.trans (hb2.mono HB.out.size)); have HZ2:=kq (HZ.out.below hb2); clear hb2) | (go_at_call 87; refine (HIN.out _).mono ?_; rintro e w3 ⟨rfl,rfl⟩))
    obtain ⟨z0,f0⟩:=HZ2.out 0 _ rfl
    obtain ⟨z1,f1⟩:=HZ2.out 1 _ rfl
    obtain ⟨z2,f2⟩:=HZ2.out 2 _ rfl
    go_wp2
    (try simp only [Exit.inBlock,Exit.then])
    refine bodyPost_ret (v:=.tuple #[.agg #[.int .i64 0,.slice none 0 0,.slice none 0 0],.int .i64 0,.int .i64 8]) ?_ rfl ?_
    ·simp [results,Tryz.results77,go_sem,z0,z1,z2]
    ·exact sgot_bad (q:=0) (c:=8) rfl (below3 HB2.out hNW _ _ _)
  ·have h1' : okAt rs k = false:=by simpa using h1
   rw [h1'] at HL7
   clear hbi hok h1 h1' hrd hsrc hs hsp hB hD hZ hN hw0 hs0 hall
   go_enter Tryz.func77,Tryz.ntmps77
   go_upto_region 1 with fail
   rw [← HW.out,HN.out]
   clear HW HN
   go_upto_region 2 with (first | (go_at_call 52; refine (HL7.out _ HB.out).mono ?_; rintro e w2 ⟨rfl,hb2⟩; have HB2:=kq (HB.out.trans (hb2.mono HB.out.size)); have HZ2:=kq (HZ.out.below hb2); clear hb2) | (go_at_call 87; refine (HIN.out _).mono ?_; rintro e w3 ⟨rfl,rfl⟩))
   obtain ⟨z0,f0⟩:=HZ2.out 0 _ rfl
   obtain ⟨z1,f1⟩:=HZ2.out 1 _ rfl
   obtain ⟨z2,f2⟩:=HZ2.out 2 _ rfl
   go_wp2
   (try simp only [Exit.inBlock,Exit.then])
   refine bodyPost_ret (v:=.tuple #[.agg #[.int .i64 0,.slice none 0 0,.slice none 0 0],.int .i64 0,.int .i64 8]) ?_ rfl ?_
   ·simp [results,Tryz.results77,go_sem,z0,z1,z2]
   ·exact sgot_bad (q:=0) (c:=8) rfl (below3 HB2.out hNW _ _ _)

theorem sreadfile_spec (a ab : Option Addr) (rs : List RuleV) (cap cb : Nat) (L : List UInt8) (w : World) (hl : rs.length ≤ 1048576) (hs : ∀ r ∈ rs,Short r) (hsp : ∀ r ∈ rs,Spelt r) (hrd : RdC a rs w) (hsrc : SrcB ab L cb w) (hLb : L.length ≤ 1099511627776) :
    Calls Tryz.prog 43 #[.agg #[.slice a rs.length cap],.slice ab L.length cb] w (SGot rs.length (fileG rs L) w):=by
  obtain ⟨w0,hw0⟩ : ∃ w0,w0 = (w.alloc (.cells #[.slice a rs.length cap] 26)).alloc (.cells #[.int .i64 0,.slice none 0 0,.slice none 0 0] 48):=⟨_,rfl⟩
  have hB:=zb2 hw0
  have hD:=zk2 hw0
  have hZ:=zk3 hw0
  have hs0 : w0.heap.size = w.heap.size + 2:=by subst hw0; simp
  obtain ⟨N,hN⟩ : ∃ N,N = w.heap.size + 1:=⟨_,rfl⟩
  rw [← hN] at hZ
  have hNW : w.heap.size ≤ N:=by omega
  have hN0 : N < w0.heap.size:=by omega
  have HB:=kq hB
  have HD:=kq hD
  have HZ:=kq hZ
  have HN:=kq hN.symm
  have HW:=kq hw0
  have hx0:=(hD 0 _ rfl).1
  have HROOT : Hid (∀ W,Below w.heap.size w W → Calls Tryz.prog 78 #[.agg #[.slice a rs.length cap]] W fun e w' => e = .returned (.int .i64 ((rs.length : Int) - 1)) ∧ Below W.heap.size W w'):=fun W hb => root_spec a rs cap W (by omega) (hrd.below hb).rd
  have HSW : Hid (∀ W,Below w0.heap.size w0 W → W.cell? ⟨w.heap.size,0,none⟩ = some (.slice a rs.length cap)):=fun W hb => (HD.out.below hb 0 _ rfl).1
  have HB0 : Hid (Below w0.heap.size w0 w0.drew):=below_drewN (Below.refl _ _) 1
  have HRV : Hid (∀ W,Below w.heap.size w W → Calls Tryz.prog 77 #[.agg #[.slice a rs.length cap],.int .i64 ((rs.length : Int) - 1),.slice ab L.length cb,.int .i64 0] W (SGot rs.length (readG rs ((rs.length : Int) - 1) L 0) W)):=fun W hb => sreadvalue_spec a ab rs cap cb ((rs.length : Int) - 1) 0 L W hl hs hsp (hrd.below hb) (hsrc.below hb) hLb
  unfold fileG
  have hcode:=fun q c => readG_code (rs:=rs) (k:=(rs.length : Int) - 1) (x:=0) (L:=L) (q:=q) (c:=c)
  generalize readG rs ((rs.length : Int) - 1) L 0 = g at HRV hcode ⊢
  clear hrd hsrc hs hsp hB hD hZ hN hw0 hs0 hx0
  cases g with
  | bad q' c' =>
    obtain ⟨hc1,hc2⟩:=hcode q' c' rfl
    clear hcode
    go_enter Tryz.func43,Tryz.ntmps43
    go_upto_region 1 with fail
    rw [← HW.out,HN.out]
    clear HW HN
    go_cut [7,8,9] from 11 to 18 (fun px nx cx W => ∃ N9 : Nat,px = .pointer (some ⟨N9,0,none⟩) ∧ nx = .int .i64 (q' : Int) ∧ cx = .int .i64 (c' : Int) ∧ Hid (VAt w0 [.int .i64 0,.slice none 0 0,.slice none 0 0] N9 W))
    case first =>
      go_region_held3 (fun W => W.cell? ⟨w.heap.size,0,none⟩ = some (.slice a rs.length cap)) (exact HSW.out _ (by first | exact HB0.out | exact HB0.out.alloc HB0.out.size _ | exact below3 HB0.out (by assumption) _ _ _)) (first
        | (go_at_call 78
           refine (HROOT.out _ (HB.out.trans (Below.mono (by first | exact HB0.out | exact HB0.out.alloc HB0.out.size _) HB.out.size))).mono ?_
           rintro e w5 ⟨rfl,hb5⟩
           first
             | (have hb5':=HB0.out.trans (hb5.mono HB0.out.size); clear hb5; replace HB0:=kq hb5')
             | (have hb5':=(HB0.out.alloc HB0.out.size _).trans (hb5.mono (HB0.out.alloc HB0.out.size _).size); have HNB : Hid (CellsAt w0.heap.size [.int .i64 0,.slice none 0 0,.slice none 0 0] w5):=(CellsAt.new w0.drew [.int .i64 0,.slice none 0 0,.slice none 0 0] 48).below hb5; have hnb:=Nat.le_refl w0.heap.size; clear hb5; replace HB0:=kq hb5'))
        | (go_at_call 77
           refine (HRV.out _ (HB.out.trans (Below.mono (by first | exact HB0.out | exact HB0.out.alloc HB0.out.size _) HB.out.size))).mono ?_
           rintro e w6 ⟨rfl,hb6⟩
           first
             | (have HNB6:=kq (HNB.out.below hb6); have hb6':=HB0.out.trans (hb6.mono HB0.out.size); clear hb6 HNB; obtain ⟨z0,f0⟩:=HNB6.out 0 _ rfl; obtain ⟨z1,f1⟩:=HNB6.out 1 _ rfl; obtain ⟨z2,f2⟩:=HNB6.out 2 _ rfl; replace HB0:=kq hb6')
             | (have hb6':=HB0.out.trans (hb6.mono HB0.out.size); clear hb6; replace HB0:=kq hb6')
             | (have hb6':=(HB0.out.alloc HB0.out.size _).trans (hb6.mono (HB0.out.alloc HB0.out.size _).size); have HNB6 : Hid (CellsAt w5.heap.size [.int .i64 0,.slice none 0 0,.slice none 0 0] w6):=(CellsAt.new w5 [.int .i64 0,.slice none 0 0,.slice none 0 0] 48).below hb6; have hnb:=HB0.out.size; clear hb6; obtain ⟨z0,f0⟩:=HNB6.out 0 _ rfl; obtain ⟨z1,f1⟩:=HNB6.out 1 _ rfl; obtain ⟨z2,f2⟩:=HNB6.out 2 _ rfl; replace HB0:=kq hb6')))
      all_goals go_wp2_with fail
      all_goals go_meet
      all_goals first | exact ⟨_,rfl,rfl,rfl,vat_set (by assumption) HNB6.out HB0.out⟩ | exact ⟨_,rfl,rfl,rfl,vat_new HB0.out _⟩
    case rest =>
      obtain ⟨N9,rfl,rfl,rfl,HV⟩:=hcut
      obtain ⟨hn9,hv9,hb9⟩:=HV.out
      have HZC:=kq (HZ.out.below hb9)
      have HBC:=kq (HB.out.trans (hb9.mono HB.out.size))
      obtain ⟨z0,f0⟩:=HZC.out 0 _ rfl
      obtain ⟨z1,f1⟩:=HZC.out 1 _ rfl
      obtain ⟨z2,f2⟩:=HZC.out 2 _ rfl
      obtain ⟨v0,-⟩:=hv9 0 _ rfl
      obtain ⟨v1,-⟩:=hv9 1 _ rfl
      obtain ⟨v2,-⟩:=hv9 2 _ rfl
      have hc0 : ((c' : Int) == 0) = false:=by rw [beq_eq_false_iff_ne]; omega
      clear HV hn9 hv9 hb9 HSW HROOT HRV HZC HB0
      go_wp2
      (try simp only [Exit.inBlock,Exit.then])
      refine bodyPost_ret (v:=.tuple #[.agg #[.int .i64 0,.slice none 0 0,.slice none 0 0],.int .i64 (q' : Int),.int .i64 (c' : Int)]) ?_ rfl ?_
      · simp [results,Tryz.results43,go_sem,z0,z1,z2]
      · exact sgot_bad rfl (below3 HBC.out hNW _ _ _)
  | ok v q' =>
    clear hcode
    simp only
    by_cases hlt : q' < L.length
    · rw [if_pos hlt]
      have k1 : (q' : Int) < (L.length : Int):=by omega
      go_enter Tryz.func43,Tryz.ntmps43
      go_upto_region 1 with fail
      rw [← HW.out,HN.out]
      clear HW HN
      go_cut [7,8,9] from 11 to 18 (fun px nx cx W => ∃ (N9 : Nat) (ab' : Option Addr) (cb' : Nat) (ai' : Option Addr) (ci' : Nat),px = .pointer (some ⟨N9,0,none⟩) ∧ nx = .int .i64 (q' : Int) ∧ cx = .int .i64 0 ∧ Hid (XAt rs.length w0 v [.int .i64 v.number,.slice ab' v.bytes.length cb',.slice ai' v.items.length ci'] N9 W))
      case first =>
        go_region_held3 (fun W => W.cell? ⟨w.heap.size,0,none⟩ = some (.slice a rs.length cap)) (exact HSW.out _ (by first | exact HB0.out | exact HB0.out.alloc HB0.out.size _ | exact below3 HB0.out (by assumption) _ _ _)) (first
          | (go_at_call 78
             refine (HROOT.out _ (HB.out.trans (Below.mono (by first | exact HB0.out | exact HB0.out.alloc HB0.out.size _) HB.out.size))).mono ?_
             rintro e w5 ⟨rfl,hb5⟩
             first
               | (have hb5':=HB0.out.trans (hb5.mono HB0.out.size); clear hb5; replace HB0:=kq hb5')
               | (have hb5':=(HB0.out.alloc HB0.out.size _).trans (hb5.mono (HB0.out.alloc HB0.out.size _).size); have HNB : Hid (CellsAt w0.heap.size [.int .i64 0,.slice none 0 0,.slice none 0 0] w5):=(CellsAt.new w0.drew [.int .i64 0,.slice none 0 0,.slice none 0 0] 48).below hb5; have hnb:=Nat.le_refl w0.heap.size; clear hb5; replace HB0:=kq hb5'))
          | (go_at_call 77
             refine (HRV.out _ (HB.out.trans (Below.mono (by first | exact HB0.out | exact HB0.out.alloc HB0.out.size _) HB.out.size))).mono ?_
             rintro e w6 ⟨⟨cs',rfl,hown⟩,hb6⟩
             obtain ⟨ab',cb',ai',ci',rfl⟩:=hown.cells; first
               | (have HNB6:=kq (HNB.out.below hb6); have HOS:=kq hown; have HNX:=kq (cell_lt (HNB.out 0 _ rfl).1); clear hown; have hb6':=HB0.out.trans (hb6.mono HB0.out.size); clear hb6 HNB; obtain ⟨z0,f0⟩:=HNB6.out 0 _ rfl; obtain ⟨z1,f1⟩:=HNB6.out 1 _ rfl; obtain ⟨z2,f2⟩:=HNB6.out 2 _ rfl; replace HB0:=kq hb6')
               | (have hb6':=HB0.out.trans (hb6.mono HB0.out.size); have HOC:=kq hown; have HXC:=kq HB0.out.size; clear hown; clear hb6; replace HB0:=kq hb6')
               | (have hb6':=(HB0.out.alloc HB0.out.size _).trans (hb6.mono (HB0.out.alloc HB0.out.size _).size); have HNB6 : Hid (CellsAt w5.heap.size [.int .i64 0,.slice none 0 0,.slice none 0 0] w6):=(CellsAt.new w5 [.int .i64 0,.slice none 0 0,.slice none 0 0] 48).below hb6; have hnb:=HB0.out.size; have HOS:=kq hown; have HNX : Hid (w5.heap.size < (w5.alloc (.cells #[.int .i64 0,.slice none 0 0,.slice none 0 0] 48)).heap.size):=(by show _ < _; simp); clear hown; clear hb6; obtain ⟨z0,f0⟩:=HNB6.out 0 _ rfl; obtain ⟨z1,f1⟩:=HNB6.out 1 _ rfl; obtain ⟨z2,f2⟩:=HNB6.out 2 _ rfl; replace HB0:=kq hb6')))
        all_goals go_wp2_with fail
        all_goals go_meet
        all_goals first
          | exact ⟨_,ab',cb',ai',ci',rfl,rfl,rfl,xat_set HOS.out HNX.out (by assumption) HNB6.out HB0.out⟩
          | exact ⟨_,ab',cb',ai',ci',rfl,rfl,rfl,xat_new HOC.out HXC.out HB0.out _⟩
      case rest =>
        obtain ⟨N9,ab',cb',ai',ci',rfl,rfl,rfl,HV⟩:=hcut
        obtain ⟨hn9,hv9,hb9,ho9⟩:=HV.out
        have HZC:=kq (HZ.out.below hb9)
        have HBC:=kq (HB.out.trans (hb9.mono HB.out.size))
        have HOW:=kq ho9
        obtain ⟨z0,f0⟩:=HZC.out 0 _ rfl
        obtain ⟨z1,f1⟩:=HZC.out 1 _ rfl
        obtain ⟨z2,f2⟩:=HZC.out 2 _ rfl
        obtain ⟨v0,-⟩:=hv9 0 _ rfl
        obtain ⟨v1,-⟩:=hv9 1 _ rfl
        obtain ⟨v2,-⟩:=hv9 2 _ rfl
        clear HV hn9 hv9 hb9 ho9 HSW HROOT HRV HZC HB0
        go_wp2
        (try simp only [Exit.inBlock,Exit.then])
        refine bodyPost_ret (v:=.tuple #[.agg #[.int .i64 0,.slice none 0 0,.slice none 0 0],.int .i64 (q' : Int),.int .i64 7]) ?_ rfl ?_
        · simp [results,Tryz.results43,go_sem,z0,z1,z2]
        · exact sgot_bad (c:=7) rfl (below3 HBC.out hNW _ _ _)
    · rw [if_neg hlt]
      have k1 : ¬ (q' : Int) < (L.length : Int):=by omega
      go_enter Tryz.func43,Tryz.ntmps43
      go_upto_region 1 with fail
      rw [← HW.out,HN.out]
      clear HW HN
      go_cut [7,8,9] from 11 to 18 (fun px nx cx W => ∃ (N9 : Nat) (ab' : Option Addr) (cb' : Nat) (ai' : Option Addr) (ci' : Nat),px = .pointer (some ⟨N9,0,none⟩) ∧ nx = .int .i64 (q' : Int) ∧ cx = .int .i64 0 ∧ Hid (XAt rs.length w0 v [.int .i64 v.number,.slice ab' v.bytes.length cb',.slice ai' v.items.length ci'] N9 W))
      case first =>
        go_region_held3 (fun W => W.cell? ⟨w.heap.size,0,none⟩ = some (.slice a rs.length cap)) (exact HSW.out _ (by first | exact HB0.out | exact HB0.out.alloc HB0.out.size _ | exact below3 HB0.out (by assumption) _ _ _)) (first
          | (go_at_call 78
             refine (HROOT.out _ (HB.out.trans (Below.mono (by first | exact HB0.out | exact HB0.out.alloc HB0.out.size _) HB.out.size))).mono ?_
             rintro e w5 ⟨rfl,hb5⟩
             first
               | (have hb5':=HB0.out.trans (hb5.mono HB0.out.size); clear hb5; replace HB0:=kq hb5')
               | (have hb5':=(HB0.out.alloc HB0.out.size _).trans (hb5.mono (HB0.out.alloc HB0.out.size _).size); have HNB : Hid (CellsAt w0.heap.size [.int .i64 0,.slice none 0 0,.slice none 0 0] w5):=(CellsAt.new w0.drew [.int .i64 0,.slice none 0 0,.slice none 0 0] 48).below hb5; have hnb:=Nat.le_refl w0.heap.size; clear hb5; replace HB0:=kq hb5'))
          | (go_at_call 77
             refine (HRV.out _ (HB.out.trans (Below.mono (by first | exact HB0.out | exact HB0.out.alloc HB0.out.size _) HB.out.size))).mono ?_
             rintro e w6 ⟨⟨cs',rfl,hown⟩,hb6⟩
             obtain ⟨ab',cb',ai',ci',rfl⟩:=hown.cells; first
               | (have HNB6:=kq (HNB.out.below hb6); have HOS:=kq hown; have HNX:=kq (cell_lt (HNB.out 0 _ rfl).1); clear hown; have hb6':=HB0.out.trans (hb6.mono HB0.out.size); clear hb6 HNB; obtain ⟨z0,f0⟩:=HNB6.out 0 _ rfl; obtain ⟨z1,f1⟩:=HNB6.out 1 _ rfl; obtain ⟨z2,f2⟩:=HNB6.out 2 _ rfl; replace HB0:=kq hb6')
               | (have hb6':=HB0.out.trans (hb6.mono HB0.out.size); have HOC:=kq hown; have HXC:=kq HB0.out.size; clear hown; clear hb6; replace HB0:=kq hb6')
               | (have hb6':=(HB0.out.alloc HB0.out.size _).trans (hb6.mono (HB0.out.alloc HB0.out.size _).size); have HNB6 : Hid (CellsAt w5.heap.size [.int .i64 0,.slice none 0 0,.slice none 0 0] w6):=(CellsAt.new w5 [.int .i64 0,.slice none 0 0,.slice none 0 0] 48).below hb6; have hnb:=HB0.out.size; have HOS:=kq hown; have HNX : Hid (w5.heap.size < (w5.alloc (.cells #[.int .i64 0,.slice none 0 0,.slice none 0 0] 48)).heap.size):=(by show _ < _; simp); clear hown; clear hb6; obtain ⟨z0,f0⟩:=HNB6.out 0 _ rfl; obtain ⟨z1,f1⟩:=HNB6.out 1 _ rfl; obtain ⟨z2,f2⟩:=HNB6.out 2 _ rfl; replace HB0:=kq hb6')))
        all_goals go_wp2_with fail
        all_goals go_meet
        all_goals first
          | exact ⟨_,ab',cb',ai',ci',rfl,rfl,rfl,xat_set HOS.out HNX.out (by assumption) HNB6.out HB0.out⟩
          | exact ⟨_,ab',cb',ai',ci',rfl,rfl,rfl,xat_new HOC.out HXC.out HB0.out _⟩
      case rest =>
        obtain ⟨N9,ab',cb',ai',ci',rfl,rfl,rfl,HV⟩:=hcut
        obtain ⟨hn9,hv9,hb9,ho9⟩:=HV.out
        have HZC:=kq (HZ.out.below hb9)
        have HBC:=kq (HB.out.trans (hb9.mono HB.out.size))
        have HOW:=kq ho9
        obtain ⟨z0,f0⟩:=HZC.out 0 _ rfl
        obtain ⟨z1,f1⟩:=HZC.out 1 _ rfl
        obtain ⟨z2,f2⟩:=HZC.out 2 _ rfl
        obtain ⟨v0,-⟩:=hv9 0 _ rfl
        obtain ⟨v1,-⟩:=hv9 1 _ rfl
        obtain ⟨v2,-⟩:=hv9 2 _ rfl
        clear HV hn9 hv9 hb9 ho9 HSW HROOT HRV HZC HB0
        go_wp2
        (try simp only [Exit.inBlock,Exit.then])
        refine bodyPost_ret (v:=.tuple #[.agg #[.int .i64 v.number,.slice ab' v.bytes.length cb',.slice ai' v.items.length ci'],.int .i64 (q' : Int),.int .i64 0]) ?_ rfl ?_
        · simp [results,Tryz.results43,go_sem,z0,z1,z2]
        · exact sret_ok (X:=w0.heap.size) (v:=v) (cs:=[.int .i64 v.number,.slice ab' v.bytes.length cb',.slice ai' v.items.length ci']) rfl HBC.out (HOW.out.mono fun b _ hb => hb.1) hN0 hNW _ _ _

end Go.Proofs.YtefkhknfjohnaaaGreatDoor
