/- The program's ReadValue, ReadFile and IsFileOf. The program's ReadFile, IsFileOf. -/
import Derived.Test.YtdccjobgfjoflaaGreatDoorPGY
set_option maxRecDepth 100000
set_option maxHeartbeats 8000000
namespace Go.Proofs.YtdccjobgfjoflaaGreatDoor
open Go Go.RowKit
def ResAt (h : Nat) (g : Got ValueV) (w : World) (e : Ending) (w' : World) : Prop :=
 (match g with
  | .ok v q => ∃ bl cs, e = .returned (.tuple #[.agg cs.toArray, .int .i64 (q : Int), .int .i64 0]) ∧ OwnT h bl v cs w' ∧ ∀ b ∈ bl, w.heap.size ≤ b
  | .bad q c => e = .returned (.tuple #[.agg #[.int .i64 0, .slice none 0 0, .slice none 0 0], .int .i64 (q : Int), .int .i64 (c : Int)])) ∧ Below w.heap.size w w'
theorem readvalue_impl (a ab : Option Addr) (rs : List RuleV) (cap cb : Nat) (k x : Int) (L : List UInt8) (w : World) (hl : rs.length ≤ 1048576) (hs : ∀ r ∈ rs, Short r) (hsp : ∀ r ∈ rs, Spelt r) (hrd : RdC a rs w) (hsrc : SrcB ab L cb w) (hLb : L.length ≤ 1099511627776) (hg : HandleAt w) :
  Calls Tryz.prog 20 #[.agg #[.slice a rs.length cap], .int .i64 k, .slice ab L.length cb, .int .i64 x] w (ResAt rs.length (readG rs k L x) w) := by
 obtain ⟨wb, hwb⟩ : ∃ wb, wb = (w.alloc (.cells #[.slice a rs.length cap] 26)).alloc (.cells #[.int .i64 0, .slice none 0 0, .slice none 0 0] 29) := ⟨_, rfl⟩
 have hB : Below w.heap.size w wb := by subst hwb; exact ((Below.refl _ _).alloc (Nat.le_refl _) _).alloc (by simp) _
 have hD : CellsAt w.heap.size [.slice a rs.length cap] wb := by subst hwb; exact (CellsAt.new w _ _).below ((Below.refl _ _).alloc (Nat.le_refl _) _)
 have hZ : CellsAt (w.heap.size + 1) [.int .i64 0, .slice none 0 0, .slice none 0 0] wb := by
  subst hwb
  have h1 := CellsAt.new (w.alloc (.cells #[.slice a rs.length cap] 26)) [.int .i64 0, .slice none 0 0, .slice none 0 0] 29
  rw [World.size_alloc] at h1
  exact h1
 have hbs : wb.heap.size = w.heap.size + 2 := by subst hwb; simp
 have hval := fun W hb => valat_impl a ab rs cap cb k x L W hl hs hsp (hrd.below hb) (hsrc.below hb) hLb
 have HVAL := kq hval
 have HB := kq hB
 have HZ := kq hZ
 have HG := kq hg
 have HBS := kq hbs
 have HW := kq hwb
 have bx := (hD 0 _ rfl).1
 obtain ⟨N, hN⟩ : ∃ N, N = w.heap.size + 1 := ⟨_, rfl⟩
 rw [← hN] at HZ
 have HN := kq hN.symm
 have HNW : Hid (w.heap.size ≤ N ∧ N < wb.heap.size) := by show _ ∧ _; omega
 clear hval hB hD hZ hbs hwb hrd hs hsp hsrc hg hN
 cases hgr : readG rs k L x with
 | bad q c =>
  rw [hgr] at HVAL
  clear hgr
  go_enter Tryz.func20, Tryz.ntmps20
  go_upto_region 1 with fail
  rw [← HW.out, HN.out]
  clear HW HN
  go_wp2_with fail
  refine (HVAL.out _ HB.out).mono ?_
  rintro e w2 ⟨⟨u0, u1, u2, u, rfl, -, -, -, -⟩, hb2⟩
  have HB2 := kq (HB.out.trans (hb2.mono HB.out.size))
  have HZ2 := kq (HZ.out.below hb2)
  clear hb2
  unfold RErr
  go_wp2_with fail
  refine (result_bad u0 u1 u2 u q c w2 (HG.out.below HB2.out)).mono ?_
  rintro e w3 ⟨rfl, hb3⟩
  have HB3 := kq (HB2.out.trans (hb3.mono HB2.out.size))
  have HZ3 := kq (HZ2.out.below hb3)
  clear hb3 bx
  obtain ⟨z0, t0⟩ := HZ3.out 0 _ rfl
  obtain ⟨z1, t1⟩ := HZ3.out 1 _ rfl
  obtain ⟨z2, t2⟩ := HZ3.out 2 _ rfl
  go_wp2
  (try simp only [Exit.inBlock, Exit.then])
  refine bodyPost_ret (v := .tuple #[.agg #[.int .i64 0, .slice none 0 0, .slice none 0 0], .int .i64 (q : Int), .int .i64 (c : Int)]) ?_ rfl ?_
  ·simp [results, Tryz.results20, go_sem, z0, z1, z2]
  ·exact ⟨rfl, below3V HB3.out HNW.out.1 _ _ _⟩
 | ok v q =>
  rw [hgr] at HVAL
  clear hgr
  go_enter Tryz.func20, Tryz.ntmps20
  go_upto_region 1 with fail
  rw [← HW.out, HN.out]
  clear HW HN
  go_wp2_with fail
  refine (HVAL.out _ HB.out).mono ?_
  rintro e w2 ⟨⟨bl, cs, rfl, ho, hbl⟩, hb2⟩
  obtain ⟨xb, xc, xi, xd, rfl⟩ := ho.cells
  have HB2 := kq (HB.out.trans (hb2.mono HB.out.size))
  have HZ2 := kq (HZ.out.below hb2)
  have HO := kq ho
  have HBL := kq hbl
  clear hb2 ho hbl
  go_wp2_with fail
  refine (result_ok v.number q xb xi v.bytes.length xc v.items.length xd w2).mono ?_
  rintro e w3 ⟨rfl, hb3⟩
  have HB3 := kq (HB2.out.trans (hb3.mono HB2.out.size))
  have HZ3 := kq (HZ2.out.below hb3)
  have HO3 := kq (HO.out.below hb3)
  clear hb3 bx
  obtain ⟨z0, t0⟩ := HZ3.out 0 _ rfl
  obtain ⟨z1, t1⟩ := HZ3.out 1 _ rfl
  obtain ⟨z2, t2⟩ := HZ3.out 2 _ rfl
  go_wp2
  (try simp only [Exit.inBlock, Exit.then])
  refine bodyPost_ret (v := .tuple #[.agg #[.int .i64 v.number, .slice xb v.bytes.length xc, .slice xi v.items.length xd], .int .i64 (q : Int), .int .i64 0]) ?_ rfl ?_
  ·simp [results, Tryz.results20, go_sem, z0, z1, z2]
  ·exact ⟨⟨bl, [.int .i64 v.number, .slice xb v.bytes.length xc, .slice xi v.items.length xd], rfl, own3 HO3.out (fun b hb => by have h1 := HBL.out b hb; have h2 := HNW.out.2; omega) _ _ _, fun b hb => by have h1 := HBL.out b hb; have h2 := HNW.out; omega⟩, below3V HB3.out HNW.out.1 _ _ _⟩
def TAt (n : Nat) (wr : World) (bl : List Nat) (v : ValueV) (cs : List Value) (N : Nat) (W : World) : Prop := VAt wr cs N W ∧ OwnT n bl v cs W ∧ ∀ b ∈ bl, wr.heap.size ≤ b
theorem tat_new {n X : Nat} {wr w6 : World} {bl : List Nat} {v : ValueV} {cs : List Value} (hown : OwnT n bl v cs w6) (hbl : ∀ b ∈ bl, X ≤ b) (hX : wr.heap.size ≤ X) (hb : Below wr.heap.size wr w6) (t : TypeId) : TAt n wr bl v cs w6.heap.size (w6.alloc (.cells cs.toArray t)) :=
 ⟨vat_new hb t, hown.below ((Below.refl _ _).alloc (Nat.le_refl _) _), fun b h => Nat.le_trans hX (hbl b h)⟩
theorem tat_set {n N X : Nat} {wr w6 : World} {bl : List Nat} {v : ValueV} {d0 d1 d2 c0 c1 c2 : Value} (hown : OwnT n bl v [c0, c1, c2] w6) (hbl : ∀ b ∈ bl, X ≤ b) (hN : N < X) (hNw : wr.heap.size ≤ N) (hz : CellsAt N [d0, d1, d2] w6) (hb : Below wr.heap.size wr w6) :
  TAt n wr bl v [c0, c1, c2] N (((w6.setCell ⟨N, 0, none⟩ c0).setCell ⟨N, 1, none⟩ c1).setCell ⟨N, 2, none⟩ c2) :=
 ⟨vat_set hNw hz hb, own3 hown (fun b h => by have := hbl b h; omega) _ _ _, fun b h => by have := hbl b h; omega⟩
theorem readfile_impl (a ab : Option Addr) (rs : List RuleV) (cap cb : Nat) (L : List UInt8) (w : World) (hl : rs.length ≤ 1048576) (hs : ∀ r ∈ rs, Short r) (hsp : ∀ r ∈ rs, Spelt r) (hrd : RdC a rs w) (hsrc : SrcB ab L cb w) (hLb : L.length ≤ 1099511627776) (hg : HandleAt w) :
    Calls Tryz.prog 19 #[.agg #[.slice a rs.length cap], .slice ab L.length cb] w (ResAt rs.length (fileG rs L) w) := by
  obtain ⟨w0, hw0⟩ : ∃ w0, w0 = (w.alloc (.cells #[.slice a rs.length cap] 26)).alloc (.cells #[.int .i64 0, .slice none 0 0, .slice none 0 0] 29) := ⟨_, rfl⟩
  have hB : Below w.heap.size w w0 := by subst hw0; exact ((Below.refl _ _).alloc (Nat.le_refl _) _).alloc (by simp) _
  have hD : CellsAt w.heap.size [.slice a rs.length cap] w0 := by subst hw0; exact (CellsAt.new w _ _).below ((Below.refl _ _).alloc (Nat.le_refl _) _)
  have hZ : CellsAt (w.heap.size + 1) [.int .i64 0, .slice none 0 0, .slice none 0 0] w0 := by
    subst hw0
    have h1 := CellsAt.new (w.alloc (.cells #[.slice a rs.length cap] 26)) [.int .i64 0, .slice none 0 0, .slice none 0 0] 29
    rw [World.size_alloc] at h1
    exact h1
  have hs0 : w0.heap.size = w.heap.size + 2 := by subst hw0; simp
  obtain ⟨N, hN⟩ : ∃ N, N = w.heap.size + 1 := ⟨_, rfl⟩
  rw [← hN] at hZ
  have hNW : w.heap.size ≤ N := by omega
  have hN0 : N < w0.heap.size := by omega
  have HB := kq hB
  have HD := kq hD
  have HZ := kq hZ
  have HN := kq hN.symm
  have HW := kq hw0
  have hx0 := (hD 0 _ rfl).1
  have HG := kq hg
  have HROOT : Hid (∀ W, Below w.heap.size w W → Calls Tryz.prog 58 #[.agg #[.slice a rs.length cap]] W fun e w' => e = .returned (.int .i64 ((rs.length : Int) - 1)) ∧ Below W.heap.size W w') := fun W hb => root_impl a rs cap W (by omega) (hrd.below hb).rd
  have HSW : Hid (∀ W, Below w0.heap.size w0 W → W.cell? ⟨w.heap.size, 0, none⟩ = some (.slice a rs.length cap)) := fun W hb => (HD.out.below hb 0 _ rfl).1
  have HB0 : Hid (Below w0.heap.size w0 w0.drew) := below_drewN (Below.refl _ _) 1
  have HRV : Hid (∀ W, Below w.heap.size w W → Calls Tryz.prog 57 #[.agg #[.slice a rs.length cap], .int .i64 ((rs.length : Int) - 1), .slice ab L.length cb, .int .i64 0] W (ErrAt rs.length (readG rs ((rs.length : Int) - 1) L 0) W)) := fun W hb => valat_impl a ab rs cap cb ((rs.length : Int) - 1) 0 L W hl hs hsp (hrd.below hb) (hsrc.below hb) hLb
  unfold fileG
  generalize readG rs ((rs.length : Int) - 1) L 0 = g at HRV ⊢
  clear hrd hsrc hs hsp hB hD hZ hN hw0 hs0 hx0 hg
  cases g with
  | bad q' c' =>
    go_enter Tryz.func19, Tryz.ntmps19
    go_upto_region 1 with fail
    rw [← HW.out, HN.out]
    clear HW HN
    go_cut [7, 8, 9] from 11 to 18 (fun px nx cx W => ∃ (N9 : Nat) (u0 u1 u2 u : Value), px = .pointer (some ⟨N9, 0, none⟩) ∧ nx = u ∧ cx = .iface 93 (.agg #[.int .i64 (q' : Int), .int .i64 (c' : Int)]) ∧ Hid (VAt w0 [u0, u1, u2] N9 W))
    case first =>
      go_region_held3 (fun W => W.cell? ⟨w.heap.size, 0, none⟩ = some (.slice a rs.length cap)) (exact HSW.out _ (by first | exact HB0.out | exact HB0.out.alloc HB0.out.size _ | exact below3V HB0.out (by assumption) _ _ _)) (first
        | (go_at_call 58
           refine (HROOT.out _ (HB.out.trans (Below.mono (by first | exact HB0.out | exact HB0.out.alloc HB0.out.size _) HB.out.size))).mono ?_
           rintro e w5 ⟨rfl, hb5⟩
           first
             | (have hb5' := HB0.out.trans (hb5.mono HB0.out.size); clear hb5; replace HB0 := kq hb5')
             | (have hb5' := (HB0.out.alloc HB0.out.size _).trans (hb5.mono (HB0.out.alloc HB0.out.size _).size); have HNB : Hid (CellsAt w0.heap.size [.int .i64 0, .slice none 0 0, .slice none 0 0] w5) := (CellsAt.new w0.drew [.int .i64 0, .slice none 0 0, .slice none 0 0] 29).below hb5; have hnb := Nat.le_refl w0.heap.size; clear hb5; replace HB0 := kq hb5'))
        | (go_at_call 57
           refine (HRV.out _ (HB.out.trans (Below.mono (by first | exact HB0.out | exact HB0.out.alloc HB0.out.size _) HB.out.size))).mono ?_
           rintro e w6 ⟨⟨u0, u1, u2, u, rfl, o0, o1, o2, o3⟩, hb6⟩
           unfold RErr; have s0 := fun N9 : Nat => store_one (P := Tryz.prog) (b := N9) (i := 0) o0; have s1 := fun N9 : Nat => store_one (P := Tryz.prog) (b := N9) (i := 1) o1; have s2 := fun N9 : Nat => store_one (P := Tryz.prog) (b := N9) (i := 2) o2; first
             | (have HNB6 := kq (HNB.out.below hb6); have hb6' := HB0.out.trans (hb6.mono HB0.out.size); clear hb6 HNB; obtain ⟨z0, f0⟩ := HNB6.out 0 _ rfl; obtain ⟨z1, f1⟩ := HNB6.out 1 _ rfl; obtain ⟨z2, f2⟩ := HNB6.out 2 _ rfl; replace HB0 := kq hb6')
             | (have hb6' := HB0.out.trans (hb6.mono HB0.out.size); clear hb6; replace HB0 := kq hb6')
             | (have hb6' := (HB0.out.alloc HB0.out.size _).trans (hb6.mono (HB0.out.alloc HB0.out.size _).size); have HNB6 : Hid (CellsAt w5.heap.size [.int .i64 0, .slice none 0 0, .slice none 0 0] w6) := (CellsAt.new w5 [.int .i64 0, .slice none 0 0, .slice none 0 0] 29).below hb6; have hnb := HB0.out.size; clear hb6; obtain ⟨z0, f0⟩ := HNB6.out 0 _ rfl; obtain ⟨z1, f1⟩ := HNB6.out 1 _ rfl; obtain ⟨z2, f2⟩ := HNB6.out 2 _ rfl; replace HB0 := kq hb6')))
      all_goals go_wp2_with fail
      all_goals go_meet
      all_goals first | exact ⟨_, u0, u1, u2, u, rfl, rfl, rfl, vat_set (by assumption) HNB6.out HB0.out⟩ | exact ⟨_, u0, u1, u2, u, rfl, rfl, rfl, vat_new HB0.out _⟩
    case rest =>
      obtain ⟨N9, u0, u1, u2, u, rfl, rfl, rfl, HV⟩ := hcut
      obtain ⟨hn9, hv9, hb9⟩ := HV.out
      have HZC := kq (HZ.out.below hb9)
      have HBC := kq (HB.out.trans (hb9.mono HB.out.size))
      obtain ⟨v0, -⟩ := hv9 0 _ rfl
      obtain ⟨v1, -⟩ := hv9 1 _ rfl
      obtain ⟨v2, -⟩ := hv9 2 _ rfl
      clear HV hn9 hv9 hb9 HSW HROOT HRV HB0
      go_wp2_with (go_at_call 59; refine (result_bad u0 u1 u2 _ (q' : Int) (c' : Int) _ (HG.out.below HBC.out)).mono ?_; rintro e w8 ⟨rfl, hb8⟩; replace HZC := kq (HZC.out.below hb8); replace HBC := kq (HBC.out.trans (hb8.mono HBC.out.size)); obtain ⟨z0, f0⟩ := HZC.out 0 _ rfl; obtain ⟨z1, f1⟩ := HZC.out 1 _ rfl; obtain ⟨z2, f2⟩ := HZC.out 2 _ rfl; clear hb8)
      try go_wp2
      (try simp only [Exit.inBlock, Exit.then])
      refine bodyPost_ret (v := .tuple #[.agg #[.int .i64 0, .slice none 0 0, .slice none 0 0], .int .i64 (q' : Int), .int .i64 (c' : Int)]) ?_ rfl ?_
      · simp [results, Tryz.results19, go_sem, z0, z1, z2]
      · exact ⟨rfl, below3V HBC.out hNW _ _ _⟩
  | ok v q' =>
    simp only
    by_cases hlt : q' < L.length
    · rw [if_pos hlt]
      have k1 : (q' : Int) < (L.length : Int) := by omega
      go_enter Tryz.func19, Tryz.ntmps19
      go_upto_region 1 with fail
      rw [← HW.out, HN.out]
      clear HW HN
      go_cut [7, 8, 9] from 11 to 18 (fun px nx cx W => ∃ (N9 : Nat) (bl : List Nat) (ab' : Option Addr) (cb' : Nat) (ai' : Option Addr) (ci' : Nat), px = .pointer (some ⟨N9, 0, none⟩) ∧ nx = .int .i64 (q' : Int) ∧ cx = .nilIface ∧ Hid (TAt rs.length w0 bl v [.int .i64 v.number, .slice ab' v.bytes.length cb', .slice ai' v.items.length ci'] N9 W))
      case first =>
        go_region_held3 (fun W => W.cell? ⟨w.heap.size, 0, none⟩ = some (.slice a rs.length cap)) (exact HSW.out _ (by first | exact HB0.out | exact HB0.out.alloc HB0.out.size _ | exact below3V HB0.out (by assumption) _ _ _)) (first
          | (go_at_call 58
             refine (HROOT.out _ (HB.out.trans (Below.mono (by first | exact HB0.out | exact HB0.out.alloc HB0.out.size _) HB.out.size))).mono ?_
             rintro e w5 ⟨rfl, hb5⟩
             first
               | (have hb5' := HB0.out.trans (hb5.mono HB0.out.size); clear hb5; replace HB0 := kq hb5')
               | (have hb5' := (HB0.out.alloc HB0.out.size _).trans (hb5.mono (HB0.out.alloc HB0.out.size _).size); have HNB : Hid (CellsAt w0.heap.size [.int .i64 0, .slice none 0 0, .slice none 0 0] w5) := (CellsAt.new w0.drew [.int .i64 0, .slice none 0 0, .slice none 0 0] 29).below hb5; have hnb := Nat.le_refl w0.heap.size; clear hb5; replace HB0 := kq hb5'))
          | (go_at_call 57
             refine (HRV.out _ (HB.out.trans (Below.mono (by first | exact HB0.out | exact HB0.out.alloc HB0.out.size _) HB.out.size))).mono ?_
             rintro e w6 ⟨⟨bl, cs', rfl, hown, hbl⟩, hb6⟩
             obtain ⟨ab', cb', ai', ci', rfl⟩ := hown.cells; first
               | (have HNB6 := kq (HNB.out.below hb6); have HOS := kq hown; have HBL := kq hbl; have HNX := kq (cell_lt (HNB.out 0 _ rfl).1); clear hown hbl; have hb6' := HB0.out.trans (hb6.mono HB0.out.size); clear hb6 HNB; obtain ⟨z0, f0⟩ := HNB6.out 0 _ rfl; obtain ⟨z1, f1⟩ := HNB6.out 1 _ rfl; obtain ⟨z2, f2⟩ := HNB6.out 2 _ rfl; replace HB0 := kq hb6')
               | (have hb6' := HB0.out.trans (hb6.mono HB0.out.size); have HOC := kq hown; have HBL := kq hbl; have HXC := kq HB0.out.size; clear hown hbl; clear hb6; replace HB0 := kq hb6')
               | (have hb6' := (HB0.out.alloc HB0.out.size _).trans (hb6.mono (HB0.out.alloc HB0.out.size _).size); have HNB6 : Hid (CellsAt w5.heap.size [.int .i64 0, .slice none 0 0, .slice none 0 0] w6) := (CellsAt.new w5 [.int .i64 0, .slice none 0 0, .slice none 0 0] 29).below hb6; have hnb := HB0.out.size; have HOS := kq hown; have HBL := kq hbl; have HNX : Hid (w5.heap.size < (w5.alloc (.cells #[.int .i64 0, .slice none 0 0, .slice none 0 0] 29)).heap.size) := (by show _ < _; simp); clear hown hbl; clear hb6; obtain ⟨z0, f0⟩ := HNB6.out 0 _ rfl; obtain ⟨z1, f1⟩ := HNB6.out 1 _ rfl; obtain ⟨z2, f2⟩ := HNB6.out 2 _ rfl; replace HB0 := kq hb6')))
        all_goals go_wp2_with fail
        all_goals go_meet
        all_goals first
          | exact ⟨_, bl, ab', cb', ai', ci', rfl, rfl, rfl, tat_set HOS.out HBL.out HNX.out (by assumption) HNB6.out HB0.out⟩
          | exact ⟨_, bl, ab', cb', ai', ci', rfl, rfl, rfl, tat_new HOC.out HBL.out HXC.out HB0.out _⟩
      case rest =>
        obtain ⟨N9, bl, ab', cb', ai', ci', rfl, rfl, rfl, HV⟩ := hcut
        obtain ⟨⟨hn9, hv9, hb9⟩, ho9, hl9⟩ := HV.out
        have HZC := kq (HZ.out.below hb9)
        have HBC := kq (HB.out.trans (hb9.mono HB.out.size))
        have HOW := kq ho9
        have HBL := kq hl9
        obtain ⟨v0, -⟩ := hv9 0 _ rfl
        obtain ⟨v1, -⟩ := hv9 1 _ rfl
        obtain ⟨v2, -⟩ := hv9 2 _ rfl
        clear HV hn9 hv9 hb9 ho9 hl9 HSW HROOT HRV HB0
        go_wp2_with (go_at_call 59; refine (result_bad _ _ _ _ (q' : Int) 7 _ (HG.out.below HBC.out)).mono ?_; rintro e w8 ⟨rfl, hb8⟩; replace HZC := kq (HZC.out.below hb8); replace HOW := kq (HOW.out.below hb8); replace HBC := kq (HBC.out.trans (hb8.mono HBC.out.size)); obtain ⟨z0, f0⟩ := HZC.out 0 _ rfl; obtain ⟨z1, f1⟩ := HZC.out 1 _ rfl; obtain ⟨z2, f2⟩ := HZC.out 2 _ rfl; clear hb8)
        try go_wp2
        (try simp only [Exit.inBlock, Exit.then])
        refine bodyPost_ret (v := .tuple #[.agg #[.int .i64 0, .slice none 0 0, .slice none 0 0], .int .i64 (q' : Int), .int .i64 7]) ?_ rfl ?_
        · simp [results, Tryz.results19, go_sem, z0, z1, z2]
        · exact ⟨rfl, below3V HBC.out hNW _ _ _⟩
    · rw [if_neg hlt]
      have k1 : ¬ (q' : Int) < (L.length : Int) := by omega
      go_enter Tryz.func19, Tryz.ntmps19
      go_upto_region 1 with fail
      rw [← HW.out, HN.out]
      clear HW HN
      go_cut [7, 8, 9] from 11 to 18 (fun px nx cx W => ∃ (N9 : Nat) (bl : List Nat) (ab' : Option Addr) (cb' : Nat) (ai' : Option Addr) (ci' : Nat), px = .pointer (some ⟨N9, 0, none⟩) ∧ nx = .int .i64 (q' : Int) ∧ cx = .nilIface ∧ Hid (TAt rs.length w0 bl v [.int .i64 v.number, .slice ab' v.bytes.length cb', .slice ai' v.items.length ci'] N9 W))
      case first =>
        go_region_held3 (fun W => W.cell? ⟨w.heap.size, 0, none⟩ = some (.slice a rs.length cap)) (exact HSW.out _ (by first | exact HB0.out | exact HB0.out.alloc HB0.out.size _ | exact below3V HB0.out (by assumption) _ _ _)) (first
          | (go_at_call 58
             refine (HROOT.out _ (HB.out.trans (Below.mono (by first | exact HB0.out | exact HB0.out.alloc HB0.out.size _) HB.out.size))).mono ?_
             rintro e w5 ⟨rfl, hb5⟩
             first
               | (have hb5' := HB0.out.trans (hb5.mono HB0.out.size); clear hb5; replace HB0 := kq hb5')
               | (have hb5' := (HB0.out.alloc HB0.out.size _).trans (hb5.mono (HB0.out.alloc HB0.out.size _).size); have HNB : Hid (CellsAt w0.heap.size [.int .i64 0, .slice none 0 0, .slice none 0 0] w5) := (CellsAt.new w0.drew [.int .i64 0, .slice none 0 0, .slice none 0 0] 29).below hb5; have hnb := Nat.le_refl w0.heap.size; clear hb5; replace HB0 := kq hb5'))
          | (go_at_call 57
             refine (HRV.out _ (HB.out.trans (Below.mono (by first | exact HB0.out | exact HB0.out.alloc HB0.out.size _) HB.out.size))).mono ?_
             rintro e w6 ⟨⟨bl, cs', rfl, hown, hbl⟩, hb6⟩
             obtain ⟨ab', cb', ai', ci', rfl⟩ := hown.cells; first
               | (have HNB6 := kq (HNB.out.below hb6); have HOS := kq hown; have HBL := kq hbl; have HNX := kq (cell_lt (HNB.out 0 _ rfl).1); clear hown hbl; have hb6' := HB0.out.trans (hb6.mono HB0.out.size); clear hb6 HNB; obtain ⟨z0, f0⟩ := HNB6.out 0 _ rfl; obtain ⟨z1, f1⟩ := HNB6.out 1 _ rfl; obtain ⟨z2, f2⟩ := HNB6.out 2 _ rfl; replace HB0 := kq hb6')
               | (have hb6' := HB0.out.trans (hb6.mono HB0.out.size); have HOC := kq hown; have HBL := kq hbl; have HXC := kq HB0.out.size; clear hown hbl; clear hb6; replace HB0 := kq hb6')
               | (have hb6' := (HB0.out.alloc HB0.out.size _).trans (hb6.mono (HB0.out.alloc HB0.out.size _).size); have HNB6 : Hid (CellsAt w5.heap.size [.int .i64 0, .slice none 0 0, .slice none 0 0] w6) := (CellsAt.new w5 [.int .i64 0, .slice none 0 0, .slice none 0 0] 29).below hb6; have hnb := HB0.out.size; have HOS := kq hown; have HBL := kq hbl; have HNX : Hid (w5.heap.size < (w5.alloc (.cells #[.int .i64 0, .slice none 0 0, .slice none 0 0] 29)).heap.size) := (by show _ < _; simp); clear hown hbl; clear hb6; obtain ⟨z0, f0⟩ := HNB6.out 0 _ rfl; obtain ⟨z1, f1⟩ := HNB6.out 1 _ rfl; obtain ⟨z2, f2⟩ := HNB6.out 2 _ rfl; replace HB0 := kq hb6')))
        all_goals go_wp2_with fail
        all_goals go_meet
        all_goals first
          | exact ⟨_, bl, ab', cb', ai', ci', rfl, rfl, rfl, tat_set HOS.out HBL.out HNX.out (by assumption) HNB6.out HB0.out⟩
          | exact ⟨_, bl, ab', cb', ai', ci', rfl, rfl, rfl, tat_new HOC.out HBL.out HXC.out HB0.out _⟩
      case rest =>
        obtain ⟨N9, bl, ab', cb', ai', ci', rfl, rfl, rfl, HV⟩ := hcut
        obtain ⟨⟨hn9, hv9, hb9⟩, ho9, hl9⟩ := HV.out
        have HZC := kq (HZ.out.below hb9)
        have HBC := kq (HB.out.trans (hb9.mono HB.out.size))
        have HOW := kq ho9
        have HBL := kq hl9
        obtain ⟨v0, -⟩ := hv9 0 _ rfl
        obtain ⟨v1, -⟩ := hv9 1 _ rfl
        obtain ⟨v2, -⟩ := hv9 2 _ rfl
        clear HV hn9 hv9 hb9 ho9 hl9 HSW HROOT HRV HB0
        go_wp2_with (go_at_call 59; refine (result_ok _ _ _ _ _ _ _ _ _).mono ?_; rintro e w8 ⟨rfl, hb8⟩; replace HZC := kq (HZC.out.below hb8); replace HOW := kq (HOW.out.below hb8); replace HBC := kq (HBC.out.trans (hb8.mono HBC.out.size)); obtain ⟨z0, f0⟩ := HZC.out 0 _ rfl; obtain ⟨z1, f1⟩ := HZC.out 1 _ rfl; obtain ⟨z2, f2⟩ := HZC.out 2 _ rfl; clear hb8)
        try go_wp2
        (try simp only [Exit.inBlock, Exit.then])
        refine bodyPost_ret (v := .tuple #[.agg #[.int .i64 v.number, .slice ab' v.bytes.length cb', .slice ai' v.items.length ci'], .int .i64 (q' : Int), .int .i64 0]) ?_ rfl ?_
        · simp [results, Tryz.results19, go_sem, z0, z1, z2]
        · exact ⟨⟨bl, [.int .i64 v.number, .slice ab' v.bytes.length cb', .slice ai' v.items.length ci'], rfl, own3 HOW.out (fun b hb => by have := HBL.out b hb; omega) _ _ _, fun b hb => by have := HBL.out b hb; omega⟩, below3V HBC.out hNW _ _ _⟩

theorem isfile_impl (a ab : Option Addr) (rs : List RuleV) (cap cb : Nat) (L : List UInt8) (w : World) (hl : rs.length ≤ 1048576) (hs : ∀ r ∈ rs, Short r) (hsp : ∀ r ∈ rs, Spelt r) (hrd : RdC a rs w) (hsrc : SrcB ab L cb w) (hLb : L.length ≤ 1099511627776) (hg : HandleAt w) :
  Calls Tryz.prog 21 #[.agg #[.slice a rs.length cap], .slice ab L.length cb] w fun e w' => e = .returned (.bool (fileB rs L)) ∧ Below w.heap.size w w' := by
 obtain ⟨w0, hw0⟩ : ∃ w0, w0 = w.alloc (.cells #[.slice a rs.length cap] 26) := ⟨_, rfl⟩
 have hB : Below w.heap.size w w0 := by subst hw0; exact (Below.refl _ _).alloc (Nat.le_refl _) _
 have hD : CellsAt w.heap.size [.slice a rs.length cap] w0 := by subst hw0; exact CellsAt.new w _ _
 have HRF := kq (readfile_impl a ab rs cap cb L w0 hl hs hsp (hrd.below hB) (hsrc.below hB) hLb (hg.below hB))
 have HB := kq hB
 have HW := kq hw0
 have x0 := (hD 0 _ rfl).1
 have hcode := fun q c => fileG_code (rs := rs) (L := L) (q := q) (c := c)
 unfold fileB
 generalize fileG rs L = g at HRF hcode ⊢
 clear hrd hsrc hs hsp hB hD hw0 hg
 cases g with
 | bad q' c' =>
  obtain ⟨hc1, hc2⟩ := hcode q' c' rfl
  clear hcode
  have hc0 : ((c' : Int) == 0) = false := by rw [beq_eq_false_iff_ne]; omega
  go_enter Tryz.func21, Tryz.ntmps21
  go_upto_region 1 with fail
  rw [← HW.out]
  clear HW
  go_wp2_with (go_at_call 19; refine HRF.out.mono ?_; rintro e w2 ⟨rfl, hb2⟩; have HB2 := kq (HB.out.trans (hb2.mono HB.out.size)); clear hb2)
  try go_wp2
  go_ret
  exact ⟨rfl, HB2.out.alloc HB2.out.size _⟩
 | ok v q' =>
  clear hcode
  go_enter Tryz.func21, Tryz.ntmps21
  go_upto_region 1 with fail
  rw [← HW.out]
  clear HW
  go_wp2_with (go_at_call 19; refine HRF.out.mono ?_; rintro e w2 ⟨⟨bl, cs', rfl, hown, _⟩, hb2⟩; obtain ⟨ab', cb', ai', ci', rfl⟩ := hown.cells; have HB2 := kq (HB.out.trans (hb2.mono HB.out.size)); clear hb2 hown)
  try go_wp2
  go_ret
  exact ⟨rfl, HB2.out.alloc HB2.out.size _⟩
end Go.Proofs.YtdccjobgfjoflaaGreatDoor
