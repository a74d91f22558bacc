/- It is proved that the law FnParsing returns true at every input of its parameter type and leaves its argument as it was (statement Rows.FnParsingCardSaid), under no condition beyond the card's own: the one listed variable, errors.errorType, reads as the library's text lays it. -/
import Derived.Test.YtdccjobgfjoflaaGreatDoorPDrawV
import Derived.Test.YtdccjobgfjoflaaGreatDoorPM8
import Derived.Test.YtdccjobgfjoflaaGreatDoorPM9
import Derived.Test.YtdccjobgfjoflaaGreatDoorPSEqV
import Derived.Test.YtdccjobgfjoflaaGreatDoorPGKG
import Derived.Test.YtdccjobgfjoflaaGreatDoorPGSz
import Derived.Test.YtdccjobgfjoflaaGreatDoorCards
import Derived.Test.YtdccjobgfjoflaaGreatDoorTie
import Derived.SevenTiedAt
import Derived.Deep.RegionHeld3
import Derived.Deep.CutRange
import Derived.IntWalk
set_option maxRecDepth 100000
namespace Go.Proofs.YtdccjobgfjoflaaGreatDoor
open Go Go.ChangeShapes Go.WideShapes Go.ChangeAt Go.RowKit
namespace fnParsing
theorem big_no (a : Option Addr) (n cap : Nat) (w : World) (h : n ≤ 1048576) : Calls Tryz.prog 10 #[.slice a n cap] w fun e w' => e = .returned (.bool false) ∧ w = w' := by
 have g : ¬ (1048576 : Int) < (n : Int) := by omega
 go_enter Tryz.func10, Tryz.ntmps10
 go_wp2
 go_ret
 exact ⟨rfl, rfl⟩
theorem big_yes (a : Option Addr) (n cap : Nat) (w : World) (h : 1048576 < n) (_hm : n ≤ 9223372036854775807) : Calls Tryz.prog 10 #[.slice a n cap] w fun e w' => e = .returned (.bool true) ∧ w = w' := by
 have g : (1048576 : Int) < (n : Int) := by omega
 go_enter Tryz.func10, Tryz.ntmps10
 go_wp2
 go_ret
 exact ⟨rfl, rfl⟩
theorem walk_long (a0 : Option Addr) (bs0 : List UInt8) (cap0 : Nat) (w : World) (h : 1048576 < bs0.length) (hm : bs0.length ≤ 9223372036854775807) :
  Calls Tryz.prog 4 #[.slice a0 bs0.length cap0] w fun e w' => e = .returned (.bool true) ∧ Below w.heap.size w w' := by
 go_enter Tryz.func4, Tryz.ntmps4
 go_wp2_with fail
 refine (big_yes a0 bs0.length cap0 w h hm).mono ?_
 rintro e w1 ⟨rfl, rfl⟩
 go_wp2
 go_ret
 exact ⟨rfl, Below.refl _ _⟩
theorem blk_at {W : World} {b : Obj} {j : Nat} (h : j = W.heap.size) : (W.alloc b).heap[j]? = some b := by subst h; exact heap_alloc_new W b
theorem blk_alloc {W : World} {b c : Obj} {j : Nat} (h : W.heap[j]? = some b) : (W.alloc c).heap[j]? = some b := by
 have hj : j < W.heap.size := by
  rcases Nat.lt_or_ge j W.heap.size with h1 | h1
  ·exact h1
  ·rw [Array.getElem?_eq_none h1] at h; cases h
 have h2 := ((Below.refl W.heap.size W).alloc (Nat.le_refl _) c).block j hj
 exact h2.trans h
theorem lit_own {base j : Nat} {bs : List UInt8} {W : World} (h : W.heap[j]? = some (.cells (bs.map bv).toArray 5)) (hb : base ≤ j) (hl : bs.length ≤ 1000) : OwnB base (.slice (some ⟨j, 0, none⟩) bs.length bs.length) bs W :=
 ⟨by simp, .inr ⟨j, bs.length, (bs.map bv).toArray, rfl, hb, h, Nat.le_refl _, by unfold maxLen; omega, by simp, by simp [List.take_of_length_le]⟩⟩
theorem lit_src {j : Nat} {bs : List UInt8} {W : World} (h : W.heap[j]? = some (.cells (bs.map bv).toArray 5)) (hl : bs.length ≤ 1000) : Src1 (some ⟨j, 0, none⟩) bs bs.length W := by
 obtain ⟨a, c, e, hr⟩ := (lit_own (base := 0) h (Nat.zero_le _) hl).row
 injection e with e1 e2 e3
 subst e1 e3
 exact hr.src
theorem lit_src0 {j : Nat} {W : World} (h : W.heap[j]? = some (.cells #[.int .u8 0] 5)) : Src1 (some ⟨j, 0, none⟩) [0] 1 W := lit_src (bs := [0]) h (by decide)
theorem lit_own0 {base j : Nat} {W : World} (h : W.heap[j]? = some (.cells #[] 5)) (hb : base ≤ j) : OwnB base (.slice (some ⟨j, 0, none⟩) 0 0) [] W := lit_own (bs := []) h hb (by decide)
theorem ownb_alloc {base : Nat} {v : Value} {bs : List UInt8} {W : World} {o : Obj} (h : OwnB base v bs W) : OwnB base v bs (W.alloc o) := own_below h ((Below.refl _ _).alloc (Nat.le_refl _) o)
theorem srcb_take {a : Option Addr} {bs : List UInt8} {cap : Nat} {w : World} (h : SrcB a bs cap w) (m : Nat) (hm : m ≤ bs.length) : SrcB a (bs.take m) cap w := by
 refine ⟨fun j hj => ?_, by rw [List.length_take]; have := h.2.1; omega, h.2.2⟩
 have hj' : j < bs.length := by rw [List.length_take] at hj; omega
 obtain ⟨b, off, e, hc⟩ := h.1 j hj'
 exact ⟨b, off, e, by rw [List.getElem_take]; exact hc⟩
theorem bel_drew {B : Nat} {w W : World} (h : Below B w W) : Below B w W.drew := below_drewN h 1
theorem blk_drew {W : World} {b : Obj} {j : Nat} (h : W.heap[j]? = some b) : W.drew.heap[j]? = some b := h
theorem blk_own {base N : Nat} {v : Value} {acc : List UInt8} {W W' : World} (ho : OwnB base v acc W) (hg : W.grownBy W' v.ownBlock) {cs : Array Value} {t : TypeId} (ht : t ≠ 5) (h : W.heap[N]? = some (.cells cs t)) : W'.heap[N]? = some (.cells cs t) := by
 have hN : N < W.heap.size := by
  rcases Nat.lt_or_ge N W.heap.size with h1 | h1
  ·exact h1
  ·rw [Array.getElem?_eq_none h1] at h; cases h
 refine (hg.block N hN fun e => ?_).trans h
 rcases ho.2 with ⟨h1, _⟩ | ⟨g, cap, cur, h1, h2, h3, _⟩
 ·subst h1; cases e
 ·subst h1
  injection e with e
  subst e
  have h4 : W.heap[N]? = some (.cells cur 5 (0, 0)) := h3
  rw [h] at h4
  injection h4 with h4
  injection h4 with h5 h6
  exact ht h6
theorem blk_grown {W W' : World} {row : Option Nat} {N : Nat} {b : Obj} (hg : W.grownBy W' row) (h : W.heap[N]? = some b) (hne : some N ≠ row) : W'.heap[N]? = some b := by
 have hN : N < W.heap.size := by
  rcases Nat.lt_or_ge N W.heap.size with h1 | h1
  ·exact h1
  ·rw [Array.getElem?_eq_none h1] at h; cases h
 exact (hg.block N hN hne).trans h
theorem cells_of_blk {W W' : World} {N : Nat} {cs : Array Value} {t : TypeId} (hb : Below W.heap.size W W') (h : W.heap[N]? = some (.cells cs t)) : CellsAt N cs.toList W' := by
 have hN : N < W.heap.size := by
  rcases Nat.lt_or_ge N W.heap.size with h1 | h1
  ·exact h1
  ·rw [Array.getElem?_eq_none h1] at h; cases h
 have h2 : W'.heap[N]? = some (.cells cs t (0, 0)) := (hb.block N hN).trans h
 intro i u hu
 refine ⟨?_, frozen_of_row W' N i cs t h2⟩
 rw [cell_of_row W' N i cs t (0, 0) h2]
 simpa using hu
theorem step_app2 {ops : Array Oper} {o : Oper} {A : Act} {w : World} {K : Act → World → Prop} {Q : Exit → Act → World → Prop} {E : Prop} (hgd : o.guard = none) (s x : Operand)
  (ho : o.op = .call { callee := .builtin .append, args := #[s, x], argTypes := #[22, 22] })
  (base : Nat) (v : Value) (acc cs : List UInt8) (a : Option Addr) (cap : Nat) (z : World) (hsv : A.eval s = v) (hxv : A.eval x = .slice a cs.length cap)
  (hown : OwnB base v acc w) (hs : Src1 a cs cap w) (hl : acc.length + cs.length ≤ 1099511627776) (hbel : Below base z w) (hbase : base ≤ w.heap.size)
  (h : ∀ v' w', OwnB base v' (acc ++ cs) w' → w.grownBy w' v.ownBlock → Below base z w' → (∀ (N : Nat) (cs : Array Value) (t : TypeId), t ≠ 5 → w.heap[N]? = some (Obj.cells cs t) → w'.heap[N]? = some (Obj.cells cs t)) → K (A.put o.dst v') w') :
  if Region.wanted o (yielded ops A.tmps) = true then Oper.wp Tryz.prog o A w K Q else E :=
 step_app hgd s x ho base v acc cs a cap hsv hxv hown hs hl hbase fun v' w' h1 h2 => h v' w' h1 h2 (app_frame hbel hbase hown h2) fun _ _ _ ht hN => blk_own hown h2 ht hN
set_option maxHeartbeats 16000000 in
theorem walk_short (a0 : Option Addr) (bs0 : List UInt8) (cap0 : Nat) (w : World) (h : bs0.length ≤ 1048576) (hs : Code a0 bs0.length w) (hg : HandleAt w) :
    Calls Tryz.prog 4 #[.slice a0 bs0.length cap0] w fun e w' => e = .returned (.bool true) ∧ Below w.heap.size w w' := by
  have HS := kq hs
  have HG := kq hg
  clear hs hg
  go_enter Tryz.func4, Tryz.ntmps4
  go_wp2_with fail
  refine (big_no a0 bs0.length cap0 w h).mono ?_
  rintro e w1 ⟨rfl, rfl⟩
  go_wp2_with fail
  refine (drawv a0 bs0.length cap0 w (by omega) HS.out).mono ?_
  rintro e w1 ⟨rs, x, cp, v, cs, rfl, hm, ⟨hn1, hn6⟩, hrow, hmv, hval, hb1⟩
  obtain ⟨ab, cb, ai, ci, rfl⟩ := hval.cells
  obtain ⟨z, hz⟩ : ∃ z, z = (w1.alloc (.cells #[.slice x rs.length cp] 26)).alloc (.cells #[.int .i64 v.number, .slice ab v.bytes.length cb, .slice ai v.items.length ci] 29) := ⟨_, rfl⟩
  have hbz : Below w1.heap.size w1 z := by subst hz; exact ((Below.refl _ _).alloc (Nat.le_refl _) _).alloc (by simp) _
  have HX : Hid (CellsAt w1.heap.size [.slice x rs.length cp] z) := by subst hz; exact (CellsAt.new w1 _ _).below ((Below.refl _ _).alloc (Nat.le_refl _) _)
  have HV3 : Hid (CellsAt (w1.heap.size + 1) [.int .i64 v.number, .slice ab v.bytes.length cb, .slice ai v.items.length ci] z) := by subst hz; have h1 := CellsAt.new (w1.alloc (.cells #[.slice x rs.length cp] 26)) [.int .i64 v.number, .slice ab v.bytes.length cb, .slice ai v.items.length ci] 29; rw [World.size_alloc] at h1; exact h1
  have HBZ := kq (hb1.trans (hbz.mono hb1.size))
  have HRC := kq (hrow.at.below hbz)
  have HV0 : Hid (IsVal (rs.length + 1) v _ _) := (hval.upE (by omega : rs.length ≤ rs.length + 1)).below hbz
  have hval2 := made_valid hm (by omega)
  have HSH := kq (made_short hm)
  have HSP := kq (made_spelt hm (by omega))
  obtain ⟨kk, hkk⟩ : ∃ kk : Nat, kk + 1 = rs.length := ⟨rs.length - 1, by omega⟩
  rw [show rs.length - 1 = kk from by omega] at hmv
  have hkr : kk < rs.length := by omega
  have hk1 : (rs.length : Int) - 1 = (kk : Int) := by omega
  have hwk : IntKind.i64.wrap (kk : Int) = (kk : Int) := IntWalk.i64_in _ (by omega)
  have hok : okAt rs (kk : Int) = true := by unfold okAt; rw [decide_eq_true (by omega), descrB_yes ⟨hn1, by omega⟩ hval2]; rfl
  have hvv := hmv.1
  have hEl := encV_length hval2 kk hkr v hvv
  have hE1 : 1 ≤ (encV rs (kk : Int) v).length := by have h4 := plen_low hval2 kk hkr v hvv; have h5 := low_pos hval2 kk hkr; omega
  have hsv : sizV v ≤ 1048576 ∨ 392 < (encV rs (kk : Int) v).length := by
    by_cases h392 : (encV rs (kk : Int) v).length ≤ 392
    · left
      have h9 := fileG_siz rs (encV rs (kk : Int) v)
      rw [pl_file hval2 hkk hok hvv h392] at h9
      exact h9
    · right; omega
  have HPF : Hid (∀ W, RdC x rs W → IsVal (rs.length + 1) v [.int .i64 v.number, .slice ab v.bytes.length cb, .slice ai v.items.length ci] W → Calls Tryz.prog 18 #[.agg #[.slice x rs.length cp], .agg #[.int .i64 v.number, .slice ab v.bytes.length cb, .slice ai v.items.length ci]] W (PvE (printB rs (kk : Int) v) (encV rs (kk : Int) v) W)) := fun W h1 h2 => by rw [← hk1]; exact printf_spec x rs cp (rs.length + 1) v _ W (by omega) HSH.out HSP.out h1 h2 (by rw [hk1]; exact made_short9 hmv (by omega))
  obtain ⟨E, hE⟩ : ∃ E, E = encV rs (kk : Int) v := ⟨_, rfl⟩
  have HRF : Hid (∀ (L : List UInt8) (vv : ValueV) (q c : Nat) (y : Option Addr) (cy : Nat) (W : World), gvOf (fileG rs L) = vv → gqOf (fileG rs L) = q → gcOf (fileG rs L) = c → L.length ≤ 1000 → RdC x rs W → SrcB y L cy W → HandleAt W → Calls Tryz.prog 19 #[.agg #[.slice x rs.length cp], .slice y L.length cy] W fun e w' => ∃ bl cs, e = .returned (.tuple #[.agg cs.toArray, .int .i64 (q : Int), .int .i64 (c : Int)]) ∧ OwnT (rs.length + 1) bl vv cs w' ∧ (∀ b ∈ bl, W.heap.size ≤ b) ∧ Below W.heap.size W w') := fun L vv q c y cy W e1 e2 e3 hL h1 h2 h3 => by subst e1 e2 e3; exact (readfile_impl x y rs cp cy L W (by omega) HSH.out HSP.out h1 h2 (by omega) h3).mono fun e w' h => ko_res h
  have HRV : Hid (∀ (L : List UInt8) (vv : ValueV) (q : Nat) (y : Option Addr) (cy : Nat) (W : World), readG rs (kk : Int) L 3 = .ok vv q → L.length ≤ 1000 → RdC x rs W → SrcB y L cy W → HandleAt W → Calls Tryz.prog 20 #[.agg #[.slice x rs.length cp], .int .i64 (kk : Int), .slice y L.length cy, .int .i64 3] W fun e w' => ∃ bl cs, e = .returned (.tuple #[.agg cs.toArray, .int .i64 (q : Int), .int .i64 0]) ∧ OwnT (rs.length + 1) bl vv cs w' ∧ (∀ b ∈ bl, W.heap.size ≤ b) ∧ Below W.heap.size W w') := fun L vv q y cy W e1 hL h1 h2 h3 => (readvalue_impl x y rs cp cy (kk : Int) 3 L W (by omega) HSH.out HSP.out h1 h2 (by omega) h3).mono fun e w' h => by rw [e1] at h; exact ko_res h
  have HIF : Hid (∀ (L : List UInt8) (y : Option Addr) (cy : Nat) (W : World), fileB rs L = true → L.length ≤ 1000 → RdC x rs W → SrcB y L cy W → HandleAt W → Calls Tryz.prog 21 #[.agg #[.slice x rs.length cp], .slice y L.length cy] W fun e w' => e = .returned (.bool true) ∧ Below W.heap.size W w') := fun L y cy W e1 hL h1 h2 h3 => by have h := isfile_impl x y rs cp cy L W (by omega) HSH.out HSP.out h1 h2 (by omega) h3; rw [e1] at h; exact h
  have HG1 : Hid (E.length ≤ 392 → fileG rs E = .ok v E.length) := fun h => by rw [hE] at h ⊢; exact pl_file hval2 hkk hok hvv h
  have HG2 : Hid (E.length ≤ 392 → readG rs (kk : Int) ([1, 2, 3] ++ E ++ [9, 9]) 3 = .ok v (3 + E.length)) := fun h => by rw [hE] at h ⊢; exact pl_more hval2 hkk hok hvv h
  have HG3 : Hid (E.length ≤ 392 → fileG rs (E ++ [0]) = .bad E.length 7) := fun h => by rw [hE] at h ⊢; exact pl_trail hval2 hkk hok hvv h
  have HG4 : Hid (E.length ≤ 392 → ∃ q c, fileG rs (E.take (E.length - 1)) = .bad q c ∧ 1 ≤ c) := fun h => by rw [hE] at h ⊢; exact pl_short hval2 hkk hok hvv h (by rw [hE] at *; exact hE1)
  rw [← hE] at hE1 hsv HPF
  obtain ⟨pb, hpb⟩ : ∃ b, b = printB rs (kk : Int) v := ⟨_, rfl⟩
  rw [← hpb] at HPF
  have HSV := kq hsv
  have HE1 := kq hE1
  obtain ⟨bd, hbd⟩ : ∃ D, D = w1.heap.size := ⟨_, rfl⟩
  rw [← hbd] at HX HV3
  have HDD := kq hbd
  have hW := kq hz
  clear hz hbz hb1 hrow hm HS hbd hval hval2 hmv hok hvv hEl hE hkk hpb hsv hE1 hn1 hn6 hkr
  go_upto_region 4 with fail
  rw [← hW.out, ← HDD.out]
  clear hW HDD
  have bx := (HX.out 0 _ rfl).1
  have v0 := (HV3.out 0 _ rfl).1
  have v1 := (HV3.out 1 _ rfl).1
  have v2 := (HV3.out 2 _ rfl).1
  go_wp2_with fail
  refine (HPF.out _ HRC.out HV0.out).mono ?_
  rintro e y1 ⟨az, bs, cz, rfl, hbs, hrw, hb⟩
  have HRW := kq hrw
  have HBS := kq hbs
  clear bx v0 v1 v2 hrw hbs HPF hk1
  replace HX := kq (HX.out.below hb)
  replace HRC := kq (HRC.out.below hb)
  replace HV0 : Hid (IsVal (rs.length + 1) v _ _) := HV0.out.below hb
  replace HV3 := kq (HV3.out.below hb)
  replace HBZ := kq (HBZ.out.trans (hb.mono HBZ.out.size))
  clear hb
  cases pb with
  | false =>
    go_wp2
    go_ret
    exact ⟨rfl, HBZ.out⟩
  | true =>
  obtain rfl : bs = E := HBS.out
  clear HBS
  by_cases h392 : 392 < bs.length
  · have g1 : (bs.length : Int) > 392 := by omega
    go_wp2
    go_ret
    exact ⟨rfl, HBZ.out⟩
  have g1 : ¬ (bs.length : Int) > 392 := by omega
  have hl392 : bs.length ≤ 392 := by omega
  have HSZ : Hid (sizV v ≤ 1048576) := by
    rcases HSV.out with h | h
    · exact h
    · omega
  have HEQ : Hid (∀ cs cu W, IsVal (rs.length + 1) v cs W → IsVal (rs.length + 1) v cu W → Calls Tryz.prog 17 #[.agg cs.toArray, .agg cu.toArray] W fun e w' => e = .returned (.bool true) ∧ Below W.heap.size W w') := fun cs cu W h1 h2 => (seq_value _ _ v v _ _ W h1 h2 HSZ.out HSZ.out).mono fun e w' h => by
    obtain ⟨⟨r, he, hr⟩, hb⟩ := h
    exact ⟨by rw [he, hr.2 rfl], hb⟩
  have bx := (HX.out 0 _ rfl).1
  go_wp2_with fail
  refine (HRF.out bs v bs.length 0 az cz _ (by rw [HG1.out hl392]; rfl) (by rw [HG1.out hl392]; rfl) (by rw [HG1.out hl392]; rfl) (by omega) HRC.out HRW.out.srcB (HG.out.below HBZ.out)).mono ?_
  rintro e y2 ⟨bl, cs1, rfl, ho, -, hb⟩
  obtain ⟨a1, c1, a2, c2, rfl⟩ := ho.cells
  have HV1 : Hid (IsVal (rs.length + 1) v _ _) := ho.is
  clear ho bx
  replace HX := kq (HX.out.below hb)
  replace HRC := kq (HRC.out.below hb)
  replace HV0 : Hid (IsVal (rs.length + 1) v _ _) := HV0.out.below hb
  replace HV3 := kq (HV3.out.below hb)
  replace HRW := kq (HRW.out.below hb)
  replace HBZ := kq (HBZ.out.trans (hb.mono HBZ.out.size))
  clear hb
  obtain ⟨z1, hz1⟩ : ∃ z, z = y2.alloc (.cells #[.int .i64 v.number, .slice a1 v.bytes.length c1, .slice a2 v.items.length c2] 29) := ⟨_, rfl⟩
  have hb : Below y2.heap.size y2 z1 := by subst hz1; exact (Below.refl _ _).alloc (Nat.le_refl _) _
  have hCz1 : CellsAt y2.heap.size [.int .i64 v.number, .slice a1 v.bytes.length c1, .slice a2 v.items.length c2] z1 := by subst hz1; exact CellsAt.new y2 _ _
  have Cz1 := kq hCz1
  obtain ⟨Dz1, hDz1⟩ : ∃ D, D = y2.heap.size := ⟨_, rfl⟩
  rw [← hDz1] at Cz1
  have EDz1 := kq hDz1
  have EWz1 := kq hz1
  clear hCz1 hz1 hDz1
  replace HX := kq (HX.out.below hb)
  replace HRC := kq (HRC.out.below hb)
  replace HV0 : Hid (IsVal (rs.length + 1) v _ _) := HV0.out.below hb
  replace HV3 := kq (HV3.out.below hb)
  replace HRW := kq (HRW.out.below hb)
  replace HV1 : Hid (IsVal (rs.length + 1) v _ _) := HV1.out.below hb
  replace HBZ := kq (HBZ.out.trans (hb.mono HBZ.out.size))
  clear hb
  go_upto_region 9 with fail
  rw [← EWz1.out, ← EDz1.out]
  clear EWz1 EDz1
  have HL3 := kq (lit_own (base := z1.heap.size) (bs := [1, 2, 3]) (j := z1.heap.size) (W := z1.alloc (.cells #[.int .u8 1, .int .u8 2, .int .u8 3] 5)) (blk_at rfl) (Nat.le_refl _) (by decide))
  have HB3 : Hid (Below z1.heap.size z1 (z1.alloc (.cells #[.int .u8 1, .int .u8 2, .int .u8 3] 5))) := (Below.refl _ _).alloc (Nat.le_refl _) _
  go_wp2_with (at_builtin; refine wp_app rfl _ _ rfl z1.heap.size (.slice (some ⟨z1.heap.size, 0, none⟩) 3 3) [1, 2, 3] bs az cz _ rfl rfl HL3.out (HRW.out.below HB3.out).src (by simp; omega) HB3.out.size ?_)
  intro u1 y3 ho1 hg1
  obtain ⟨M1, hM1⟩ : ∃ M1, M1 = 1 :: 2 :: 3 :: bs := ⟨_, rfl⟩
  rw [← hM1] at ho1
  have hl1 : M1.length ≤ 395 := by rw [hM1]; simp; omega
  have HB4 := kq (app_frame HB3.out HB3.out.size HL3.out hg1)
  obtain ⟨a9, c9, rfl, -⟩ := ho1.row
  have HO1 := kq ho1
  have HM1 := kq hM1
  clear ho1 hg1 HL3 HB3 hM1
  have HB5 : Hid (Below z1.heap.size z1 (y3.alloc (.cells #[.int .u8 9, .int .u8 9] 5))) := HB4.out.alloc HB4.out.size _
  have HO2 : Hid (OwnB z1.heap.size (.slice a9 M1.length c9) M1 (y3.alloc (.cells #[.int .u8 9, .int .u8 9] 5))) := own_below HO1.out ((Below.refl y3.heap.size y3).alloc (Nat.le_refl _) (.cells #[.int .u8 9, .int .u8 9] 5))
  go_wp2_with (at_builtin; refine wp_app rfl _ _ rfl z1.heap.size (.slice a9 M1.length c9) M1 [9, 9] (some ⟨y3.heap.size, 0, none⟩) 2 _ rfl rfl HO2.out (lit_src (bs := [9, 9]) (blk_at rfl) (by decide)) (by simp; omega) HB5.out.size ?_)
  intro u2 y4 ho2 hg2
  have hb := app_frame HB5.out HB5.out.size HO2.out hg2
  obtain ⟨M, hM⟩ : ∃ M, M = M1 ++ [9, 9] := ⟨_, rfl⟩
  rw [← hM] at ho2
  obtain ⟨am, cm, rfl, hrm⟩ := ho2.row
  have HRM := kq hrm
  have hML : M.length ≤ 1000 := by rw [hM]; simp; omega
  rw [show ([1, 2, 3] ++ bs ++ [9, 9] : List UInt8) = M from by rw [hM, HM1.out]; rfl] at HG2
  clear ho2 hg2 hrm HO1 HO2 HB4 HB5 HM1 hM hl1
  replace HX := kq (HX.out.below hb)
  replace HRC := kq (HRC.out.below hb)
  replace HV0 : Hid (IsVal (rs.length + 1) v _ _) := HV0.out.below hb
  replace HV3 := kq (HV3.out.below hb)
  replace HRW := kq (HRW.out.below hb)
  replace HV1 : Hid (IsVal (rs.length + 1) v _ _) := HV1.out.below hb
  replace Cz1 := kq (Cz1.out.below hb)
  replace HBZ := kq (HBZ.out.trans (hb.mono HBZ.out.size))
  clear hb
  have bx := (HX.out 0 _ rfl).1
  go_wp2_with fail
  refine (HRV.out M v (3 + bs.length) am cm _ (HG2.out hl392) hML HRC.out HRM.out.srcB (HG.out.below HBZ.out)).mono ?_
  rintro e y5 ⟨bl, cs2, rfl, ho, -, hb⟩
  obtain ⟨a3, c3, a4, c4, rfl⟩ := ho.cells
  have HV2 : Hid (IsVal (rs.length + 1) v _ _) := ho.is
  clear ho bx HRV HG2
  clear HRM
  replace HX := kq (HX.out.below hb)
  replace HRC := kq (HRC.out.below hb)
  replace HV0 : Hid (IsVal (rs.length + 1) v _ _) := HV0.out.below hb
  replace HV3 := kq (HV3.out.below hb)
  replace HRW := kq (HRW.out.below hb)
  replace HV1 : Hid (IsVal (rs.length + 1) v _ _) := HV1.out.below hb
  replace Cz1 := kq (Cz1.out.below hb)
  replace HBZ := kq (HBZ.out.trans (hb.mono HBZ.out.size))
  clear hb
  obtain ⟨z2, hz2⟩ : ∃ z, z = y5.alloc (.cells #[.int .i64 v.number, .slice a3 v.bytes.length c3, .slice a4 v.items.length c4] 29) := ⟨_, rfl⟩
  have hb : Below y5.heap.size y5 z2 := by subst hz2; exact (Below.refl _ _).alloc (Nat.le_refl _) _
  have hCz2 : CellsAt y5.heap.size [.int .i64 v.number, .slice a3 v.bytes.length c3, .slice a4 v.items.length c4] z2 := by subst hz2; exact CellsAt.new y5 _ _
  have Cz2 := kq hCz2
  obtain ⟨Dz2, hDz2⟩ : ∃ D, D = y5.heap.size := ⟨_, rfl⟩
  rw [← hDz2] at Cz2
  have EDz2 := kq hDz2
  have EWz2 := kq hz2
  clear hCz2 hz2 hDz2
  replace HX := kq (HX.out.below hb)
  replace HRC := kq (HRC.out.below hb)
  replace HV0 : Hid (IsVal (rs.length + 1) v _ _) := HV0.out.below hb
  replace HV3 := kq (HV3.out.below hb)
  replace HRW := kq (HRW.out.below hb)
  replace HV1 : Hid (IsVal (rs.length + 1) v _ _) := HV1.out.below hb
  replace Cz1 := kq (Cz1.out.below hb)
  replace HV2 : Hid (IsVal (rs.length + 1) v _ _) := HV2.out.below hb
  replace HBZ := kq (HBZ.out.trans (hb.mono HBZ.out.size))
  clear hb
  go_upto_region 11 with fail
  rw [← EWz2.out, ← EDz2.out]
  clear EWz2 EDz2
  have HSW : Hid (∀ W, Below z2.heap.size z2 W → W.cell? ⟨bd, 0, none⟩ = some (.slice x rs.length cp)) := fun W hb => (HX.out.below hb 0 _ rfl).1
  have HB0 : Hid (Below z2.heap.size z2 z2) := Below.refl _ _
  go_cut [15, 16, 17] from 65 to 76 (fun px nx cx W => ∃ N9 : Nat, px = .pointer (some ⟨N9, 0, none⟩) ∧ nx = .int .i64 (bs.length : Int) ∧ cx = .int .i64 7 ∧ Hid (Below z2.heap.size z2 W))
  case first =>
    go_region_held3 (fun W => W.cell? ⟨bd, 0, none⟩ = some (.slice x rs.length cp)) (exact HSW.out _ (by first | with_reducible exact HB9.out | with_reducible exact (HB9.out.alloc HB9.out.size _) | with_reducible exact (below3V HB9.out hnb _ _ _) | with_reducible exact HBW.out | with_reducible exact ((HBW.out).alloc (HBW.out).size _) | with_reducible exact ((((HBW.out).alloc (HBW.out).size _)).alloc (((HBW.out).alloc (HBW.out).size _)).size _) | with_reducible exact ((((((HBW.out).alloc (HBW.out).size _)).alloc (((HBW.out).alloc (HBW.out).size _)).size _)).alloc (((((HBW.out).alloc (HBW.out).size _)).alloc (((HBW.out).alloc (HBW.out).size _)).size _)).size _) | with_reducible exact bel_drew HB0.out | with_reducible exact bel_drew ((HB0.out).alloc (HB0.out).size _) | with_reducible exact bel_drew ((((HB0.out).alloc (HB0.out).size _)).alloc (((HB0.out).alloc (HB0.out).size _)).size _) | with_reducible exact bel_drew ((((((HB0.out).alloc (HB0.out).size _)).alloc (((HB0.out).alloc (HB0.out).size _)).size _)).alloc (((((HB0.out).alloc (HB0.out).size _)).alloc (((HB0.out).alloc (HB0.out).size _)).size _)).size _))) (first
        | (go_at_call 19
           refine (HRF.out L5 (.mk 0 [] []) bs.length 7 a5 c5 _ (by rw [HL5.out, HG3.out hl392]; rfl) (by rw [HL5.out, HG3.out hl392]; rfl) (by rw [HL5.out, HG3.out hl392]; rfl) (by omega) (HRC.out.below (Below.mono (by first | with_reducible exact HBW.out | with_reducible exact HBW.out.alloc HBW.out.size _) (Nat.le_refl _))) (HR5.out.below (Below.mono (by first | with_reducible exact Below.refl _ _ | with_reducible exact (Below.refl _ _).alloc (Nat.le_refl _) _) (Nat.le_refl _))).srcB (HG.out.below (HBZ.out.trans (Below.mono (by first | with_reducible exact HBW.out | with_reducible exact HBW.out.alloc HBW.out.size _) HBZ.out.size)))).mono ?_
           rintro e w9 ⟨bl9, cs9, rfl, ho9, -, hb9⟩
           obtain ⟨a6, c6, a7, c7, rfl⟩ := ho9.cells
           have HB9 : Hid (Below z2.heap.size z2 w9) := by first | exact HBW.out.trans (hb9.mono HBW.out.size) | exact (HBW.out.alloc HBW.out.size _).trans (hb9.mono (HBW.out.alloc HBW.out.size _).size)
           first
             | (have hcc := cells_of_blk hb9 (N := w7.heap.size) (cs := #[.int .i64 0, .slice none 0 0, .slice none 0 0]) (t := 29) (blk_at rfl); have hnb : z2.heap.size ≤ w7.heap.size := (by omega); obtain ⟨z0, f0⟩ := hcc 0 _ rfl; obtain ⟨z1, f1⟩ := hcc 1 _ rfl; obtain ⟨z2', f2⟩ := hcc 2 _ rfl; clear hcc)
             | (have hcc := cells_of_blk hb9 (N := w5.heap.size) (cs := #[.int .i64 0, .slice none 0 0, .slice none 0 0]) (t := 29) (HF7.out _ _ _ (by decide) (blk_at rfl)); have hnb : z2.heap.size ≤ w5.heap.size := (by omega); obtain ⟨z0, f0⟩ := hcc 0 _ rfl; obtain ⟨z1, f1⟩ := hcc 1 _ rfl; obtain ⟨z2', f2⟩ := hcc 2 _ rfl; clear hcc)
             | (have hcc := cells_of_blk hb9 (N := w5.heap.size) (cs := #[.int .i64 0, .slice none 0 0, .slice none 0 0]) (t := 29) (HF7.out _ _ _ (by decide) (blk_alloc (blk_at rfl))); have hnb : z2.heap.size ≤ w5.heap.size := (by omega); obtain ⟨z0, f0⟩ := hcc 0 _ rfl; obtain ⟨z1, f1⟩ := hcc 1 _ rfl; obtain ⟨z2', f2⟩ := hcc 2 _ rfl; clear hcc)
             | (have hcc := cells_of_blk hb9 (N := w5.heap.size + 1) (cs := #[.int .i64 0, .slice none 0 0, .slice none 0 0]) (t := 29) (HF7.out _ _ _ (by decide) (blk_at (World.size_alloc _ _).symm)); have hnb : z2.heap.size ≤ w5.heap.size + 1 := (by omega); obtain ⟨z0, f0⟩ := hcc 0 _ rfl; obtain ⟨z1, f1⟩ := hcc 1 _ rfl; obtain ⟨z2', f2⟩ := hcc 2 _ rfl; clear hcc)
             | (have hcc := cells_of_blk hb9 (N := z2.heap.size) (cs := #[.int .i64 0, .slice none 0 0, .slice none 0 0]) (t := 29) (HF7.out _ _ _ (by decide) (HF5.out _ _ _ (by decide) (blk_drew (blk_alloc (blk_at rfl))))); have hnb : z2.heap.size ≤ z2.heap.size := (by omega); obtain ⟨z0, f0⟩ := hcc 0 _ rfl; obtain ⟨z1, f1⟩ := hcc 1 _ rfl; obtain ⟨z2', f2⟩ := hcc 2 _ rfl; clear hcc)
             | (have hcc := cells_of_blk hb9 (N := z2.heap.size) (cs := #[.int .i64 0, .slice none 0 0, .slice none 0 0]) (t := 29) (HF7.out _ _ _ (by decide) (HF5.out _ _ _ (by decide) (blk_drew (blk_alloc (blk_alloc (blk_at rfl)))))); have hnb : z2.heap.size ≤ z2.heap.size := (by omega); obtain ⟨z0, f0⟩ := hcc 0 _ rfl; obtain ⟨z1, f1⟩ := hcc 1 _ rfl; obtain ⟨z2', f2⟩ := hcc 2 _ rfl; clear hcc)
             | (have hcc := cells_of_blk hb9 (N := z2.heap.size + 1) (cs := #[.int .i64 0, .slice none 0 0, .slice none 0 0]) (t := 29) (HF7.out _ _ _ (by decide) (HF5.out _ _ _ (by decide) (blk_drew (blk_at (World.size_alloc _ _).symm)))); have hnb : z2.heap.size ≤ z2.heap.size + 1 := (by omega); obtain ⟨z0, f0⟩ := hcc 0 _ rfl; obtain ⟨z1, f1⟩ := hcc 1 _ rfl; obtain ⟨z2', f2⟩ := hcc 2 _ rfl; clear hcc)
             | (have hcc := cells_of_blk hb9 (N := z2.heap.size + 1) (cs := #[.int .i64 0, .slice none 0 0, .slice none 0 0]) (t := 29) (HF7.out _ _ _ (by decide) (HF5.out _ _ _ (by decide) (blk_drew (blk_alloc (blk_at (World.size_alloc _ _).symm))))); have hnb : z2.heap.size ≤ z2.heap.size + 1 := (by omega); obtain ⟨z0, f0⟩ := hcc 0 _ rfl; obtain ⟨z1, f1⟩ := hcc 1 _ rfl; obtain ⟨z2', f2⟩ := hcc 2 _ rfl; clear hcc)
             | (have hcc := cells_of_blk hb9 (N := z2.heap.size + 2) (cs := #[.int .i64 0, .slice none 0 0, .slice none 0 0]) (t := 29) (HF7.out _ _ _ (by decide) (HF5.out _ _ _ (by decide) (blk_drew (blk_at ((World.size_alloc _ _).trans (congrArg (fun n => n + 1) (World.size_alloc _ _))).symm)))); have hnb : z2.heap.size ≤ z2.heap.size + 2 := (by omega); obtain ⟨z0, f0⟩ := hcc 0 _ rfl; obtain ⟨z1, f1⟩ := hcc 1 _ rfl; obtain ⟨z2', f2⟩ := hcc 2 _ rfl; clear hcc)
             | (have hcc := cells_of_blk hb9 (N := z2.heap.size) (cs := #[.int .i64 0, .slice none 0 0, .slice none 0 0]) (t := 29) (HF7.out _ _ _ (by decide) (blk_alloc (HF5.out _ _ _ (by decide) (blk_drew (blk_alloc (blk_at rfl)))))); have hnb : z2.heap.size ≤ z2.heap.size := (by omega); obtain ⟨z0, f0⟩ := hcc 0 _ rfl; obtain ⟨z1, f1⟩ := hcc 1 _ rfl; obtain ⟨z2', f2⟩ := hcc 2 _ rfl; clear hcc)
             | (have hcc := cells_of_blk hb9 (N := z2.heap.size) (cs := #[.int .i64 0, .slice none 0 0, .slice none 0 0]) (t := 29) (HF7.out _ _ _ (by decide) (blk_alloc (HF5.out _ _ _ (by decide) (blk_drew (blk_alloc (blk_alloc (blk_at rfl))))))); have hnb : z2.heap.size ≤ z2.heap.size := (by omega); obtain ⟨z0, f0⟩ := hcc 0 _ rfl; obtain ⟨z1, f1⟩ := hcc 1 _ rfl; obtain ⟨z2', f2⟩ := hcc 2 _ rfl; clear hcc)
             | (have hcc := cells_of_blk hb9 (N := z2.heap.size + 1) (cs := #[.int .i64 0, .slice none 0 0, .slice none 0 0]) (t := 29) (HF7.out _ _ _ (by decide) (blk_alloc (HF5.out _ _ _ (by decide) (blk_drew (blk_at (World.size_alloc _ _).symm))))); have hnb : z2.heap.size ≤ z2.heap.size + 1 := (by omega); obtain ⟨z0, f0⟩ := hcc 0 _ rfl; obtain ⟨z1, f1⟩ := hcc 1 _ rfl; obtain ⟨z2', f2⟩ := hcc 2 _ rfl; clear hcc)
             | (have hcc := cells_of_blk hb9 (N := z2.heap.size + 1) (cs := #[.int .i64 0, .slice none 0 0, .slice none 0 0]) (t := 29) (HF7.out _ _ _ (by decide) (blk_alloc (HF5.out _ _ _ (by decide) (blk_drew (blk_alloc (blk_at (World.size_alloc _ _).symm)))))); have hnb : z2.heap.size ≤ z2.heap.size + 1 := (by omega); obtain ⟨z0, f0⟩ := hcc 0 _ rfl; obtain ⟨z1, f1⟩ := hcc 1 _ rfl; obtain ⟨z2', f2⟩ := hcc 2 _ rfl; clear hcc)
             | (have hcc := cells_of_blk hb9 (N := z2.heap.size + 2) (cs := #[.int .i64 0, .slice none 0 0, .slice none 0 0]) (t := 29) (HF7.out _ _ _ (by decide) (blk_alloc (HF5.out _ _ _ (by decide) (blk_drew (blk_at ((World.size_alloc _ _).trans (congrArg (fun n => n + 1) (World.size_alloc _ _))).symm))))); have hnb : z2.heap.size ≤ z2.heap.size + 2 := (by omega); obtain ⟨z0, f0⟩ := hcc 0 _ rfl; obtain ⟨z1, f1⟩ := hcc 1 _ rfl; obtain ⟨z2', f2⟩ := hcc 2 _ rfl; clear hcc)
             | skip
           clear hb9 ho9)
        | (refine step_app2 rfl (.tmp 69) (.tmp 70) rfl z2.heap.size (.slice a8 bs.length c8) bs [0] (some ⟨w5.heap.size, 0, none⟩) 1 z2 rfl rfl (ownb_alloc HO5.out) (lit_src0 (blk_at rfl)) (by simp; omega) ((HBW.out).alloc (HBW.out).size _) (((HBW.out).alloc (HBW.out).size _)).size ?_
           intro v7 w7 ho7 hg7 hb7 hf7
           have HF7 := kq hf7
           obtain ⟨L5, hL5⟩ : ∃ l, l = bs ++ [0] := ⟨_, rfl⟩
           rw [← hL5] at ho7
           have HL5 := kq hL5
           have hl5 : L5.length ≤ 400 := by rw [hL5]; simp; omega
           clear hL5
           obtain ⟨a5, c5, rfl, hr5⟩ := ho7.row
           have HR5 := kq hr5
           replace HBW := kq hb7
           have hs7 : z2.heap.size ≤ w7.heap.size := hb7.size
           clear ho7 hg7 hb7 hf7 hr5)
        | (refine step_app2 rfl (.tmp 69) (.tmp 70) rfl z2.heap.size (.slice a8 bs.length c8) bs [0] (some ⟨w5.heap.size + 1, 0, none⟩) 1 z2 rfl rfl (ownb_alloc (ownb_alloc HO5.out)) (lit_src0 (blk_at (World.size_alloc _ _).symm)) (by simp; omega) ((((HBW.out).alloc (HBW.out).size _)).alloc (((HBW.out).alloc (HBW.out).size _)).size _) (((((HBW.out).alloc (HBW.out).size _)).alloc (((HBW.out).alloc (HBW.out).size _)).size _)).size ?_
           intro v7 w7 ho7 hg7 hb7 hf7
           have HF7 := kq hf7
           obtain ⟨L5, hL5⟩ : ∃ l, l = bs ++ [0] := ⟨_, rfl⟩
           rw [← hL5] at ho7
           have HL5 := kq hL5
           have hl5 : L5.length ≤ 400 := by rw [hL5]; simp; omega
           clear hL5
           obtain ⟨a5, c5, rfl, hr5⟩ := ho7.row
           have HR5 := kq hr5
           replace HBW := kq hb7
           have hs7 : z2.heap.size ≤ w7.heap.size := hb7.size
           clear ho7 hg7 hb7 hf7 hr5)
        | (refine step_app2 rfl (.tmp 69) (.tmp 70) rfl z2.heap.size (.slice a8 bs.length c8) bs [0] (some ⟨w5.heap.size, 0, none⟩) 1 z2 rfl rfl (ownb_alloc (ownb_alloc HO5.out)) (lit_src0 (blk_alloc (blk_at rfl))) (by simp; omega) ((((HBW.out).alloc (HBW.out).size _)).alloc (((HBW.out).alloc (HBW.out).size _)).size _) (((((HBW.out).alloc (HBW.out).size _)).alloc (((HBW.out).alloc (HBW.out).size _)).size _)).size ?_
           intro v7 w7 ho7 hg7 hb7 hf7
           have HF7 := kq hf7
           obtain ⟨L5, hL5⟩ : ∃ l, l = bs ++ [0] := ⟨_, rfl⟩
           rw [← hL5] at ho7
           have HL5 := kq hL5
           have hl5 : L5.length ≤ 400 := by rw [hL5]; simp; omega
           clear hL5
           obtain ⟨a5, c5, rfl, hr5⟩ := ho7.row
           have HR5 := kq hr5
           replace HBW := kq hb7
           have hs7 : z2.heap.size ≤ w7.heap.size := hb7.size
           clear ho7 hg7 hb7 hf7 hr5)
        | (refine step_app2 rfl (.tmp 69) (.tmp 70) rfl z2.heap.size (.slice a8 bs.length c8) bs [0] (some ⟨z2.heap.size, 0, none⟩) 1 z2 rfl rfl HO5.out (lit_src0 (blk_grown HG5.out (blk_drew (blk_alloc (blk_at rfl))) (fun e => by simp [Value.ownBlock] at e))) (by simp; omega) HBW.out (HBW.out).size ?_
           intro v7 w7 ho7 hg7 hb7 hf7
           have HF7 := kq hf7
           obtain ⟨L5, hL5⟩ : ∃ l, l = bs ++ [0] := ⟨_, rfl⟩
           rw [← hL5] at ho7
           have HL5 := kq hL5
           have hl5 : L5.length ≤ 400 := by rw [hL5]; simp; omega
           clear hL5
           obtain ⟨a5, c5, rfl, hr5⟩ := ho7.row
           have HR5 := kq hr5
           replace HBW := kq hb7
           have hs7 : z2.heap.size ≤ w7.heap.size := hb7.size
           clear ho7 hg7 hb7 hf7 hr5)
        | (refine step_app2 rfl (.tmp 69) (.tmp 70) rfl z2.heap.size (.slice a8 bs.length c8) bs [0] (some ⟨z2.heap.size, 0, none⟩) 1 z2 rfl rfl HO5.out (lit_src0 (blk_grown HG5.out (blk_drew (blk_alloc (blk_alloc (blk_at rfl)))) (fun e => by simp [Value.ownBlock] at e))) (by simp; omega) HBW.out (HBW.out).size ?_
           intro v7 w7 ho7 hg7 hb7 hf7
           have HF7 := kq hf7
           obtain ⟨L5, hL5⟩ : ∃ l, l = bs ++ [0] := ⟨_, rfl⟩
           rw [← hL5] at ho7
           have HL5 := kq hL5
           have hl5 : L5.length ≤ 400 := by rw [hL5]; simp; omega
           clear hL5
           obtain ⟨a5, c5, rfl, hr5⟩ := ho7.row
           have HR5 := kq hr5
           replace HBW := kq hb7
           have hs7 : z2.heap.size ≤ w7.heap.size := hb7.size
           clear ho7 hg7 hb7 hf7 hr5)
        | (refine step_app2 rfl (.tmp 69) (.tmp 70) rfl z2.heap.size (.slice a8 bs.length c8) bs [0] (some ⟨z2.heap.size + 1, 0, none⟩) 1 z2 rfl rfl HO5.out (lit_src0 (blk_grown HG5.out (blk_drew (blk_at (World.size_alloc _ _).symm)) (fun e => by simp [Value.ownBlock] at e))) (by simp; omega) HBW.out (HBW.out).size ?_
           intro v7 w7 ho7 hg7 hb7 hf7
           have HF7 := kq hf7
           obtain ⟨L5, hL5⟩ : ∃ l, l = bs ++ [0] := ⟨_, rfl⟩
           rw [← hL5] at ho7
           have HL5 := kq hL5
           have hl5 : L5.length ≤ 400 := by rw [hL5]; simp; omega
           clear hL5
           obtain ⟨a5, c5, rfl, hr5⟩ := ho7.row
           have HR5 := kq hr5
           replace HBW := kq hb7
           have hs7 : z2.heap.size ≤ w7.heap.size := hb7.size
           clear ho7 hg7 hb7 hf7 hr5)
        | (refine step_app2 rfl (.tmp 69) (.tmp 70) rfl z2.heap.size (.slice a8 bs.length c8) bs [0] (some ⟨z2.heap.size + 1, 0, none⟩) 1 z2 rfl rfl HO5.out (lit_src0 (blk_grown HG5.out (blk_drew (blk_alloc (blk_at (World.size_alloc _ _).symm))) (fun e => by simp [Value.ownBlock] at e))) (by simp; omega) HBW.out (HBW.out).size ?_
           intro v7 w7 ho7 hg7 hb7 hf7
           have HF7 := kq hf7
           obtain ⟨L5, hL5⟩ : ∃ l, l = bs ++ [0] := ⟨_, rfl⟩
           rw [← hL5] at ho7
           have HL5 := kq hL5
           have hl5 : L5.length ≤ 400 := by rw [hL5]; simp; omega
           clear hL5
           obtain ⟨a5, c5, rfl, hr5⟩ := ho7.row
           have HR5 := kq hr5
           replace HBW := kq hb7
           have hs7 : z2.heap.size ≤ w7.heap.size := hb7.size
           clear ho7 hg7 hb7 hf7 hr5)
        | (refine step_app2 rfl (.tmp 69) (.tmp 70) rfl z2.heap.size (.slice a8 bs.length c8) bs [0] (some ⟨z2.heap.size + 2, 0, none⟩) 1 z2 rfl rfl HO5.out (lit_src0 (blk_grown HG5.out (blk_drew (blk_at ((World.size_alloc _ _).trans (congrArg (fun n => n + 1) (World.size_alloc _ _))).symm)) (fun e => by simp [Value.ownBlock] at e))) (by simp; omega) HBW.out (HBW.out).size ?_
           intro v7 w7 ho7 hg7 hb7 hf7
           have HF7 := kq hf7
           obtain ⟨L5, hL5⟩ : ∃ l, l = bs ++ [0] := ⟨_, rfl⟩
           rw [← hL5] at ho7
           have HL5 := kq hL5
           have hl5 : L5.length ≤ 400 := by rw [hL5]; simp; omega
           clear hL5
           obtain ⟨a5, c5, rfl, hr5⟩ := ho7.row
           have HR5 := kq hr5
           replace HBW := kq hb7
           have hs7 : z2.heap.size ≤ w7.heap.size := hb7.size
           clear ho7 hg7 hb7 hf7 hr5)
        | (refine step_app2 rfl (.tmp 69) (.tmp 70) rfl z2.heap.size (.slice a8 bs.length c8) bs [0] (some ⟨z2.heap.size, 0, none⟩) 1 z2 rfl rfl (ownb_alloc HO5.out) (lit_src0 (blk_alloc (blk_grown HG5.out (blk_drew (blk_alloc (blk_at rfl))) (fun e => by simp [Value.ownBlock] at e)))) (by simp; omega) ((HBW.out).alloc (HBW.out).size _) (((HBW.out).alloc (HBW.out).size _)).size ?_
           intro v7 w7 ho7 hg7 hb7 hf7
           have HF7 := kq hf7
           obtain ⟨L5, hL5⟩ : ∃ l, l = bs ++ [0] := ⟨_, rfl⟩
           rw [← hL5] at ho7
           have HL5 := kq hL5
           have hl5 : L5.length ≤ 400 := by rw [hL5]; simp; omega
           clear hL5
           obtain ⟨a5, c5, rfl, hr5⟩ := ho7.row
           have HR5 := kq hr5
           replace HBW := kq hb7
           have hs7 : z2.heap.size ≤ w7.heap.size := hb7.size
           clear ho7 hg7 hb7 hf7 hr5)
        | (refine step_app2 rfl (.tmp 69) (.tmp 70) rfl z2.heap.size (.slice a8 bs.length c8) bs [0] (some ⟨z2.heap.size, 0, none⟩) 1 z2 rfl rfl (ownb_alloc HO5.out) (lit_src0 (blk_alloc (blk_grown HG5.out (blk_drew (blk_alloc (blk_alloc (blk_at rfl)))) (fun e => by simp [Value.ownBlock] at e)))) (by simp; omega) ((HBW.out).alloc (HBW.out).size _) (((HBW.out).alloc (HBW.out).size _)).size ?_
           intro v7 w7 ho7 hg7 hb7 hf7
           have HF7 := kq hf7
           obtain ⟨L5, hL5⟩ : ∃ l, l = bs ++ [0] := ⟨_, rfl⟩
           rw [← hL5] at ho7
           have HL5 := kq hL5
           have hl5 : L5.length ≤ 400 := by rw [hL5]; simp; omega
           clear hL5
           obtain ⟨a5, c5, rfl, hr5⟩ := ho7.row
           have HR5 := kq hr5
           replace HBW := kq hb7
           have hs7 : z2.heap.size ≤ w7.heap.size := hb7.size
           clear ho7 hg7 hb7 hf7 hr5)
        | (refine step_app2 rfl (.tmp 69) (.tmp 70) rfl z2.heap.size (.slice a8 bs.length c8) bs [0] (some ⟨z2.heap.size + 1, 0, none⟩) 1 z2 rfl rfl (ownb_alloc HO5.out) (lit_src0 (blk_alloc (blk_grown HG5.out (blk_drew (blk_at (World.size_alloc _ _).symm)) (fun e => by simp [Value.ownBlock] at e)))) (by simp; omega) ((HBW.out).alloc (HBW.out).size _) (((HBW.out).alloc (HBW.out).size _)).size ?_
           intro v7 w7 ho7 hg7 hb7 hf7
           have HF7 := kq hf7
           obtain ⟨L5, hL5⟩ : ∃ l, l = bs ++ [0] := ⟨_, rfl⟩
           rw [← hL5] at ho7
           have HL5 := kq hL5
           have hl5 : L5.length ≤ 400 := by rw [hL5]; simp; omega
           clear hL5
           obtain ⟨a5, c5, rfl, hr5⟩ := ho7.row
           have HR5 := kq hr5
           replace HBW := kq hb7
           have hs7 : z2.heap.size ≤ w7.heap.size := hb7.size
           clear ho7 hg7 hb7 hf7 hr5)
        | (refine step_app2 rfl (.tmp 69) (.tmp 70) rfl z2.heap.size (.slice a8 bs.length c8) bs [0] (some ⟨z2.heap.size + 1, 0, none⟩) 1 z2 rfl rfl (ownb_alloc HO5.out) (lit_src0 (blk_alloc (blk_grown HG5.out (blk_drew (blk_alloc (blk_at (World.size_alloc _ _).symm))) (fun e => by simp [Value.ownBlock] at e)))) (by simp; omega) ((HBW.out).alloc (HBW.out).size _) (((HBW.out).alloc (HBW.out).size _)).size ?_
           intro v7 w7 ho7 hg7 hb7 hf7
           have HF7 := kq hf7
           obtain ⟨L5, hL5⟩ : ∃ l, l = bs ++ [0] := ⟨_, rfl⟩
           rw [← hL5] at ho7
           have HL5 := kq hL5
           have hl5 : L5.length ≤ 400 := by rw [hL5]; simp; omega
           clear hL5
           obtain ⟨a5, c5, rfl, hr5⟩ := ho7.row
           have HR5 := kq hr5
           replace HBW := kq hb7
           have hs7 : z2.heap.size ≤ w7.heap.size := hb7.size
           clear ho7 hg7 hb7 hf7 hr5)
        | (refine step_app2 rfl (.tmp 69) (.tmp 70) rfl z2.heap.size (.slice a8 bs.length c8) bs [0] (some ⟨z2.heap.size + 2, 0, none⟩) 1 z2 rfl rfl (ownb_alloc HO5.out) (lit_src0 (blk_alloc (blk_grown HG5.out (blk_drew (blk_at ((World.size_alloc _ _).trans (congrArg (fun n => n + 1) (World.size_alloc _ _))).symm)) (fun e => by simp [Value.ownBlock] at e)))) (by simp; omega) ((HBW.out).alloc (HBW.out).size _) (((HBW.out).alloc (HBW.out).size _)).size ?_
           intro v7 w7 ho7 hg7 hb7 hf7
           have HF7 := kq hf7
           obtain ⟨L5, hL5⟩ : ∃ l, l = bs ++ [0] := ⟨_, rfl⟩
           rw [← hL5] at ho7
           have HL5 := kq hL5
           have hl5 : L5.length ≤ 400 := by rw [hL5]; simp; omega
           clear hL5
           obtain ⟨a5, c5, rfl, hr5⟩ := ho7.row
           have HR5 := kq hr5
           replace HBW := kq hb7
           have hs7 : z2.heap.size ≤ w7.heap.size := hb7.size
           clear ho7 hg7 hb7 hf7 hr5)
        | (refine step_app2 rfl (.tmp 67) (.tmp 68) rfl z2.heap.size (.slice (some ⟨z2.heap.size, 0, none⟩) 0 0) [] bs az cz z2 rfl rfl (lit_own0 (blk_drew (blk_at rfl)) (by omega)) (HRW.out.below (Below.mono (bel_drew ((HB0.out).alloc (HB0.out).size _)) (Nat.le_refl _))).src (by simp; omega) (bel_drew ((HB0.out).alloc (HB0.out).size _)) (bel_drew ((HB0.out).alloc (HB0.out).size _)).size ?_
           intro v5 w5 ho5 hg5 hb5 hf5
           rw [List.nil_append] at ho5
           have HF5 := kq hf5
           have HG5 := kq hg5
           have HO5 := kq ho5
           obtain ⟨a8, c8, rfl, -⟩ := ho5.row
           replace HBW := kq hb5
           have hs5 : z2.heap.size ≤ w5.heap.size := hb5.size
           clear ho5 hg5 hb5 hf5)
        | (refine step_app2 rfl (.tmp 67) (.tmp 68) rfl z2.heap.size (.slice (some ⟨z2.heap.size, 0, none⟩) 0 0) [] bs az cz z2 rfl rfl (lit_own0 (blk_drew (blk_alloc (blk_at rfl))) (by omega)) (HRW.out.below (Below.mono (bel_drew ((((HB0.out).alloc (HB0.out).size _)).alloc (((HB0.out).alloc (HB0.out).size _)).size _)) (Nat.le_refl _))).src (by simp; omega) (bel_drew ((((HB0.out).alloc (HB0.out).size _)).alloc (((HB0.out).alloc (HB0.out).size _)).size _)) (bel_drew ((((HB0.out).alloc (HB0.out).size _)).alloc (((HB0.out).alloc (HB0.out).size _)).size _)).size ?_
           intro v5 w5 ho5 hg5 hb5 hf5
           rw [List.nil_append] at ho5
           have HF5 := kq hf5
           have HG5 := kq hg5
           have HO5 := kq ho5
           obtain ⟨a8, c8, rfl, -⟩ := ho5.row
           replace HBW := kq hb5
           have hs5 : z2.heap.size ≤ w5.heap.size := hb5.size
           clear ho5 hg5 hb5 hf5)
        | (refine step_app2 rfl (.tmp 67) (.tmp 68) rfl z2.heap.size (.slice (some ⟨z2.heap.size, 0, none⟩) 0 0) [] bs az cz z2 rfl rfl (lit_own0 (blk_drew (blk_alloc (blk_alloc (blk_at rfl)))) (by omega)) (HRW.out.below (Below.mono (bel_drew ((((((HB0.out).alloc (HB0.out).size _)).alloc (((HB0.out).alloc (HB0.out).size _)).size _)).alloc (((((HB0.out).alloc (HB0.out).size _)).alloc (((HB0.out).alloc (HB0.out).size _)).size _)).size _)) (Nat.le_refl _))).src (by simp; omega) (bel_drew ((((((HB0.out).alloc (HB0.out).size _)).alloc (((HB0.out).alloc (HB0.out).size _)).size _)).alloc (((((HB0.out).alloc (HB0.out).size _)).alloc (((HB0.out).alloc (HB0.out).size _)).size _)).size _)) (bel_drew ((((((HB0.out).alloc (HB0.out).size _)).alloc (((HB0.out).alloc (HB0.out).size _)).size _)).alloc (((((HB0.out).alloc (HB0.out).size _)).alloc (((HB0.out).alloc (HB0.out).size _)).size _)).size _)).size ?_
           intro v5 w5 ho5 hg5 hb5 hf5
           rw [List.nil_append] at ho5
           have HF5 := kq hf5
           have HG5 := kq hg5
           have HO5 := kq ho5
           obtain ⟨a8, c8, rfl, -⟩ := ho5.row
           replace HBW := kq hb5
           have hs5 : z2.heap.size ≤ w5.heap.size := hb5.size
           clear ho5 hg5 hb5 hf5)
        | (refine step_app2 rfl (.tmp 67) (.tmp 68) rfl z2.heap.size (.slice (some ⟨z2.heap.size + 1, 0, none⟩) 0 0) [] bs az cz z2 rfl rfl (lit_own0 (blk_drew (blk_at (World.size_alloc _ _).symm)) (by omega)) (HRW.out.below (Below.mono (bel_drew ((((HB0.out).alloc (HB0.out).size _)).alloc (((HB0.out).alloc (HB0.out).size _)).size _)) (Nat.le_refl _))).src (by simp; omega) (bel_drew ((((HB0.out).alloc (HB0.out).size _)).alloc (((HB0.out).alloc (HB0.out).size _)).size _)) (bel_drew ((((HB0.out).alloc (HB0.out).size _)).alloc (((HB0.out).alloc (HB0.out).size _)).size _)).size ?_
           intro v5 w5 ho5 hg5 hb5 hf5
           rw [List.nil_append] at ho5
           have HF5 := kq hf5
           have HG5 := kq hg5
           have HO5 := kq ho5
           obtain ⟨a8, c8, rfl, -⟩ := ho5.row
           replace HBW := kq hb5
           have hs5 : z2.heap.size ≤ w5.heap.size := hb5.size
           clear ho5 hg5 hb5 hf5)
        | (refine step_app2 rfl (.tmp 67) (.tmp 68) rfl z2.heap.size (.slice (some ⟨z2.heap.size + 1, 0, none⟩) 0 0) [] bs az cz z2 rfl rfl (lit_own0 (blk_drew (blk_alloc (blk_at (World.size_alloc _ _).symm))) (by omega)) (HRW.out.below (Below.mono (bel_drew ((((((HB0.out).alloc (HB0.out).size _)).alloc (((HB0.out).alloc (HB0.out).size _)).size _)).alloc (((((HB0.out).alloc (HB0.out).size _)).alloc (((HB0.out).alloc (HB0.out).size _)).size _)).size _)) (Nat.le_refl _))).src (by simp; omega) (bel_drew ((((((HB0.out).alloc (HB0.out).size _)).alloc (((HB0.out).alloc (HB0.out).size _)).size _)).alloc (((((HB0.out).alloc (HB0.out).size _)).alloc (((HB0.out).alloc (HB0.out).size _)).size _)).size _)) (bel_drew ((((((HB0.out).alloc (HB0.out).size _)).alloc (((HB0.out).alloc (HB0.out).size _)).size _)).alloc (((((HB0.out).alloc (HB0.out).size _)).alloc (((HB0.out).alloc (HB0.out).size _)).size _)).size _)).size ?_
           intro v5 w5 ho5 hg5 hb5 hf5
           rw [List.nil_append] at ho5
           have HF5 := kq hf5
           have HG5 := kq hg5
           have HO5 := kq ho5
           obtain ⟨a8, c8, rfl, -⟩ := ho5.row
           replace HBW := kq hb5
           have hs5 : z2.heap.size ≤ w5.heap.size := hb5.size
           clear ho5 hg5 hb5 hf5)
        | (refine step_app2 rfl (.tmp 67) (.tmp 68) rfl z2.heap.size (.slice (some ⟨z2.heap.size + 2, 0, none⟩) 0 0) [] bs az cz z2 rfl rfl (lit_own0 (blk_drew (blk_at ((World.size_alloc _ _).trans (congrArg (fun n => n + 1) (World.size_alloc _ _))).symm)) (by omega)) (HRW.out.below (Below.mono (bel_drew ((((((HB0.out).alloc (HB0.out).size _)).alloc (((HB0.out).alloc (HB0.out).size _)).size _)).alloc (((((HB0.out).alloc (HB0.out).size _)).alloc (((HB0.out).alloc (HB0.out).size _)).size _)).size _)) (Nat.le_refl _))).src (by simp; omega) (bel_drew ((((((HB0.out).alloc (HB0.out).size _)).alloc (((HB0.out).alloc (HB0.out).size _)).size _)).alloc (((((HB0.out).alloc (HB0.out).size _)).alloc (((HB0.out).alloc (HB0.out).size _)).size _)).size _)) (bel_drew ((((((HB0.out).alloc (HB0.out).size _)).alloc (((HB0.out).alloc (HB0.out).size _)).size _)).alloc (((((HB0.out).alloc (HB0.out).size _)).alloc (((HB0.out).alloc (HB0.out).size _)).size _)).size _)).size ?_
           intro v5 w5 ho5 hg5 hb5 hf5
           rw [List.nil_append] at ho5
           have HF5 := kq hf5
           have HG5 := kq hg5
           have HO5 := kq ho5
           obtain ⟨a8, c8, rfl, -⟩ := ho5.row
           replace HBW := kq hb5
           have hs5 : z2.heap.size ≤ w5.heap.size := hb5.size
           clear ho5 hg5 hb5 hf5))
    all_goals go_wp2_with fail
    all_goals go_meet
    all_goals first | exact ⟨_, rfl, rfl, rfl, HB9.out.alloc HB9.out.size _⟩ | exact ⟨_, rfl, rfl, rfl, below3V HB9.out hnb _ _ _⟩
  case rest =>
  obtain ⟨N9, rfl, rfl, rfl, HBC⟩ := hcut
  have hb := HBC.out
  clear HBC HSW HB0
  replace HX := kq (HX.out.below hb)
  replace HRC := kq (HRC.out.below hb)
  replace HV0 : Hid (IsVal (rs.length + 1) v _ _) := HV0.out.below hb
  replace HV3 := kq (HV3.out.below hb)
  replace HRW := kq (HRW.out.below hb)
  replace HV1 : Hid (IsVal (rs.length + 1) v _ _) := HV1.out.below hb
  replace Cz1 := kq (Cz1.out.below hb)
  replace HV2 : Hid (IsVal (rs.length + 1) v _ _) := HV2.out.below hb
  replace Cz2 := kq (Cz2.out.below hb)
  replace HBZ := kq (HBZ.out.trans (hb.mono HBZ.out.size))
  clear hb
  have HSW : Hid (∀ W, Below wc.heap.size wc W → W.cell? ⟨bd, 0, none⟩ = some (.slice x rs.length cp)) := fun W hb => (HX.out.below hb 0 _ rfl).1
  have HB0 : Hid (Below wc.heap.size wc wc) := Below.refl _ _
  obtain ⟨m, hm⟩ : ∃ m : Nat, (bs.length : Int) - 1 = (m : Int) := ⟨bs.length - 1, by have := HE1.out; omega⟩
  have hwm : IntKind.i64.wrap (m : Int) = (m : Int) := IntWalk.i64_in _ (by omega)
  have hcz : bs.length ≤ cz := HRW.out.2.1
  have hmc : (m : Int) ≤ (cz : Int) := by omega
  obtain ⟨q4, k4, hg4, hk4⟩ := HG4.out hl392
  have hm1 : bs.length - 1 = m := by omega
  rw [hm1] at hg4
  have hlt : (bs.take m).length = m := by rw [List.length_take]; omega
  have HRT : Hid (∀ W, RdC x rs W → SrcB az (bs.take m) cz W → HandleAt W → Calls Tryz.prog 19 #[.agg #[.slice x rs.length cp], .slice az m cz] W fun e w' => ∃ bl cs, e = .returned (.tuple #[.agg cs.toArray, .int .i64 (q4 : Int), .int .i64 (k4 : Int)]) ∧ OwnT (rs.length + 1) bl (.mk 0 [] []) cs w' ∧ (∀ b ∈ bl, W.heap.size ≤ b) ∧ Below W.heap.size W w') := fun W h1 h2 h3 => by have h := HRF.out (bs.take m) (.mk 0 [] []) q4 k4 az cz W (by rw [hg4]; rfl) (by rw [hg4]; rfl) (by rw [hg4]; rfl) (by omega) h1 h2 h3; rw [hlt] at h; exact h
  have HST := kq (srcb_take HRW.out.srcB m (by omega))
  clear hlt hg4 HG4 hm1
  go_upto_region 12 with fail
  go_cut [18, 19, 20] from 76 to 87 (fun px nx cx W => ∃ N9 : Nat, px = .pointer (some ⟨N9, 0, none⟩) ∧ nx = .int .i64 (q4 : Int) ∧ cx = .int .i64 (k4 : Int) ∧ Hid (Below wc.heap.size wc W))
  case first =>
    go_region_held3 (fun W => W.cell? ⟨bd, 0, none⟩ = some (.slice x rs.length cp)) (exact HSW.out _ (by first | with_reducible exact HB9.out | with_reducible exact (HB9.out.alloc HB9.out.size _) | with_reducible exact (below3V HB9.out hnb _ _ _) | with_reducible exact bel_drew HB0.out | with_reducible exact bel_drew (HB0.out.alloc HB0.out.size _))) (first
        | (go_at_call 19
           refine (HRT.out _ (HRC.out.below (bel_drew HB0.out)) (HST.out.below (bel_drew HB0.out)) (HG.out.below (HBZ.out.trans (Below.mono (bel_drew HB0.out) HBZ.out.size)))).mono ?_
           rintro e w9 ⟨bl9, cs9, rfl, ho9, -, hb9⟩
           obtain ⟨a6, c6, a7, c7, rfl⟩ := ho9.cells
           have HB9 : Hid (Below wc.heap.size wc w9) := (bel_drew HB0.out).trans (hb9.mono (bel_drew HB0.out).size)
           clear hb9 ho9)
        | (go_at_call 19
           refine (HRT.out _ (HRC.out.below (bel_drew (HB0.out.alloc HB0.out.size _))) (HST.out.below (bel_drew (HB0.out.alloc HB0.out.size _))) (HG.out.below (HBZ.out.trans (Below.mono (bel_drew (HB0.out.alloc HB0.out.size _)) HBZ.out.size)))).mono ?_
           rintro e w9 ⟨bl9, cs9, rfl, ho9, -, hb9⟩
           obtain ⟨a6, c6, a7, c7, rfl⟩ := ho9.cells
           have HB9 : Hid (Below wc.heap.size wc w9) := (bel_drew (HB0.out.alloc HB0.out.size _)).trans (hb9.mono (bel_drew (HB0.out.alloc HB0.out.size _)).size)
           have hcc := cells_of_blk hb9 (N := wc.heap.size) (cs := #[.int .i64 0, .slice none 0 0, .slice none 0 0]) (t := 29) (blk_drew (blk_at rfl)); have hnb : wc.heap.size ≤ wc.heap.size := Nat.le_refl _; obtain ⟨z0, f0⟩ := hcc 0 _ rfl; obtain ⟨z1, f1⟩ := hcc 1 _ rfl; obtain ⟨z2', f2⟩ := hcc 2 _ rfl
           clear hb9 ho9 hcc))
    all_goals go_wp2_with fail
    all_goals go_meet
    all_goals first | exact ⟨_, rfl, rfl, rfl, HB9.out.alloc HB9.out.size _⟩ | exact ⟨_, rfl, rfl, rfl, below3V HB9.out hnb _ _ _⟩
  case rest =>
  obtain ⟨N10, rfl, rfl, rfl, HBC⟩ := hcut
  have hb := HBC.out
  clear HBC HSW HB0 HRT HST
  replace HX := kq (HX.out.below hb)
  replace HRC := kq (HRC.out.below hb)
  replace HV0 : Hid (IsVal (rs.length + 1) v _ _) := HV0.out.below hb
  replace HV3 := kq (HV3.out.below hb)
  replace HRW := kq (HRW.out.below hb)
  replace HV1 : Hid (IsVal (rs.length + 1) v _ _) := HV1.out.below hb
  replace Cz1 := kq (Cz1.out.below hb)
  replace HV2 : Hid (IsVal (rs.length + 1) v _ _) := HV2.out.below hb
  replace Cz2 := kq (Cz2.out.below hb)
  replace HBZ := kq (HBZ.out.trans (hb.mono HBZ.out.size))
  clear hb
  have g2 : ((bs.length : Int) == (bs.length : Int)) = true := by simp
  have g3 : IntKind.i64.wrap (3 + (bs.length : Int)) = 3 + (bs.length : Int) := IntWalk.i64_in _ (by omega)
  have g4 : (3 + (bs.length : Int) == 3 + (bs.length : Int)) = true := by simp
  have g5 : ((k4 : Int) != 0) = true := by simp; omega
  have d0 := (Cz1.out 0 _ rfl).1
  have d1 := (Cz1.out 1 _ rfl).1
  have d2 := (Cz1.out 2 _ rfl).1
  have v0 := (HV3.out 0 _ rfl).1
  have v1 := (HV3.out 1 _ rfl).1
  have v2 := (HV3.out 2 _ rfl).1
  go_wp2_with fail
  refine (HEQ.out [.int .i64 v.number, .slice a1 v.bytes.length c1, .slice a2 v.items.length c2] [.int .i64 v.number, .slice ab v.bytes.length cb, .slice ai v.items.length ci] _ HV1.out HV0.out).mono ?_
  rintro e x1 ⟨rfl, hb⟩
  clear d0 d1 d2 v0 v1 v2 HV1 Cz1
  replace HX := kq (HX.out.below hb)
  replace HRC := kq (HRC.out.below hb)
  replace HV0 : Hid (IsVal (rs.length + 1) v _ _) := HV0.out.below hb
  replace HV3 := kq (HV3.out.below hb)
  replace HRW := kq (HRW.out.below hb)
  replace HV2 : Hid (IsVal (rs.length + 1) v _ _) := HV2.out.below hb
  replace Cz2 := kq (Cz2.out.below hb)
  replace HBZ := kq (HBZ.out.trans (hb.mono HBZ.out.size))
  clear hb
  have d0 := (Cz2.out 0 _ rfl).1
  have d1 := (Cz2.out 1 _ rfl).1
  have d2 := (Cz2.out 2 _ rfl).1
  have v0 := (HV3.out 0 _ rfl).1
  have v1 := (HV3.out 1 _ rfl).1
  have v2 := (HV3.out 2 _ rfl).1
  go_wp2_with fail
  refine (HEQ.out [.int .i64 v.number, .slice a3 v.bytes.length c3, .slice a4 v.items.length c4] [.int .i64 v.number, .slice ab v.bytes.length cb, .slice ai v.items.length ci] _ HV2.out HV0.out).mono ?_
  rintro e x2 ⟨rfl, hb⟩
  clear d0 d1 d2 v0 v1 v2 HV2 HV0 Cz2 HV3
  replace HX := kq (HX.out.below hb)
  replace HRC := kq (HRC.out.below hb)
  replace HRW := kq (HRW.out.below hb)
  replace HBZ := kq (HBZ.out.trans (hb.mono HBZ.out.size))
  clear hb
  have bx := (HX.out 0 _ rfl).1
  go_wp2_with fail
  refine (HIF.out bs az cz _ (by unfold fileB; rw [HG1.out hl392]) (by omega) HRC.out HRW.out.srcB (HG.out.below HBZ.out)).mono ?_
  rintro e x3 ⟨rfl, hb⟩
  have HF := kq (HBZ.out.trans (hb.mono HBZ.out.size))
  clear hb bx
  go_wp2
  go_ret
  exact ⟨rfl, HF.out⟩
theorem walk (a0 : Option Addr) (bs0 : List UInt8) (cap0 : Nat) (w : World) (r0 : Arg a0 bs0 cap0 w) (hg : HandleAt w) :
  Calls Tryz.prog 4 #[.slice a0 bs0.length cap0] w fun e w' => e = .returned (.bool true) ∧ Below w.heap.size w w' := by
 by_cases h0 : 1048576 < bs0.length
 ·exact walk_long a0 bs0 cap0 w h0 (by have q1 := r0.2.1; have q2 := r0.2.2.2; omega)
 ·exact walk_short a0 bs0 cap0 w (by omega) r0.code hg
theorem door_met (os : Os) (args : Array Value) : laidMetH Tryz.prog Rows.fnParsingRow.laid ((World.doorLaid Tryz.prog 400 os).forCall (fun _ _ => 0) ⟨#[], args, []⟩).memory := handle_met os args
theorem of_laid {W : World} (h : laidMetH Tryz.prog Rows.fnParsingRow.laid W) : HandleAt W := handle_of_laid h
theorem lifted (os : Os) (started : os.Started) (H : Type) (enc : TypeId × Value → H) :
  ReturnsInHanded {} Tryz.checked os 4 .any (fun w args => (Rows.fnParsingSpec.pre enc Tryz.prog Tryz.f4 [] false w args ∧ laidMetH Tryz.prog Rows.fnParsingRow.laid w) ∧ sizedMet enc Tryz.prog Tryz.f4 (OpenSpec.ofChange Rows.fnParsingSpec) false w args)
   (Rows.fnParsingSpec.post enc Tryz.prog Tryz.f4 false true false false) := by
 refine returnsInHanded_of_change_and (C := Tryz.checked) (X := fun w _ => laidMetH Tryz.prog Rows.fnParsingRow.laid w) (fun _ _ _ hh h => h.of_heap hh) ownL started (by kernel_rfl) Tryz.func4
  (ChangeSpec.witness_shaped (enc := enc) (C := Tryz.checked) (os := os) (X := fun w _ => laidMetH Tryz.prog Rows.fnParsingRow.laid w) false (World.doorLaid Tryz.prog 400 os) #[.slice none 0 0] 8 rfl (World.shaped_of_RefB (by kernel_rfl) (by kernel_rfl)) (by kernel_rfl) (by kernel_rfl) (by kernel_rfl) (door_met os _)) ?_
 intro W base args ds gs before hval0 hW _ _ hL _
 have hval : ∀ (j : Nat) t v, Tryz.f4.params[j]? = some t → args[j]? = some v → Value.okWide Tryz.prog W .any base t v := hval0
 have hW' := hW
 obtain ⟨p, q, hA0, hV, rfl, hfz, hnd⟩ := hW
 have hA : DataW.TrodAll enc Tryz.prog W 0 (fun _ => true) true Tryz.f4.params.toList args.toList ds p := hA0
 rw [Tryz.params4] at hA hval
 obtain ⟨v0, vs0, d0, ds0, p0, q0, hargs, rfl, rfl, h0, r0⟩ := trodAll_cons hA
 obtain ⟨rfl, rfl, rfl⟩ := trodAll_nil r0
 obtain rfl : args = #[v0] := by cases args; simp_all
 obtain ⟨rfl, rfl⟩ := trodVars_none hV
 simp only [List.append_nil] at hW'
 have hlt : ∀ x ∈ p0, x.block < W.heap.size := fun x hx => hW'.lt x (by simpa using hx)
 obtain ⟨a0, len0, cap0, rfl⟩ := okWide_slice Tryz.underlying22 (hval 0 22 v0 rfl rfl)
 obtain ⟨bs0, rfl, hb0⟩ := bytes_arg h0
 have m0 : ∀ (W' : World), Below W.heap.size W W' → DataW.Trod enc Tryz.prog W' 0 (fun b => decide (b < W.heap.size)) true 22 (.slice a0 bs0.length cap0) d0 p0 := fun W' hn => Below.trod laidOut (by kernel_rfl) (of_decide_eq_true (by kernel_rfl)) h0 hn (fun x hx => hlt x (by simp [hx]))
 have hT := of_laid hL
 clear hA0 hval0
 refine (walk a0 bs0 cap0 W hb0 hT).mono fun e W' ⟨he, hb⟩ => ?_
 subst he
 exact ⟨_, rfl, _, _, _, [], _, [], hW', trodAll_cons_mk (shut_bool Tryz.underlying4 _) trodAll_mk0, (trodAll_cons_mk (m0 _ hb) trodAll_mk0), rfl, hb.frame _, fun h => by cases h⟩
theorem row_holds : Rows.FnParsingSaid :=
 OpenClaim.holds_of_wide 4 Tryz.f4 rfl rfl rfl rfl rfl rfl rfl ⟨rfl, rfl, rfl, rfl, rfl⟩ rfl rfl rfl rfl rfl (by kernel_rfl) Tryz.func4 (by kernel_rfl)
  (of_decide_eq_true (by kernel_rfl)) (by unfold Func.isWrapper; first | (rw [if_pos (by decide +kernel)]; kernel_rfl) | (rw [if_neg (by decide +kernel)]; exact ⟨rfl, rfl⟩))
  (fun os started H enc _ => lifted os started H enc)
theorem proved : Rows.FnParsingCardSaid :=
 Claim7.holds_tied_plain_at .later [] [.handle] true Rows.fnParsingCard.stood.harness Rows.fnParsingCard.stood.looks
  row_holds (fun _ h => by cases h) (by kernel_rfl) (fun _ h => by cases h) fnParsing_row_tie rfl ⟨rfl, rfl⟩ (by kernel_rfl) rfl
  (fun f fn hf hfn => by
   obtain rfl : f = 4 := Option.some.inj ((show Tryz.prog.funcNamed Rows.fnParsingRow.func = some 4 by kernel_rfl).symm.trans hf) |>.symm
   obtain rfl : fn = Tryz.f4 := (Option.some.inj (Tryz.func4.symm.trans hfn)).symm
   exact ⟨by kernel_rfl, fun j t ht => by
    rw [Tryz.params4] at ht
    have hm : t ∈ [22] := by simpa using Array.mem_of_getElem? ht
    have hall : ([22].all fun u => !Tryz.prog.wantsStandIn u) = true := by kernel_rfl
    exact (show Tryz.prog.wantsStandIn t = false by simpa using List.all_eq_true.1 hall t hm)⟩)
  (by kernel_rfl)
end fnParsing
#print axioms fnParsing.proved
end Go.Proofs.YtdccjobgfjoflaaGreatDoor
