/- The contract of the program's markUsed. -/
import Derived.Test.YtefkhknfjohnaaaArr
import Derived.Test.YtefkhknfjohnaaaGDI
import Derived.Deep.CutRange
namespace Go.Proofs.Ytefkhknfjohnaaa
open Go Go.RowKit
theorem results_cell_mid {P : Program} {fn : Func} {p : Tmp} {ty : TypeId} (h : fn.results = #[.cell p ty]) (tmps : Array Value) (w : World) (b : Nat) (cs : List Value) (d : TypeDesc)
    (hp : tmps.getD p undef = .pointer (some ⟨b, 0, none⟩)) (hc : w.rangeAt b 0 cs) (hu : P.underlying ty = some d) (hd : d.isRow = true) (hi : (P.info? ty).map (·.size) = some cs.length) :
    (results fn tmps).run P w = .ok (.agg cs.toArray) w := by
  have hp' : tmps[p]?.getD undef = .pointer (some ⟨b, 0, none⟩) := by simpa using hp
  simp [results, h, hp', asAddr, run_loadVar_mid w b 0 ty cs d hc hu hd hi]
theorem Below.setCells {B b : Nat} {w0 : World} (hb : B ≤ b) : ∀ (vs : List Value) (o : Nat) (w : World), Below B w0 w → Below B w0 (w.setCells b o vs)
  | [], _, _, h => h
  | v :: vs, o, w, h => by
    rw [World.setCells]
    exact Below.setCells hb vs (o + 1) _ (h.setCell (p := ⟨b, o, none⟩) hb v)
theorem arrB_one (u : Nat → Bool) (n : Nat) : (arrB u n).toArray.all (·.oneCell') = true := all_oneCell_toArray fun v hv => by
  obtain ⟨i, _, rfl⟩ := List.mem_map.1 hv
  rfl
theorem CellsAt.there {b : Nat} {vs : List Value} {w : World} (h : CellsAt b vs w) : w.there b 0 vs.length := fun j hj => by
  have h1 := h j _ (List.getElem?_eq_getElem hj)
  rw [Nat.zero_add]
  exact ⟨by rw [h1.1]; rfl, h1.2⟩
set_option maxRecDepth 100000 in
set_option maxHeartbeats 8000000 in
theorem marku_impl (a : Option Addr) (rs : List RuleV) (cap m : Nat) (w : World) (hm : m < rs.length) (hn24 : rs.length ≤ 24) (hs : ∀ r ∈ rs, Short r) (hv : allV (kindI rs) rs) (h : RdR a rs w) :
    Calls Try.prog 89 #[.agg #[.slice a rs.length cap], .int .i64 (m : Int)] w fun e w' => e = .returned (.agg (arrB (usedBy rs m) 24).toArray) ∧ Below w.heap.size w w' := by
  have zB : arrB (fun _ => false) 24 = [.bool false, .bool false, .bool false, .bool false, .bool false, .bool false, .bool false, .bool false, .bool false, .bool false, .bool false, .bool false, .bool false, .bool false, .bool false, .bool false, .bool false, .bool false, .bool false, .bool false, .bool false, .bool false, .bool false, .bool false] := rfl
  obtain ⟨w1, hw1⟩ : ∃ w1, w1 = (w.alloc (.cells #[.slice a rs.length cap] 38)).alloc (.cells (arrB (fun _ => false) 24).toArray 109) := ⟨_, rfl⟩
  have hB1 : Below w.heap.size w w1 := by subst hw1; exact ((Below.refl _ _).alloc (Nat.le_refl _) _).alloc (by simp) _
  have hX1 : CellsAt w.heap.size [.slice a rs.length cap] w1 := by subst hw1; exact (CellsAt.new w _ _).below ((Below.refl _ _).alloc (Nat.le_refl _) _)
  have hz1 : w1.heap.size = w.heap.size + 2 := by subst hw1; simp
  have hR1 : CellsAt (w.heap.size + 1) (arrB (fun _ => false) 24) w1 := by subst hw1; have h1 := CellsAt.new (w.alloc (.cells #[.slice a rs.length cap] 38)) (arrB (fun _ => false) 24) 109; rw [World.size_alloc] at h1; exact h1
  obtain ⟨w2, hw2⟩ : ∃ w2, w2 = w1.alloc (.cells (arrB (fun _ => false) 24).toArray 109) := ⟨_, rfl⟩
  have hb2 : Below w1.heap.size w1 w2 := by subst hw2; exact (Below.refl _ _).alloc (Nat.le_refl _) _
  have hU2 : CellsAt w1.heap.size (arrB (fun _ => false) 24) w2 := by subst hw2; exact CellsAt.new w1 _ _
  have hs2 : w1.heap.size < w2.heap.size := by subst hw2; rw [World.size_alloc]; omega
  have m24 : m < 24 := by omega
  have u0 := (hU2 m _ (arrB_at _ m24)).1
  have u1 := (hU2 m _ (arrB_at _ m24)).2
  have HX := Lib.hid hX1
  have HR := Lib.hid hR1
  have HB := Lib.hid hB1
  have HZ := Lib.hid hz1
  have HC := Lib.hid (h.below hB1)
  have HS := Lib.hid hs
  have HV := Lib.hid hv
  have HU := Lib.hid hU2
  have HB2 := Lib.hid hb2
  have HS2 := Lib.hid hs2
  rw [zB] at hw1 hw2
  have hW1 := Lib.hid hw1
  have hW2 := Lib.hid hw2
  clear h hB1 hX1 hz1 hR1 hb2 hU2 hs2 hs hv hw1 hw2 zB
  have m0 : (0 : Int) ≤ (m : Int) := by omega
  have m1 : (m : Int) < 24 := by omega
  go_enter Try.func89, Try.ntmps89
  go_upto_region 1 with fail
  rw [← hW1.out]
  clear hW1
  go_upto_region 2 with fail
  rw [← hW2.out]
  clear hW2
  obtain ⟨U, hU⟩ : ∃ U, U = w1.heap.size := ⟨_, rfl⟩
  rw [← hU] at HU u0 u1 HS2 HB2 HZ ⊢
  have HUE := Lib.hid hU
  clear hU
  go_upto_region 3 with fail
  obtain ⟨w3, hw3⟩ : ∃ w3, w3 = w2.setCell ⟨U, m, none⟩ (.bool true) := ⟨_, rfl⟩
  have HU3 : Hid (CellsAt U (arrB (mark1 m) 24) w3) := by
    have h1 := HU.out.set m (.bool true) (by rw [arrB_length]; exact m24)
    rw [arrB_set] at h1
    subst hw3
    have e : (fun i => if i = m then true else (fun _ => false) i) = mark1 m := by funext i; unfold mark1; by_cases c : i = m <;> simp [c]
    rw [e] at h1
    exact h1
  have HB3 : Hid (Below U w1 w3) := by subst hw3; exact HB2.out.setCell (p := ⟨U, m, none⟩) (Nat.le_refl _) _
  have HS3 : Hid (U < w3.heap.size) := by subst hw3; show _ < _; simp; exact HS2.out
  rw [← hw3]
  clear hw3 u0 u1 HU HS2 HB2
  go_wp2
  go_loopw [6] (fun i W => ∃ (n : Nat) (u : Nat → Bool), n ≤ m + 1 ∧ i = .int .i64 ((n : Int) - 1) ∧ Hid (down rs n u = usedBy rs m) ∧ Hid (CellsAt U (arrB u 24) W) ∧ Hid (Below U w1 W) ∧ Hid (U < W.heap.size)) (fun i _ => (intOf i + 1).toNat)
  case atStart => exact ⟨m + 1, mark1 m, Nat.le_refl _, by congr 1; omega, rfl, HU3, HB3, HS3⟩
  case round =>
    obtain ⟨n, u, hnm, rfl, hd, hu, hbw, hsw⟩ := hrel
    have hbw1 : Hid (Below w1.heap.size w1 wr) := by show _; rw [← HUE.out]; exact hbw.out
    cases n with
    | succ j =>
      have ej : (((j + 1 : Nat) : Int) - 1) = (j : Int) := by omega
      rw [ej]
      have j0 : (0 : Int) ≤ (j : Int) := by omega
      have hjr : j < rs.length := by omega
      have hj24 : j < 24 := by omega
      have j1 : (j : Int) < (rs.length : Int) := by omega
      have j2 : (j : Int) < 24 := by omega
      have hdn := Lib.hid (down_next (u := u) hjr)
      have HKD := Lib.hid (allV_kids HV.out hjr)
      have hsh : rs[j].kids.length ≤ 1048576 := (HS.out _ (List.getElem_mem hjr)).2.2.2
      obtain ⟨b0, off, a4, c4, a5, c5, a6, c6, a7, c7, rfl, ⟨d0, d1, d2, d3, d4, d5, d6, d7⟩, r4, r5, r6, r7⟩ := HC.out.at j hjr
      obtain ⟨r, hrr⟩ : ∃ r, r = rs[j] := ⟨_, rfl⟩
      rw [← hrr] at d7 r7 HKD hdn hsh
      clear hrr d0 d1 d2 d3 d4 d5 d6 r4 r5 r6 ej
      have bx := (HX.out.below hbw1.out 0 _ rfl).1
      have d7w := cell_keep hbw1.out d7
      have uj := (hu.out j _ (arrB_at _ hj24)).1
      cases hcu : u j with
      | false =>
        rw [hcu] at uj hdn
        have hd2 : Hid (down rs j u = usedBy rs m) := by show _ = _; rw [← hd.out, hdn.out, if_neg (by simp)]
        clear hdn HKD r7 hcu
        go_wp2
        go_roundw
        case rel => exact ⟨j, u, by omega, by go_num, hd2, hu, hbw, hsw⟩
        case measure => simp [intOf] <;> omega
      | true =>
        rw [hcu] at uj
        rw [hcu, if_pos rfl] at hdn
        have HR7 := Lib.hid r7
        clear r7 hcu
        go_wp2
        go_loopw [8, 27] (fun _ q W => ∃ l : Nat, l ≤ r.kids.length ∧ q = .int .i64 l ∧ Hid (CellsAt U (arrB (markK u (r.kids.take l)) 24) W) ∧ Hid (Below U w1 W) ∧ Hid (U < W.heap.size)) (fun _ q _ => r.kids.length - (intOf q).toNat)
        case atStart => exact ⟨0, Nat.zero_le _, rfl, by show CellsAt _ _ _; rw [List.take_zero, markK_nil]; exact hu.out, hbw, hsw⟩
        case round =>
          obtain ⟨l, hll, rfl, hul, hbl, hsl⟩ := hrel
          have l0 : (0 : Int) ≤ (l : Int) := by omega
          have hbl1 : Hid (Below w1.heap.size w1 wr) := by show _; rw [← HUE.out]; exact hbl.out
          by_cases hlt : l < r.kids.length
          · have l1 : (l : Int) < (r.kids.length : Int) := by omega
            obtain ⟨q, hq, hqj⟩ := kid_nat HKD.out (j := l) hlt
            have hq24 : q < 24 := by omega
            have hnx := Lib.hid (markK_next u hlt hq)
            obtain ⟨b7, o7, ha7, hc7⟩ := HR7.out.cellAt (j := l) hlt
            subst ha7
            rw [hq] at hc7
            have hc7l := cell_keep hbl1.out hc7
            have q0 : (0 : Int) ≤ (q : Int) := by omega
            have q1 : (q : Int) < 24 := by omega
            have s0 := (hul.out q _ (arrB_at _ hq24)).1
            have s1 := (hul.out q _ (arrB_at _ hq24)).2
            have hset : Hid (CellsAt U (arrB (markK u (r.kids.take (l + 1))) 24) (wr.setCell ⟨U, q, none⟩ (.bool true))) := by
              have h1 := hul.out.set q (.bool true) (by rw [arrB_length]; exact hq24)
              rw [arrB_set] at h1
              show CellsAt _ _ _
              rw [hnx.out]
              exact h1
            have hbs : Hid (Below U w1 (wr.setCell ⟨U, q, none⟩ (.bool true))) := hbl.out.setCell (p := ⟨U, q, none⟩) (Nat.le_refl _) _
            have hss : Hid (U < (wr.setCell ⟨U, q, none⟩ (.bool true)).heap.size) := by show _ < _; simp; exact hsl.out
            clear hq hc7 hnx
            go_wp2
            go_roundw
            case rel => exact ⟨l + 1, by omega, by go_num, hset, hbs, hss⟩
            case measure => simp [intOf]; omega
          · have l1 : ¬ (l : Int) < (r.kids.length : Int) := by omega
            have hd2 : Hid (down rs j (markK u r.kids) = usedBy rs m) := by show _ = _; rw [← hd.out, hdn.out]
            have hu2 : Hid (CellsAt U (arrB (markK u r.kids) 24) wr) := by have := hul.out; rw [List.take_of_length_le (by omega)] at this; exact this
            go_wp2
            go_roundw
            case rel => exact ⟨j, markK u r.kids, by omega, by go_num, hd2, hu2, hbl, hsl⟩
            case measure => simp [intOf] <;> omega
    | zero =>
      have ez : (((0 : Nat) : Int) - 1) = -1 := by omega
      rw [ez]
      have huu : Hid (u = usedBy rs m) := hd.out
      have HRT : Hid (CellsAt (w.heap.size + 1) (arrB (fun _ => false) 24) wr) := HR.out.below hbw1.out
      have hth : wr.there (w.heap.size + 1) 0 24 := by have := HRT.out.there; rw [arrB_length] at this; exact this
      have HBF : Hid (Below w.heap.size w (wr.setCells (w.heap.size + 1) 0 (arrB u 24))) := Below.setCells (by omega) _ _ _ (HB.out.trans (hbw1.out.mono HB.out.size))
      have hfin : Hid ((wr.setCells (w.heap.size + 1) 0 (arrB u 24)).rangeAt (w.heap.size + 1) 0 (arrB u 24)) := World.rangeAt_setCells_same _ _ _ _ (by rw [arrB_length]; exact hth)
      have hst : wr.there (w.heap.size + 1) 0 (arrB u 24).toArray.size := by show wr.there _ 0 (arrB u 24).length; rw [arrB_length]; exact hth
      have hsi : (Try.prog.info? 109).map (·.size) = some (arrB u 24).toArray.size := infoB24 u
      clear hd hbw hbw1 ez hsw
      go_upto_region 12 with fail
      go_wp2_with (first | (refine wpList_load_mid rfl 109 (.tmp 5) rfl U 0 rfl (arrB u 24) _ hu.out.range Try.underlying109 rfl (infoB24 u) ?_) | (refine wpList_store_mid rfl 109 (.tmp 4) (.tmp 34) rfl (w.heap.size + 1) 0 (arrB u 24).toArray rfl rfl hst hsi (arrB_one u 24) ?_))
      (try simp only [Exit.inBlock, Exit.then])
      refine bodyPost_ret (v := .agg (arrB u 24).toArray) ?_ rfl ?_
      · exact results_cell_mid (p := 4) (ty := 109) rfl _ _ (w.heap.size + 1) (arrB u 24) _ rfl hfin.out Try.underlying109 rfl (infoB24 u)
      · exact ⟨by rw [huu.out], HBF.out⟩
end Go.Proofs.Ytefkhknfjohnaaa
