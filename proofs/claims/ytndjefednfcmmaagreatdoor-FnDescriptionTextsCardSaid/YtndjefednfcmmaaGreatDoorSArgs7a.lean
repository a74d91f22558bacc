/- The model's l6Args at a choice. -/
import Derived.Test.YtndjefednfcmmaaGreatDoorSArgs
namespace Go.Proofs.YtndjefednfcmmaaGreatDoor
open Go Go.RowKit
set_option maxRecDepth 100000 in
set_option maxHeartbeats 16000000 in
theorem args_7a (a : Option Addr) (rs : List RuleV) (cap : Nat) (nm : ByteArray) (a1 : Option Addr) (ws : List ByteArray) (cap1 : Nat) (w : World) (hrl : rs.length ≤ 1048576) (hl0 : 0 < ws.length) (hl : ws.length ≤ 1048575) (hc1 : ws.length ≤ cap1) (hz : ∀ s ∈ ws, s.size ≤ 1048576) (hnz : nm.size ≤ 1048576) (hr : RdR a rs w) (h : RdS a1 ws w) (hcap : ¬ cap1 = 1) :
  Calls Tryz.prog 97 #[.agg #[.slice a rs.length cap], .agg #[.string nm, .int .i64 7, .int .i64 0, .bool false, .slice none 0 0, .slice none 0 0, .slice none 0 0, .slice none 0 0], .slice a1 ws.length cap1] w (ArgsOut rs nm 7 ws w) := by
 obtain ⟨w0, HW, HB, HSZ, HD, HI, HZ, HR, H⟩ := args_start a rs cap nm 7 hr h
 have HRL := Lib.hid hrl
 have HRW := Lib.hid hr
 have HXW := Lib.hid h
 have HS := Lib.hid hz
 have HC1 := Lib.hid hc1
 clear hr h hz hc1
 go_enter Tryz.func97, Tryz.ntmps97
 go_upto_region 3 with fail
 rw [← HW.out]
 clear HW
 obtain ⟨i1, -⟩ := HI.out 1 _ rfl
 obtain ⟨b0, off, rfl, hc0⟩ := H.out 0 hl0
 rw [Nat.add_zero] at hc0
 have k0 : (0 : Int) < (ws.length : Int) := by omega
 have k1 : (1 : Int) ≤ (ws.length : Int) := by omega
 have HQ1 : Hid (∀ o', (o' = off + 1 ∨ (ws.drop 1).length = 0) → RdS (some ⟨b0, o', none⟩) (ws.drop 1) w0) := fun o' ho => ho.elim (fun e => by subst e; exact rd_drop H.out 1) (fun ho j hj => by omega)
 have HS1 : Hid (∀ s ∈ ws.drop 1, s.size ≤ 1048576) := fun s hs => HS.out s (List.mem_of_mem_drop hs)
 have HE : Hid (ws = ws[0] :: ws.drop 1) := by show _ = _; conv => lhs; rw [← List.drop_zero (l := ws), List.drop_eq_getElem_cons hl0]
 have hlw : ws.length - 1 = (ws.drop 1).length := by simp
 obtain ⟨ws', hws'⟩ : ∃ q, q = ws.drop 1 := ⟨_, rfl⟩
 obtain ⟨x0, hx0⟩ : ∃ q, q = ws[0] := ⟨_, rfl⟩
 rw [← hws'] at HQ1 HS1 HE hlw
 rw [← hx0] at hc0 HE
 clear hws' hx0
 have HY0 : Hid (Want rs nm 7 ws fun y => (∀ s ∈ ws', cutK 58 s = true) ∧ ∃ ts ks, TagsW (ws'.map (cutA 58)) ts ∧ KidsW rs (x0 :: ws'.map (cutB 58)) ks ∧ y = ⟨nm, 7, 0, false, [], [], ts, ks⟩) := fun J y hr hy hf hn hk => want_choice hr hy (hf.trans HE.out) hn hk
 have hcc := HC1.out
 have HC0 := Lib.hid hc0
 have HLW := Lib.hid hlw
 have hl1 : ws'.length ≤ 1048575 := by omega
 clear hlw hc0
 go_wp2_with fail
 refine (pairs_n _ _ ws' _ _ HLW.out (by omega) HS1.out (HQ1.out _ (by have := HLW.out; omega))).mono ?_
 rintro e w1 ⟨va, vb, al, bs, ca, cb, is, rfl, hra, hrb, hb1, la, lb, za, zb, hall⟩
 have HY1 : Hid (Want rs nm 7 ws fun y => ∃ ts ks, TagsW al ts ∧ KidsW rs (x0 :: bs) ks ∧ y = ⟨nm, 7, 0, false, [], [], ts, ks⟩ ∧ is = true) := fun J y q1 q2 q3 q4 q5 => by obtain ⟨h1, ts, ks, h2, h3, h4⟩ := HY0.out J y q1 q2 q3 q4 q5; obtain ⟨rfl, rfl, rfl⟩ := hall h1; exact ⟨ts, ks, h2, h3, h4, rfl⟩
 have hbd : Below w1.heap.size w1 w1.drew := below_drewN (Below.refl _ _) 1
 have hb1d := hb1.trans (hbd.mono hb1.size)
 have hs1 : w0.heap.size ≤ w1.drew.heap.size := hb1d.size
 replace HI := Lib.hid (HI.out.below hb1d)
 replace HZ := Lib.hid (HZ.out.below hb1d)
 replace HD := Lib.hid (HD.out.below hb1d)
 replace HB := Lib.hid (HB.out.trans (hb1d.mono HB.out.size))
 have HZA := Lib.hid za
 have HRA := Lib.hid (hra.below hbd)
 have HRB := Lib.hid (hrb.below hbd)
 have c0 : w1.drew.cell? ⟨b0, off, none⟩ = some (.string x0) := (hb1d.cell (cell_lt HC0.out)).trans HC0.out
 obtain ⟨d0, -⟩ := HD.out 0 _ rfl
 clear hra hrb hb1 hb1d hbd za zb hall HY0 i1 HC0 HLW HQ1 HS1 HR H HE
 go_upto_region 19 with fail
 have HKN : Hid (∀ (n : Nat) (a9 : Option Addr) (ss : List ByteArray) (c9 : Nat) (W : World), n = ss.length → ss.length ≤ 1048576 → Below w.heap.size w W → RdS a9 ss W → Calls Tryz.prog 127 #[.agg #[.slice a rs.length cap], .slice a9 n c9] W (IntsWant ss.length (KidsW rs ss) W)) := fun n a9 ss c9 W hn hl hb h => by subst hn; exact kids_of_spec a rs cap a9 ss c9 W (by omega) hl (HRW.out.below hb) h
 have dA : (w1.alloc (.cells #[.string x0] 9)).cell? ⟨w.heap.size, 0, none⟩ = some (.slice a rs.length cap) := (HD.out.below ((Below.refl w1.drew.heap.size w1.drew).alloc (Nat.le_refl _) (.cells #[.string x0] 9)) 0 _ rfl).1
 go_region_law (first | (refine step_litF (f := Value.string) 51 9 (.string ⟨#[]⟩) 16 Tryz.underlying51 infoStr rfl (fun _ => rfl) (by rfl) (.tmp 91) (.tmp 92) (by rfl) x0 vb bs cb w1.drew (by simp [Act.eval]) (by simp [Act.eval]) HRB.out.rd HRB.out.2.2 (by unfold maxLen; omega) (by omega) ?_; intro a3 c3 w3 hrow hb; have HR3 := Lib.hid hrow; have HB3 := Lib.hid (HB.out.trans (hb.mono HB.out.size)); have HI3 := Lib.hid (HI.out.below hb); have HZ3 := Lib.hid (HZ.out.below hb); have HD3 := Lib.hid (HD.out.below hb); have HA3 := Lib.hid (HRA.out.below hb); have hs3 := hb.size; obtain ⟨d3, -⟩ := HD3.out 0 _ rfl; clear hrow hb) | (go_simp; go_at_call 127; refine (HKN.out _ a3 (x0 :: bs) c3 w3 (by simp) (by simp; omega) HB3.out HR3.out.rd).mono ?_; rintro e w4 ⟨a7, ks, c7, ok, rfl, hrow, hb, hlen, hw⟩; have HR4 := Lib.hid hrow; have HB4 := Lib.hid (HB3.out.trans (hb.mono HB3.out.size)); have HI4 := Lib.hid (HI3.out.below hb); have HZ4 := Lib.hid (HZ3.out.below hb); have HA4 := Lib.hid (HA3.out.below hb); have hs4 := hb.size; have HW4 := Lib.hid hw; have HLN := Lib.hid hlen; obtain ⟨i7, e7⟩ := HI4.out 7 _ rfl; clear hrow hb hw hlen))
 all_goals (
  obtain ⟨j7, f7⟩ := HI4.out 7 _ rfl
  obtain ⟨v5, hv5⟩ : ∃ v, v = w4.setCell ⟨w.heap.size + 1, 7, none⟩ (.slice a7 ks.length c7) := ⟨_, rfl⟩
  have HIv5 : Hid (CellsAt (w.heap.size + 1) (rc nm 7 0 false n0 n0 n0 (.slice a7 ks.length c7)) v5) := by subst hv5; exact HI4.out.set 7 (.slice a7 ks.length c7) (by simp)
  have HZv5 : Hid (CellsAt (w.heap.size + 2) zeroCs v5) := by subst hv5; exact HZ4.out.far (by omega)
  have HBv5 : Hid (Below w.heap.size w v5) := by subst hv5; exact HB4.out.setCell (p := ⟨w.heap.size + 1, 7, none⟩) (by show w.heap.size ≤ w.heap.size + 1; omega) _
  have HA5 : Hid (RowF Value.string w0.heap.size va al ca v5) := by subst hv5; exact HA4.out.setFar (by have := HSZ.out; omega)
  have HK5 : Hid (RowF (Value.int .i64) w0.heap.size a7 ks c7 v5) := by subst hv5; exact (HR4.out.more (by omega)).setFar (by have := HSZ.out; omega)
  have hs5 : w0.heap.size ≤ v5.heap.size := by subst hv5; simp; omega
  clear HI4 HZ4 HB4 HA4 HR4 HI3 HZ3 HD3 HA3 HB3 HR3 HI HZ HD HB HRA HRB d0 dA c0 d3 hs3 hs4 i7 e7
  go_upto_region 20 with fail
  rw [← hv5]
  clear hv5 j7 f7
  go_wp2_with fail
  refine (tags_of_spec va al ca _ (by omega) HZA.out HA5.out.rd).mono ?_
  rintro e w6 ⟨a6, ts, c6, may, rfl, hrow, hb6, hlen6, hw6⟩
  obtain ⟨b, hb⟩ : ∃ b, b = (ok && (is && may)) := ⟨_, rfl⟩
  have HY : Hid (Want rs nm 7 ws fun y => ⟨nm, 7, 0, false, [], [], ts, ks⟩ = y ∧ b = true) := fun J y q1 q2 q3 q4 q5 => by obtain ⟨ts', ks', h1, h2, h3, h4⟩ := HY1.out J y q1 q2 q3 q4 q5; obtain ⟨rfl, e1⟩ := HW4.out ks' h2; obtain ⟨rfl, e2⟩ := hw6 ts' h1; exact ⟨h3.symm, by rw [hb, e1, e2, h4]; rfl⟩
  have HBB := Lib.hid hb
  have hl7 : ks.length ≤ 1048576 := by have h9 := HLN.out; rw [List.length_cons] at h9; omega
  have hl6 : ts.length ≤ 1048576 := by omega
  have HH : Hid (HasRule w0.heap.size ⟨nm, 7, 0, false, [], [], ts, ks⟩ (rc nm 7 0 false n0 n0 (.slice a6 ts.length c6) (.slice a7 ks.length c7)) w6) := hasRule_of (row_nil _ _) (rowF_nil _ _) (hrow.more (by omega)) (HK5.out.below hb6)
  have HI6 := Lib.hid (HIv5.out.below hb6)
  have HB6 := Lib.hid (HBv5.out.trans (hb6.mono HBv5.out.size))
  have HZ6 := Lib.hid (HZv5.out.below hb6)
  clear hrow hb hb6 hw6 hlen6 HIv5 HZv5 HBv5 HA5 HK5 HY1 HW4 HLN hs5 HZA
  cases ok <;> cases is <;> cases may
  all_goals (
   obtain ⟨j6, f6⟩ := HI6.out 6 _ rfl
   obtain ⟨v9, hv9⟩ : ∃ v, v = w6.setCell ⟨w.heap.size + 1, 6, none⟩ (.slice a6 ts.length c6) := ⟨_, rfl⟩
   have HIv9 : Hid (CellsAt (w.heap.size + 1) (rc nm 7 0 false n0 n0 (.slice a6 ts.length c6) (.slice a7 ks.length c7)) v9) := by subst hv9; exact HI6.out.set 6 (.slice a6 ts.length c6) (by simp)
   have HZv9 : Hid (CellsAt (w.heap.size + 2) zeroCs v9) := by subst hv9; exact HZ6.out.far (by omega)
   have HBv9 : Hid (Below w.heap.size w v9) := by subst hv9; exact HB6.out.setCell (p := ⟨w.heap.size + 1, 6, none⟩) (by show w.heap.size ≤ w.heap.size + 1; omega) _
   have HH9 : Hid (HasRule w0.heap.size ⟨nm, 7, 0, false, [], [], ts, ks⟩ (rc nm 7 0 false n0 n0 (.slice a6 ts.length c6) (.slice a7 ks.length c7)) v9) := by subst hv9; exact HH.out.grown (grown_set (grown_refl _ _) _ _) (by have := HSZ.out; omega)
   go_upto_region 23 with fail
   rw [← hv9]
   clear hv9 j6 f6
   obtain ⟨i0, -⟩ := HIv9.out 0 _ rfl
   obtain ⟨i1, -⟩ := HIv9.out 1 _ rfl
   obtain ⟨i2, -⟩ := HIv9.out 2 _ rfl
   obtain ⟨i3, -⟩ := HIv9.out 3 _ rfl
   obtain ⟨i4, -⟩ := HIv9.out 4 _ rfl
   obtain ⟨i5, -⟩ := HIv9.out 5 _ rfl
   obtain ⟨i6, -⟩ := HIv9.out 6 _ rfl
   obtain ⟨i7, -⟩ := HIv9.out 7 _ rfl
   obtain ⟨z0, t0⟩ := HZv9.out 0 _ rfl
   obtain ⟨z1, t1⟩ := HZv9.out 1 _ rfl
   obtain ⟨z2, t2⟩ := HZv9.out 2 _ rfl
   obtain ⟨z3, t3⟩ := HZv9.out 3 _ rfl
   obtain ⟨z4, t4⟩ := HZv9.out 4 _ rfl
   obtain ⟨z5, t5⟩ := HZv9.out 5 _ rfl
   obtain ⟨z6, t6⟩ := HZv9.out 6 _ rfl
   obtain ⟨z7, t7⟩ := HZv9.out 7 _ rfl
   go_wp2
   (try simp only [Exit.inBlock, Exit.then])
   refine bodyPost_ret (v := .tuple #[.agg #[.string nm, .int .i64 7, .int .i64 0, .bool false, .slice none 0 0, .slice none 0 0, .slice a6 ts.length c6, .slice a7 ks.length c7], .bool b]) ?_ rfl ?_
   ·simp [results, Tryz.results97, go_sem, z0, z1, z2, z3, z4, z5, z6, z7, HBB.out]
   ·refine ⟨⟨nm, 7, 0, false, [], [], ts, ks⟩, _, _, rfl, HasRule.more (lo := w0.heap.size) ?_ (by have := HSZ.out; omega), ?_, short_of4 (by simp) (by simp) (by omega) (by omega), spelt_args hnz, HY.out⟩
    ·iterate 8 (refine HasRule.grown ?_ (grown_set (grown_refl _ _) _ _) (by have := HSZ.out; omega))
     exact HH9.out
    ·iterate 8 (refine Below.setCell ?_ (by show w.heap.size ≤ w.heap.size + 1 + 1; omega) _)
     exact HBv9.out))
end Go.Proofs.YtndjefednfcmmaaGreatDoor
