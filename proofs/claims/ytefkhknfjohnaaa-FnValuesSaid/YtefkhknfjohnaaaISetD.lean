/- The contracts of the program's defaultKids, setDefault and DefaultValue. -/
import Derived.Test.YtefkhknfjohnaaaSetDP
import Derived.Test.YtefkhknfjohnaaaGD
import Derived.Test.YtefkhknfjohnaaaGX
import Derived.Deep.RegionHeld3
import Derived.Deep.CutRange
namespace Go.Proofs.Ytefkhknfjohnaaa
open Go Go.RowKit
set_option maxRecDepth 100000 in
set_option maxHeartbeats 4000000 in
theorem dkids_impl (wb : World) (rs : List RuleV) (r : RuleV) (cs : List Value) (w : World) (hki : kindI rs r = true) (hcp : Cap7 cs) (h : IsRule r cs wb) :
    Calls Try.prog 72 #[.agg cs.toArray] w fun e w' => (∃ ak ck, e = .returned (.slice ak (defKids r).length ck) ∧ RdI ak (defKids r) wb) ∧ Below w.heap.size w w' := by
  obtain ⟨a4, c4, a5, c5, a6, c6, a7, c7, rfl, -, -, -, h7⟩ := h
  obtain ⟨w0, hw0⟩ : ∃ w0, w0 = w.alloc (.cells #[.string r.name, .int .i64 r.kind, .int .i64 r.size, .bool r.little, .slice a4 r.bytes.length c4, .slice a5 r.names.length c5, .slice a6 r.tags.length c6, .slice a7 r.kids.length c7] 76) := ⟨_, rfl⟩
  have hB : Below w.heap.size w w0 := by subst hw0; exact (Below.refl _ _).alloc (Nat.le_refl _) _
  have hC : CellsAt w.heap.size [.string r.name, .int .i64 r.kind, .int .i64 r.size, .bool r.little, .slice a4 r.bytes.length c4, .slice a5 r.names.length c5, .slice a6 r.tags.length c6, .slice a7 r.kids.length c7] w0 := by subst hw0; exact CellsAt.new w _ _
  have hcap : r.kids.length ≤ c7 := hcp _ _ _ rfl
  have H7 := Lib.hid h7
  have HB := Lib.hid hB
  have HW := Lib.hid hw0
  have y1 := (hC 1 _ rfl).1
  have y7 := (hC 7 _ rfl).1
  have hkn := kindI_known hki
  by_cases h6 : r.kind = 6 ∨ r.kind = 9
  · have hd : defKids r = r.kids := by unfold defKids; rw [if_pos h6]
    have HH : Hid (RdI a7 (defKids r) wb) := by show RdI _ _ _; rw [hd]; exact h7
    have HL : Hid ((defKids r).length = r.kids.length) := by show _ = _; rw [hd]
    rw [HL.out]
    have H6 := Lib.hid h6
    clear hB hC hw0 h7 hki hcp hcap hkn h6 hd
    rcases H6.out with h6 | h6
    all_goals
      rw [h6] at y1
      clear h6
      go_enter Try.func72, Try.ntmps72
      go_upto_region 1 with fail
      rw [← HW.out]
      clear HW
      go_wp2
      go_ret
      exact ⟨⟨_, _, rfl, HH.out⟩, HB.out⟩
  · by_cases h7k : r.kind = 7
    · have h2 := kindI_7 hki h7k
      have hd : defKids r = [r.kids.getD 1 0] := by unfold defKids; rw [if_neg h6, if_pos h7k]
      have hl2 : 1 < r.kids.length := by omega
      obtain ⟨b7, o7, rfl, hc7⟩ := h7.cellAt (j := 1) hl2
      have HH : Hid (RdI (some ⟨b7, o7 + 1, none⟩) (defKids r) wb) := by
        show RdI _ _ _
        rw [hd]
        intro j hj
        have h0 : j = 0 := by simpa using hj
        subst h0
        refine ⟨b7, o7 + 1, rfl, ?_⟩
        rw [Nat.add_zero]
        simp [List.getD, List.getElem?_eq_getElem hl2]
        exact hc7
      have HL : Hid ((defKids r).length = 1) := by show _ = _; rw [hd]; rfl
      rw [HL.out]
      obtain ⟨C, rfl⟩ : ∃ C, c7 = C + 2 := ⟨c7 - 2, by omega⟩
      rw [h7k] at y1
      have hcc : (2 : Int) ≤ ((C + 2 : Nat) : Int) := by omega
      have hne : ¬ 1 = C + 2 := by omega
      have hne2 : ¬ C + 1 = 0 := by omega
      clear hB hC hw0 hki hcp hcap hkn h6 hd h7 hc7 hl2 h2 h7k
      go_enter Try.func72, Try.ntmps72
      go_upto_region 1 with fail
      rw [← HW.out]
      clear HW
      go_wp2
      go_ret
      exact ⟨⟨_, _, rfl, HH.out⟩, HB.out⟩
    · have hd : defKids r = [] := by unfold defKids; rw [if_neg h6, if_neg h7k]
      have HH : Hid (RdI none (defKids r) wb) := by show RdI _ _ _; rw [hd]; exact fun j hj => by simp at hj
      have HL : Hid ((defKids r).length = 0) := by show _ = _; rw [hd]; rfl
      rw [HL.out]
      have e6 : (r.kind == 6) = false := by simp; omega
      have e9 : (r.kind == 9) = false := by simp; omega
      have e7 : (r.kind == 7) = false := by simp; omega
      clear hB hC hw0 h7 hki hcp hcap hkn h6 hd h7k y7
      go_enter Try.func72, Try.ntmps72
      go_upto_region 1 with fail
      rw [← HW.out]
      clear HW
      go_wp2
      go_ret
      exact ⟨⟨_, _, rfl, HH.out⟩, HB.out⟩
/-- What setDefault promises of rules of a height. -/
def SetDC (wb : World) (a : Option Addr) (rs : List RuleV) (cap n : Nat) : Prop :=
  ∀ (k Z o : Nat) (w : World), k < rs.length → k < n → Below wb.heap.size wb w → wb.heap.size ≤ Z → PlacedAt Z o zeroVal w →
    Calls Try.prog 49 #[.agg #[.slice a rs.length cap], .int .i64 (k : Int), .pointer (some ⟨Z, o, none⟩)] w (DefAt Z o n (defV rs n (k : Int)) w)
set_option maxRecDepth 100000 in
set_option maxHeartbeats 16000000 in
theorem setd_step (wb : World) (a : Option Addr) (rs : List RuleV) (cap n : Nat) (_hl : rs.length ≤ 1048576) (hall : allV (kindI rs) rs) (hrd : RdK a rs wb) (ih : SetDC wb a rs cap n) : SetDC wb a rs cap (n + 1) := by
  intro k Z o w hk hkn' hb hZ hz
  have hZl := hz.lt (by simp [zeroVal])
  obtain ⟨b0, off, cs0, hab, hir, h5, hcp, hcc⟩ := hrd k hk
  obtain ⟨a4, c4, a5, c5, a6, c6, a7, c7, rfl, r4, r5, r6, r7⟩ := hir
  subst hab
  have d0 := hcc 0 _ rfl
  have d1 := hcc 1 _ rfl
  have d2 := hcc 2 _ rfl
  have d3 := hcc 3 _ rfl
  have d4 := hcc 4 _ rfl
  have d5 := hcc 5 _ rfl
  have d6 := hcc 6 _ rfl
  have d7 := hcc 7 _ rfl
  simp only [Nat.add_zero] at d0
  have HKI := Lib.hid (allV_kind hall hk)
  have HVE : Hid (defV rs (n + 1) (k : Int) = .mk (defNum rs[k]) (defBytes rs[k]) ((defKids rs[k]).map (defV rs n))) := defV_eq rs n hk
  have HKD : Hid (∀ x ∈ defKids rs[k], ∃ m : Nat, x = (m : Int) ∧ m < rs.length ∧ m < n) := fun x hx => by have h1 := allV_kids hall hk x (defKids_mem (allV_kind hall hk) x hx); exact ⟨x.toNat, by omega, by omega, by omega⟩
  obtain ⟨r, hr⟩ : ∃ r, r = rs[k] := ⟨_, rfl⟩
  rw [← hr] at d0 d1 d2 d3 d4 d5 d6 d7 r4 r5 r6 r7 HKI HVE HKD hcp
  clear hr hcc h5
  have HIS : Hid (IsRule r [.string r.name, .int .i64 r.kind, .int .i64 r.size, .bool r.little, .slice a4 r.bytes.length c4, .slice a5 r.names.length c5, .slice a6 r.tags.length c6, .slice a7 r.kids.length c7] wb) := ⟨a4, c4, a5, c5, a6, c6, a7, c7, rfl, r4, r5, r6, r7⟩
  have HCP : Hid (Cap7 [.string r.name, .int .i64 r.kind, .int .i64 r.size, .bool r.little, .slice a4 r.bytes.length c4, .slice a5 r.names.length c5, .slice a6 r.tags.length c6, .slice a7 r.kids.length c7]) := hcp
  obtain ⟨w0, hw0⟩ : ∃ w0, w0 = w.alloc (.cells #[.slice (some ⟨b0, off, none⟩) rs.length cap] 38) := ⟨_, rfl⟩
  have hB0 : Below w.heap.size w w0 := by subst hw0; exact (Below.refl _ _).alloc (Nat.le_refl _) _
  have hD : CellsAt w.heap.size [.slice (some ⟨b0, off, none⟩) rs.length cap] w0 := by subst hw0; exact CellsAt.new w _ _
  have hs0 : w0.heap.size = w.heap.size + 1 := by subst hw0; simp
  obtain ⟨N, hN⟩ : ∃ N, N = w0.heap.size := ⟨_, rfl⟩
  have HNE : Hid (N = w.heap.size + 1) := by show _ = _; omega
  have HN0 := Lib.hid hN
  obtain ⟨w1, hw1⟩ : ∃ w1, w1 = w0.alloc (.cells #[.string r.name, .int .i64 r.kind, .int .i64 r.size, .bool r.little, .slice a4 r.bytes.length c4, .slice a5 r.names.length c5, .slice a6 r.tags.length c6, .slice a7 r.kids.length c7] 76) := ⟨_, rfl⟩
  have hB1 : Below w0.heap.size w0 w1 := by subst hw1; exact (Below.refl _ _).alloc (Nat.le_refl _) _
  have hC : CellsAt N [.string r.name, .int .i64 r.kind, .int .i64 r.size, .bool r.little, .slice a4 r.bytes.length c4, .slice a5 r.names.length c5, .slice a6 r.tags.length c6, .slice a7 r.kids.length c7] w1 := by subst hw1; rw [hN]; exact CellsAt.new w0 _ _
  have hs1 : w1.heap.size = w.heap.size + 2 := by subst hw1; simp [hs0]
  have hBw : Below w.heap.size w w1 := hB0.trans (hB1.mono hB0.size)
  have bx := (hD 0 _ rfl).1
  have e0 := cellK (hb.trans (hB0.mono hb.size)) (Nat.le_refl _) d0
  have e1 := cellK (hb.trans (hB0.mono hb.size)) (Nat.le_refl _) d1
  have e2 := cellK (hb.trans (hB0.mono hb.size)) (Nat.le_refl _) d2
  have e3 := cellK (hb.trans (hB0.mono hb.size)) (Nat.le_refl _) d3
  have e4 := cellK (hb.trans (hB0.mono hb.size)) (Nat.le_refl _) d4
  have e5 := cellK (hb.trans (hB0.mono hb.size)) (Nat.le_refl _) d5
  have e6 := cellK (hb.trans (hB0.mono hb.size)) (Nat.le_refl _) d6
  have e7 := cellK (hb.trans (hB0.mono hb.size)) (Nat.le_refl _) d7
  have k0 : (0 : Int) ≤ (k : Int) := by omega
  have k1 : (k : Int) < (rs.length : Int) := by omega
  have HB := Lib.hid hb
  have HDW := Lib.hid (hD.below hB1)
  have HCW := Lib.hid hC
  have HZ1 := Lib.hid (hz.below hBw)
  have HT1 : Hid (Turn (InV Z o) w w1) := Turn.of_below _ hBw
  have HBW1 := Lib.hid hBw
  have HS1 := Lib.hid hs1
  have HZL := Lib.hid hZl
  have HZB := Lib.hid hZ
  have HIH := Lib.hid ih
  have HW0 := Lib.hid hw0
  have HW1 := Lib.hid hw1
  have HR6 := Lib.hid r6
  clear hb hz hZ hZl hrd ih hall hB0 hB1 hBw hD hC hs0 hs1 hN hw0 hw1 r4 r5 r6 r7 d0 d1 d2 d3 d4 d5 d6 d7 hcp hkn'
  go_enter Try.func49, Try.ntmps49
  go_upto_region 1 with fail
  rw [← HW0.out]
  clear HW0
  go_upto_region 2 with fail
  rw [← HW1.out, ← HN0.out]
  clear HW1 HN0 bx e0 e1 e2 e3 e4 e5 e6 e7
  have y1 := (HCW.out 1 _ rfl).1
  by_cases h3 : r.kind = 3
  · have h3s := kindI_3 HKI.out h3
    obtain ⟨sz, hsz⟩ : ∃ sz : Nat, r.size = (sz : Int) := ⟨r.size.toNat, by omega⟩
    have HX : Hid ((0 : Int) = defNum r) := by show _ = _; unfold defNum; rw [if_neg (by omega)]
    have HBS : Hid (List.replicate sz (0 : UInt8) = defBytes r) := by show _ = _; unfold defBytes; rw [if_pos h3, hsz, Int.toNat_natCast]
    have y2 := (HCW.out 2 _ rfl).1
    rw [hsz] at y2
    rw [h3] at y1
    have hsz6 : sz ≤ 64 := by omega
    have s0 : (0 : Int) ≤ (sz : Int) := by omega
    obtain ⟨M, hM⟩ : ∃ M, M = w1.heap.size := ⟨_, rfl⟩
    obtain ⟨w2, hw2⟩ : ∃ w2, w2 = w1.alloc (.cells (madeCells #[.int .u8 0] sz) 5) := ⟨_, rfl⟩
    have hb2 : Below w1.heap.size w1 w2 := by subst hw2; exact (Below.refl _ _).alloc (Nat.le_refl _) _
    have hmk := make_bytesD sz (by omega) w1
    rw [← hw2, ← hM] at hmk
    obtain ⟨b1, hby, hnd, hbm⟩ := made_byt sz w1
    rw [← hw2, ← hM] at hby
    rw [← hM] at hbm
    have hz2 := HZ1.out.below hb2
    obtain ⟨X, hX⟩ : ∃ X, X = w2.setCell ⟨Z, o + 1, none⟩ (.slice (some ⟨M, 0, none⟩) sz sz) := ⟨_, rfl⟩
    have hTX : Turn (fun j i => j = Z ∧ i = o + 1) w2 X := by subst hX; exact Turn.set ⟨rfl, rfl⟩
    obtain ⟨bs, hbs⟩ : ∃ bs, bs = List.replicate sz (0 : UInt8) := ⟨_, rfl⟩
    have hbl : bs.length = sz := by rw [hbs]; simp
    rw [← hbs] at HBS hby
    obtain ⟨x, hx⟩ : ∃ x : Int, x = 0 := ⟨_, rfl⟩
    rw [← hx] at HX
    obtain ⟨ab, hab⟩ : ∃ ab : Option Addr, ab = some ⟨M, 0, none⟩ := ⟨_, rfl⟩
    obtain ⟨cb, hcb⟩ : ∃ cb, cb = sz := ⟨_, rfl⟩
    have HPL : Hid (PlacedAt Z o [.int .i64 x, .slice ab bs.length cb, .slice none 0 0] X) := by subst hX; rw [hx, hab, hbl, hcb]; have h1 := hz2.set 1 (.slice (some ⟨M, 0, none⟩) sz sz) (by simp [zeroVal]); exact h1
    have HZM : Hid (Z ≠ M) := by show _ ≠ _; have := HZL.out; have := HS1.out; omega
    have HB1 : Hid (BytT b1 ab bs X) := by subst hX; rw [hab]; exact hby.keep (Only.set (bl := [Z]) (by simp)) fun b hb h => HZM.out (by have h1 := hbm b hb; have h2 : b = Z := (by simpa using h); omega)
    have HND := Lib.hid hnd
    have HBZ : Hid (∀ b ∈ b1, w.heap.size + 2 ≤ b) := fun b hb => by have := hbm b hb; have := HS1.out; omega
    have HCAP : Hid (bs.length ≤ cb ∧ (ab = none → cb = 0)) := ⟨by omega, fun h => by rw [hab] at h; cases h⟩
    have HDX : Hid (CellsAt w.heap.size [.slice (some ⟨b0, off, none⟩) rs.length cap] X) := (HDW.out.below hb2).turn hTX fun i _ h => by have := h.1; have := HZL.out; omega
    have HCX : Hid (CellsAt N [.string r.name, .int .i64 r.kind, .int .i64 r.size, .bool r.little, .slice a4 r.bytes.length c4, .slice a5 r.names.length c5, .slice a6 r.tags.length c6, .slice a7 r.kids.length c7] X) := (HCW.out.below hb2).turn hTX fun i _ h => by have := h.1; have := HZL.out; have := HNE.out; omega
    have HTX : Hid (Turn (InV Z o) w X) := (HT1.out.trans (Turn.of_below (InV Z o) hb2) fun _ _ _ h => h).trans hTX fun j i _ h => ⟨h.1, by omega, by omega⟩
    have HSX : Hid (w1.heap.size ≤ X.heap.size) := Nat.le_trans hb2.size hTX.size
    obtain ⟨z1, f1⟩ : w2.cell? ⟨Z, o + 1, none⟩ = some (.slice none 0 0) ∧ w2.frozen? ⟨Z, o + 1, none⟩ = false := hz2 1 _ rfl
    have HXW := Lib.hid hX
    clear hX hTX hz2 hby hnd hbm hb2 hw2 hM hbs hbl hx hab hcb h3 h3s hsz
    go_upto_region 7 with fail
    rw [← HXW.out]
    clear HXW z1 f1 hmk y1 y2 HZ1 HDW HCW HT1
    have HBX : Hid (Below wb.heap.size wb X) := Turn.below HB.out HTX.out HB.out.size fun j i h => by have := h.1; have := HZB.out; omega
    have HXS : Hid (w.heap.size + 2 ≤ X.heap.size) := by show _ ≤ _; have := HSX.out; have := HS1.out; omega
    have y0 := (HCX.out 0 _ rfl).1
    have y1 := (HCX.out 1 _ rfl).1
    have y2 := (HCX.out 2 _ rfl).1
    have y3 := (HCX.out 3 _ rfl).1
    have y4 := (HCX.out 4 _ rfl).1
    have y5 := (HCX.out 5 _ rfl).1
    have y6 := (HCX.out 6 _ rfl).1
    have y7 := (HCX.out 7 _ rfl).1
    go_wp2_with fail
    refine (dkids_impl wb rs r _ X HKI.out HCP.out HIS.out).mono ?_
    rintro e w4 ⟨⟨ak, ck, rfl, hak⟩, hb4⟩
    have HAK := Lib.hid hak
    have HPL4 := Lib.hid (HPL.out.below hb4)
    have HB14 := Lib.hid (HB1.out.keep (Only.of_below [] hb4) fun _ _ e => by cases e)
    have HD4 := Lib.hid (HDX.out.below hb4)
    have HC4 := Lib.hid (HCX.out.below hb4)
    have HT4 : Hid (Turn (InV Z o) w w4) := HTX.out.trans (Turn.of_below (InV Z o) hb4) fun _ _ _ h => h
    have HS4 : Hid (X.heap.size ≤ w4.heap.size) := hb4.size
    have HBL4 := Lib.hid HB1.out.lt
    clear hak hb4 y0 y1 y2 y3 y4 y5 y6 y7 HPL HB1 HDX HCX HTX HBX HSX
    have hdl := defKids_len HKI.out
    obtain ⟨ks, hks⟩ : ∃ ks, ks = defKids r := ⟨_, rfl⟩
    rw [← hks] at HAK HKD HVE hdl ⊢
    clear hks
    obtain ⟨cnt, hcnt⟩ : ∃ cnt, cnt = ks.length := ⟨_, rfl⟩
    rw [← hcnt] at hdl ⊢
    have HCN := Lib.hid hcnt
    clear hcnt
    obtain ⟨G, hG⟩ : ∃ G, G = w4.heap.size := ⟨_, rfl⟩
    obtain ⟨w5, hw5⟩ : ∃ w5, w5 = w4.alloc (.cells (madeCells #[.int .i64 0, .slice none 0 0, .slice none 0 0] (cnt * 3)) 47) := ⟨_, rfl⟩
    have hb5 : Below w4.heap.size w4 w5 := by subst hw5; exact (Below.refl _ _).alloc (Nat.le_refl _) _
    have hs5 : w5.heap.size = G + 1 := by subst hw5; simp [hG]
    have hz5 : ∀ j, j < cnt → PlacedAt G (j * 3) zeroVal w5 := by subst hw5; rw [hG]; exact made_zeroD cnt _ w4
    have hmk2 := make_vals cnt (by omega) w4
    rw [← hw5, ← hG] at hmk2
    have hpl5 := HPL4.out.below hb5
    obtain ⟨w6, hw6⟩ : ∃ w6, w6 = w5.setCell ⟨Z, o + 2, none⟩ (.slice (some ⟨G, 0, none⟩) cnt cnt) := ⟨_, rfl⟩
    have hT6 : Turn (fun j i => j = Z ∧ i = o + 2) w5 w6 := by subst hw6; exact Turn.set ⟨rfl, rfl⟩
    have hs6 : w6.heap.size = G + 1 := by subst hw6; simp [hs5]
    have HGZ : Hid (Z < G) := by show _ < _; have h1 := HZL.out; have h2 := HXS.out; have h3 := HS4.out; omega
    have HPL6 : Hid (PlacedAt Z o [.int .i64 x, .slice ab bs.length cb, .slice (some ⟨G, 0, none⟩) cnt cnt] w6) := by subst hw6; have h1 := hpl5.set 2 (.slice (some ⟨G, 0, none⟩) cnt cnt) (by simp); exact h1
    have HZ6 : Hid (∀ j, 0 ≤ j → j < cnt → PlacedAt G (j * 3) zeroVal w6) := fun j _ hj => (hz5 j hj).kept hT6 fun i _ h => by have := h.1; have := HGZ.out; omega
    have HNZ : Hid (∀ b ∈ b1, b ≠ Z) := fun b hb e => by have h1 := HBZ.out b hb; have := HZL.out; omega
    have HB6 : Hid (BytT b1 ab bs w6) := by subst hw6; exact (HB14.out.keep (Only.of_below [] hb5) fun _ _ e => by cases e).keep (Only.set (bl := [Z]) (by simp)) fun b hb h => HNZ.out b hb (by simpa using h)
    have HD6 : Hid (CellsAt w.heap.size [.slice (some ⟨b0, off, none⟩) rs.length cap] w6) := (HD4.out.below hb5).turn hT6 fun i _ h => by have := h.1; have := HZL.out; omega
    have HT6 : Hid (Turn (InV Z o) w w6) := (HT4.out.trans (Turn.of_below (InV Z o) hb5) fun _ _ _ h => h).trans hT6 fun j i _ h => ⟨h.1, by omega, by omega⟩
    have HLB : Hid (∀ b ∈ b1, b < G) := fun b hb => by have := HBL4.out b hb; have := HS4.out; omega
    obtain ⟨z2, f2⟩ : w5.cell? ⟨Z, o + 2, none⟩ = some (.slice none 0 0) ∧ w5.frozen? ⟨Z, o + 2, none⟩ = false := hpl5 2 _ rfl
    have HRT := Lib.hid (RowT.start n G (G + 1) w6)
    have HGW : Hid (w.heap.size + 2 ≤ G) := by show _ ≤ _; have := HXS.out; have := HS4.out; omega
    have hgs : G < w6.heap.size := by omega
    have HW6 := Lib.hid hw6
    have cn0 : (0 : Int) ≤ (cnt : Int) := by omega
    clear hG hw5 hb5 hs5 hz5 hpl5 hT6 hw6 hs6 HPL4 HB14 HD4 HC4 HT4 HS4 HBL4
    go_upto_region 9 with fail
    rw [← HW6.out]
    clear HW6 z2 f2 hmk2
    go_wp2
    go_loopw [44] (fun iv W => ∃ (i : Nat) (bls : List (List Nat)), i ≤ cnt ∧ iv = .int .i64 (i : Int) ∧ Hid (RowT n G (G + 1) bls ((ks.take i).map (defV rs n)) W) ∧ Hid (∀ j, i ≤ j → j < cnt → PlacedAt G (j * 3) zeroVal W) ∧ Hid (PlacedAt Z o [.int .i64 x, .slice ab bs.length cb, .slice (some ⟨G, 0, none⟩) cnt cnt] W) ∧ Hid (CellsAt w.heap.size [.slice (some ⟨b0, off, none⟩) rs.length cap] W) ∧ Hid (BytT b1 ab bs W) ∧ Hid (Turn (InV Z o) w W) ∧ G < W.heap.size) (fun iv _ => cnt - (intOf iv).toNat)
    case atStart => exact ⟨0, [], by omega, rfl, HRT, HZ6, HPL6, HD6, HB6, HT6, hgs⟩
    case round =>
      clear HRT HZ6 HPL6 HD6 HB6 HT6 hgs
      obtain ⟨i, bls, hic, rfl, HRT, HZ6, HPL6, HD6, HB6, HT6, hgs⟩ := hrel
      have i0 : (0 : Int) ≤ (i : Int) := by omega
      have HBW : Hid (Below wb.heap.size wb wr) := Turn.below HB.out HT6.out HB.out.size fun j i h => by have := h.1; have := HZB.out; omega
      by_cases hlt : i < cnt
      · have i1 : (i : Int) < (cnt : Int) := by omega
        have hil : i < ks.length := by have := HCN.out; omega
        obtain ⟨m, hm, hmr, hmn⟩ := HKD.out _ (List.getElem_mem hil)
        obtain ⟨bk, ok, rfl, hck⟩ := HAK.out.cellAt (j := i) hil
        rw [hm] at hck
        have ckw := cellK HBW.out (Nat.le_refl _) hck
        have hTK : (ks.take (i + 1)).map (defV rs n) = (ks.take i).map (defV rs n) ++ [defV rs n (m : Int)] := by rw [List.take_succ_eq_append_getElem hil, List.map_append, hm]; rfl
        have HTK := Lib.hid hTK
        have HTL : Hid (((ks.take i).map (defV rs n)).length = i) := by show _ = _; simp; omega
        have HDR : Hid (Below wr.heap.size wr wr.drew) := below_drewN (Below.refl _ wr) 1
        have HCL : Hid (∀ W, Below wr.heap.size wr W → Calls Try.prog 49 #[.agg #[.slice (some ⟨b0, off, none⟩) rs.length cap], .int .i64 (m : Int), .pointer (some ⟨G, i * 3, none⟩)] W (DefAt G (i * 3) n (defV rs n (m : Int)) W)) := fun W hW => HIH.out m G (i * 3) W hmr hmn (HBW.out.trans (hW.mono HBW.out.size)) (by have h1 := HZB.out; have h2 := HGZ.out; omega) ((HZ6.out i (Nat.le_refl _) hlt).below hW)
        have HST : Hid (∀ W, Turn (InV G (i * 3)) wr W → W.cell? ⟨w.heap.size, 0, none⟩ = some (.slice (some ⟨b0, off, none⟩) rs.length cap) ∧ W.cell? ⟨Z, o + 2, none⟩ = some (.slice (some ⟨G, 0, none⟩) cnt cnt)) := fun W hT => ⟨(HD6.out.turn hT (fun i _ h => by have := h.1; have := HGW.out; omega) 0 _ rfl).1, (HPL6.out.kept hT (fun i _ h => by have := h.1; have := HGZ.out; omega) 2 _ rfl).1⟩
        clear hm hck hTK
        go_upto_region 12 with fail
        clear ckw
        go_region_held3 (fun W => W.cell? ⟨w.heap.size, 0, none⟩ = some (.slice (some ⟨b0, off, none⟩) rs.length cap) ∧ W.cell? ⟨Z, o + 2, none⟩ = some (.slice (some ⟨G, 0, none⟩) cnt cnt)) (first | exact HST.out _ (Turn.of_below _ HDR.out) | exact HST.out _ HTN.out) (first | (go_at_call 49; refine (HCL.out _ HDR.out).mono ?_; rintro e w7 ⟨rfl, bl, cs7, hp7, ho7, hbl7, ht7⟩; have HTN : Hid (Turn (InV G (i * 3)) wr w7) := (Turn.of_below (InV G (i * 3)) HDR.out).trans ht7 fun _ _ _ h => h))
        have hrt : RowT n G (G + 1) (bls ++ [bl]) ((ks.take i).map (defV rs n) ++ [defV rs n (m : Int)]) w7 := HRT.out.snoc HTN.out (fun j hj h => by rw [HTL.out] at hj; have := h.2; omega) (fun b hb j h => by have := h.1; omega) ho7 (by rw [HTL.out]; exact hp7) (fun b hb => Nat.le_trans HDR.out.size (hbl7 b hb)) (by omega)
        rw [← HTK.out] at hrt
        have HRT7 := Lib.hid hrt
        have HZ7 : Hid (∀ j, i + 1 ≤ j → j < cnt → PlacedAt G (j * 3) zeroVal w7) := fun j hj hjc => (HZ6.out j (by omega) hjc).kept HTN.out fun q hq h => by have h1 := h.2; have h2 : q < 3 := (by simpa [zeroVal] using hq); omega
        have HPL7 := Lib.hid (HPL6.out.kept HTN.out fun q _ h => by have := h.1; have := HGZ.out; omega)
        have HD7 := Lib.hid (HD6.out.turn HTN.out fun q _ h => by have := h.1; have := HGW.out; omega)
        have HB7 : Hid (BytT b1 ab bs w7) := HB6.out.keep (HTN.out.only (bl := [G]) fun j q h => by have := h.1; simp; omega) fun b hb h => by have h1 := HLB.out b hb; have h2 : b = G := (by simpa using h); omega
        have HT7 : Hid (Turn (InV Z o) w w7) := HT6.out.trans HTN.out fun j q hj h => by have := h.1; have := HGW.out; omega
        have hg7 : G < w7.heap.size := Nat.lt_of_lt_of_le hgs HTN.out.size
        clear hp7 ho7 hbl7 ht7 hrt
        go_wp2
        go_roundw
        case rel => exact ⟨i + 1, bls ++ [bl], by omega, by go_num, HRT7, HZ7, HPL7, HD7, HB7, HT7, hg7⟩
        case measure => simp [intOf]; omega
      · have i1 : ¬ (i : Int) < (cnt : Int) := by omega
        obtain rfl : i = cnt := by omega
        have HRE : Hid (RowT n G (G + 1) bls (ks.map (defV rs n)) wr) := by have h := HRT.out; rw [List.take_of_length_le (by have := HCN.out; omega)] at h; exact h
        have HML : Hid ((ks.map (defV rs n)).length = i) := by show _ = _; rw [List.length_map]; exact HCN.out.symm
        go_wp2
        first | go_end0 | go_ret
        all_goals (obtain ⟨bl, hbl, hbb⟩ := HRE.out.tree (c1 := cb) (c2 := i) (num := x) (bs := bs) (ab := ab) (b1 := b1) HCAP.out HB6.out HND.out HLB.out (by omega); rw [HML.out] at hbl; refine ⟨rfl, bl, _, HPL6.out, ?_, fun b hb => ?_, HT6.out⟩)
        · rw [HVE.out, ← HX.out, ← HBS.out]; exact hbl
        · rcases hbb b hb with h | h; exact Nat.le_trans (by omega) (HBZ.out b h); have := HGW.out; omega
  · by_cases h7 : r.kind = 7
    · have h7s := kindI_7 HKI.out h7
      have htl : 0 < r.tags.length := by omega
      obtain ⟨b6, o6, rfl, hc6⟩ := HR6.out.cellAt (j := 0) htl
      rw [Nat.add_zero] at hc6
      have HX : Hid (r.tags[0] = defNum r) := by show _ = _; unfold defNum; rw [if_pos h7]; simp [List.getD, List.getElem?_eq_getElem htl]
      have HBS : Hid (([] : List UInt8) = defBytes r) := by show _ = _; unfold defBytes; rw [if_neg h3]
      obtain ⟨x, hx⟩ : ∃ x : Int, x = r.tags[0] := ⟨_, rfl⟩
      rw [← hx] at HX hc6
      have hbw := HB.out.trans (HBW1.out.mono HB.out.size)
      have y6c := cellK hbw (Nat.le_refl _) hc6
      have y6 := (HCW.out 6 _ rfl).1
      rw [h7] at y1
      have g0 : (0 : Int) < (r.tags.length : Int) := by omega
      obtain ⟨X, hX⟩ : ∃ X, X = w1.setCell ⟨Z, o, none⟩ (.int .i64 x) := ⟨_, rfl⟩
      have hTX : Turn (fun j i => j = Z ∧ i = o) w1 X := by subst hX; exact Turn.set ⟨rfl, rfl⟩
      obtain ⟨bs, hbs⟩ : ∃ bs : List UInt8, bs = [] := ⟨_, rfl⟩
      rw [← hbs] at HBS
      obtain ⟨ab, hab⟩ : ∃ ab : Option Addr, ab = none := ⟨_, rfl⟩
      obtain ⟨cb, hcb⟩ : ∃ cb, cb = 0 := ⟨_, rfl⟩
      obtain ⟨b1, hb1⟩ : ∃ b1 : List Nat, b1 = [] := ⟨_, rfl⟩
      have HPL : Hid (PlacedAt Z o [.int .i64 x, .slice ab bs.length cb, .slice none 0 0] X) := by subst hX; rw [hab, hbs, hcb]; have h1 := HZ1.out.set 0 (.int .i64 x) (by simp [zeroVal]); exact h1
      have HB1 : Hid (BytT b1 ab bs X) := .inl ⟨hbs, hb1⟩
      have HND : Hid b1.Nodup := by rw [hb1]; exact List.nodup_nil
      have HBZ : Hid (∀ b ∈ b1, w.heap.size + 2 ≤ b) := fun b hb => by rw [hb1] at hb; cases hb
      have HCAP : Hid (bs.length ≤ cb ∧ (ab = none → cb = 0)) := ⟨by rw [hbs]; exact Nat.zero_le _, fun _ => hcb⟩
      have HDX : Hid (CellsAt w.heap.size [.slice (some ⟨b0, off, none⟩) rs.length cap] X) := HDW.out.turn hTX fun i _ h => by have := h.1; have := HZL.out; omega
      have HCX : Hid (CellsAt N [.string r.name, .int .i64 r.kind, .int .i64 r.size, .bool r.little, .slice a4 r.bytes.length c4, .slice a5 r.names.length c5, .slice (some ⟨b6, o6, none⟩) r.tags.length c6, .slice a7 r.kids.length c7] X) := HCW.out.turn hTX fun i _ h => by have := h.1; have := HZL.out; have := HNE.out; omega
      have HTX : Hid (Turn (InV Z o) w X) := HT1.out.trans hTX fun j i _ h => ⟨h.1, by omega, by omega⟩
      have HSX : Hid (w1.heap.size ≤ X.heap.size) := hTX.size
      obtain ⟨z1, f1⟩ : w1.cell? ⟨Z, o, none⟩ = some (.int .i64 0) ∧ w1.frozen? ⟨Z, o, none⟩ = false := by have h := HZ1.out 0 _ rfl; rw [Nat.add_zero] at h; exact h
      have HXW := Lib.hid hX
      clear hX hTX hx hbs hab hcb hb1 h3 h7 h7s htl hc6 hbw
      go_upto_region 7 with fail
      rw [← HXW.out]
      clear HXW z1 f1 y1 y6 y6c g0 HZ1 HDW HCW HT1
      have HBX : Hid (Below wb.heap.size wb X) := Turn.below HB.out HTX.out HB.out.size fun j i h => by have := h.1; have := HZB.out; omega
      have HXS : Hid (w.heap.size + 2 ≤ X.heap.size) := by show _ ≤ _; have := HSX.out; have := HS1.out; omega
      have y0 := (HCX.out 0 _ rfl).1
      have y1 := (HCX.out 1 _ rfl).1
      have y2 := (HCX.out 2 _ rfl).1
      have y3 := (HCX.out 3 _ rfl).1
      have y4 := (HCX.out 4 _ rfl).1
      have y5 := (HCX.out 5 _ rfl).1
      have y6 := (HCX.out 6 _ rfl).1
      have y7 := (HCX.out 7 _ rfl).1
      go_wp2_with fail
      refine (dkids_impl wb rs r _ X HKI.out HCP.out HIS.out).mono ?_
      rintro e w4 ⟨⟨ak, ck, rfl, hak⟩, hb4⟩
      have HAK := Lib.hid hak
      have HPL4 := Lib.hid (HPL.out.below hb4)
      have HB14 := Lib.hid (HB1.out.keep (Only.of_below [] hb4) fun _ _ e => by cases e)
      have HD4 := Lib.hid (HDX.out.below hb4)
      have HC4 := Lib.hid (HCX.out.below hb4)
      have HT4 : Hid (Turn (InV Z o) w w4) := HTX.out.trans (Turn.of_below (InV Z o) hb4) fun _ _ _ h => h
      have HS4 : Hid (X.heap.size ≤ w4.heap.size) := hb4.size
      have HBL4 := Lib.hid HB1.out.lt
      clear hak hb4 y0 y1 y2 y3 y4 y5 y6 y7 HPL HB1 HDX HCX HTX HBX HSX
      have hdl := defKids_len HKI.out
      obtain ⟨ks, hks⟩ : ∃ ks, ks = defKids r := ⟨_, rfl⟩
      rw [← hks] at HAK HKD HVE hdl ⊢
      clear hks
      obtain ⟨cnt, hcnt⟩ : ∃ cnt, cnt = ks.length := ⟨_, rfl⟩
      rw [← hcnt] at hdl ⊢
      have HCN := Lib.hid hcnt
      clear hcnt
      obtain ⟨G, hG⟩ : ∃ G, G = w4.heap.size := ⟨_, rfl⟩
      obtain ⟨w5, hw5⟩ : ∃ w5, w5 = w4.alloc (.cells (madeCells #[.int .i64 0, .slice none 0 0, .slice none 0 0] (cnt * 3)) 47) := ⟨_, rfl⟩
      have hb5 : Below w4.heap.size w4 w5 := by subst hw5; exact (Below.refl _ _).alloc (Nat.le_refl _) _
      have hs5 : w5.heap.size = G + 1 := by subst hw5; simp [hG]
      have hz5 : ∀ j, j < cnt → PlacedAt G (j * 3) zeroVal w5 := by subst hw5; rw [hG]; exact made_zeroD cnt _ w4
      have hmk2 := make_vals cnt (by omega) w4
      rw [← hw5, ← hG] at hmk2
      have hpl5 := HPL4.out.below hb5
      obtain ⟨w6, hw6⟩ : ∃ w6, w6 = w5.setCell ⟨Z, o + 2, none⟩ (.slice (some ⟨G, 0, none⟩) cnt cnt) := ⟨_, rfl⟩
      have hT6 : Turn (fun j i => j = Z ∧ i = o + 2) w5 w6 := by subst hw6; exact Turn.set ⟨rfl, rfl⟩
      have hs6 : w6.heap.size = G + 1 := by subst hw6; simp [hs5]
      have HGZ : Hid (Z < G) := by show _ < _; have h1 := HZL.out; have h2 := HXS.out; have h3 := HS4.out; omega
      have HPL6 : Hid (PlacedAt Z o [.int .i64 x, .slice ab bs.length cb, .slice (some ⟨G, 0, none⟩) cnt cnt] w6) := by subst hw6; have h1 := hpl5.set 2 (.slice (some ⟨G, 0, none⟩) cnt cnt) (by simp); exact h1
      have HZ6 : Hid (∀ j, 0 ≤ j → j < cnt → PlacedAt G (j * 3) zeroVal w6) := fun j _ hj => (hz5 j hj).kept hT6 fun i _ h => by have := h.1; have := HGZ.out; omega
      have HNZ : Hid (∀ b ∈ b1, b ≠ Z) := fun b hb e => by have h1 := HBZ.out b hb; have := HZL.out; omega
      have HB6 : Hid (BytT b1 ab bs w6) := by subst hw6; exact (HB14.out.keep (Only.of_below [] hb5) fun _ _ e => by cases e).keep (Only.set (bl := [Z]) (by simp)) fun b hb h => HNZ.out b hb (by simpa using h)
      have HD6 : Hid (CellsAt w.heap.size [.slice (some ⟨b0, off, none⟩) rs.length cap] w6) := (HD4.out.below hb5).turn hT6 fun i _ h => by have := h.1; have := HZL.out; omega
      have HT6 : Hid (Turn (InV Z o) w w6) := (HT4.out.trans (Turn.of_below (InV Z o) hb5) fun _ _ _ h => h).trans hT6 fun j i _ h => ⟨h.1, by omega, by omega⟩
      have HLB : Hid (∀ b ∈ b1, b < G) := fun b hb => by have := HBL4.out b hb; have := HS4.out; omega
      obtain ⟨z2, f2⟩ : w5.cell? ⟨Z, o + 2, none⟩ = some (.slice none 0 0) ∧ w5.frozen? ⟨Z, o + 2, none⟩ = false := hpl5 2 _ rfl
      have HRT := Lib.hid (RowT.start n G (G + 1) w6)
      have HGW : Hid (w.heap.size + 2 ≤ G) := by show _ ≤ _; have := HXS.out; have := HS4.out; omega
      have hgs : G < w6.heap.size := by omega
      have HW6 := Lib.hid hw6
      have cn0 : (0 : Int) ≤ (cnt : Int) := by omega
      clear hG hw5 hb5 hs5 hz5 hpl5 hT6 hw6 hs6 HPL4 HB14 HD4 HC4 HT4 HS4 HBL4
      go_upto_region 9 with fail
      rw [← HW6.out]
      clear HW6 z2 f2 hmk2
      go_wp2
      go_loopw [44] (fun iv W => ∃ (i : Nat) (bls : List (List Nat)), i ≤ cnt ∧ iv = .int .i64 (i : Int) ∧ Hid (RowT n G (G + 1) bls ((ks.take i).map (defV rs n)) W) ∧ Hid (∀ j, i ≤ j → j < cnt → PlacedAt G (j * 3) zeroVal W) ∧ Hid (PlacedAt Z o [.int .i64 x, .slice ab bs.length cb, .slice (some ⟨G, 0, none⟩) cnt cnt] W) ∧ Hid (CellsAt w.heap.size [.slice (some ⟨b0, off, none⟩) rs.length cap] W) ∧ Hid (BytT b1 ab bs W) ∧ Hid (Turn (InV Z o) w W) ∧ G < W.heap.size) (fun iv _ => cnt - (intOf iv).toNat)
      case atStart => exact ⟨0, [], by omega, rfl, HRT, HZ6, HPL6, HD6, HB6, HT6, hgs⟩
      case round =>
        clear HRT HZ6 HPL6 HD6 HB6 HT6 hgs
        obtain ⟨i, bls, hic, rfl, HRT, HZ6, HPL6, HD6, HB6, HT6, hgs⟩ := hrel
        have i0 : (0 : Int) ≤ (i : Int) := by omega
        have HBW : Hid (Below wb.heap.size wb wr) := Turn.below HB.out HT6.out HB.out.size fun j i h => by have := h.1; have := HZB.out; omega
        by_cases hlt : i < cnt
        · have i1 : (i : Int) < (cnt : Int) := by omega
          have hil : i < ks.length := by have := HCN.out; omega
          obtain ⟨m, hm, hmr, hmn⟩ := HKD.out _ (List.getElem_mem hil)
          obtain ⟨bk, ok, rfl, hck⟩ := HAK.out.cellAt (j := i) hil
          rw [hm] at hck
          have ckw := cellK HBW.out (Nat.le_refl _) hck
          have hTK : (ks.take (i + 1)).map (defV rs n) = (ks.take i).map (defV rs n) ++ [defV rs n (m : Int)] := by rw [List.take_succ_eq_append_getElem hil, List.map_append, hm]; rfl
          have HTK := Lib.hid hTK
          have HTL : Hid (((ks.take i).map (defV rs n)).length = i) := by show _ = _; simp; omega
          have HDR : Hid (Below wr.heap.size wr wr.drew) := below_drewN (Below.refl _ wr) 1
          have HCL : Hid (∀ W, Below wr.heap.size wr W → Calls Try.prog 49 #[.agg #[.slice (some ⟨b0, off, none⟩) rs.length cap], .int .i64 (m : Int), .pointer (some ⟨G, i * 3, none⟩)] W (DefAt G (i * 3) n (defV rs n (m : Int)) W)) := fun W hW => HIH.out m G (i * 3) W hmr hmn (HBW.out.trans (hW.mono HBW.out.size)) (by have h1 := HZB.out; have h2 := HGZ.out; omega) ((HZ6.out i (Nat.le_refl _) hlt).below hW)
          have HST : Hid (∀ W, Turn (InV G (i * 3)) wr W → W.cell? ⟨w.heap.size, 0, none⟩ = some (.slice (some ⟨b0, off, none⟩) rs.length cap) ∧ W.cell? ⟨Z, o + 2, none⟩ = some (.slice (some ⟨G, 0, none⟩) cnt cnt)) := fun W hT => ⟨(HD6.out.turn hT (fun i _ h => by have := h.1; have := HGW.out; omega) 0 _ rfl).1, (HPL6.out.kept hT (fun i _ h => by have := h.1; have := HGZ.out; omega) 2 _ rfl).1⟩
          clear hm hck hTK
          go_upto_region 12 with fail
          clear ckw
          go_region_held3 (fun W => W.cell? ⟨w.heap.size, 0, none⟩ = some (.slice (some ⟨b0, off, none⟩) rs.length cap) ∧ W.cell? ⟨Z, o + 2, none⟩ = some (.slice (some ⟨G, 0, none⟩) cnt cnt)) (first | exact HST.out _ (Turn.of_below _ HDR.out) | exact HST.out _ HTN.out) (first | (go_at_call 49; refine (HCL.out _ HDR.out).mono ?_; rintro e w7 ⟨rfl, bl, cs7, hp7, ho7, hbl7, ht7⟩; have HTN : Hid (Turn (InV G (i * 3)) wr w7) := (Turn.of_below (InV G (i * 3)) HDR.out).trans ht7 fun _ _ _ h => h))
          have hrt : RowT n G (G + 1) (bls ++ [bl]) ((ks.take i).map (defV rs n) ++ [defV rs n (m : Int)]) w7 := HRT.out.snoc HTN.out (fun j hj h => by rw [HTL.out] at hj; have := h.2; omega) (fun b hb j h => by have := h.1; omega) ho7 (by rw [HTL.out]; exact hp7) (fun b hb => Nat.le_trans HDR.out.size (hbl7 b hb)) (by omega)
          rw [← HTK.out] at hrt
          have HRT7 := Lib.hid hrt
          have HZ7 : Hid (∀ j, i + 1 ≤ j → j < cnt → PlacedAt G (j * 3) zeroVal w7) := fun j hj hjc => (HZ6.out j (by omega) hjc).kept HTN.out fun q hq h => by have h1 := h.2; have h2 : q < 3 := (by simpa [zeroVal] using hq); omega
          have HPL7 := Lib.hid (HPL6.out.kept HTN.out fun q _ h => by have := h.1; have := HGZ.out; omega)
          have HD7 := Lib.hid (HD6.out.turn HTN.out fun q _ h => by have := h.1; have := HGW.out; omega)
          have HB7 : Hid (BytT b1 ab bs w7) := HB6.out.keep (HTN.out.only (bl := [G]) fun j q h => by have := h.1; simp; omega) fun b hb h => by have h1 := HLB.out b hb; have h2 : b = G := (by simpa using h); omega
          have HT7 : Hid (Turn (InV Z o) w w7) := HT6.out.trans HTN.out fun j q hj h => by have := h.1; have := HGW.out; omega
          have hg7 : G < w7.heap.size := Nat.lt_of_lt_of_le hgs HTN.out.size
          clear hp7 ho7 hbl7 ht7 hrt
          go_wp2
          go_roundw
          case rel => exact ⟨i + 1, bls ++ [bl], by omega, by go_num, HRT7, HZ7, HPL7, HD7, HB7, HT7, hg7⟩
          case measure => simp [intOf]; omega
        · have i1 : ¬ (i : Int) < (cnt : Int) := by omega
          obtain rfl : i = cnt := by omega
          have HRE : Hid (RowT n G (G + 1) bls (ks.map (defV rs n)) wr) := by have h := HRT.out; rw [List.take_of_length_le (by have := HCN.out; omega)] at h; exact h
          have HML : Hid ((ks.map (defV rs n)).length = i) := by show _ = _; rw [List.length_map]; exact HCN.out.symm
          go_wp2
          first | go_end0 | go_ret
          all_goals (obtain ⟨bl, hbl, hbb⟩ := HRE.out.tree (c1 := cb) (c2 := i) (num := x) (bs := bs) (ab := ab) (b1 := b1) HCAP.out HB6.out HND.out HLB.out (by omega); rw [HML.out] at hbl; refine ⟨rfl, bl, _, HPL6.out, ?_, fun b hb => ?_, HT6.out⟩)
          · rw [HVE.out, ← HX.out, ← HBS.out]; exact hbl
          · rcases hbb b hb with h | h; exact Nat.le_trans (by omega) (HBZ.out b h); have := HGW.out; omega
    · have HX : Hid ((0 : Int) = defNum r) := by show _ = _; unfold defNum; rw [if_neg h7]
      have HBS : Hid (([] : List UInt8) = defBytes r) := by show _ = _; unfold defBytes; rw [if_neg h3]
      have g3 : (r.kind == 3) = false := by simp [h3]
      have g7 : (r.kind == 7) = false := by simp [h7]
      obtain ⟨x, hx⟩ : ∃ x : Int, x = 0 := ⟨_, rfl⟩
      rw [← hx] at HX
      obtain ⟨X, hX⟩ : ∃ X, X = w1 := ⟨_, rfl⟩
      obtain ⟨bs, hbs⟩ : ∃ bs : List UInt8, bs = [] := ⟨_, rfl⟩
      rw [← hbs] at HBS
      obtain ⟨ab, hab⟩ : ∃ ab : Option Addr, ab = none := ⟨_, rfl⟩
      obtain ⟨cb, hcb⟩ : ∃ cb, cb = 0 := ⟨_, rfl⟩
      obtain ⟨b1, hb1⟩ : ∃ b1 : List Nat, b1 = [] := ⟨_, rfl⟩
      have HPL : Hid (PlacedAt Z o [.int .i64 x, .slice ab bs.length cb, .slice none 0 0] X) := by subst hX; rw [hx, hab, hbs, hcb]; exact HZ1.out
      have HB1 : Hid (BytT b1 ab bs X) := .inl ⟨hbs, hb1⟩
      have HND : Hid b1.Nodup := by rw [hb1]; exact List.nodup_nil
      have HBZ : Hid (∀ b ∈ b1, w.heap.size + 2 ≤ b) := fun b hb => by rw [hb1] at hb; cases hb
      have HCAP : Hid (bs.length ≤ cb ∧ (ab = none → cb = 0)) := ⟨by rw [hbs]; exact Nat.zero_le _, fun _ => hcb⟩
      have HDX : Hid (CellsAt w.heap.size [.slice (some ⟨b0, off, none⟩) rs.length cap] X) := by subst hX; exact HDW.out
      have HCX : Hid (CellsAt N [.string r.name, .int .i64 r.kind, .int .i64 r.size, .bool r.little, .slice a4 r.bytes.length c4, .slice a5 r.names.length c5, .slice a6 r.tags.length c6, .slice a7 r.kids.length c7] X) := by subst hX; exact HCW.out
      have HTX : Hid (Turn (InV Z o) w X) := by subst hX; exact HT1.out
      have HSX : Hid (w1.heap.size ≤ X.heap.size) := by subst hX; exact Nat.le_refl _
      have HXW := Lib.hid hX
      clear hX hx hbs hab hcb hb1 h3 h7
      go_upto_region 7 with fail
      rw [← HXW.out]
      clear HXW y1 g3 g7 HZ1 HDW HCW HT1
      have HBX : Hid (Below wb.heap.size wb X) := Turn.below HB.out HTX.out HB.out.size fun j i h => by have := h.1; have := HZB.out; omega
      have HXS : Hid (w.heap.size + 2 ≤ X.heap.size) := by show _ ≤ _; have := HSX.out; have := HS1.out; omega
      have y0 := (HCX.out 0 _ rfl).1
      have y1 := (HCX.out 1 _ rfl).1
      have y2 := (HCX.out 2 _ rfl).1
      have y3 := (HCX.out 3 _ rfl).1
      have y4 := (HCX.out 4 _ rfl).1
      have y5 := (HCX.out 5 _ rfl).1
      have y6 := (HCX.out 6 _ rfl).1
      have y7 := (HCX.out 7 _ rfl).1
      go_wp2_with fail
      refine (dkids_impl wb rs r _ X HKI.out HCP.out HIS.out).mono ?_
      rintro e w4 ⟨⟨ak, ck, rfl, hak⟩, hb4⟩
      have HAK := Lib.hid hak
      have HPL4 := Lib.hid (HPL.out.below hb4)
      have HB14 := Lib.hid (HB1.out.keep (Only.of_below [] hb4) fun _ _ e => by cases e)
      have HD4 := Lib.hid (HDX.out.below hb4)
      have HC4 := Lib.hid (HCX.out.below hb4)
      have HT4 : Hid (Turn (InV Z o) w w4) := HTX.out.trans (Turn.of_below (InV Z o) hb4) fun _ _ _ h => h
      have HS4 : Hid (X.heap.size ≤ w4.heap.size) := hb4.size
      have HBL4 := Lib.hid HB1.out.lt
      clear hak hb4 y0 y1 y2 y3 y4 y5 y6 y7 HPL HB1 HDX HCX HTX HBX HSX
      have hdl := defKids_len HKI.out
      obtain ⟨ks, hks⟩ : ∃ ks, ks = defKids r := ⟨_, rfl⟩
      rw [← hks] at HAK HKD HVE hdl ⊢
      clear hks
      obtain ⟨cnt, hcnt⟩ : ∃ cnt, cnt = ks.length := ⟨_, rfl⟩
      rw [← hcnt] at hdl ⊢
      have HCN := Lib.hid hcnt
      clear hcnt
      obtain ⟨G, hG⟩ : ∃ G, G = w4.heap.size := ⟨_, rfl⟩
      obtain ⟨w5, hw5⟩ : ∃ w5, w5 = w4.alloc (.cells (madeCells #[.int .i64 0, .slice none 0 0, .slice none 0 0] (cnt * 3)) 47) := ⟨_, rfl⟩
      have hb5 : Below w4.heap.size w4 w5 := by subst hw5; exact (Below.refl _ _).alloc (Nat.le_refl _) _
      have hs5 : w5.heap.size = G + 1 := by subst hw5; simp [hG]
      have hz5 : ∀ j, j < cnt → PlacedAt G (j * 3) zeroVal w5 := by subst hw5; rw [hG]; exact made_zeroD cnt _ w4
      have hmk2 := make_vals cnt (by omega) w4
      rw [← hw5, ← hG] at hmk2
      have hpl5 := HPL4.out.below hb5
      obtain ⟨w6, hw6⟩ : ∃ w6, w6 = w5.setCell ⟨Z, o + 2, none⟩ (.slice (some ⟨G, 0, none⟩) cnt cnt) := ⟨_, rfl⟩
      have hT6 : Turn (fun j i => j = Z ∧ i = o + 2) w5 w6 := by subst hw6; exact Turn.set ⟨rfl, rfl⟩
      have hs6 : w6.heap.size = G + 1 := by subst hw6; simp [hs5]
      have HGZ : Hid (Z < G) := by show _ < _; have h1 := HZL.out; have h2 := HXS.out; have h3 := HS4.out; omega
      have HPL6 : Hid (PlacedAt Z o [.int .i64 x, .slice ab bs.length cb, .slice (some ⟨G, 0, none⟩) cnt cnt] w6) := by subst hw6; have h1 := hpl5.set 2 (.slice (some ⟨G, 0, none⟩) cnt cnt) (by simp); exact h1
      have HZ6 : Hid (∀ j, 0 ≤ j → j < cnt → PlacedAt G (j * 3) zeroVal w6) := fun j _ hj => (hz5 j hj).kept hT6 fun i _ h => by have := h.1; have := HGZ.out; omega
      have HNZ : Hid (∀ b ∈ b1, b ≠ Z) := fun b hb e => by have h1 := HBZ.out b hb; have := HZL.out; omega
      have HB6 : Hid (BytT b1 ab bs w6) := by subst hw6; exact (HB14.out.keep (Only.of_below [] hb5) fun _ _ e => by cases e).keep (Only.set (bl := [Z]) (by simp)) fun b hb h => HNZ.out b hb (by simpa using h)
      have HD6 : Hid (CellsAt w.heap.size [.slice (some ⟨b0, off, none⟩) rs.length cap] w6) := (HD4.out.below hb5).turn hT6 fun i _ h => by have := h.1; have := HZL.out; omega
      have HT6 : Hid (Turn (InV Z o) w w6) := (HT4.out.trans (Turn.of_below (InV Z o) hb5) fun _ _ _ h => h).trans hT6 fun j i _ h => ⟨h.1, by omega, by omega⟩
      have HLB : Hid (∀ b ∈ b1, b < G) := fun b hb => by have := HBL4.out b hb; have := HS4.out; omega
      obtain ⟨z2, f2⟩ : w5.cell? ⟨Z, o + 2, none⟩ = some (.slice none 0 0) ∧ w5.frozen? ⟨Z, o + 2, none⟩ = false := hpl5 2 _ rfl
      have HRT := Lib.hid (RowT.start n G (G + 1) w6)
      have HGW : Hid (w.heap.size + 2 ≤ G) := by show _ ≤ _; have := HXS.out; have := HS4.out; omega
      have hgs : G < w6.heap.size := by omega
      have HW6 := Lib.hid hw6
      have cn0 : (0 : Int) ≤ (cnt : Int) := by omega
      clear hG hw5 hb5 hs5 hz5 hpl5 hT6 hw6 hs6 HPL4 HB14 HD4 HC4 HT4 HS4 HBL4
      go_upto_region 9 with fail
      rw [← HW6.out]
      clear HW6 z2 f2 hmk2
      go_wp2
      go_loopw [44] (fun iv W => ∃ (i : Nat) (bls : List (List Nat)), i ≤ cnt ∧ iv = .int .i64 (i : Int) ∧ Hid (RowT n G (G + 1) bls ((ks.take i).map (defV rs n)) W) ∧ Hid (∀ j, i ≤ j → j < cnt → PlacedAt G (j * 3) zeroVal W) ∧ Hid (PlacedAt Z o [.int .i64 x, .slice ab bs.length cb, .slice (some ⟨G, 0, none⟩) cnt cnt] W) ∧ Hid (CellsAt w.heap.size [.slice (some ⟨b0, off, none⟩) rs.length cap] W) ∧ Hid (BytT b1 ab bs W) ∧ Hid (Turn (InV Z o) w W) ∧ G < W.heap.size) (fun iv _ => cnt - (intOf iv).toNat)
      case atStart => exact ⟨0, [], by omega, rfl, HRT, HZ6, HPL6, HD6, HB6, HT6, hgs⟩
      case round =>
        clear HRT HZ6 HPL6 HD6 HB6 HT6 hgs
        obtain ⟨i, bls, hic, rfl, HRT, HZ6, HPL6, HD6, HB6, HT6, hgs⟩ := hrel
        have i0 : (0 : Int) ≤ (i : Int) := by omega
        have HBW : Hid (Below wb.heap.size wb wr) := Turn.below HB.out HT6.out HB.out.size fun j i h => by have := h.1; have := HZB.out; omega
        by_cases hlt : i < cnt
        · have i1 : (i : Int) < (cnt : Int) := by omega
          have hil : i < ks.length := by have := HCN.out; omega
          obtain ⟨m, hm, hmr, hmn⟩ := HKD.out _ (List.getElem_mem hil)
          obtain ⟨bk, ok, rfl, hck⟩ := HAK.out.cellAt (j := i) hil
          rw [hm] at hck
          have ckw := cellK HBW.out (Nat.le_refl _) hck
          have hTK : (ks.take (i + 1)).map (defV rs n) = (ks.take i).map (defV rs n) ++ [defV rs n (m : Int)] := by rw [List.take_succ_eq_append_getElem hil, List.map_append, hm]; rfl
          have HTK := Lib.hid hTK
          have HTL : Hid (((ks.take i).map (defV rs n)).length = i) := by show _ = _; simp; omega
          have HDR : Hid (Below wr.heap.size wr wr.drew) := below_drewN (Below.refl _ wr) 1
          have HCL : Hid (∀ W, Below wr.heap.size wr W → Calls Try.prog 49 #[.agg #[.slice (some ⟨b0, off, none⟩) rs.length cap], .int .i64 (m : Int), .pointer (some ⟨G, i * 3, none⟩)] W (DefAt G (i * 3) n (defV rs n (m : Int)) W)) := fun W hW => HIH.out m G (i * 3) W hmr hmn (HBW.out.trans (hW.mono HBW.out.size)) (by have h1 := HZB.out; have h2 := HGZ.out; omega) ((HZ6.out i (Nat.le_refl _) hlt).below hW)
          have HST : Hid (∀ W, Turn (InV G (i * 3)) wr W → W.cell? ⟨w.heap.size, 0, none⟩ = some (.slice (some ⟨b0, off, none⟩) rs.length cap) ∧ W.cell? ⟨Z, o + 2, none⟩ = some (.slice (some ⟨G, 0, none⟩) cnt cnt)) := fun W hT => ⟨(HD6.out.turn hT (fun i _ h => by have := h.1; have := HGW.out; omega) 0 _ rfl).1, (HPL6.out.kept hT (fun i _ h => by have := h.1; have := HGZ.out; omega) 2 _ rfl).1⟩
          clear hm hck hTK
          go_upto_region 12 with fail
          clear ckw
          go_region_held3 (fun W => W.cell? ⟨w.heap.size, 0, none⟩ = some (.slice (some ⟨b0, off, none⟩) rs.length cap) ∧ W.cell? ⟨Z, o + 2, none⟩ = some (.slice (some ⟨G, 0, none⟩) cnt cnt)) (first | exact HST.out _ (Turn.of_below _ HDR.out) | exact HST.out _ HTN.out) (first | (go_at_call 49; refine (HCL.out _ HDR.out).mono ?_; rintro e w7 ⟨rfl, bl, cs7, hp7, ho7, hbl7, ht7⟩; have HTN : Hid (Turn (InV G (i * 3)) wr w7) := (Turn.of_below (InV G (i * 3)) HDR.out).trans ht7 fun _ _ _ h => h))
          have hrt : RowT n G (G + 1) (bls ++ [bl]) ((ks.take i).map (defV rs n) ++ [defV rs n (m : Int)]) w7 := HRT.out.snoc HTN.out (fun j hj h => by rw [HTL.out] at hj; have := h.2; omega) (fun b hb j h => by have := h.1; omega) ho7 (by rw [HTL.out]; exact hp7) (fun b hb => Nat.le_trans HDR.out.size (hbl7 b hb)) (by omega)
          rw [← HTK.out] at hrt
          have HRT7 := Lib.hid hrt
          have HZ7 : Hid (∀ j, i + 1 ≤ j → j < cnt → PlacedAt G (j * 3) zeroVal w7) := fun j hj hjc => (HZ6.out j (by omega) hjc).kept HTN.out fun q hq h => by have h1 := h.2; have h2 : q < 3 := (by simpa [zeroVal] using hq); omega
          have HPL7 := Lib.hid (HPL6.out.kept HTN.out fun q _ h => by have := h.1; have := HGZ.out; omega)
          have HD7 := Lib.hid (HD6.out.turn HTN.out fun q _ h => by have := h.1; have := HGW.out; omega)
          have HB7 : Hid (BytT b1 ab bs w7) := HB6.out.keep (HTN.out.only (bl := [G]) fun j q h => by have := h.1; simp; omega) fun b hb h => by have h1 := HLB.out b hb; have h2 : b = G := (by simpa using h); omega
          have HT7 : Hid (Turn (InV Z o) w w7) := HT6.out.trans HTN.out fun j q hj h => by have := h.1; have := HGW.out; omega
          have hg7 : G < w7.heap.size := Nat.lt_of_lt_of_le hgs HTN.out.size
          clear hp7 ho7 hbl7 ht7 hrt
          go_wp2
          go_roundw
          case rel => exact ⟨i + 1, bls ++ [bl], by omega, by go_num, HRT7, HZ7, HPL7, HD7, HB7, HT7, hg7⟩
          case measure => simp [intOf]; omega
        · have i1 : ¬ (i : Int) < (cnt : Int) := by omega
          obtain rfl : i = cnt := by omega
          have HRE : Hid (RowT n G (G + 1) bls (ks.map (defV rs n)) wr) := by have h := HRT.out; rw [List.take_of_length_le (by have := HCN.out; omega)] at h; exact h
          have HML : Hid ((ks.map (defV rs n)).length = i) := by show _ = _; rw [List.length_map]; exact HCN.out.symm
          go_wp2
          first | go_end0 | go_ret
          all_goals (obtain ⟨bl, hbl, hbb⟩ := HRE.out.tree (c1 := cb) (c2 := i) (num := x) (bs := bs) (ab := ab) (b1 := b1) HCAP.out HB6.out HND.out HLB.out (by omega); rw [HML.out] at hbl; refine ⟨rfl, bl, _, HPL6.out, ?_, fun b hb => ?_, HT6.out⟩)
          · rw [HVE.out, ← HX.out, ← HBS.out]; exact hbl
          · rcases hbb b hb with h | h; exact Nat.le_trans (by omega) (HBZ.out b h); have := HGW.out; omega
theorem setd_of (wb : World) (a : Option Addr) (rs : List RuleV) (cap : Nat) (hl : rs.length ≤ 1048576) (hall : allV (kindI rs) rs) (hrd : RdK a rs wb) : ∀ n, SetDC wb a rs cap n
  | 0 => fun _ _ _ _ _ h => absurd h (Nat.not_lt_zero _)
  | n + 1 => setd_step wb a rs cap n hl hall hrd (setd_of wb a rs cap hl hall hrd n)
end Go.Proofs.Ytefkhknfjohnaaa
